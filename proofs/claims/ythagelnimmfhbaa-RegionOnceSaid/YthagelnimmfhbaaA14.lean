/- Layer 5, the program: first, First. -/
import Derived.Test.YthagelnimmfhbaaA12
namespace Go.Proofs.Ythagelnimmfhbaa
open Go.RowKit Go.El

theorem zero_block {W : World} {b : Nat} {a c : Int} {d : Int} (h : W.heap[b]? = some (.cells #[.int .i64 a, .int .i64 c, .int .u8 d] 41 (0, 0))) :
    (W.cell? ⟨b, 0, none⟩ = some (.int .i64 a) ∧ W.cell? ⟨b, 1, none⟩ = some (.int .i64 c) ∧ W.cell? ⟨b, 2, none⟩ = some (.int .u8 d)) ∧ W.frozen? ⟨b, 0, none⟩ = false ∧ W.frozen? ⟨b, 1, none⟩ = false ∧ W.frozen? ⟨b, 2, none⟩ = false :=
  ⟨⟨cell_of_row _ _ 0 _ _ _ h, cell_of_row _ _ 1 _ _ _ h, cell_of_row _ _ 2 _ _ _ h⟩, frozen_of_row _ _ _ _ _ h, frozen_of_row _ _ _ _ _ h, frozen_of_row _ _ _ _ _ h⟩

set_option maxRecDepth 100000 in
set_option maxHeartbeats 2000000 in
theorem sfirst_any (l : List Rg.Pt) (hv : Rg.valid l = true) (A : Option Addr) (cap : Nat) (s : Nat) (h1 : s ≤ 100) (w : World) (h : PtE.Arg w A l) :
    Calls Try.prog 44 #[.slice A l.length cap, .int .i64 s] w fun e w' => e = .returned (firstV (Rg.first l s)) ∧ Below w.heap.size w w' := by
  have hmi := fun (s : Nat) (h1 : s ≤ 100) W h => smisses_any l hv A cap s h1 W h
  have HMI := Lib.hid hmi
  have HS0 := Lib.hid (Arg.stay h)
  have hstep : ∀ f j : Nat, Rg.firstK l (f + 1) j = Rg.headOr j (Rg.firstK l f (j + 1)) (Rg.misses l j) := fun f j => rfl
  have HST := Lib.hid hstep
  have h101 : Rg.firstK l (101 - s) s = Rg.first l s := rfl
  have H101 := Lib.hid h101
  generalize Rg.first l s = R at *
  clear hmi h hstep hv h101
  have hB0 : Below w.heap.size w (w.alloc (.cells #[.int .i64 0, .int .i64 0, .int .u8 0] 41)) := (Below.refl _ _).alloc (Nat.le_refl _) _
  have HB0 := Lib.hid hB0
  clear hB0
  go_enter Try.func44, Try.ntmps44
  go_wp2_with fail
  go_loopw [8] (fun i wr => ∃ (k : Nat), k ≤ 101 ∧ i = .int .i64 k ∧ Hid (R = Rg.firstK l (101 - max k s) (max k s)) ∧ Below w.heap.size w wr ∧ w.heap.size < wr.heap.size ∧ wr.heap[w.heap.size]? = some (.cells #[.int .i64 0, .int .i64 0, .int .u8 0] 41 (0, 0))) (fun i _ => (101 - intOf i).toNat)
  case atStart => exact ⟨0, by omega, rfl, Lib.hid (by rw [Nat.zero_max]; exact H101.out.symm), HB0.out, by simp, heap_alloc_new w _⟩
  case round =>
    obtain ⟨k, hk, rfl, HR, hbw, hzl, hblk⟩ := hrel
    have hzw := hbw.size
    by_cases hlt : k < 101
    · have hlt' : (k : Int) < 101 := by omega
      by_cases hks : k < s
      · have hks' : (k : Int) < (s : Int) := by omega
        have HN0 : Hid (R = Rg.firstK l (101 - max (k + 1) s) (max (k + 1) s)) := Lib.hid (by rw [HR.out, Nat.max_eq_right (by omega), Nat.max_eq_right (by omega)])
        go_wp2
        go_roundw
        case rel => exact ⟨k + 1, by omega, by go_num, HN0, hbw, hzl, hblk⟩
        case measure => simp [intOf]; omega
      · have hks' : ¬ (k : Int) < (s : Int) := by omega
        have hcall := HMI.out k (by omega) wr (HS0.out wr hbw)
        have hn := HST.out (100 - k) k
        rw [show 100 - k + 1 = 101 - k by omega] at hn
        have hr := HR.out
        rw [Nat.max_eq_left (by omega), hn] at hr
        generalize Rg.misses l k = M at hcall hr
        have HC := Lib.hid hcall
        have HN := Lib.hid hr
        clear hcall hn hr
        cases M with
        | nil =>
          have HN0 : Hid (R = Rg.firstK l (101 - max (k + 1) s) (max (k + 1) s)) := Lib.hid (by rw [HN.out, Nat.max_eq_left (by omega), show 101 - (k + 1) = 100 - k by omega]; rfl)
          clear HN
          go_wp2_with fail
          refine HC.out.mono ?_
          rintro e w1 ⟨⟨B, c, rfl, hown⟩, hb1⟩
          simp only [List.length_nil]
          have hblk1 := hblk
          rw [← hb1.block _ hzl] at hblk1
          have hz1 := hb1.size
          clear hown
          go_wp2
          go_roundw
          case rel => exact ⟨k + 1, by omega, by go_num, HN0, hbw.trans (hb1.mono hzw), by omega, hblk1⟩
          case measure => simp [intOf]; omega
        | cons x r =>
          have HN0 : Hid (R = some (k, x.1, x.2)) := Lib.hid (by rw [HN.out]; rfl)
          clear HN
          have hp0 : (0 : Int) < (r.length : Int) + 1 := by omega
          go_wp2_with fail
          refine HC.out.mono ?_
          rintro e w1 ⟨⟨B, c, rfl, hown⟩, hb1⟩
          obtain ⟨g, rfl, hg, g0, g1, g2⟩ := OwnM.at0 hown (k := 0) (x := ((k : Int), x.1, x.2)) rfl
          simp only [Nat.zero_mul, Nat.zero_add, List.length_cons] at g0 g1 g2 ⊢
          have hblk1 := hblk
          rw [← hb1.block _ hzl] at hblk1
          have hz1 := hb1.size
          obtain ⟨⟨k0, k1, k2⟩, f0, f1, f2⟩ := zero_block hblk1
          clear hown
          have hB1 := hbw.trans (hb1.mono hzw)
          go_wp2
          refine bodyPost_ret (v := .tuple #[.agg #[.int .i64 k, .int .i64 x.1, .int .u8 x.2], .bool true]) (by simp [results, Try.results44, go_sem, k0, k1, k2]) rfl ⟨by rw [HN0.out]; rfl, ?_⟩
          exact ((hB1.setCell (by simp) _).setCell (by simp) _).setCell (by simp) _
    · have hlt' : ¬ (k : Int) < 101 := by omega
      have HE : Hid (R = none) := Lib.hid (by rw [HR.out, show 101 - max k s = 0 by omega]; rfl)
      obtain ⟨⟨k0, k1, k2⟩, f0, f1, f2⟩ := zero_block hblk
      go_wp2
      refine bodyPost_ret (v := .tuple #[.agg #[.int .i64 0, .int .i64 0, .int .u8 0], .bool false]) (by simp [results, Try.results44, go_sem, k0, k1, k2]) rfl ⟨by rw [HE.out]; rfl, ?_⟩
      exact ((hbw.setCell (by simp) _).setCell (by simp) _).setCell (by simp) _

end Go.Proofs.Ythagelnimmfhbaa
