/- Layer 5, the program: First. -/
import Derived.Test.YthagelnimmfhbaaA14
namespace Go.Proofs.Ythagelnimmfhbaa
open Go.RowKit Go.El

theorem stored3 {w2 : World} {b : Nat} {x0 x1 x2 : Value} (v0 v1 v2 : Value) (o : Obj) (k0 : w2.cell? ⟨b, 0, none⟩ = some x0) (k1 : w2.cell? ⟨b, 1, none⟩ = some x1) (k2 : w2.cell? ⟨b, 2, none⟩ = some x2) :
    ((((w2.setCell ⟨b, 0, none⟩ v0).setCell ⟨b, 1, none⟩ v1).setCell ⟨b, 2, none⟩ v2).alloc o).cell? ⟨b, 0, none⟩ = some v0 ∧ ((((w2.setCell ⟨b, 0, none⟩ v0).setCell ⟨b, 1, none⟩ v1).setCell ⟨b, 2, none⟩ v2).alloc o).cell? ⟨b, 1, none⟩ = some v1 ∧ ((((w2.setCell ⟨b, 0, none⟩ v0).setCell ⟨b, 1, none⟩ v1).setCell ⟨b, 2, none⟩ v2).alloc o).cell? ⟨b, 2, none⟩ = some v2 := by
  have hlt := lt_of_cell k0
  have hb : Below (((w2.setCell ⟨b, 0, none⟩ v0).setCell ⟨b, 1, none⟩ v1).setCell ⟨b, 2, none⟩ v2).heap.size (((w2.setCell ⟨b, 0, none⟩ v0).setCell ⟨b, 1, none⟩ v1).setCell ⟨b, 2, none⟩ v2) ((((w2.setCell ⟨b, 0, none⟩ v0).setCell ⟨b, 1, none⟩ v1).setCell ⟨b, 2, none⟩ v2).alloc o) := (Below.refl _ _).alloc (Nat.le_refl _) _
  have hl : b < (((w2.setCell ⟨b, 0, none⟩ v0).setCell ⟨b, 1, none⟩ v1).setCell ⟨b, 2, none⟩ v2).heap.size := by simpa using hlt
  refine ⟨(hb.cell (p := ⟨b, 0, none⟩) hl).trans ?_, (hb.cell (p := ⟨b, 1, none⟩) hl).trans ?_, (hb.cell (p := ⟨b, 2, none⟩) hl).trans ?_⟩
  all_goals go_simp

set_option maxRecDepth 100000 in
set_option maxHeartbeats 2000000 in
theorem firstC : FirstC := by
  intro l hl A cap s w h
  have hA1 : Below w.heap.size w (w.alloc (.cells #[.int .i64 0, .int .i64 0, .int .u8 0] 41)) := (Below.refl _ _).alloc (Nat.le_refl _) _
  have hk1 : (w.alloc (.cells #[.int .i64 0, .int .i64 0, .int .u8 0] 41)).heap[w.heap.size]? = some (.cells #[.int .i64 0, .int .i64 0, .int .u8 0] 41 (0, 0)) := heap_alloc_new _ _
  have hck := checkSized_any l hl A cap s _ (h.below hA1)
  have HBL : Hid (∀ w1, Below (w.alloc (.cells #[.int .i64 0, .int .i64 0, .int .u8 0] 41)).heap.size (w.alloc (.cells #[.int .i64 0, .int .i64 0, .int .u8 0] 41)) w1 → Below w.heap.size w w1 ∧ w.heap.size < w1.heap.size ∧ w1.heap[w.heap.size]? = some (.cells #[.int .i64 0, .int .i64 0, .int .u8 0] 41 (0, 0))) := Lib.hid fun w1 hb =>
    ⟨hA1.trans (hb.mono (by simp)), by have := hb.size; simp at this; omega, (hb.block _ (by simp)).trans hk1⟩
  unfold Rg.firstR
  unfold chk at hck
  clear hA1 hk1
  cases hv : Rg.valid l with
  | false =>
    rw [hv] at hck
    have HC : Hid _ := Lib.hid hck
    clear hck hv h
    go_enter Try.func19, Try.ntmps19
    go_wp2_with fail
    refine HC.out.mono ?_
    rintro e w1 ⟨rfl, hb1⟩
    obtain ⟨hB1, hz1, hblk⟩ := HBL.out w1 hb1
    obtain ⟨⟨k0, k1, k2⟩, f0, f1, f2⟩ := zero_block hblk
    clear hb1
    go_wp2
    refine bodyPost_ret (v := .tuple #[.agg #[.int .i64 0, .int .i64 0, .int .u8 0], .int .i64 2]) (by simp [results, Try.results19, go_sem, k0, k1, k2]) rfl ⟨rfl, ?_⟩
    exact ((hB1.setCell (by simp) _).setCell (by simp) _).setCell (by simp) _
  | true =>
    rw [hv] at hck
    cases hs : Rg.inS s with
    | false =>
      rw [hs] at hck
      have HC : Hid _ := Lib.hid hck
      clear hck hv h hs
      go_enter Try.func19, Try.ntmps19
      go_wp2_with fail
      refine HC.out.mono ?_
      rintro e w1 ⟨rfl, hb1⟩
      obtain ⟨hB1, hz1, hblk⟩ := HBL.out w1 hb1
      obtain ⟨⟨k0, k1, k2⟩, f0, f1, f2⟩ := zero_block hblk
      clear hb1
      go_wp2
      refine bodyPost_ret (v := .tuple #[.agg #[.int .i64 0, .int .i64 0, .int .u8 0], .int .i64 3]) (by simp [results, Try.results19, go_sem, k0, k1, k2]) rfl ⟨rfl, ?_⟩
      exact ((hB1.setCell (by simp) _).setCell (by simp) _).setCell (by simp) _
    | true =>
      rw [hs] at hck
      have HC : Hid _ := Lib.hid hck
      have hs' : 0 ≤ s ∧ s ≤ 100 := by simpa [Rg.inS] using hs
      obtain ⟨s0, s1⟩ := hs'
      clear hck hs
      obtain ⟨S, rfl⟩ : ∃ S : Nat, s = S := ⟨s.toNat, by omega⟩
      have hw := fun W hW => sfirst_any l hv A cap S (by omega) W hW
      have HW := Lib.hid hw
      have HS0 := Lib.hid (Arg.stay h)
      simp only [if_true]
      rw [show (S : Int).toNat = S from rfl]
      clear hw hv h
      cases hR : Rg.first l S with
      | none =>
        have HRN := Lib.hid hR
        have HF : Hid (∀ W, PtE.Arg W A l → Calls Try.prog 44 #[.slice A l.length cap, .int .i64 S] W fun e w' => e = .returned (.tuple #[.agg #[.int .i64 0, .int .i64 0, .int .u8 0], .bool false]) ∧ Below W.heap.size W w') := Lib.hid fun W hW => by
          have := HW.out W hW
          rw [HRN.out] at this
          exact this
        clear hR
        go_enter Try.func19, Try.ntmps19
        go_wp2_with fail
        refine HC.out.mono ?_
        rintro e w1 ⟨rfl, hb1⟩
        obtain ⟨hB1, hz1, hblk⟩ := HBL.out w1 hb1
        clear hb1
        go_wp2_with fail
        refine (HF.out _ (HS0.out w1 hB1)).mono ?_
        rintro e w2 ⟨rfl, hb2⟩
        have hblk2 := (hb2.block _ hz1).trans hblk
        have hz2 : w.heap.size < w2.heap.size := by have := hb2.size; omega
        have hB2 := hB1.trans (hb2.mono hB1.size)
        obtain ⟨⟨k0, k1, k2⟩, f0, f1, f2⟩ := zero_block hblk2
        clear hb2 hblk2 hblk hB1
        go_wp2
        obtain ⟨c0, c1, c2⟩ := stored3 (.int .i64 0) (.int .i64 0) (.int .u8 0) (.cells #[.int .i64 0, .int .i64 0, .int .u8 0] 41) k0 k1 k2
        refine bodyPost_ret (v := .tuple #[.agg #[.int .i64 0, .int .i64 0, .int .u8 0], .int .i64 7]) (by simp [results, Try.results19, go_sem, c0, c1, c2]) rfl ⟨rfl, ?_⟩
        exact (((hB2.setCell (by simp) _).setCell (by simp) _).setCell (by simp) _).alloc (by simp; omega) _
      | some r =>
        obtain ⟨a, c, t⟩ := r
        have HRN := Lib.hid hR
        have HF : Hid (∀ W, PtE.Arg W A l → Calls Try.prog 44 #[.slice A l.length cap, .int .i64 S] W fun e w' => e = .returned (.tuple #[.agg #[.int .i64 a, .int .i64 c, .int .u8 t], .bool true]) ∧ Below W.heap.size W w') := Lib.hid fun W hW => by
          have := HW.out W hW
          rw [HRN.out] at this
          exact this
        clear hR
        go_enter Try.func19, Try.ntmps19
        go_wp2_with fail
        refine HC.out.mono ?_
        rintro e w1 ⟨rfl, hb1⟩
        obtain ⟨hB1, hz1, hblk⟩ := HBL.out w1 hb1
        clear hb1
        go_wp2_with fail
        refine (HF.out _ (HS0.out w1 hB1)).mono ?_
        rintro e w2 ⟨rfl, hb2⟩
        have hblk2 := (hb2.block _ hz1).trans hblk
        have hz2 : w.heap.size < w2.heap.size := by have := hb2.size; omega
        have hB2 := hB1.trans (hb2.mono hB1.size)
        obtain ⟨⟨k0, k1, k2⟩, f0, f1, f2⟩ := zero_block hblk2
        clear hb2 hblk2 hblk hB1
        go_wp2
        obtain ⟨c0, c1, c2⟩ := stored3 (.int .i64 a) (.int .i64 c) (.int .u8 t) (.cells #[.int .i64 a, .int .i64 c, .int .u8 t] 41) k0 k1 k2
        refine bodyPost_ret (v := .tuple #[.agg #[.int .i64 a, .int .i64 c, .int .u8 t], .int .i64 0]) (by simp [results, Try.results19, go_sem, c0, c1, c2]) rfl ⟨rfl, ?_⟩
        exact (((hB2.setCell (by simp) _).setCell (by simp) _).setCell (by simp) _).alloc (by simp; omega) _

end Go.Proofs.Ythagelnimmfhbaa
