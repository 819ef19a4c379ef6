/- Layer 5: the walks of the reference's Misses, First, Sizes, Least. -/
import Derived.Test.YthagelnimmfhbaaRk
namespace Go.Proofs.Ythagelnimmfhbaa
open Go.RowKit Go.El

/-- misses with their size -/
def mv (s : Int) (M : List (Int × Nat)) : List (Int × Int × Nat) := M.map fun x => (s, x.1, x.2)
theorem mv_len (s : Int) (M : List (Int × Nat)) : (mv s M).length = M.length := by simp [mv]
theorem mv_snoc (s : Int) (M : List (Int × Nat)) (x : Int × Nat) : mv s (M ++ [x]) = mv s M ++ [(s, x.1, x.2)] := by simp [mv]

set_option maxRecDepth 100000 in
set_option maxHeartbeats 2000000 in
theorem refMisses_any (l : List Rg.Pt) (hv : Rg.valid l = true) (A : Option Addr) (cap : Nat) (s : Int) (h0 : 0 ≤ s) (h1 : s ≤ 109) (w : World) (h : PtE.Arg w A l) :
    Calls Try.prog 22 #[.slice A l.length cap, .int .i64 s] w fun e w' => (∃ B c, e = .returned (.slice B (Rg.misses l s).length c) ∧ OwnM w' w.heap.size B c (mv s (Rg.misses l s))) ∧ Below w.heap.size w w' := by
  have hho := fun (c : Int) (c0 : -1000000 ≤ c) (c1 : c ≤ 1000000) W h => refHow_any l hv A cap s c h0 h1 c0 c1 W h
  have HHO := Lib.hid hho
  have H := Lib.hid h
  have hstep : ∀ k : Nat, Rg.missK l s (k + 1) = Rg.missK l s k ++ (if Rg.how l s ((k : Int) - 200) = 0 then [] else [((k : Int) - 200, Rg.how l s ((k : Int) - 200))]) := fun k => rfl
  have HST := Lib.hid hstep
  have HLEN := Lib.hid (fun k => Rg.missK_len l s k)
  have h401 : Rg.missK l s 401 = Rg.misses l s := rfl
  have H401 := Lib.hid h401
  generalize Rg.misses l s = M at *
  clear hho h hstep hv h401
  go_enter Try.func22, Try.ntmps22
  go_wp2_with fail
  go_loopw [5, 6, 7] (fun o i _ wr => ∃ (k : Nat) (x : Int) (D : List (Int × Int × Nat)) (B : Option Addr) (c : Nat), k ≤ 401 ∧ x = k - 200 ∧ i = .int .i64 x ∧ o = .slice B D.length c ∧ Hid (D = mv s (Rg.missK l s k)) ∧ D.length ≤ 401 ∧ OwnM wr w.heap.size B c D ∧ Below w.heap.size w wr) (fun _ i _ _ => (201 - intOf i).toNat)
  case atStart => exact ⟨0, -200, [], _, 0, by omega, by omega, rfl, rfl, Lib.hid rfl, by simp, Own.made MissE 41 w (Nat.le_refl _), (Below.refl _ _).alloc (Nat.le_refl _) _⟩
  case round =>
    obtain ⟨k, x, D, B, c, hk, hx, rfl, rfl, HD, hDl, hown, hbw⟩ := hrel
    have hzw := hbw.size
    have HX := Lib.hid hx
    have hx0 : -200 ≤ x := by omega
    have hx1 : x ≤ 201 := by omega
    by_cases hlt : k < 401
    · have hx2 : x ≤ 200 := by omega
      have hcall := HHO.out x (by omega) (by omega) wr (H.out.below (hbw.mono (Nat.le_refl _)))
      have hn := HST.out k
      rw [← hx] at hn
      clear hx
      generalize Rg.how l s x = q at hcall hn
      have HC := Lib.hid hcall
      have HN := Lib.hid hn
      clear hcall hn
      go_wp2_with fail
      refine HC.out.mono ?_
      rintro e w1 ⟨rfl, hb1⟩
      have hown1 := hown.below hb1
      have hB1 := hbw.trans (hb1.mono hzw)
      have hz1 := hB1.size
      clear hown hb1 hbw
      by_cases hq : q = 0
      · subst hq
        have HN0 : Hid (D = mv s (Rg.missK l s (k + 1))) := Lib.hid (by rw [HN.out, if_pos rfl, List.append_nil]; exact HD.out)
        clear HN
        go_wp2
        go_roundw
        case rel => exact ⟨k + 1, x + 1, D, B, c, by omega, by have := HX.out; omega, by go_num, rfl, HN0, hDl, hown1, hB1⟩
        case measure => simp [intOf]; omega
      · have hq1 : ((q : Int) == 0) = false := by rw [beq_eq_false_iff_ne]; omega
        have hq2 : ((q : Int) != 0) = true := by rw [bne, hq1]; rfl
        have HN0 : Hid (D ++ [(s, x, q)] = mv s (Rg.missK l s (k + 1))) := Lib.hid (by rw [HN.out, if_neg hq, mv_snoc, ← HD.out])
        clear HN
        have HDL : Hid (D.length ≤ k) := Lib.hid (by rw [HD.out, mv_len]; exact HLEN.out k)
        go_wp2_with (at_builtin; refine append_M rfl _ _ rfl w.heap.size B c D (s, x, q) w1.heap.size rfl rfl (hown1.below ((Below.refl _ _).alloc (Nat.le_refl _) _)) (by simp) (by simp) (by simp) (by omega) (by simp; omega) ?_; intro B' c' w2 hown2 hgrow2)
        go_roundw
        case rel =>
          refine ⟨k + 1, x + 1, D ++ [(s, x, q)], B', c', by omega, by have := HX.out; omega, by go_num, by simp, HN0, by have := HDL.out; simp; omega, hown2, ?_⟩
          exact (hB1.alloc hz1 _).grown hgrow2 (by simp; omega) (fun j hj => (hown1.lt j hj).1)
        case measure => simp [intOf]; omega
    · have hx2 : ¬ x ≤ 200 := by omega
      have HE : Hid (D = mv s M) := Lib.hid (by rw [HD.out, show k = 401 by omega, H401.out])
      have HL : Hid (D.length = M.length) := Lib.hid (by rw [HE.out, mv_len])
      clear hx
      go_wp2
      go_ret
      exact ⟨⟨B, c, by rw [← HL.out]; rfl, by rw [← HE.out]; exact hown⟩, hbw⟩

/-- the cells of a row of misses -/
theorem OwnM.at0 {w : World} {base cap : Nat} {A : Option Addr} {l : List (Int × Int × Nat)} (h : OwnM w base A cap l) {k : Nat} {x : Int × Int × Nat} (hx : l[k]? = some x) :
    ∃ g, A = some ⟨g, 0, none⟩ ∧ g < w.heap.size ∧ w.cell? ⟨g, k * 3, none⟩ = some (.int .i64 x.1) ∧ w.cell? ⟨g, k * 3 + 1, none⟩ = some (.int .i64 x.2.1) ∧ w.cell? ⟨g, k * 3 + 2, none⟩ = some (.int .u8 x.2.2) := by
  obtain ⟨g, hA, _, hg, hin⟩ := h.in_ (by intro e; subst e; simp at hx)
  have c := fun j u hu => hin k x hx j u hu
  simp only [Nat.zero_add] at c
  exact ⟨g, hA, hg, c 0 _ rfl, c 1 _ rfl, c 2 _ rfl⟩

/-- what First gives -/
def firstV : Option (Nat × Int × Nat) → Value
  | none => .tuple #[.agg #[.int .i64 0, .int .i64 0, .int .u8 0], .bool false]
  | some (s, c, k) => .tuple #[.agg #[.int .i64 s, .int .i64 c, .int .u8 k], .bool true]

set_option maxRecDepth 100000 in
set_option maxHeartbeats 2000000 in
theorem refFirst_any (l : List Rg.Pt) (hv : Rg.valid l = true) (A : Option Addr) (cap : Nat) (s : Nat) (h1 : s ≤ 100) (w : World) (h : PtE.Arg w A l) :
    Calls Try.prog 23 #[.slice A l.length cap, .int .i64 s] w fun e w' => e = .returned (firstV (Rg.first l s)) ∧ Below w.heap.size w w' := by
  have hmi := fun (s : Nat) (h1 : s ≤ 100) W h => refMisses_any l hv A cap s (by omega) (by omega) W h
  have HMI := Lib.hid hmi
  have H := Lib.hid h
  have hstep : ∀ f j : Nat, Rg.firstK l (f + 1) j = Rg.headOr j (Rg.firstK l f (j + 1)) (Rg.misses l j) := fun f j => rfl
  have HST := Lib.hid hstep
  have h101 : Rg.firstK l (101 - s) s = Rg.first l s := rfl
  have H101 := Lib.hid h101
  generalize Rg.first l s = R at *
  clear hmi h hstep hv h101
  go_enter Try.func23, Try.ntmps23
  go_wp2_with fail
  have hB0 : Below w.heap.size w (w.alloc (.cells #[.int .i64 0, .int .i64 0, .int .u8 0] 41)) := (Below.refl _ _).alloc (Nat.le_refl _) _
  go_loopw [6, 7] (fun i _ wr => ∃ (k : Nat), s ≤ k ∧ k ≤ 101 ∧ i = .int .i64 k ∧ Hid (R = Rg.firstK l (101 - k) k) ∧ Below w.heap.size w wr ∧ w.heap.size < wr.heap.size ∧ wr.heap[w.heap.size]? = some (.cells #[.int .i64 0, .int .i64 0, .int .u8 0] 41)) (fun i _ _ => (101 - intOf i).toNat)
  case atStart => exact ⟨s, Nat.le_refl _, by omega, rfl, Lib.hid H101.out.symm, hB0, by simp, heap_alloc_new w _⟩
  case round =>
    obtain ⟨k, hsk, hk, rfl, HR, hbw, hzl, hblk⟩ := hrel
    have hzw := hbw.size
    by_cases hlt : k ≤ 100
    · have hlt' : (k : Int) ≤ 100 := by omega
      have hcall := HMI.out k hlt wr (H.out.below (hbw.mono (Nat.le_refl _)))
      have hn := HST.out (100 - k) k
      rw [show 100 - k + 1 = 101 - k by omega, ← HR.out] at hn
      generalize Rg.misses l k = M at hcall hn
      have HC := Lib.hid hcall
      have HN := Lib.hid hn
      clear hcall hn
      cases M with
      | nil =>
        have HN0 : Hid (R = Rg.firstK l (101 - (k + 1)) (k + 1)) := Lib.hid (by rw [HN.out, show 101 - (k + 1) = 100 - k by omega]; rfl)
        clear HN
        go_wp2_with fail
        refine HC.out.mono ?_
        rintro e w1 ⟨⟨B, c, rfl, hown⟩, hb1⟩
        simp only [List.length_nil]
        have hblk1 := hblk
        rw [← hb1.block _ hzl] at hblk1
        have hz1 := hb1.size
        clear hown
        go_wp2
        go_roundw
        case rel => exact ⟨k + 1, by omega, by omega, by go_num, HN0, hbw.trans (hb1.mono hzw), by omega, hblk1⟩
        case measure => simp [intOf]; omega
      | cons x r =>
        have HN0 : Hid (R = some (k, x.1, x.2)) := Lib.hid (by rw [HN.out]; rfl)
        clear HN
        go_wp2_with fail
        refine HC.out.mono ?_
        rintro e w1 ⟨⟨B, c, rfl, hown⟩, hb1⟩
        obtain ⟨g, rfl, hg, g0, g1, g2⟩ := OwnM.at0 hown (k := 0) (x := ((k : Int), x.1, x.2)) rfl
        simp only [Nat.zero_mul, Nat.zero_add, List.length_cons] at g0 g1 g2 ⊢
        have hblk1 := hblk
        rw [← hb1.block _ hzl] at hblk1
        have hz1 := hb1.size
        have k0 := cell_of_row w1 w.heap.size 0 _ _ _ hblk1
        have k1 := cell_of_row w1 w.heap.size 1 _ _ _ hblk1
        have k2 := cell_of_row w1 w.heap.size 2 _ _ _ hblk1
        simp at k0 k1 k2
        have f0 := frozen_of_row w1 w.heap.size 0 _ _ hblk1
        have f1 := frozen_of_row w1 w.heap.size 1 _ _ hblk1
        have f2 := frozen_of_row w1 w.heap.size 2 _ _ hblk1
        clear hown
        have hB1 := hbw.trans (hb1.mono hzw)
        go_wp2
        refine bodyPost_ret (v := .tuple #[.agg #[.int .i64 k, .int .i64 x.1, .int .u8 x.2], .bool true]) (by simp [results, Try.results23, go_sem, k0, k1, k2]) rfl ⟨by rw [HN0.out]; rfl, ?_⟩
        exact ((hB1.setCell (by simp) _).setCell (by simp) _).setCell (by simp) _
    · have hlt' : ¬ (k : Int) ≤ 100 := by omega
      have HE : Hid (R = none) := Lib.hid (by rw [HR.out, show 101 - k = 0 by omega]; rfl)
      have k0 := cell_of_row wr w.heap.size 0 _ _ _ hblk
      have k1 := cell_of_row wr w.heap.size 1 _ _ _ hblk
      have k2 := cell_of_row wr w.heap.size 2 _ _ _ hblk
      simp at k0 k1 k2
      have f0 := frozen_of_row wr w.heap.size 0 _ _ hblk
      have f1 := frozen_of_row wr w.heap.size 1 _ _ hblk
      have f2 := frozen_of_row wr w.heap.size 2 _ _ hblk
      go_wp2
      refine bodyPost_ret (v := .tuple #[.agg #[.int .i64 0, .int .i64 0, .int .u8 0], .bool false]) (by simp [results, Try.results23, go_sem, k0, k1, k2]) rfl ⟨by rw [HE.out]; rfl, ?_⟩
      exact ((hbw.setCell (by simp) _).setCell (by simp) _).setCell (by simp) _


def iv (l : List Nat) : List Int := l.map fun n : Nat => (n : Int)
theorem iv_snoc (l : List Nat) (n : Nat) : iv (l ++ [n]) = iv l ++ [(n : Int)] := by simp [iv]
theorem iv_len (l : List Nat) : (iv l).length = l.length := by simp [iv]

set_option maxRecDepth 100000 in
set_option maxHeartbeats 2000000 in
theorem refSizes_any (l : List Rg.Pt) (hv : Rg.valid l = true) (A : Option Addr) (cap : Nat) (w : World) (h : PtE.Arg w A l) :
    Calls Try.prog 27 #[.slice A l.length cap] w fun e w' => (∃ B c, e = .returned (.slice B (Rg.sizes l).length c) ∧ OwnI w' w.heap.size B c (iv (Rg.sizes l))) ∧ Below w.heap.size w w' := by
  have hmi := fun (s : Nat) (h1 : s ≤ 100) W h => refMisses_any l hv A cap s (by omega) (by omega) W h
  have HMI := Lib.hid hmi
  have H := Lib.hid h
  have hstep : ∀ k : Nat, Rg.sizesK l (k + 1) = Rg.sizesK l k ++ (if (Rg.misses l k).isEmpty then [k] else []) := fun k => rfl
  have HST := Lib.hid hstep
  have HLEN := Lib.hid (fun k => Rg.sizesK_len l k)
  have h101 : Rg.sizesK l 101 = Rg.sizes l := rfl
  have H101 := Lib.hid h101
  generalize Rg.sizes l = R at *
  clear hmi h hstep hv h101
  go_enter Try.func27, Try.ntmps27
  go_wp2_with fail
  go_loopw [3, 4] (fun o i wr => ∃ (k : Nat) (D : List Int) (B : Option Addr) (c : Nat), k ≤ 101 ∧ i = .int .i64 k ∧ o = .slice B D.length c ∧ Hid (D = iv (Rg.sizesK l k)) ∧ D.length ≤ 101 ∧ OwnI wr w.heap.size B c D ∧ Below w.heap.size w wr) (fun _ i _ => (101 - intOf i).toNat)
  case atStart => exact ⟨0, [], _, 0, by omega, rfl, rfl, Lib.hid rfl, by simp, Own.made IntE 3 w (Nat.le_refl _), (Below.refl _ _).alloc (Nat.le_refl _) _⟩
  case round =>
    obtain ⟨k, D, B, c, hk, rfl, rfl, HD, hDl, hown, hbw⟩ := hrel
    have hzw := hbw.size
    by_cases hlt : k ≤ 100
    · have hlt' : (k : Int) ≤ 100 := by omega
      have hcall := HMI.out k hlt wr (H.out.below hbw)
      have hn := HST.out k
      have HDL : Hid (D.length ≤ k) := Lib.hid (by rw [HD.out, iv_len]; exact HLEN.out k)
      generalize Rg.misses l k = M at hcall hn
      have HC := Lib.hid hcall
      have HN := Lib.hid hn
      clear hcall hn
      cases M with
      | nil =>
        have HN0 : Hid (D ++ [(k : Int)] = iv (Rg.sizesK l (k + 1))) := Lib.hid (by rw [HN.out]; simp only [List.isEmpty_nil, if_true]; rw [iv_snoc, ← HD.out])
        clear HN
        go_wp2_with fail
        refine HC.out.mono ?_
        rintro e w1 ⟨⟨B1, c1, rfl, hownM⟩, hb1⟩
        simp only [List.length_nil]
        have hown1 := hown.below hb1
        have hB1 := hbw.trans (hb1.mono hzw)
        have hz1 := hB1.size
        clear hownM hown hb1 hbw
        go_wp2_with (at_builtin; refine append_I rfl _ _ rfl w.heap.size B c D k w1.heap.size rfl rfl (hown1.below ((Below.refl _ _).alloc (Nat.le_refl _) _)) (by simp) (by omega) (by simp; omega) ?_; intro B' c' w2 hown2 hgrow2)
        go_roundw
        case rel => exact ⟨k + 1, D ++ [(k : Int)], B', c', by omega, by go_num, by simp, HN0, by have := HDL.out; simp; omega, hown2, (hB1.alloc hz1 _).grown hgrow2 (by simp; omega) (fun j hj => (hown1.lt j hj).1)⟩
        case measure => simp [intOf]; omega
      | cons x r =>
        have HN0 : Hid (D = iv (Rg.sizesK l (k + 1))) := Lib.hid (by rw [HN.out]; simp only [List.isEmpty_cons, Bool.false_eq_true, if_false, List.append_nil]; exact HD.out)
        clear HN
        have hq : (((r.length + 1 : Nat) : Int) == 0) = false := by rw [beq_eq_false_iff_ne]; omega
        have hq2 : ((r.length : Int) + 1 == 0) = false := by rw [beq_eq_false_iff_ne]; omega
        go_wp2_with fail
        refine HC.out.mono ?_
        rintro e w1 ⟨⟨B1, c1, rfl, hownM⟩, hb1⟩
        simp only [List.length_cons]
        have hown1 := hown.below hb1
        have hB1 := hbw.trans (hb1.mono hzw)
        clear hownM hown hb1 hbw
        go_wp2
        go_roundw
        case rel => exact ⟨k + 1, D, B, c, by omega, by go_num, rfl, HN0, hDl, hown1, hB1⟩
        case measure => simp [intOf]; omega
    · have hlt' : ¬ (k : Int) ≤ 100 := by omega
      have HE : Hid (D = iv R) := Lib.hid (by rw [HD.out, show k = 101 by omega, H101.out])
      have HL : Hid (D.length = R.length) := Lib.hid (by rw [HE.out, iv_len])
      go_wp2
      go_ret
      exact ⟨⟨B, c, by rw [← HL.out]; rfl, by rw [← HE.out]; exact hown⟩, hbw⟩

def leastV : Option Nat → Int
  | none => -1
  | some n => n
set_option maxRecDepth 100000 in
set_option maxHeartbeats 2000000 in
theorem refLeast_any (l : List Rg.Pt) (hv : Rg.valid l = true) (A : Option Addr) (cap : Nat) (w : World) (h : PtE.Arg w A l) :
    Calls Try.prog 29 #[.slice A l.length cap] w fun e w' => e = .returned (.int .i64 (leastV (Rg.least l))) ∧ Below w.heap.size w w' := by
  have hmi := fun (s : Nat) (h1 : s ≤ 100) W h => refMisses_any l hv A cap s (by omega) (by omega) W h
  have HMI := Lib.hid hmi
  have H := Lib.hid h
  have hstep : ∀ (k : Nat) b, Rg.leastK l (k + 1) b = if (Rg.misses l k).isEmpty then Rg.leastK l k (some k) else b := fun k b => rfl
  have HST := Lib.hid hstep
  have h101 : Rg.leastK l 101 none = Rg.least l := rfl
  have H101 := Lib.hid h101
  generalize Rg.least l = R at *
  clear hmi h hstep hv h101
  go_enter Try.func29, Try.ntmps29
  go_wp2_with fail
  go_loopw [3, 4] (fun o i wr => ∃ (k : Nat) (x : Int) (b : Option Nat), k ≤ 101 ∧ x = (k : Int) - 1 ∧ i = .int .i64 x ∧ o = .int .i64 (leastV b) ∧ Hid (R = Rg.leastK l k b) ∧ Below w.heap.size w wr) (fun _ i _ => (intOf i + 1).toNat)
  case atStart => exact ⟨101, 100, none, by omega, by omega, rfl, rfl, Lib.hid H101.out.symm, Below.refl _ _⟩
  case round =>
    obtain ⟨k, x, b, hk, hx, rfl, rfl, HR, hbw⟩ := hrel
    have hzw := hbw.size
    have HX := Lib.hid hx
    cases k with
    | zero =>
      have hx0 : x = -1 := by omega
      subst hx0
      have HE : Hid (R = b) := Lib.hid HR.out
      clear hx HX
      go_wp2
      go_ret
      exact ⟨by rw [HE.out]; rfl, hbw⟩
    | succ k =>
      have hx0 : x = (k : Int) := by omega
      have HX := Lib.hid hx0
      subst hx0
      clear hx
      have hlt' : (0 : Int) ≤ k := by omega
      have hcall := HMI.out k (by omega) wr (H.out.below hbw)
      have hn := HST.out k b
      generalize Rg.misses l k = M at hcall hn
      have HC := Lib.hid hcall
      have HN := Lib.hid hn
      clear hcall hn
      cases M with
      | nil =>
        have HN0 : Hid (R = Rg.leastK l k (some k)) := Lib.hid (by rw [HR.out, HN.out]; rfl)
        clear HN
        go_wp2_with fail
        refine HC.out.mono ?_
        rintro e w1 ⟨⟨B1, c1, rfl, hownM⟩, hb1⟩
        simp only [List.length_nil]
        clear hownM
        go_wp2
        go_roundw
        case rel => exact ⟨k, (k : Int) - 1, some k, by omega, rfl, by first | rfl | go_num, rfl, HN0, hbw.trans (hb1.mono hzw)⟩
        case measure => simp [intOf]
      | cons y r =>
        have HE : Hid (R = b) := Lib.hid (by rw [HR.out, HN.out]; rfl)
        clear HN
        have hq2 : ((r.length : Int) + 1 == 0) = false := by rw [beq_eq_false_iff_ne]; omega
        go_wp2_with fail
        refine HC.out.mono ?_
        rintro e w1 ⟨⟨B1, c1, rfl, hownM⟩, hb1⟩
        simp only [List.length_cons]
        clear hownM
        go_wp2
        go_ret
        exact ⟨by rw [HE.out]; rfl, hbw.trans (hb1.mono hzw)⟩

end Go.Proofs.Ythagelnimmfhbaa
