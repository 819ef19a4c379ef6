/- Layer 5: the walk of the law RegionCells. -/
import Derived.Test.YthagelnimmfhbaaRq
namespace Rg
theorem valid_one (p : Pt) : valid [p] = p.ok := by simp [valid]
theorem inS_iff (s : Int) : inS s = true ↔ 0 ≤ s ∧ s ≤ 100 := by simp [inS]
theorem inS_not {s : Int} (h : inS s = false) : s < 0 ∨ 100 < s := by
  rcases Int.lt_or_le s 0 with h0 | h0
  · exact .inl h0
  · rcases Int.lt_or_le 100 s with h1 | h1
    · exact .inr h1
    · rw [(inS_iff s).2 ⟨h0, h1⟩] at h; cases h
theorem inS_not' {s : Int} (h : inS s = false) : s < 0 ∨ (¬ s < 0 ∧ 100 < s) := by
  rcases inS_not h with h0 | h0
  · exact .inl h0
  · exact .inr ⟨by omega, h0⟩
end Rg
namespace Go.Proofs.Ythagelnimmfhbaa
open Go.RowKit Go.El

/-- the cells of a part by value, boxed -/
theorem boxed {W : World} {p : Rg.Pt} : Stay (fun V => (V.cell? ⟨W.heap.size, 0, none⟩ = some (.bool p.lo.size) ∧ V.cell? ⟨W.heap.size, 1, none⟩ = some (.int .i64 p.lo.n) ∧ V.cell? ⟨W.heap.size, 2, none⟩ = some (.bool p.hi.size) ∧ V.cell? ⟨W.heap.size, 3, none⟩ = some (.int .i64 p.hi.n) ∧ V.cell? ⟨W.heap.size, 4, none⟩ = some (.int .i64 p.step))) (W.alloc (Obj.cells #[.bool p.lo.size, .int .i64 p.lo.n, .bool p.hi.size, .int .i64 p.hi.n, .int .i64 p.step] 25)) :=
  fun _ hb => by
    have h := fun j => ((bcell hb).1 W.heap.size j (by simp)).trans (cell_of_row _ W.heap.size j _ _ _ (heap_alloc_new W _))
    exact ⟨h 0, h 1, h 2, h 3, h 4⟩

theorem cells_code (hC : CellsC) (p : Rg.Pt) (s : Int) (L : List Int) (k : Nat) (hR : Rg.cellsR p s = (L, k)) (w : World) : Calls Try.prog 12 #[.agg #[.bool p.lo.size, .int .i64 p.lo.n, .bool p.hi.size, .int .i64 p.hi.n, .int .i64 p.step], .int .i64 s] w fun e w' =>
  (∃ B c, e = .returned (.tuple #[.slice B L.length c, .int .i64 k]) ∧ OwnI w' w.heap.size B c L) ∧ Below w.heap.size w w' := by
  have := hC p s w
  rw [hR] at this
  exact this
theorem valid_of (l : List Rg.Pt) (q : Bool) (hq : Rg.valid l = q) (hl : l.length ≤ maxLen) (A : Option Addr) (cap : Nat) (w : World) (h : PtE.Arg w A l) :
    Calls Try.prog 13 #[.slice A l.length cap] w fun e w' => e = .returned (.bool q) ∧ Below w.heap.size w w' := hq ▸ valid_any l hl A cap w h

set_option maxRecDepth 100000 in
set_option maxHeartbeats 2000000 in
theorem cells_inv (h : Prg) (p : Rg.Pt) (s : Int) (hp : p.ok = false) (w : World) :
    Calls Try.prog 3 #[.agg (ptC p).toArray, .int .i64 s] w fun e w' => e = .returned (.bool true) ∧ Below w.heap.size w w' := by
  have HC := Lib.hid (fun W => cells_code h.cells p s [] 2 (by unfold Rg.cellsR; rw [hp]; rfl) W)
  have HK := Lib.hid (fun W => known_any h W)
  have HBX := Lib.hid (boxed (W := w) (p := p))
  have HV := Lib.hid (fun c (W : World) h => valid_of [p] _ ((Rg.valid_one p).trans hp) (by simp [maxLen]) (some ⟨W.heap.size, 0, none⟩) c (W.alloc (Obj.cells #[.bool p.lo.size, .int .i64 p.lo.n, .bool p.hi.size, .int .i64 p.hi.n, .int .i64 p.step] 25)) h)
  unfold ptC
  clear h hp
  have hB0 : Below w.heap.size w (w.alloc (Obj.cells #[.bool p.lo.size, .int .i64 p.lo.n, .bool p.hi.size, .int .i64 p.hi.n, .int .i64 p.step] 25)) := (Below.refl _ _).alloc (Nat.le_refl _) _
  go_enter Try.func3, Try.ntmps3
  go_wp2_with fail
  refine (HC.out _).mono ?_
  rintro e w1 ⟨⟨B1, c1, rfl, ho1⟩, hb1⟩
  have HBX := Lib.hid (HBX.out.step hb1)
  have hB1 := hB0.trans (hb1.mono hB0.size)
  clear hb1
  have SL := Lib.hid (Own.stay ho1)
  clear ho1
  obtain ⟨x0, x1, x2, x3, x4⟩ := HBX.out.at_
  go_wp2_with fail
  have hb2 : Below w1.heap.size w1 (w1.alloc (Obj.cells #[.bool p.lo.size, .int .i64 p.lo.n, .bool p.hi.size, .int .i64 p.hi.n, .int .i64 p.step] 25)) := (Below.refl _ _).alloc (Nat.le_refl _) _
  have HBX := Lib.hid (HBX.out.step hb2)
  have SL := Lib.hid (SL.out.step hb2)
  have hB2 := hB1.trans (hb2.mono hB1.size)
  clear hb2 hB1
  clear x0 x1 x2 x3 x4
  refine (HV.out _ _ (row_arg (K := PtE) rfl rfl)).mono ?_
  rintro e w3 ⟨rfl, hb3⟩
  have HBX := Lib.hid (HBX.out.step hb3)
  have SL := Lib.hid (SL.out.step hb3)
  have hB3 := hB2.trans (hb3.mono hB2.size)
  clear hb3 hB2
  clear HBX SL
  go_wp2_with fail
  refine (HK.out _).mono ?_
  rintro e w4 ⟨rfl, hb4⟩
  have hB4 := hB3.trans (hb4.mono hB3.size)
  clear hb4 hB3
  go_wp2
  go_ret
  exact ⟨rfl, hB4⟩

set_option maxRecDepth 100000 in
set_option maxHeartbeats 2000000 in
theorem cells_out (h : Prg) (p : Rg.Pt) (s : Int) (hp : p.ok = true) (hs : Rg.inS s = false) (w : World) :
    Calls Try.prog 3 #[.agg (ptC p).toArray, .int .i64 s] w fun e w' => e = .returned (.bool true) ∧ Below w.heap.size w w' := by
  have HC := Lib.hid (fun W => cells_code h.cells p s [] 3 (by unfold Rg.cellsR; rw [hp, hs]; rfl) W)
  have HS := Lib.hid (Rg.inS_not' hs)
  clear hs
  have HK := Lib.hid (fun W => known_any h W)
  have HBX := Lib.hid (boxed (W := w) (p := p))
  have HV := Lib.hid (fun c (W : World) h => valid_of [p] _ ((Rg.valid_one p).trans hp) (by simp [maxLen]) (some ⟨W.heap.size, 0, none⟩) c (W.alloc (Obj.cells #[.bool p.lo.size, .int .i64 p.lo.n, .bool p.hi.size, .int .i64 p.hi.n, .int .i64 p.step] 25)) h)
  unfold ptC
  clear h hp
  have hB0 : Below w.heap.size w (w.alloc (Obj.cells #[.bool p.lo.size, .int .i64 p.lo.n, .bool p.hi.size, .int .i64 p.hi.n, .int .i64 p.step] 25)) := (Below.refl _ _).alloc (Nat.le_refl _) _
  go_enter Try.func3, Try.ntmps3
  go_wp2_with fail
  refine (HC.out _).mono ?_
  rintro e w1 ⟨⟨B1, c1, rfl, ho1⟩, hb1⟩
  have HBX := Lib.hid (HBX.out.step hb1)
  have hB1 := hB0.trans (hb1.mono hB0.size)
  clear hb1
  have SL := Lib.hid (Own.stay ho1)
  clear ho1
  obtain ⟨x0, x1, x2, x3, x4⟩ := HBX.out.at_
  go_wp2_with fail
  have hb2 : Below w1.heap.size w1 (w1.alloc (Obj.cells #[.bool p.lo.size, .int .i64 p.lo.n, .bool p.hi.size, .int .i64 p.hi.n, .int .i64 p.step] 25)) := (Below.refl _ _).alloc (Nat.le_refl _) _
  have HBX := Lib.hid (HBX.out.step hb2)
  have SL := Lib.hid (SL.out.step hb2)
  have hB2 := hB1.trans (hb2.mono hB1.size)
  clear hb2 hB1
  clear x0 x1 x2 x3 x4
  refine (HV.out _ _ (row_arg (K := PtE) rfl rfl)).mono ?_
  rintro e w3 ⟨rfl, hb3⟩
  have HBX := Lib.hid (HBX.out.step hb3)
  have SL := Lib.hid (SL.out.step hb3)
  have hB3 := hB2.trans (hb3.mono hB2.size)
  clear hb3 hB2
  clear HBX SL
  rcases HS.out with hs | ⟨hn, hs⟩
  all_goals
    go_wp2_with fail
    refine (HK.out _).mono ?_
    rintro e w4 ⟨rfl, hb4⟩
    have hB4 := hB3.trans (hb4.mono hB3.size)
    clear hb4 hB3
    go_wp2
    go_ret
    exact ⟨rfl, hB4⟩

set_option maxRecDepth 100000 in
set_option maxHeartbeats 2000000 in
theorem cells_in (h : Prg) (p : Rg.Pt) (s : Int) (hp : p.ok = true) (hs : Rg.inS s = true) (w : World) :
    Calls Try.prog 3 #[.agg (ptC p).toArray, .int .i64 s] w fun e w' => e = .returned (.bool true) ∧ Below w.heap.size w w' := by
  have hsi := (Rg.inS_iff s).1 hs
  have h0 : 0 ≤ s := hsi.1
  have h1 : s ≤ 100 := hsi.2
  have h0' : ¬ s < 0 := by omega
  have h1' : ¬ 100 < s := by omega
  have HC := Lib.hid (fun W => cells_code h.cells p s (p.cells s) 0 (by unfold Rg.cellsR; rw [hp, hs]; rfl) W)
  have hrr := fun W => refCells_any p hp s h0 (by omega) W
  unfold ptC at hrr
  have HR := Lib.hid hrr
  have HSM := Lib.hid (fun A C c1 c2 W h1 h2 => same_any (p.cells s) (by have := Rg.cells_len hp h0 (show s ≤ 109 by omega); omega) A C c1 c2 W h1 h2)
  clear hs hsi hrr
  generalize p.cells s = L at HC HR HSM
  have HK := Lib.hid (fun W => known_any h W)
  have HBX := Lib.hid (boxed (W := w) (p := p))
  have HV := Lib.hid (fun c (W : World) h => valid_of [p] _ ((Rg.valid_one p).trans hp) (by simp [maxLen]) (some ⟨W.heap.size, 0, none⟩) c (W.alloc (Obj.cells #[.bool p.lo.size, .int .i64 p.lo.n, .bool p.hi.size, .int .i64 p.hi.n, .int .i64 p.step] 25)) h)
  unfold ptC
  clear h hp
  have hB0 : Below w.heap.size w (w.alloc (Obj.cells #[.bool p.lo.size, .int .i64 p.lo.n, .bool p.hi.size, .int .i64 p.hi.n, .int .i64 p.step] 25)) := (Below.refl _ _).alloc (Nat.le_refl _) _
  go_enter Try.func3, Try.ntmps3
  go_wp2_with fail
  refine (HC.out _).mono ?_
  rintro e w1 ⟨⟨B1, c1, rfl, ho1⟩, hb1⟩
  have HBX := Lib.hid (HBX.out.step hb1)
  have hB1 := hB0.trans (hb1.mono hB0.size)
  clear hb1
  have SL := Lib.hid (Own.stay ho1)
  clear ho1
  obtain ⟨x0, x1, x2, x3, x4⟩ := HBX.out.at_
  go_wp2_with fail
  have hb2 : Below w1.heap.size w1 (w1.alloc (Obj.cells #[.bool p.lo.size, .int .i64 p.lo.n, .bool p.hi.size, .int .i64 p.hi.n, .int .i64 p.step] 25)) := (Below.refl _ _).alloc (Nat.le_refl _) _
  have HBX := Lib.hid (HBX.out.step hb2)
  have SL := Lib.hid (SL.out.step hb2)
  have hB2 := hB1.trans (hb2.mono hB1.size)
  clear hb2 hB1
  clear x0 x1 x2 x3 x4
  refine (HV.out _ _ (row_arg (K := PtE) rfl rfl)).mono ?_
  rintro e w3 ⟨rfl, hb3⟩
  have HBX := Lib.hid (HBX.out.step hb3)
  have SL := Lib.hid (SL.out.step hb3)
  have hB3 := hB2.trans (hb3.mono hB2.size)
  clear hb3 hB2
  obtain ⟨x0, x1, x2, x3, x4⟩ := HBX.out.at_
  go_wp2_with fail
  refine (HR.out _).mono ?_
  rintro e w4 ⟨⟨B2, c2, rfl, ho2⟩, hb4⟩
  have HBX := Lib.hid (HBX.out.step hb4)
  have SL := Lib.hid (SL.out.step hb4)
  have hB4 := hB3.trans (hb4.mono hB3.size)
  clear hb4 hB3
  have SR := Lib.hid (Own.stay ho2)
  clear ho2 x0 x1 x2 x3 x4
  go_wp2_with fail
  refine ((HSM.out _ _ _ _ _ SL.out.at_.arg SR.out.at_.arg)).mono ?_
  rintro e w5 ⟨rfl, hb5⟩
  have HBX := Lib.hid (HBX.out.step hb5)
  have SL := Lib.hid (SL.out.step hb5)
  have SR := Lib.hid (SR.out.step hb5)
  have hB5 := hB4.trans (hb5.mono hB4.size)
  clear hb5 hB4
  clear HBX SL SR
  go_wp2_with fail
  refine (HK.out _).mono ?_
  rintro e w6 ⟨rfl, hb6⟩
  have hB6 := hB5.trans (hb6.mono hB5.size)
  clear hb6 hB5
  go_wp2
  go_ret
  exact ⟨rfl, hB6⟩

theorem cells_law (h : Prg) (p : Rg.Pt) (s : Int) (w : World) :
    Calls Try.prog 3 #[.agg (ptC p).toArray, .int .i64 s] w fun e w' => e = .returned (.bool true) ∧ Below w.heap.size w w' := by
  cases hp : p.ok with
  | false => exact cells_inv h p s hp w
  | true =>
    cases hs : Rg.inS s with
    | false => exact cells_out h p s hp hs w
    | true => exact cells_in h p s hp hs w

end Go.Proofs.Ythagelnimmfhbaa
