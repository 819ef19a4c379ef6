/- Layer 6, the program: Memory, of a picture. -/
import Derived.Test.YtjldkndalcellaaGreatDoorXa
import Derived.Test.YtjldkndalcellaaGreatDoorYl
namespace Go.Proofs.YtjldkndalcellaaGreatDoor
open Go.RowKit Go.El

set_option maxRecDepth 100000 in
set_option maxHeartbeats 2000000 in
theorem cmemory_ok (p : Ce.Pic) (hp : Szp p) (hq : Ce.isPic p = true) (V C : Option Addr) (cv cc : Nat) (w : World) (h : PicAt w V cv C p) :
    Calls Tryz.prog 28 #[.agg #[.slice V p.vals.length cv, .slice C p.cells.length cc]] w fun e w' => (∃ B c hs, e = .returned (.tuple #[.agg #[.slice B p.cells.length c], .int .i64 0]) ∧ MO w' w.heap.size B c hs (Ce.memory p)) ∧ Below w.heap.size w w' := by
  have hb0 : Below w.heap.size w ((w.alloc (.cells #[.slice V p.vals.length cv, .slice C p.cells.length cc] 37)).alloc (.cells #[.slice none 0 0] 24)) := ((Below.refl _ _).alloc (Nat.le_refl _) _).alloc (by simp) _
  have hcall := isPicture_any p hp V C cv cc _ (h.below hb0)
  rw [hq] at hcall
  have HC := Lib.hid hcall
  have HMO := Lib.hid (fun W (hh : LsAt W C p.cells) => memoryOf_any p.cells hp.many C cc W hh)
  have hz := sz_memory hp
  have hml := Ce.memory_len p
  have HCO : Hid (∀ B c W, MemAt W B (Ce.memory p) → Calls Tryz.prog 56 #[.agg #[.slice B p.cells.length c]] W fun e w' => (∃ B c hs, e = .returned (.agg #[.slice B p.cells.length c]) ∧ MO w' W.heap.size B c hs (Ce.memory p)) ∧ Below W.heap.size W w') := Lib.hid fun B c W hh => by
    have := copied_any (Ce.memory p) hz B c W hh
    rwa [hml] at this
  have HP := Lib.hid (h.stay.step hb0)
  have hx := (box2 (W := w) (v := .slice V p.vals.length cv) (u := .slice C p.cells.length cc) (t := 37)).alloc (.cells #[.slice none 0 0] 24)
  have hy := Boxed.new (w.alloc (.cells #[.slice V p.vals.length cv, .slice C p.cells.length cc] 37)) 24 (.slice none 0 0)
  simp only [World.size_alloc] at hy
  have HX := Lib.hid hx
  have HY := Lib.hid hy
  have HB := Lib.hid hb0
  clear hcall hp hq h hb0 hz hml hx hy
  go_enter Tryz.func28, Tryz.ntmps28
  go_wp2_with fail
  refine HC.out.mono ?_
  rintro e w1 ⟨rfl, hb1⟩
  have HP1 := Lib.hid (HP.out.step hb1)
  have HX1 := Lib.hid (HX.out.step hb1)
  have HY1 := Lib.hid (HY.out.kept (grown_of_below hb1 none) (by simp))
  have HB1 := Lib.hid (HB.out.trans (hb1.mono HB.out.size))
  have hz1 : w.heap.size + 2 ≤ w1.heap.size := by have := hb1.size; simpa using this
  clear hb1 HP HX HY HB HC
  obtain ⟨x0, x1⟩ := HX1.out.at_
  go_wp2_with fail
  refine (HMO.out _ HP1.out.at_.c).mono ?_
  rintro e w2 ⟨⟨B, c, rfl, hm⟩, hb2⟩
  have hm : MemAt w2 B (Ce.memory p) := hm
  have HY2 := Lib.hid (HY1.out.kept (grown_of_below hb2 none) (by simp))
  have HB2 := Lib.hid (HB1.out.trans (hb2.mono HB1.out.size))
  have hz2 := hb2.size
  clear hb2 HY1 HB1 HP1 HX1 x0 x1
  go_wp2_with fail
  refine (HCO.out _ _ _ hm).mono ?_
  rintro e w3 ⟨⟨B', c', hs, rfl, hmo⟩, hb3⟩
  have HY3 := Lib.hid (HY2.out.kept (grown_of_below hb3 none) (by simp))
  have HB3 := Lib.hid (HB2.out.trans (hb3.mono HB2.out.size))
  have HMO3 := Lib.hid hmo
  clear hb3 HY2 HB2 hm hmo
  have y0 := HY3.out.cell
  have yf := HY3.out.frozen
  go_wp2
  refine bodyPost_ret (results_row_tmp rfl _ _ (w.heap.size + 1) 24 #[.slice B' p.cells.length c'] (0, 0) _ rfl (HY3.out.set _) Tryz.underlying24 rfl mem_size) rfl ?_
  have this := HMO3.out.low (grownBy_setCell' w3 (w.heap.size + 1) (.slice B' p.cells.length c')) (fun k hk => by cases hk; omega)
  have hfin : MO (w3.setCell ⟨w.heap.size + 1, 0, none⟩ (.slice B' p.cells.length c')) w.heap.size B' c' hs (Ce.memory p) := ⟨this.len, Own.base_ this.own (by omega), fun i x s h1 h2 => let y := this.each i x s h1 h2; ⟨y.n1, Own.base_ y.o1 (by omega), y.n2, Own.base_ y.o2 (by omega)⟩, this.apart⟩
  exact ⟨by first | exact ⟨B', c', rfl, hs, hfin⟩ | exact ⟨B', c', hs, rfl, hfin⟩, HB3.out.setCell (by simp) _⟩
end Go.Proofs.YtjldkndalcellaaGreatDoor
