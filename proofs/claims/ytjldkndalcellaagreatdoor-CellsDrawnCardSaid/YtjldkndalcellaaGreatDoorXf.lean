/- Layer 6, the program: Draw where there is a picture, with what the call owns. -/
import Derived.Test.YtjldkndalcellaaGreatDoorXd
namespace Go.Proofs.YtjldkndalcellaaGreatDoor
open Go.RowKit Go.El

def DrawnOwn (p : Ce.Pic) (n : Nat) (w w' : World) (e : Ending) : Prop := ∃ V cv C cc hs, e = .returned (.tuple #[.agg #[.slice V n cv, .slice C p.cells.length cc], .int .i64 0]) ∧ ValE.Own 57 w' w.heap.size V cv p.vals ∧ LO w' w.heap.size C cc hs p.cells
set_option maxRecDepth 100000 in
set_option maxHeartbeats 4000000 in
theorem cdraw_own (m : Ce.Mem) (hm : Sz m) (l : List Ce.V) (hq1 : Ce.memOk m = true) (hq2 : l.length ≤ 100) (hq3 : Ce.areValues l m.length = true) (A B : Option Addr) (c c2 : Nat) (w : World) (h1 : MemAt w A m) (h2 : ValE.Arg w B l) :
    Calls Tryz.prog 20 #[.agg #[.slice A m.length c], .slice B l.length c2] w fun e w' => DrawnOwn (Ce.drawn m l) l.length w w' e ∧ Below w.heap.size w w' := by
  have hbx : Below w.heap.size w ((w.alloc (.cells #[.slice A m.length c] 24)).alloc (.cells #[.slice none 0 0, .slice none 0 0] 37)) := ((Below.refl _ _).alloc (Nat.le_refl _) _).alloc (by simp) _
  have HB := Lib.hid hbx
  have HX := Lib.hid ((Blk.new w 24 #[.slice A m.length c]).alloc (.cells #[.slice none 0 0, .slice none 0 0] 37))
  have HY := Lib.hid (Blk.new (w.alloc (.cells #[.slice A m.length c] 24)) 37 #[.slice none 0 0, .slice none 0 0])
  simp only [World.size_alloc] at HY
  have him := isMemory_any m hm A c _ (h1.below hbx)
  rw [hq1] at him
  have HIM := Lib.hid him
  have HDA : Hid (∀ W, ValE.Arg W B l → Calls Tryz.prog 48 #[.agg #[.slice A m.length c], .slice B l.length c2] W fun e w' => e = .returned (.bool true) ∧ Below W.heap.size W w') := Lib.hid fun W ha => by
    have := drawable_any m.length A c l (by omega) B c2 W ha
    rw [decide_eq_true hq2, hq3] at this
    exact this
  have HARG := Lib.hid (h2.below hbx)
  have HMEM := Lib.hid (h1.below hbx)
  have HDR := Lib.hid (fun W hm ha => drawn_any m hq1 l hq2 hq3 A B c c2 W hm ha)
  generalize Ce.drawn m l = D at *
  clear h1 h2 hbx him hq1 hq3
  go_enter Tryz.func20, Tryz.ntmps20
  go_wp2_with fail
  refine HIM.out.mono ?_
  rintro e w1 ⟨rfl, hb1⟩
  have HY1 := Lib.hid (HY.out.below hb1)
  have HB1 := Lib.hid (HB.out.trans (hb1.mono HB.out.size))
  have HARG1 := Lib.hid (HARG.out.below hb1)
  have HMEM1 := Lib.hid (HMEM.out.below hb1)
  have HX1 := Lib.hid (HX.out.below hb1)
  have x0 := HX1.out.cell 0
  dsimp at x0
  clear hb1 HY HB HX HARG HMEM
  go_wp2_with fail
  refine (HDA.out _ HARG1.out).mono ?_
  rintro e w2 ⟨rfl, hb2⟩
  have HY2 := Lib.hid (HY1.out.below hb2)
  have HB2 := Lib.hid (HB1.out.trans (hb2.mono HB1.out.size))
  have HARG2 := Lib.hid (HARG1.out.below hb2)
  have HMEM2 := Lib.hid (HMEM1.out.below hb2)
  have x0 := (HX1.out.below hb2).cell 0
  dsimp at x0
  clear hb2 HY1 HB1 HARG1 HMEM1 HX1
  go_wp2_with fail
  refine (HDR.out _ HMEM2.out HARG2.out).mono ?_
  rintro e w3 ⟨⟨V1, cv1, C1, cc1, hs1, rfl, ho1, hl1⟩, hb3⟩
  have HY3 := Lib.hid (HY2.out.below hb3)
  have HB3 := Lib.hid (HB2.out.trans (hb3.mono HB2.out.size))
  have z0 := HY3.out.cell 0
  have z1 := HY3.out.cell 1
  have zf0 := HY3.out.frozen 0
  have zf1 := HY3.out.frozen 1
  dsimp at z0 z1
  have hyl : w.heap.size + 1 < w2.heap.size := HY2.out.lt
  have HPV2 : Hid (ValE.Own 57 ((w3.setCell ⟨w.heap.size + 1, 0, none⟩ (.slice V1 l.length cv1)).setCell ⟨w.heap.size + 1, 1, none⟩ (.slice C1 D.cells.length cc1)) w.heap.size V1 cv1 D.vals ∧ LO ((w3.setCell ⟨w.heap.size + 1, 0, none⟩ (.slice V1 l.length cv1)).setCell ⟨w.heap.size + 1, 1, none⟩ (.slice C1 D.cells.length cc1)) w.heap.size C1 cc1 hs1 D.cells) := Lib.hid (by
    have hg := (grownBy_setCell1 w3 (w.heap.size + 1) 0 (.slice V1 l.length cv1)).trans (grownBy_setCell1 (w3.setCell ⟨w.heap.size + 1, 0, none⟩ (.slice V1 l.length cv1)) (w.heap.size + 1) 1 (.slice C1 D.cells.length cc1))
    exact ⟨Own.base_ (Own.low ho1 hg (fun j hj => by cases hj; omega)) (by omega), (hl1.low hg (fun j hj => by cases hj; omega)).base_ (by omega)⟩)
  clear hb3 HY2 HB2 x0 ho1 hl1
  go_wp2
  refine bodyPost_ret (results_row_tmp rfl _ _ (w.heap.size + 1) 37 #[.slice V1 l.length cv1, .slice C1 D.cells.length cc1] (0, 0) _ rfl ((HY3.out.set_ 0 _).set_ 1 _) Tryz.underlying37 rfl pic_size) rfl ?_
  exact ⟨⟨V1, cv1, C1, cc1, hs1, rfl, HPV2.out.1, HPV2.out.2⟩, (HB3.out.setCell (by simp) _).setCell (by simp) _⟩
end Go.Proofs.YtjldkndalcellaaGreatDoor
