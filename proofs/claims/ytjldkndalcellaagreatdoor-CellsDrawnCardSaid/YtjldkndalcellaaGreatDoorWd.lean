/- Layer 6: the walks of the reference's Draw. -/
import Derived.Test.YtjldkndalcellaaGreatDoorWc
import Derived.Test.YtjldkndalcellaaGreatDoorYl
import Derived.Test.YtjldkndalcellaaGreatDoorYq
namespace Go.Proofs.YtjldkndalcellaaGreatDoor
open Go.RowKit Go.El

set_option maxRecDepth 100000 in
set_option maxHeartbeats 4000000 in
theorem draw6_any (m : Ce.Mem) (hm : Sz m) (l : List Ce.V) (hl : l.length ≤ 1000) (A B : Option Addr) (c c2 : Nat) (w : World) (h1 : MemAt w A m) (h2 : SlAt ValE w ⟨B, l.length, c2⟩ l) :
    Calls Tryz.prog 21 #[.agg #[.slice A m.length c], .slice B l.length c2] w fun e w' => DrawPost m l w' e ∧ Below w.heap.size w w' := by
  have hbx : Below w.heap.size w ((w.alloc (.cells #[.slice A m.length c] 24)).alloc (.cells #[.slice none 0 0, .slice none 0 0] 37)) := ((Below.refl _ _).alloc (Nat.le_refl _) _).alloc (by simp) _
  have HB := Lib.hid hbx
  have HX := Lib.hid ((Blk.new w 24 #[.slice A m.length c]).alloc (.cells #[.slice none 0 0, .slice none 0 0] 37))
  have HY := Lib.hid (Blk.new (w.alloc (.cells #[.slice A m.length c] 24)) 37 #[.slice none 0 0, .slice none 0 0])
  simp only [World.size_alloc] at HY
  have HIM : Hid (∀ E : Nat, Ce.check m = E → Calls Tryz.prog 15 #[.agg #[.slice A m.length c]] ((w.alloc (.cells #[.slice A m.length c] 24)).alloc (.cells #[.slice none 0 0, .slice none 0 0] 37)) fun e w' => e = .returned (.int .i64 E) ∧ Below ((w.alloc (.cells #[.slice A m.length c] 24)).alloc (.cells #[.slice none 0 0, .slice none 0 0] 37)).heap.size ((w.alloc (.cells #[.slice A m.length c] 24)).alloc (.cells #[.slice none 0 0, .slice none 0 0] 37)) w') := Lib.hid fun E he => by
    have := check6_any m hm A c _ (h1.below hbx)
    rw [he] at this
    exact this
  have HDA : Hid (∀ q, Ce.areValues l m.length = q → ∀ W, SlAt ValE W ⟨B, l.length, c2⟩ l → Calls Tryz.prog 47 #[.slice B l.length c2, .int .i64 m.length] W fun e w' => e = .returned (.bool q) ∧ Below W.heap.size W w') := Lib.hid fun q hq W ha => by
    have := areValues_any l (by unfold maxLen; omega) m.length B c2 W ha.arg
    rw [hq] at this
    exact this
  have HARG := Lib.hid (h2.below hbx)
  have HMEM := Lib.hid (h1.below hbx)
  have HDR := Lib.hid (fun W (q1 : Ce.memOk m = true) (q2 : l.length ≤ 100) (q3 : Ce.areValues l m.length = true) hm ha => drawn6_any m q1 l q2 q3 A B c c2 W hm ha)
  have H4 : Hid (Ce.memOk m = false → Ce.draw m l = (⟨[], []⟩, 4)) := Lib.hid fun q => by unfold Ce.draw; rw [q]; rfl
  have H2 : Hid (Ce.memOk m = true → (100 < l.length ∨ Ce.areValues l m.length = false) → Ce.draw m l = (⟨[], []⟩, 2)) := Lib.hid fun q1 q2 => by
    have : (decide (l.length ≤ 100) && Ce.areValues l m.length) = false := by
      rcases q2 with h | h
      · rw [decide_eq_false (by omega)]; rfl
      · rw [h, Bool.and_false]
    unfold Ce.draw; rw [q1, this]; rfl
  have H0 : Hid (Ce.memOk m = true → l.length ≤ 100 → Ce.areValues l m.length = true → Ce.draw m l = (Ce.drawn m l, 0)) := Lib.hid fun q1 q2 q3 => by unfold Ce.draw; rw [q1, decide_eq_true q2, q3]; rfl
  have HLEN := Lib.hid (Ce.drawn_len m l)
  have HNIL : Hid (∀ W, Ce.draw m l = (⟨[], []⟩, 4) ∨ Ce.draw m l = (⟨[], []⟩, 2) → ∀ n : Nat, (n : Int) = (Ce.draw m l).2 → DrawPost m l W (.returned (.tuple #[.agg #[.slice none 0 0, .slice none 0 0], .int .i64 n]))) := Lib.hid fun W h n hn => by
    unfold DrawPost
    rcases h with h | h
    · rw [h] at hn ⊢; exact ⟨none, 0, none, 0, by rw [hn]; rfl, picv_nil W⟩
    · rw [h] at hn ⊢; exact ⟨none, 0, none, 0, by rw [hn]; rfl, picv_nil W⟩
  have HQ1 : Hid ((Ce.memOk m = true → Ce.check m = 0) ∧ (Ce.memOk m = false → Ce.check m = 4)) := Lib.hid ⟨Ce.check_ok, Ce.check_not⟩
  have HQ : Hid ((Ce.memOk m = true ∨ Ce.memOk m = false) ∧ (Ce.areValues l m.length = true ∨ Ce.areValues l m.length = false)) := Lib.hid ⟨by cases Ce.memOk m <;> simp, by cases Ce.areValues l m.length <;> simp⟩
  clear h1 h2 hbx
  rcases HQ.out.1 with hq1 | hq1
  rotate_left
  · have HC := Lib.hid (HIM.out 4 (HQ1.out.2 hq1))
    have HE := Lib.hid (fun W => HNIL.out W (.inl (H4.out hq1)) 4 (by rw [H4.out hq1]))
    clear HDA HDR H2 H0 HNIL H4 HQ HQ1 HIM hq1
    go_enter Tryz.func21, Tryz.ntmps21
    go_wp2_with fail
    refine HC.out.mono ?_
    rintro e w1 ⟨rfl, hb1⟩
    have HY1 := Lib.hid (HY.out.below hb1)
    have HB1 := Lib.hid (HB.out.trans (hb1.mono HB.out.size))
    have z0 := HY1.out.cell 0
    have z1 := HY1.out.cell 1
    have zf0 := HY1.out.frozen 0
    have zf1 := HY1.out.frozen 1
    dsimp at z0 z1
    clear hb1 HY HB
    go_wp2
    refine bodyPost_ret (results_row_tmp rfl _ _ (w.heap.size + 1) 37 #[.slice none 0 0, .slice none 0 0] (0, 0) _ rfl ((HY1.out.set_ 0 _).set_ 1 _) Tryz.underlying37 rfl pic_size) rfl ?_
    exact ⟨HE.out _, (HB1.out.setCell (by simp) _).setCell (by simp) _⟩
  have HC := Lib.hid (HIM.out 0 (HQ1.out.1 hq1))
  clear HIM HQ1
  by_cases h100 : 100 < l.length
  · have h100' : (100 : Int) < l.length := by omega
    have HE := Lib.hid (fun W => HNIL.out W (.inr (H2.out hq1 (.inl h100))) 2 (by rw [H2.out hq1 (.inl h100)]))
    clear HDA HDR H2 H0 HNIL H4 HQ hq1
    go_enter Tryz.func21, Tryz.ntmps21
    go_wp2_with fail
    refine HC.out.mono ?_
    rintro e w1 ⟨rfl, hb1⟩
    have HY1 := Lib.hid (HY.out.below hb1)
    have HB1 := Lib.hid (HB.out.trans (hb1.mono HB.out.size))
    have x0 := (HX.out.below hb1).cell 0
    dsimp at x0
    have z0 := HY1.out.cell 0
    have z1 := HY1.out.cell 1
    have zf0 := HY1.out.frozen 0
    have zf1 := HY1.out.frozen 1
    dsimp at z0 z1
    clear hb1 HY HB
    go_wp2
    refine bodyPost_ret (results_row_tmp rfl _ _ (w.heap.size + 1) 37 #[.slice none 0 0, .slice none 0 0] (0, 0) _ rfl ((HY1.out.set_ 0 _).set_ 1 _) Tryz.underlying37 rfl pic_size) rfl ?_
    exact ⟨HE.out _, (HB1.out.setCell (by simp) _).setCell (by simp) _⟩
  have h100' : decide ((100 : Int) < l.length) = false := decide_eq_false (by omega)
  have HML : Hid (l.length ≤ 100) := Lib.hid (by omega)
  rcases HQ.out.2 with hq2 | hq2
  rotate_left
  · have HE := Lib.hid (fun W => HNIL.out W (.inr (H2.out hq1 (.inr hq2))) 2 (by rw [H2.out hq1 (.inr hq2)]))
    have HDA := Lib.hid (HDA.out _ hq2)
    clear HDR H2 H0 HNIL H4 HQ hq1 hq2
    go_enter Tryz.func21, Tryz.ntmps21
    go_wp2_with fail
    refine HC.out.mono ?_
    rintro e w1 ⟨rfl, hb1⟩
    have HY1 := Lib.hid (HY.out.below hb1)
    have HB1 := Lib.hid (HB.out.trans (hb1.mono HB.out.size))
    have HARG1 := Lib.hid (HARG.out.below hb1)
    have x0 := (HX.out.below hb1).cell 0
    dsimp at x0
    clear hb1 HY HB HX HARG
    go_wp2_with fail
    refine (HDA.out _ HARG1.out).mono ?_
    rintro e w2 ⟨rfl, hb2⟩
    have HY2 := Lib.hid (HY1.out.below hb2)
    have HB2 := Lib.hid (HB1.out.trans (hb2.mono HB1.out.size))
    have z0 := HY2.out.cell 0
    have z1 := HY2.out.cell 1
    have zf0 := HY2.out.frozen 0
    have zf1 := HY2.out.frozen 1
    dsimp at z0 z1
    clear hb2 HY1 HB1 x0
    go_wp2
    refine bodyPost_ret (results_row_tmp rfl _ _ (w.heap.size + 1) 37 #[.slice none 0 0, .slice none 0 0] (0, 0) _ rfl ((HY2.out.set_ 0 _).set_ 1 _) Tryz.underlying37 rfl pic_size) rfl ?_
    exact ⟨HE.out _, (HB2.out.setCell (by simp) _).setCell (by simp) _⟩
  have HE := Lib.hid (H0.out hq1 HML.out hq2)
  have HDA := Lib.hid (HDA.out _ hq2)
  have HDR := Lib.hid (fun W hm ha => HDR.out W hq1 HML.out hq2 hm ha)
  clear H2 H0 HNIL H4 HQ hq1 hq2
  go_enter Tryz.func21, Tryz.ntmps21
  go_wp2_with fail
  refine HC.out.mono ?_
  rintro e w1 ⟨rfl, hb1⟩
  have HY1 := Lib.hid (HY.out.below hb1)
  have HB1 := Lib.hid (HB.out.trans (hb1.mono HB.out.size))
  have HARG1 := Lib.hid (HARG.out.below hb1)
  have HMEM1 := Lib.hid (HMEM.out.below hb1)
  have HX1 := Lib.hid (HX.out.below hb1)
  have x0 := HX1.out.cell 0
  dsimp at x0
  clear hb1 HY HB HX HARG HMEM
  go_wp2_with fail
  refine (HDA.out _ HARG1.out).mono ?_
  rintro e w2 ⟨rfl, hb2⟩
  have HY2 := Lib.hid (HY1.out.below hb2)
  have HB2 := Lib.hid (HB1.out.trans (hb2.mono HB1.out.size))
  have HARG2 := Lib.hid (HARG1.out.below hb2)
  have HMEM2 := Lib.hid (HMEM1.out.below hb2)
  have x0 := (HX1.out.below hb2).cell 0
  dsimp at x0
  clear hb2 HY1 HB1 HARG1 HMEM1 HX1
  go_wp2_with fail
  refine (HDR.out _ HMEM2.out HARG2.out).mono ?_
  rintro e w3 ⟨⟨V1, cv1, C1, cc1, hs1, rfl, ho1, hl1⟩, hb3⟩
  have HY3 := Lib.hid (HY2.out.below hb3)
  have HB3 := Lib.hid (HB2.out.trans (hb3.mono HB2.out.size))
  have HPV := Lib.hid (LO.picV (p := Ce.drawn m l) ho1 hl1)
  have z0 := HY3.out.cell 0
  have z1 := HY3.out.cell 1
  have zf0 := HY3.out.frozen 0
  have zf1 := HY3.out.frozen 1
  dsimp at z0 z1
  have hyl : w.heap.size + 1 < w2.heap.size := HY2.out.lt
  have HPV2 : Hid (PicV ((w3.setCell ⟨w.heap.size + 1, 0, none⟩ (.slice V1 l.length cv1)).setCell ⟨w.heap.size + 1, 1, none⟩ (.slice C1 (Ce.drawn m l).cells.length cc1)) V1 cv1 C1 cc1 (Ce.drawn m l)) := Lib.hid (by
    have hg := (grownBy_setCell1 w3 (w.heap.size + 1) 0 (.slice V1 l.length cv1)).trans (grownBy_setCell1 (w3.setCell ⟨w.heap.size + 1, 0, none⟩ (.slice V1 l.length cv1)) (w.heap.size + 1) 1 (.slice C1 (Ce.drawn m l).cells.length cc1))
    exact LO.picV (p := Ce.drawn m l) (Own.low ho1 hg (fun j hj => by cases hj; omega)) (hl1.low hg (fun j hj => by cases hj; omega)))
  have HEND : Hid (∀ W, PicV W V1 cv1 C1 cc1 (Ce.drawn m l) → DrawPost m l W (.returned (.tuple #[.agg #[.slice V1 l.length cv1, .slice C1 (Ce.drawn m l).cells.length cc1], .int .i64 0]))) := Lib.hid fun W h => by
    unfold DrawPost
    rw [HE.out]
    exact ⟨V1, cv1, C1, cc1, by rw [HLEN.out]; rfl, h⟩
  generalize (Ce.drawn m l).cells.length = nc at *
  clear hb3 HY2 HB2 x0 ho1 hl1 HPV
  go_wp2
  refine bodyPost_ret (results_row_tmp rfl _ _ (w.heap.size + 1) 37 #[.slice V1 l.length cv1, .slice C1 nc cc1] (0, 0) _ rfl ((HY3.out.set_ 0 _).set_ 1 _) Tryz.underlying37 rfl pic_size) rfl ?_
  exact ⟨HEND.out _ HPV2.out, (HB3.out.setCell (by simp) _).setCell (by simp) _⟩
end Go.Proofs.YtjldkndalcellaaGreatDoor
