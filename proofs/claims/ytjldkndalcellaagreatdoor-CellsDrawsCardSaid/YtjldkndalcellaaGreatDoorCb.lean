/- CellsDraws, proved: whatever it is given, it returns true, and its arguments read as they did; and its tied card. No condition. -/
import Derived.Test.YtjldkndalcellaaGreatDoorYi
import Derived.Test.YtjldkndalcellaaGreatDoorYo
import Derived.Test.YtjldkndalcellaaGreatDoorYl
import Derived.Test.YtjldkndalcellaaGreatDoorYm
import Derived.Test.YtjldkndalcellaaGreatDoorWh
import Derived.Test.YtjldkndalcellaaGreatDoorYp
import Derived.Test.YtjldkndalcellaaGreatDoorFb
import Derived.Test.YtjldkndalcellaaGreatDoorGb
namespace Go.Proofs.YtjldkndalcellaaGreatDoor
open Go.ChangeShapes Go.WideShapes Go.ChangeAt Go.RowKit Go.El

set_option maxRecDepth 100000 in
theorem cellsDraws_lifted (os : Os) (started : os.Started) (H : Type) (enc : TypeId × Value → H) :
    ReturnsInHanded {} Tryz.checked os 4 .any (fun w args => (Rows.cellsDrawsSpec.pre enc Tryz.prog Tryz.f4 [] false w args ∧ laidMetH Tryz.prog Rows.cellsDrawsRow.laid w) ∧ sizedMet enc Tryz.prog Tryz.f4 (OpenSpec.ofChange Rows.cellsDrawsSpec) false w args)
      (Rows.cellsDrawsSpec.post enc Tryz.prog Tryz.f4 false true false false) := by
  refine returnsInHanded_of_change_and (C := Tryz.checked) (X := fun w _ => laidMetH Tryz.prog Rows.cellsDrawsRow.laid w) (fun _ _ _ hh h => h.of_heap hh) own_knob started (by kernel_rfl) Tryz.func4
    (ChangeSpec.witness_shaped (enc := enc) (C := Tryz.checked) (os := os) (X := fun w _ => laidMetH Tryz.prog Rows.cellsDrawsRow.laid w) false (World.doorLaid Tryz.prog 400 os) #[.agg #[.slice none 0 0], .slice none 0 0, .agg #[.slice none 0 0, .slice none 0 0]] 8 rfl (World.shaped_of_RefB (by kernel_rfl) (by kernel_rfl)) (by kernel_rfl) (by kernel_rfl) (by kernel_rfl) (cellsDraws_door os _)) ?_
  intro W base args ds gs before hval0 hW _ _ hL _
  have hval : ∀ (j : Nat) t v, Tryz.f4.params[j]? = some t → args[j]? = some v → Value.okWide Tryz.prog W .any base t v := hval0
  have hW' := hW
  obtain ⟨p, q, hA0, hV, rfl, hfz, hnd⟩ := hW
  have hA : DataW.TrodAll enc Tryz.prog W 0 (fun _ => true) true Tryz.f4.params.toList args.toList ds p := hA0
  rw [Tryz.params4] at hA hval
  obtain ⟨v0, v1, v2, d0, d1, d2, p0, p1, p2, rfl, rfl, rfl, h0, h1, h2⟩ := trodAll_three hA
  obtain ⟨rfl, rfl⟩ := trodVars_none hV
  obtain ⟨A0, c0, m0, hv0, hm0, hg0⟩ := open_memory (hval 0 24 v0 rfl rfl) h0
  subst hv0
  obtain ⟨A1, c1, l1, hv1, hm1, hn1, hl1, hc1⟩ := open_values (hval 1 34 v1 rfl rfl) h1
  subst hv1
  obtain ⟨A2, c2, B2, e2, m2, hv2, hm2, hg2⟩ := open_picture (hval 2 37 v2 rfl rfl) h2
  subst hv2
  clear hA0 hval0 hA hV
  have hW' : DataW.Whole enc Tryz.checked.prog Tryz.f4.params.toList Rows.cellsDrawsSpec.vars false W [.agg #[.slice A0 m0.length c0], .slice A1 l1.length c1, .agg #[.slice A2 m2.vals.length c2, .slice B2 m2.cells.length e2]] [d0, d1, d2] [] (p0 ++ p1 ++ p2) := by simpa using hW'
  have hlt1 : ∀ x ∈ p0 ++ p1 ++ p2, x.block < W.heap.size := fun x hx => hW'.lt x hx
  refine (draws_any ⟨prim_any, play_a, draw_any, show_any⟩ m0 hg0 l1 (by omega) m2 hg2 A0 A1 A2 B2 c0 c1 c2 e2 W hm0.at_ ⟨rfl, hm1, hn1, hl1⟩ hm2.at_).mono fun e W' ⟨he, hb⟩ => ?_
  subst he
  refine ⟨_, rfl, post_of_below (ds := [d0, d1, d2]) (gs := []) (pa := p0 ++ p1 ++ p2) (pv := []) hW' (fun _ _ _ => trodAll_mk1 (shut_bool Tryz.underlying4 _)) (fun sp hsp => ?_) (fun _ _ => rfl) (by simp) hb (ok_one (by kernel_rfl) rfl (okWide_bool_mk Tryz.underlying4 _))⟩
  have r0 := WideElems.Trod_stays (sp' := sp) (show laidOutB Tryz.prog = true by kernel_rfl) (by kernel_rfl) (of_decide_eq_true (by kernel_rfl)) h0 (fun x hx => hb.same (hlt1 x (by simp [hx]))) (fun x hx => hsp x (by simp [hx]))
  have r1 := WideElems.Trod_stays (sp' := sp) (show laidOutB Tryz.prog = true by kernel_rfl) (by kernel_rfl) (of_decide_eq_true (by kernel_rfl)) h1 (fun x hx => hb.same (hlt1 x (by simp [hx]))) (fun x hx => hsp x (by simp [hx]))
  have r2 := WideElems.Trod_stays (sp' := sp) (show laidOutB Tryz.prog = true by kernel_rfl) (by kernel_rfl) (of_decide_eq_true (by kernel_rfl)) h2 (fun x hx => hb.same (hlt1 x (by simp [hx]))) (fun x hx => hsp x (by simp [hx]))
  rw [List.append_assoc]
  exact trodAll_mk3 r0 r1 r2

theorem cellsDraws_holds : Rows.CellsDrawsSaid :=
  OpenClaim.holds_of_wide 4 Tryz.f4 rfl rfl rfl rfl rfl rfl rfl ⟨rfl, rfl, rfl, rfl, rfl⟩ rfl rfl rfl rfl rfl cellsDraws_named Tryz.func4 cellsDraws_closed
    (of_decide_eq_true (by kernel_rfl)) (by unfold Func.isWrapper; first | (rw [if_pos (by decide +kernel)]; kernel_rfl) | (rw [if_neg (by decide +kernel)]; exact ⟨rfl, rfl⟩))
    (fun os started H enc _ => cellsDraws_lifted os started H enc)

theorem cellsDraws_card : Rows.CellsDrawsCardSaid :=
  Claim7.holds_tied_plain_at .later [] [.data, .data, .data, .data] true (true, "707ef8b073346df9e11223088edd6547071e7ec2b30287a8e0bf4f094b3ee9fe") false
    cellsDraws_holds (fun _ h => by cases h) cellsDraws_wf (fun _ h => by cases h) cellsDraws_row_tie rfl ⟨rfl, rfl⟩ cellsDraws_main rfl
    (fun f fn hf hfn => by
      obtain rfl : f = 4 := Option.some.inj (cellsDraws_func.symm.trans hf) |>.symm
      obtain rfl : fn = Tryz.f4 := (Option.some.inj (Tryz.func4.symm.trans hfn)).symm
      exact ⟨cellsDraws_looks, fun j t ht => by
        rw [Tryz.params4] at ht
        have hm : t ∈ [24, 34, 37] := by simpa using Array.mem_of_getElem? ht
        have hall : ([24, 34, 37].all fun u => !Tryz.prog.wantsStandIn u) = true := by kernel_rfl
        exact (show Tryz.prog.wantsStandIn t = false by simpa using List.all_eq_true.1 hall t hm)⟩)
    cellsDraws_goes
end Go.Proofs.YtjldkndalcellaaGreatDoor
