/- CellsDrawn, proved: whatever it is given, it returns true, and its arguments read as they did; and its tied card. No condition. -/
import Derived.Test.YtjldkndalcellaaGreatDoorYi
import Derived.Test.YtjldkndalcellaaGreatDoorYo
import Derived.Test.YtjldkndalcellaaGreatDoorYl
import Derived.Test.YtjldkndalcellaaGreatDoorYm
import Derived.Test.YtjldkndalcellaaGreatDoorXe
import Derived.Test.YtjldkndalcellaaGreatDoorYp
import Derived.Test.YtjldkndalcellaaGreatDoorFc
import Derived.Test.YtjldkndalcellaaGreatDoorGc
namespace Go.Proofs.YtjldkndalcellaaGreatDoor
open Go.ChangeShapes Go.WideShapes Go.ChangeAt Go.RowKit Go.El

set_option maxRecDepth 100000 in
theorem cellsDrawn_lifted (os : Os) (started : os.Started) (H : Type) (enc : TypeId × Value → H) :
    ReturnsInHanded {} Tryz.checked os 7 .any (fun w args => (Rows.cellsDrawnSpec.pre enc Tryz.prog Tryz.f7 [] false w args ∧ laidMetH Tryz.prog Rows.cellsDrawnRow.laid w) ∧ sizedMet enc Tryz.prog Tryz.f7 (OpenSpec.ofChange Rows.cellsDrawnSpec) false w args)
      (Rows.cellsDrawnSpec.post enc Tryz.prog Tryz.f7 false true false false) := by
  refine returnsInHanded_of_change_and (C := Tryz.checked) (X := fun w _ => laidMetH Tryz.prog Rows.cellsDrawnRow.laid w) (fun _ _ _ hh h => h.of_heap hh) own_knob started (by kernel_rfl) Tryz.func7
    (ChangeSpec.witness_shaped (enc := enc) (C := Tryz.checked) (os := os) (X := fun w _ => laidMetH Tryz.prog Rows.cellsDrawnRow.laid w) false (World.doorLaid Tryz.prog 400 os) #[.agg #[.slice none 0 0, .slice none 0 0]] 8 rfl (World.shaped_of_RefB (by kernel_rfl) (by kernel_rfl)) (by kernel_rfl) (by kernel_rfl) (by kernel_rfl) (cellsDrawn_door os _)) ?_
  intro W base args ds gs before hval0 hW _ _ hL _
  have hval : ∀ (j : Nat) t v, Tryz.f7.params[j]? = some t → args[j]? = some v → Value.okWide Tryz.prog W .any base t v := hval0
  have hW' := hW
  obtain ⟨p, q, hA0, hV, rfl, hfz, hnd⟩ := hW
  have hA : DataW.TrodAll enc Tryz.prog W 0 (fun _ => true) true Tryz.f7.params.toList args.toList ds p := hA0
  rw [Tryz.params7] at hA hval
  obtain ⟨v0, d0, rfl, rfl, h0⟩ := trodAll_one hA
  obtain ⟨rfl, rfl⟩ := trodVars_none hV
  obtain ⟨A0, c0, B0, e0, m0, hv0, hm0, hg0⟩ := open_picture (hval 0 37 v0 rfl rfl) h0
  subst hv0
  clear hA0 hval0 hA hV
  have hW' : DataW.Whole enc Tryz.checked.prog Tryz.f7.params.toList Rows.cellsDrawnSpec.vars false W [.agg #[.slice A0 m0.vals.length c0, .slice B0 m0.cells.length e0]] [d0] [] (p) := by simpa using hW'
  have hlt1 : ∀ x ∈ p, x.block < W.heap.size := fun x hx => hW'.lt x hx
  refine (drawnLaw_any ⟨prim_any, play_a, draw_any, show_any⟩ m0 hg0 A0 B0 c0 e0 W hm0.at_).mono fun e W' ⟨he, hb⟩ => ?_
  subst he
  refine ⟨_, rfl, post_of_below (ds := [d0]) (gs := []) (pa := p) (pv := []) hW' (fun _ _ _ => trodAll_mk1 (shut_bool Tryz.underlying4 _)) (fun sp hsp => ?_) (fun _ _ => rfl) (by simp) hb (ok_one (by kernel_rfl) rfl (okWide_bool_mk Tryz.underlying4 _))⟩
  have r0 := WideElems.Trod_stays (sp' := sp) (show laidOutB Tryz.prog = true by kernel_rfl) (by kernel_rfl) (of_decide_eq_true (by kernel_rfl)) h0 (fun x hx => hb.same (hlt1 x (by simp [hx]))) (fun x hx => hsp x (by simp [hx]))
  skip
  exact trodAll_mk1 r0

theorem cellsDrawn_holds : Rows.CellsDrawnSaid :=
  OpenClaim.holds_of_wide 7 Tryz.f7 rfl rfl rfl rfl rfl rfl rfl ⟨rfl, rfl, rfl, rfl, rfl⟩ rfl rfl rfl rfl rfl cellsDrawn_named Tryz.func7 cellsDrawn_closed
    (of_decide_eq_true (by kernel_rfl)) (by unfold Func.isWrapper; first | (rw [if_pos (by decide +kernel)]; kernel_rfl) | (rw [if_neg (by decide +kernel)]; exact ⟨rfl, rfl⟩))
    (fun os started H enc _ => cellsDrawn_lifted os started H enc)

theorem cellsDrawn_card : Rows.CellsDrawnCardSaid :=
  Claim7.holds_tied_plain_at .later [] [.data, .data, .data, .data] true (true, "707ef8b073346df9e11223088edd6547071e7ec2b30287a8e0bf4f094b3ee9fe") false
    cellsDrawn_holds (fun _ h => by cases h) cellsDrawn_wf (fun _ h => by cases h) cellsDrawn_row_tie rfl ⟨rfl, rfl⟩ cellsDrawn_main rfl
    (fun f fn hf hfn => by
      obtain rfl : f = 7 := Option.some.inj (cellsDrawn_func.symm.trans hf) |>.symm
      obtain rfl : fn = Tryz.f7 := (Option.some.inj (Tryz.func7.symm.trans hfn)).symm
      exact ⟨cellsDrawn_looks, fun j t ht => by
        rw [Tryz.params7] at ht
        have hm : t ∈ [37] := by simpa using Array.mem_of_getElem? ht
        have hall : ([37].all fun u => !Tryz.prog.wantsStandIn u) = true := by kernel_rfl
        exact (show Tryz.prog.wantsStandIn t = false by simpa using List.all_eq_true.1 hall t hm)⟩)
    cellsDrawn_goes
end Go.Proofs.YtjldkndalcellaaGreatDoor
