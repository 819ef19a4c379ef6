/- CellsChecks, proved: whatever it is given, it returns true, and its arguments read as they did; and its tied card. No condition. -/
import Derived.Test.YtjldkndalcellaaGreatDoorYi
import Derived.Test.YtjldkndalcellaaGreatDoorYo
import Derived.Test.YtjldkndalcellaaGreatDoorYl
import Derived.Test.YtjldkndalcellaaGreatDoorYm
import Derived.Test.YtjldkndalcellaaGreatDoorVe
import Derived.Test.YtjldkndalcellaaGreatDoorYp
import Derived.Test.YtjldkndalcellaaGreatDoorFa
import Derived.Test.YtjldkndalcellaaGreatDoorGa
namespace Go.Proofs.YtjldkndalcellaaGreatDoor
open Go.ChangeShapes Go.WideShapes Go.ChangeAt Go.RowKit Go.El

set_option maxRecDepth 100000 in
theorem cellsChecks_lifted (os : Os) (started : os.Started) (H : Type) (enc : TypeId × Value → H) :
    ReturnsInHanded {} Tryz.checked os 3 .any (fun w args => (Rows.cellsChecksSpec.pre enc Tryz.prog Tryz.f3 [] false w args ∧ laidMetH Tryz.prog Rows.cellsChecksRow.laid w) ∧ sizedMet enc Tryz.prog Tryz.f3 (OpenSpec.ofChange Rows.cellsChecksSpec) false w args)
      (Rows.cellsChecksSpec.post enc Tryz.prog Tryz.f3 false true false false) := by
  refine returnsInHanded_of_change_and (C := Tryz.checked) (X := fun w _ => laidMetH Tryz.prog Rows.cellsChecksRow.laid w) (fun _ _ _ hh h => h.of_heap hh) own_knob started (by kernel_rfl) Tryz.func3
    (ChangeSpec.witness_shaped (enc := enc) (C := Tryz.checked) (os := os) (X := fun w _ => laidMetH Tryz.prog Rows.cellsChecksRow.laid w) false (World.doorLaid Tryz.prog 400 os) #[.agg #[.slice none 0 0]] 8 rfl (World.shaped_of_RefB (by kernel_rfl) (by kernel_rfl)) (by kernel_rfl) (by kernel_rfl) (by kernel_rfl) (cellsChecks_door os _)) ?_
  intro W base args ds gs before hval0 hW _ _ hL _
  have hval : ∀ (j : Nat) t v, Tryz.f3.params[j]? = some t → args[j]? = some v → Value.okWide Tryz.prog W .any base t v := hval0
  have hW' := hW
  obtain ⟨p, q, hA0, hV, rfl, hfz, hnd⟩ := hW
  have hA : DataW.TrodAll enc Tryz.prog W 0 (fun _ => true) true Tryz.f3.params.toList args.toList ds p := hA0
  rw [Tryz.params3] at hA hval
  obtain ⟨v0, d0, rfl, rfl, h0⟩ := trodAll_one hA
  obtain ⟨rfl, rfl⟩ := trodVars_none hV
  obtain ⟨A0, c0, m0, hv0, hm0, hg0⟩ := open_memory (hval 0 24 v0 rfl rfl) h0
  subst hv0
  clear hA0 hval0 hA hV
  have hW' : DataW.Whole enc Tryz.checked.prog Tryz.f3.params.toList Rows.cellsChecksSpec.vars false W [.agg #[.slice A0 m0.length c0]] [d0] [] (p) := by simpa using hW'
  have hlt1 : ∀ x ∈ p, x.block < W.heap.size := fun x hx => hW'.lt x hx
  refine (checks_any ⟨prim_any, play_a, draw_any, show_any⟩ m0 hg0 A0 c0 W hm0.at_).mono fun e W' ⟨he, hb⟩ => ?_
  subst he
  refine ⟨_, rfl, post_of_below (ds := [d0]) (gs := []) (pa := p) (pv := []) hW' (fun _ _ _ => trodAll_mk1 (shut_bool Tryz.underlying4 _)) (fun sp hsp => ?_) (fun _ _ => rfl) (by simp) hb (ok_one (by kernel_rfl) rfl (okWide_bool_mk Tryz.underlying4 _))⟩
  have r0 := WideElems.Trod_stays (sp' := sp) (show laidOutB Tryz.prog = true by kernel_rfl) (by kernel_rfl) (of_decide_eq_true (by kernel_rfl)) h0 (fun x hx => hb.same (hlt1 x (by simp [hx]))) (fun x hx => hsp x (by simp [hx]))
  exact trodAll_mk1 r0

theorem cellsChecks_holds : Rows.CellsChecksSaid :=
  OpenClaim.holds_of_wide 3 Tryz.f3 rfl rfl rfl rfl rfl rfl rfl ⟨rfl, rfl, rfl, rfl, rfl⟩ rfl rfl rfl rfl rfl cellsChecks_named Tryz.func3 cellsChecks_closed
    (of_decide_eq_true (by kernel_rfl)) (by unfold Func.isWrapper; first | (rw [if_pos (by decide +kernel)]; kernel_rfl) | (rw [if_neg (by decide +kernel)]; exact ⟨rfl, rfl⟩))
    (fun os started H enc _ => cellsChecks_lifted os started H enc)

theorem cellsChecks_card : Rows.CellsChecksCardSaid :=
  Claim7.holds_tied_plain_at .later [] [.data, .data, .data, .data] true (true, "707ef8b073346df9e11223088edd6547071e7ec2b30287a8e0bf4f094b3ee9fe") false
    cellsChecks_holds (fun _ h => by cases h) cellsChecks_wf (fun _ h => by cases h) cellsChecks_row_tie rfl ⟨rfl, rfl⟩ cellsChecks_main rfl
    (fun f fn hf hfn => by
      obtain rfl : f = 3 := Option.some.inj (cellsChecks_func.symm.trans hf) |>.symm
      obtain rfl : fn = Tryz.f3 := (Option.some.inj (Tryz.func3.symm.trans hfn)).symm
      exact ⟨cellsChecks_looks, fun j t ht => by
        rw [Tryz.params3] at ht
        have hm : t ∈ [24] := by simpa using Array.mem_of_getElem? ht
        have hall : ([24].all fun u => !Tryz.prog.wantsStandIn u) = true := by kernel_rfl
        exact (show Tryz.prog.wantsStandIn t = false by simpa using List.all_eq_true.1 hall t hm)⟩)
    cellsChecks_goes
end Go.Proofs.YtjldkndalcellaaGreatDoor
