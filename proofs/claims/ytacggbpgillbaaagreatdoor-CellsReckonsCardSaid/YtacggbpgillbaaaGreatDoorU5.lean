/- CellsReckons, proved: whatever it is given, it returns true, and its arguments read as they did; and its tied card. -/
import Derived.Test.YtacggbpgillbaaaGreatDoorTo
import Derived.Test.YtacggbpgillbaaaGreatDoorTl
import Derived.Test.YtacggbpgillbaaaGreatDoorTB4
import Derived.Test.YtacggbpgillbaaaGreatDoorTx2
import Derived.Test.YtacggbpgillbaaaGreatDoorTz4
import Derived.Test.YtacggbpgillbaaaGreatDoorSq
import Derived.Test.YtacggbpgillbaaaGreatDoorU3
import Derived.Test.YtacggbpgillbaaaGreatDoorU4
import Derived.Test.YtacggbpgillbaaaGreatDoorTie
import Derived.Test.YtacggbpgillbaaaGreatDoorCards
import Derived.SevenTiedAt
import Derived.ChangeMaps5
import Derived.LaidMore
namespace Go.Proofs.YtacggbpgillbaaaGreatDoor
open Go.ChangeShapes Go.WideShapes Go.ChangeAt Go.RowKit Go.El

set_option maxRecDepth 100000 in
theorem reckons_lifted (os : Os) (started : os.Started) (H : Type) (enc : TypeId × Value → H) :
    ReturnsInHanded {} Tryz.checked os 3 .any (fun w args => (Rows.cellsReckonsSpec.pre enc Tryz.prog Tryz.f3 [] false w args ∧ laidMetH Tryz.prog Rows.cellsReckonsRow.laid w) ∧ sizedMet enc Tryz.prog Tryz.f3 (OpenSpec.ofChange Rows.cellsReckonsSpec) false w args)
      (Rows.cellsReckonsSpec.post enc Tryz.prog Tryz.f3 false true false false) := by
  refine returnsInHanded_of_change_and (C := Tryz.checked) (X := fun w _ => laidMetH Tryz.prog Rows.cellsReckonsRow.laid w) (fun _ _ _ hh h => h.of_heap hh) own_knob started (by kernel_rfl) Tryz.func3
    (ChangeSpec.witness_shaped (enc := enc) (C := Tryz.checked) (os := os) (X := fun w _ => laidMetH Tryz.prog Rows.cellsReckonsRow.laid w) false (World.doorLaid Tryz.prog 400 os) #[.string ⟨#[]⟩, .slice none 0 0] 8 rfl (World.shaped_of_RefB (by kernel_rfl) (by kernel_rfl)) (by kernel_rfl) (by kernel_rfl) (by kernel_rfl) (reckons_door os _)) ?_
  intro W base args ds gs before hval0 hW _ _ hL _
  have hval : ∀ (j : Nat) t v, Tryz.f3.params[j]? = some t → args[j]? = some v → Value.okWide Tryz.prog W .any base t v := hval0
  have hW' := hW
  obtain ⟨p, q, hA0, hV, rfl, hfz, hnd⟩ := hW
  have hA : DataW.TrodAll enc Tryz.prog W 0 (fun _ => true) true Tryz.f3.params.toList args.toList ds p := hA0
  rw [Tryz.params3] at hA hval
  obtain ⟨v0, v1, d0, d1, p0, p1, rfl, rfl, rfl, h0, h1⟩ := trodAll_two hA
  obtain ⟨rfl, rfl⟩ := trodVars_none hV
  obtain ⟨s, rfl, rfl, rfl, hs⟩ := ChangeMaps.open_string Tryz.underlying9 (hval 0 9 v0 rfl rfl) h0
  obtain ⟨A, cap, l, hv1, harg, hA0', hlen, hcm⟩ := open_values (hval 1 22 v1 rfl rfl) h1
  subst hv1
  clear hA0 hval0 hA hV
  have hW' : DataW.Whole enc Tryz.checked.prog Tryz.f3.params.toList Rows.cellsReckonsSpec.vars false W [.string s, .slice A l.length cap] [.lit (.string s.data.toList), d1] [] p1 := by simpa using hW'
  have hlt1 : ∀ x ∈ p1, x.block < W.heap.size := fun x hx => hW'.lt x hx
  refine (reckons_any ⟨prim_any, play_a, draw_any, show_any⟩ (fun s w _ => cOperands_any s w) s l hs (by omega) A cap hA0' W harg).mono fun e W' ⟨he, hb⟩ => ?_
  subst he
  refine ⟨_, rfl, post_of_below (ds := [.lit (.string s.data.toList), d1]) (gs := []) (pa := [] ++ p1) (pv := []) hW' (fun _ _ _ => trodAll_mk1 (shut_bool Tryz.underlying4 _)) (fun sp hsp => ?_) (fun _ _ => rfl) (by simp) hb (ok_one (by kernel_rfl) rfl (okWide_bool_mk Tryz.underlying4 _))⟩
  have q1 := WideElems.Trod_stays (sp' := sp) (show laidOutB Tryz.prog = true by kernel_rfl) (by kernel_rfl) (of_decide_eq_true (by kernel_rfl)) h1 (fun x hx => hb.same (hlt1 x hx)) (fun x hx => hsp x hx)
  exact trodAll_mk2 (ChangeMaps.shut_string (enc := enc) (w := W') (base := 0) (sp := sp) (held := true) Tryz.underlying9 hs) q1

theorem cellsReckons_holds : Rows.CellsReckonsSaid :=
  OpenClaim.holds_of_wide 3 Tryz.f3 rfl rfl rfl rfl rfl rfl rfl ⟨rfl, rfl, rfl, rfl, rfl⟩ rfl rfl rfl rfl rfl reckons_named Tryz.func3 reckons_closed
    (of_decide_eq_true (by kernel_rfl)) (by unfold Func.isWrapper; first | (rw [if_pos (by decide +kernel)]; kernel_rfl) | (rw [if_neg (by decide +kernel)]; exact ⟨rfl, rfl⟩))
    (fun os started H enc _ => reckons_lifted os started H enc)

theorem cellsReckons_card : Rows.CellsReckonsCardSaid :=
  Claim7.holds_tied_plain_at .later [] [.data, .data, .data, .data] true (true, "8ff0c39d060ca7005f9edfea675a1b8a74e736012c3a26bfb96f06905f52f772") false
    cellsReckons_holds (fun _ h => by cases h) reckons_wf (fun _ h => by cases h) cellsReckons_row_tie rfl ⟨rfl, rfl⟩ reckons_main rfl
    (fun f fn hf hfn => by
      obtain rfl : f = 3 := Option.some.inj (reckons_func.symm.trans hf) |>.symm
      obtain rfl : fn = Tryz.f3 := (Option.some.inj (Tryz.func3.symm.trans hfn)).symm
      exact ⟨reckons_looks, fun j t ht => by
        rw [Tryz.params3] at ht
        have hm : t ∈ [9, 22] := by simpa using Array.mem_of_getElem? ht
        have hall : ([9, 22].all fun u => !Tryz.prog.wantsStandIn u) = true := by kernel_rfl
        exact (show Tryz.prog.wantsStandIn t = false by simpa using List.all_eq_true.1 hall t hm)⟩)
    reckons_goes
end Go.Proofs.YtacggbpgillbaaaGreatDoor
