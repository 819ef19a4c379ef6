/- RegionLeast, proved: whatever it is given, it returns true, and its arguments read as they did. No condition. -/
import Derived.Test.YthagelnimmfhbaaRw
import Derived.Test.YthagelnimmfhbaaRz
import Derived.Test.YthagelnimmfhbaaR0
namespace Go.Proofs.Ythagelnimmfhbaa
open Go.ChangeShapes Go.WideShapes Go.ChangeAt Go.RowKit Go.El

set_option maxRecDepth 100000 in
theorem regionLeast_lifted (os : Os) (started : os.Started) (H : Type) (enc : TypeId × Value → H) :
    ReturnsInHanded {} Try.checked os 11 .any (Rows.regionLeastSpec.pre6 enc Try.prog Try.f11 Rows.regionLeastRow.domain false) (Rows.regionLeastSpec.post enc Try.prog Try.f11 false true false false) := by
  refine returnsInHanded_of_change (C := Try.checked) own_knob started (by kernel_rfl) Try.func11
    (ChangeSpec.witness6 (enc := enc) (C := Try.checked) false ⟨#[], #[.slice none 0 0], []⟩ 8 (by kernel_rfl) (by kernel_rfl) (by kernel_rfl) (by kernel_rfl)) ?_
  intro W base args ds gs before hval0 hW _ _
  have hval : ∀ (j : Nat) t v, Try.f11.params[j]? = some t → args[j]? = some v → Value.okWide Try.prog W .any base t v := hval0
  have hW' := hW
  obtain ⟨p, q0, hA0, hV, rfl, hfz, hnd⟩ := hW
  have hTr : DataW.TrodAll enc Try.prog W 0 (fun _ => true) true Try.f11.params.toList args.toList ds p := hA0
  rw [Try.params11] at hTr hval
  obtain ⟨v0, vs0, d0, ds0, p0, pr0, hargs, rfl, rfl, h0, r0⟩ := trodAll_cons hTr
  obtain ⟨rfl, rfl, rfl⟩ := trodAll_nil r0
  obtain rfl : args = #[v0] := by cases args; simp_all
  obtain ⟨rfl, rfl⟩ := trodVars_none hV
  obtain ⟨A, cap, l, rfl, harg, hA, hlc, hcm⟩ := open_parts (hval 0 31 v0 rfl rfl) h0
  clear hA0 hval0
  simp only [List.append_nil] at hW'
  have hlt : ∀ x ∈ p0 ++ [], x.block < W.heap.size := fun x hx => hW'.lt x (by simpa using hx)
  refine (least_law prg l (Nat.le_trans hlc hcm) A cap hA W harg).mono fun e W' ⟨he, hb⟩ => ?_
  subst he
  refine ⟨_, rfl, post_of_below (ds := [d0]) (gs := []) (pa := p0 ++ []) (pv := []) (by simpa using hW') (fun _ _ _ => (trodAll_cons_mk (shut_bool Try.underlying4 _) trodAll_mk0)) (fun sp hsp => ?_) (fun _ _ => rfl) (by simp) hb (ok_one (by kernel_rfl) rfl (okWide_bool_mk Try.underlying4 _))⟩
  have hlo : laidOutB Try.prog = true := by kernel_rfl
  exact (trodAll_cons_mk (WideElems.Trod_stays hlo (by kernel_rfl) (of_decide_eq_true (by kernel_rfl)) h0 (fun x hx => hb.same (hlt x (by simp [hx]))) (fun x hx => hsp x (by simp [hx]))) trodAll_mk0)

theorem regionLeast_holds : Rows.RegionLeastSaid :=
  OpenClaim.holds_of_wide 11 Try.f11 rfl rfl rfl rfl rfl rfl rfl ⟨rfl, rfl, rfl, rfl, rfl⟩ rfl rfl rfl rfl rfl (by kernel_rfl) Try.func11 (by kernel_rfl)
    (of_decide_eq_true (by kernel_rfl)) (by unfold Func.isWrapper; first | (rw [if_pos (by decide +kernel)]; kernel_rfl) | (rw [if_neg (by decide +kernel)]; exact ⟨rfl, rfl⟩))
    (fun os started H enc _ => regionLeast_lifted os started H enc)
end Go.Proofs.Ythagelnimmfhbaa
