/- LexKinds, proved: whatever two tokens it is given, it returns true, and the tokens read as they did. -/
import Derived.Test.YtkhgmoljhehbnaaDoorP1
import Derived.ChangeMaps5
namespace Go.Proofs.YtkhgmoljhehbnaaDoor
open Go.ChangeShapes Go.WideShapes Go.ChangeAt Go.RowKit

theorem kinds_any (ka kb : Nat) (hka : ka < 256) (hkb : kb < 256) (ta tb : ByteArray) (aa ab : Int) (hm : ta.size ≤ maxLen) (hm2 : tb.size ≤ maxLen) (w : World) (he : Env w) :
    Calls Tryd.prog 6 #[.agg #[.int .u8 ka, .string ta, .int .i64 aa], .agg #[.int .u8 kb, .string tb, .int .i64 ab]] w fun e w' => e = .returned (.bool true) ∧ Below w.heap.size w w' := by
  by_cases h : 3000 < ta.size ∨ 3000 < tb.size
  · exact kinds_big ka kb ta tb aa ab hm hm2 h w he
  · exact kinds_small ka kb hka hkb ta tb aa ab (by omega) (by omega) w he

section
variable {H : Type} {enc : TypeId × Value → H} {P : Program}
/-- the last step, where the input leads to no place -/
theorem post_plain {f : Func} {s : ChangeSpec} {apart fresh handsOn again : Bool} {W W' : World} {args : Array Value} {v : Value} {ds gs : List (DataW H)}
    (hW : DataW.Whole enc P f.params.toList s.vars apart W args.toList ds gs [])
    (hres : ∀ (b : Nat) (sp : Nat → Bool) (hd : Bool), DataW.TrodAll enc P W' b sp hd f.resultTypes.toList (v.resultList f.resultTypes.size) (s.fn H (ds ++ gs)).results [])
    (hargs : ∀ sp : Nat → Bool, DataW.TrodAll enc P W' 0 sp true f.params.toList args.toList (s.fn H (ds ++ gs)).args [])
    (hvars : ∀ sp : Nat → Bool, DataW.TrodVars enc P W' sp s.vars (s.fn H (ds ++ gs)).vars [])
    (hb : Below W.heap.size W W')
    (hok : ∀ (j : Nat) (t : TypeId) (r : Value), f.resultTypes[j]? = some t → (v.resultList f.resultTypes.size)[j]? = some r → Value.okWide P W' .any 0 t r) :
    s.post enc P f apart fresh handsOn again W args v W' := by
  refine ⟨ds, gs, [], [], [], [], hW, hres _ _ _, hargs _, hvars _, World.keptBut_mono (fun p hp => ⟨hp, ?_⟩) (hb.frame (· ∈ ([] : List MemPlace))), fun _ => ?_⟩
  · cases hp
  · refine ⟨hok, _, _, [] ++ [], ⟨[], [], trodAll_append (hargs _) (hres _ _ _), hvars _, rfl, ?_, ?_⟩, ?_⟩
    · intro b off hp; cases hp
    · intro _; simp
    · intro p hp _; cases hp
end

set_option maxRecDepth 100000 in
theorem kinds_lifted (os : Os) (started : os.Started) (H : Type) (enc : TypeId × Value → H) :
    ReturnsInHanded {} Tryd.checked os 6 .any (fun w args => (Rows.lexKindsSpec.pre enc Tryd.prog Tryd.f6 [] false w args ∧ laidMetH Tryd.prog Rows.lexKindsRow.laid w) ∧ sizedMet enc Tryd.prog Tryd.f6 (OpenSpec.ofChange Rows.lexKindsSpec) false w args)
      (Rows.lexKindsSpec.post enc Tryd.prog Tryd.f6 false true false false) := by
  refine returnsInHanded_of_change_and (C := Tryd.checked) (X := fun w _ => laidMetH Tryd.prog Rows.lexKindsRow.laid w) (fun _ _ _ hh h => h.of_heap hh) own_knob started (by kernel_rfl) Tryd.func6
    (ChangeSpec.witness_shaped (enc := enc) (C := Tryd.checked) (os := os) (X := fun w _ => laidMetH Tryd.prog Rows.lexKindsRow.laid w) false (World.doorLaid Tryd.prog 400 os) #[.agg #[.int .u8 0, .string ⟨#[]⟩, .int .i64 0], .agg #[.int .u8 0, .string ⟨#[]⟩, .int .i64 0]] 8 rfl (World.shaped_of_RefB (by kernel_rfl) (by kernel_rfl)) (by kernel_rfl) (by kernel_rfl) (by kernel_rfl) (kinds_door os _)) ?_
  intro W base args ds gs before hval0 hW _ _ hL _
  have hval : ∀ (j : Nat) t v, Tryd.f6.params[j]? = some t → args[j]? = some v → Value.okWide Tryd.prog W .any base t v := hval0
  have hW' := hW
  obtain ⟨p, q, hA0, hV, rfl, hfz, hnd⟩ := hW
  have hA : DataW.TrodAll enc Tryd.prog W 0 (fun _ => true) true Tryd.f6.params.toList args.toList ds p := hA0
  rw [Tryd.params6] at hA hval
  obtain ⟨v0, v1, d0, d1, p0, p1, rfl, rfl, rfl, h0, h1⟩ := trodAll_two hA
  obtain ⟨rfl, rfl⟩ := trodVars_none hV
  have cL : Tryd.prog.cellsOf 47 = 3 := by kernel_rfl
  obtain ⟨c0, c1, c2, y0, y1, y2, m, rfl, rfl, rfl, hy0, hy1, hy2⟩ := Joins.open_agg3 Tryd.underlying47 (by kernel_rfl) cL (hval 0 47 v0 rfl rfl) h0
  obtain ⟨g0, g1, g2, z0, z1, z2, m2, rfl, rfl, rfl, hz0, hz1, hz2⟩ := Joins.open_agg3 Tryd.underlying47 (by kernel_rfl) cL (hval 1 47 v1 rfl rfl) h1
  obtain ⟨ka, e0, rfl, wa⟩ := DataW.trod_int Tryd.underlying5 hy0
  obtain ⟨ta, e1, rfl, wt⟩ := DataW.trod_string Tryd.underlying9 hy1
  obtain ⟨aa, e2, rfl, waa⟩ := DataW.trod_int Tryd.underlying3 hy2
  obtain ⟨kb, e3, rfl, wb⟩ := DataW.trod_int Tryd.underlying5 hz0
  obtain ⟨tb, e4, rfl, wt2⟩ := DataW.trod_string Tryd.underlying9 hz1
  obtain ⟨ab, e5, rfl, wab⟩ := DataW.trod_int Tryd.underlying3 hz2
  simp at e0 e1 e2 e3 e4 e5
  subst e0 e1 e2 e3 e4 e5
  clear hA0 hval0 hA hV
  simp only [List.append_nil] at hW'
  have ra : 0 ≤ ka ∧ ka < 256 := by have h1 : IntKind.u8.min = 0 := rfl; have h2 : IntKind.u8.max = 255 := rfl; simp [Lit.wf] at wa; omega
  have rb : 0 ≤ kb ∧ kb < 256 := by have h1 : IntKind.u8.min = 0 := rfl; have h2 : IntKind.u8.max = 255 := rfl; simp [Lit.wf] at wb; omega
  obtain ⟨na, rfl⟩ : ∃ n : Nat, ka = n := ⟨ka.toNat, by omega⟩
  obtain ⟨nb, rfl⟩ : ∃ n : Nat, kb = n := ⟨kb.toNat, by omega⟩
  refine (kinds_any na nb (by omega) (by omega) ta tb aa ab wt wt2 W (kinds_env hL)).mono fun e W' ⟨he, hb⟩ => ?_
  subst he
  have sa : ∀ (b : Nat) (sp : Nat → Bool) (hd : Bool) (W' : World), ∃ n, DataW.trod enc Tryd.prog W' b sp hd n 9 [.string ta] = some (.lit (.string ta.data.toList), []) := fun b sp hd W' => by simpa [DataW.Trod, Value.cells] using (ChangeMaps.shut_string (enc := enc) (w := W') (base := b) (sp := sp) (held := hd) Tryd.underlying9 wt)
  have sb : ∀ (b : Nat) (sp : Nat → Bool) (hd : Bool) (W' : World), ∃ n, DataW.trod enc Tryd.prog W' b sp hd n 9 [.string tb] = some (.lit (.string tb.data.toList), []) := fun b sp hd W' => by simpa [DataW.Trod, Value.cells] using (ChangeMaps.shut_string (enc := enc) (w := W') (base := b) (sp := sp) (held := hd) Tryd.underlying9 wt2)
  refine ⟨_, rfl, post_plain (ds := [.agg [.lit (.int .u8 na), .lit (.string ta.data.toList), .lit (.int .i64 aa)], .agg [.lit (.int .u8 nb), .lit (.string tb.data.toList), .lit (.int .i64 ab)]]) (gs := []) (by simpa using hW') (fun _ _ _ => trodAll_mk1 (shut_bool Tryd.underlying4 _)) (fun sp => ?_) (fun _ => rfl) hb (ok_one (by kernel_rfl) rfl (okWide_bool_mk Tryd.underlying4 _))⟩
  have q1 := Joins.shut_agg3 (enc := enc) (w := W') (base := 0) (spare := sp) (held := true) Tryd.underlying47 (by kernel_rfl) cL ⟨_, trod_int_mk 0 Tryd.underlying5 wa⟩ (sa 0 sp true W') ⟨_, trod_int_mk 0 Tryd.underlying3 waa⟩
  have q2 := Joins.shut_agg3 (enc := enc) (w := W') (base := 0) (spare := sp) (held := true) Tryd.underlying47 (by kernel_rfl) cL ⟨_, trod_int_mk 0 Tryd.underlying5 wb⟩ (sb 0 sp true W') ⟨_, trod_int_mk 0 Tryd.underlying3 wab⟩
  exact trodAll_mk2 (p := []) (p' := []) q1 q2

theorem lexKinds_holds : Rows.LexKindsSaid :=
  OpenClaim.holds_of_wide 6 Tryd.f6 rfl rfl rfl rfl rfl rfl rfl ⟨rfl, rfl, rfl, rfl, rfl⟩ rfl rfl rfl rfl rfl (by kernel_rfl) Tryd.func6 (by kernel_rfl)
    (of_decide_eq_true (by kernel_rfl)) (by unfold Func.isWrapper; first | (rw [if_pos (by decide +kernel)]; kernel_rfl) | (rw [if_neg (by decide +kernel)]; exact ⟨rfl, rfl⟩))
    (fun os started H enc _ => kinds_lifted os started H enc)
end Go.Proofs.YtkhgmoljhehbnaaDoor
