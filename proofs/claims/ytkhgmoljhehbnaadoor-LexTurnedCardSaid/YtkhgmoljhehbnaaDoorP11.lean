/- LexTurned, proved: whatever tokens it is given, it returns true; and its tied card. -/
import Derived.Test.YtkhgmoljhehbnaaDoorN4
import Derived.Test.YtkhgmoljhehbnaaDoorF3
import Derived.Test.YtkhgmoljhehbnaaDoorP2
import Derived.Test.YtkhgmoljhehbnaaDoorTie
import Derived.Test.YtkhgmoljhehbnaaDoorCards
import Derived.SevenTiedAt
namespace Go.Proofs.YtkhgmoljhehbnaaDoor
open Go.ChangeShapes Go.WideShapes Go.ChangeAt Go.RowKit

set_option maxRecDepth 100000 in
theorem open_bytes {H : Type} {enc : TypeId × Value → H} {w : World} {base b0 : Nat} {spare : Nat → Bool} {held : Bool} {r : Reach} {v : Value} {d : DataW H} {p : List MemPlace}
    (hv : Value.okWide Tryd.prog w r b0 60 v) (h : DataW.Trod enc Tryd.prog w base spare held 60 v d p) :
    ∃ A cap bs, v = .slice A (bs : List Nat).length cap ∧ BytesArg w A bs ∧ (∀ c ∈ bs, c < 256) ∧ bs.length ≤ maxLen := by
  obtain ⟨a0, len0, cap0, rfl⟩ := okWide_slice Tryd.underlying60 hv
  obtain ⟨fuel, hf⟩ := h
  rcases Go.Deep.open_slice1 Tryd.underlying60 (by kernel_rfl) hf with ⟨hcs, _⟩ | ⟨a, len, cap, m, n, V, D, Pl, hcs, _, hl, hm, hmm, _, hi⟩
  · simp only [Value.cells] at hcs
    injection hcs with hcs _
    injection hcs with e1 e2 e3
    subst e1 e2 e3
    exact ⟨none, 0, [], rfl, ⟨fun h => absurd rfl h⟩, by simp, Nat.zero_le _⟩
  · simp only [Value.cells] at hcs
    injection hcs with hcs _
    injection hcs with e1 e2 e3
    subst e1 e2 e3
    have hlm : len0 ≤ m := by rw [hmm]; split <;> omega
    have hex : ∀ i, i < len0 → ∃ c : Nat, w.cell? (a.add i) = some (.int .u8 c) ∧ c < 256 := by
      intro i hil
      obtain ⟨h1, h2⟩ := hi i (by omega)
      obtain ⟨k, e0, _, wk⟩ := DataW.trod_int Tryd.underlying5 h2
      simp at e0
      rw [e0] at h1
      have rk : 0 ≤ k ∧ k < 256 := by have h1 : IntKind.u8.min = 0 := rfl; have h2 : IntKind.u8.max = 255 := rfl; simp [Lit.wf] at wk; omega
      obtain ⟨nk, rfl⟩ : ∃ n : Nat, k = n := ⟨k.toNat, by omega⟩
      exact ⟨nk, h1, by omega⟩
    obtain ⟨F, hF⟩ := Go.Deep.choose_lt hex
    refine ⟨some a, cap0, (List.range len0).map F, by simp, ⟨fun hne => ?_⟩, ?_, (by simp; omega)⟩
    · have hpos : 0 < len0 := by
        rcases Nat.eq_zero_or_pos len0 with h0 | h0
        · subst h0; exact absurd rfl hne
        · exact h0
      have hsp := World.cell?_spot (hF 0 hpos).1
      obtain ⟨b, o, sp⟩ := a
      simp only [Addr.add, if_true] at hsp
      subst hsp
      refine ⟨b, o, rfl, fun i c hc => ?_⟩
      rw [List.getElem?_map] at hc
      cases hr : (List.range len0)[i]? with
      | none => rw [hr] at hc; simp at hc
      | some j =>
        obtain ⟨hij, hj⟩ := List.getElem?_eq_some_iff.1 hr
        simp at hij hj
        subst hj
        rw [hr] at hc
        simp at hc
        subst hc
        have h0 := (hF i hij).1
        rw [add_eq] at h0
        exact h0
    · intro c hc
      obtain ⟨i, hi', rfl⟩ := List.mem_map.1 hc
      exact (hF i (List.mem_range.1 hi')).2


theorem turned_door (os : Os) (args : Array Value) : laidMetH Tryd.prog Rows.lexTurnedRow.laid ((World.doorLaid Tryd.prog 400 os).forCall (fun _ _ => 0) ⟨#[], args, []⟩).memory :=
  laidMetH_of_parts3 (fuel := 8) (laidMet_of_run' 8 (by kernel_rfl) (by kernel_rfl)) (by kernel_rfl) (by kernel_rfl)
theorem turned_env {W : World} (h : laidMetH Tryd.prog Rows.lexTurnedRow.laid W) : Env W := kinds_env h

set_option maxRecDepth 100000 in
theorem turned_lifted (os : Os) (started : os.Started) (H : Type) (enc : TypeId × Value → H) :
    ReturnsInHanded {} Tryd.checked os 13 .any (fun w args => (Rows.lexTurnedSpec.pre enc Tryd.prog Tryd.f13 [] false w args ∧ laidMetH Tryd.prog Rows.lexTurnedRow.laid w) ∧ sizedMet enc Tryd.prog Tryd.f13 (OpenSpec.ofChange Rows.lexTurnedSpec) false w args)
      (Rows.lexTurnedSpec.post enc Tryd.prog Tryd.f13 false true false false) := by
  refine returnsInHanded_of_change_and (C := Tryd.checked) (X := fun w _ => laidMetH Tryd.prog Rows.lexTurnedRow.laid w) (fun _ _ _ hh h => h.of_heap hh) own_knob started (by kernel_rfl) Tryd.func13
    (ChangeSpec.witness_shaped (enc := enc) (C := Tryd.checked) (os := os) (X := fun w _ => laidMetH Tryd.prog Rows.lexTurnedRow.laid w) false (World.doorLaid Tryd.prog 400 os) #[.slice none 0 0, .int .u8 0] 8 rfl (World.shaped_of_RefB (by kernel_rfl) (by kernel_rfl)) (by kernel_rfl) (by kernel_rfl) (by kernel_rfl) (turned_door os _)) ?_
  intro W base args ds gs before hval0 hW _ _ hL _
  have hval : ∀ (j : Nat) t v, Tryd.f13.params[j]? = some t → args[j]? = some v → Value.okWide Tryd.prog W .any base t v := hval0
  have hW' := hW
  obtain ⟨p, q, hA0, hV, rfl, hfz, hnd⟩ := hW
  have hA : DataW.TrodAll enc Tryd.prog W 0 (fun _ => true) true Tryd.f13.params.toList args.toList ds p := hA0
  rw [Tryd.params13] at hA hval
  obtain ⟨v0, v1, d0, d1, p0, p1, rfl, rfl, rfl, h0, h1⟩ := trodAll_two hA
  obtain ⟨rfl, rfl⟩ := trodVars_none hV
  obtain ⟨n, rfl⟩ := okWide_int Tryd.underlying5 (hval 1 5 v1 rfl rfl)
  obtain ⟨f1, hf1⟩ := h1
  obtain ⟨n', e1, e2, wn⟩ := DataW.trod_int Tryd.underlying5 hf1
  simp only [Value.cells] at e1
  injection e1 with e1 _
  injection e1 with _ e1
  subst e1
  injection e2 with e2 e3
  subst e2 e3
  have rn : 0 ≤ n ∧ n < 256 := by have h1 : IntKind.u8.min = 0 := rfl; have h2 : IntKind.u8.max = 255 := rfl; simp [Lit.wf] at wn; omega
  obtain ⟨nn, rfl⟩ : ∃ m : Nat, n = m := ⟨n.toNat, by omega⟩
  obtain ⟨A, cap, bs, hv0, harg, hb, hlen⟩ := open_bytes (hval 0 60 v0 rfl rfl) h0
  subst hv0
  clear hA0 hval0 hA hV
  have hW' : DataW.Whole enc Tryd.checked.prog Tryd.f13.params.toList Rows.lexTurnedSpec.vars false W [.slice A bs.length cap, .int .u8 nn] [d0, .lit (.int .u8 nn)] [] p0 := by simpa using hW'
  have hlt1 : ∀ x ∈ p0, x.block < W.heap.size := fun x hx => hW'.lt x hx
  refine (turned_any bs hb hlen A cap nn (by omega) W (turned_env hL) harg).mono fun e W' ⟨he, hb⟩ => ?_
  subst he
  refine ⟨_, rfl, post_of_below (ds := [d0, .lit (.int .u8 nn)]) (gs := []) (pa := p0 ++ []) (pv := []) hW' (fun _ _ _ => trodAll_mk1 (shut_bool Tryd.underlying4 _)) (fun sp hsp => ?_) (fun _ _ => rfl) (by simp) hb (ok_one (by kernel_rfl) rfl (okWide_bool_mk Tryd.underlying4 _))⟩
  have q1 := WideElems.Trod_stays (sp' := sp) (show laidOutB Tryd.prog = true by kernel_rfl) (by kernel_rfl) (of_decide_eq_true (by kernel_rfl)) h0 (fun x hx => hb.same (hlt1 x hx)) (fun x hx => hsp x hx)
  exact trodAll_mk2 q1 ⟨_, trod_int_mk 0 Tryd.underlying5 wn⟩

theorem lexTurned_holds : Rows.LexTurnedSaid :=
  OpenClaim.holds_of_wide 13 Tryd.f13 rfl rfl rfl rfl rfl rfl rfl ⟨rfl, rfl, rfl, rfl, rfl⟩ rfl rfl rfl rfl rfl (by kernel_rfl) Tryd.func13 (by kernel_rfl)
    (of_decide_eq_true (by kernel_rfl)) (by unfold Func.isWrapper; first | (rw [if_pos (by decide +kernel)]; kernel_rfl) | (rw [if_neg (by decide +kernel)]; exact ⟨rfl, rfl⟩))
    (fun os started H enc _ => turned_lifted os started H enc)

theorem lexTurned_card : Rows.LexTurnedCardSaid :=
  Claim7.holds_tied_plain_at .later [] [.data, .data, .data, .sentinel, .sentinel] true (true, "f51a4df611f266c61089f3f16e5fd496e205699899bcbcf703f8f4943d053c1c") true
    lexTurned_holds (fun _ h => by cases h) (by kernel_rfl) (fun _ h => by cases h) lexTurned_row_tie rfl ⟨rfl, rfl⟩ (by kernel_rfl) rfl
    (fun f fn hf hfn => by
      obtain rfl : f = 13 := Option.some.inj ((show Tryd.prog.funcNamed "floodgate/floodgatelaw01.LexTurned" = some 13 by kernel_rfl).symm.trans hf) |>.symm
      obtain rfl : fn = Tryd.f13 := (Option.some.inj (Tryd.func13.symm.trans hfn)).symm
      exact ⟨by kernel_rfl, fun j t ht => by
        rw [Tryd.params13] at ht
        have hm : t ∈ [60, 5] := by simpa using Array.mem_of_getElem? ht
        have hall : ([60, 5].all fun u => !Tryd.prog.wantsStandIn u) = true := by kernel_rfl
        exact (show Tryd.prog.wantsStandIn t = false by simpa using List.all_eq_true.1 hall t hm)⟩)
    (by kernel_rfl)
end Go.Proofs.YtkhgmoljhehbnaaDoor
