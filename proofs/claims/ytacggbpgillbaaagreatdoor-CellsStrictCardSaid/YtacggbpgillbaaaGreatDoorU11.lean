/- CellsStrict: the law where one is no value; what the kernel finds of its row. CellsStrict, proved: whatever it is given, it returns true, and its arguments read as they did; and its tied card. -/
import Derived.Test.YtacggbpgillbaaaGreatDoorSw1
import Derived.Test.YtacggbpgillbaaaGreatDoorU1
import Derived.Test.YtacggbpgillbaaaGreatDoorTie
import Derived.Test.YtacggbpgillbaaaGreatDoorCards
import Derived.SevenTiedAt
import Derived.LaidMore
import Derived.Test.YtacggbpgillbaaaGreatDoorTo
import Derived.Test.YtacggbpgillbaaaGreatDoorTB4
import Derived.Test.YtacggbpgillbaaaGreatDoorTx2
import Derived.Test.YtacggbpgillbaaaGreatDoorTz4
import Derived.Test.YtacggbpgillbaaaGreatDoorU7
import Derived.Test.YtacggbpgillbaaaGreatDoorU10
import Derived.ChangeMaps5
namespace Go.Proofs.YtacggbpgillbaaaGreatDoor
open Go.ChangeShapes Go.WideShapes Go.ChangeAt Go.RowKit Go.El

set_option maxRecDepth 100000 in
set_option maxHeartbeats 4000000 in
theorem strict_out (h : Prg) (a b : Ce.V) (hv : Ce.isValue a (-1) = false ∨ Ce.isValue a (-1) = true ∧ Ce.isValue b (-1) = false) (w : World) :
    Calls Tryz.prog 12 #[.agg #[.int .u8 a.k, .int .i64 a.n], .agg #[.int .u8 b.k, .int .i64 b.n]] w fun e w' => e = .returned (.bool true) ∧ Below w.heap.size w w' := by
  have HAW := Lib.hid (fun W => awake_any h W)
  rcases hv with hva | ⟨hva, hvb⟩
  · have HVA := Lib.hid (fun W => hva ▸ isValue_any a (-1) W)
    obtain ⟨ak, an⟩ := a
    obtain ⟨bk, bn⟩ := b
    have HX := Lib.hid (twoboxes0 (W := w) (a := .int .u8 ak) (b := .int .i64 an) (c := .int .u8 bk) (d := .int .i64 bn) (t := 26))
    have HB := Lib.hid (bb2 w (.cells #[.int .u8 ak, .int .i64 an] 26) (.cells #[.int .u8 bk, .int .i64 bn] 26))
    clear h hva
    dsimp only at *
    go_enter Tryz.func12, Tryz.ntmps12
    go_wp2_with fail
    refine (HVA.out _).mono ?_
    rintro e w1 ⟨rfl, hb1⟩
    have HB1 := Lib.hid (HB.out.trans (hb1.mono HB.out.size))
    clear hb1 HX HB HVA
    go_wp2_with fail
    refine (HAW.out _).mono ?_
    rintro e w2 ⟨rfl, hb2⟩
    have HB2 := Lib.hid (HB1.out.trans (hb2.mono HB1.out.size))
    clear hb2
    go_wp2
    go_ret
    exact ⟨rfl, HB2.out⟩
  · have HVA := Lib.hid (fun W => hva ▸ isValue_any a (-1) W)
    have HVB := Lib.hid (fun W => hvb ▸ isValue_any b (-1) W)
    obtain ⟨ak, an⟩ := a
    obtain ⟨bk, bn⟩ := b
    have HX := Lib.hid (twoboxes0 (W := w) (a := .int .u8 ak) (b := .int .i64 an) (c := .int .u8 bk) (d := .int .i64 bn) (t := 26))
    have HB := Lib.hid (bb2 w (.cells #[.int .u8 ak, .int .i64 an] 26) (.cells #[.int .u8 bk, .int .i64 bn] 26))
    clear h hva hvb
    dsimp only at *
    go_enter Tryz.func12, Tryz.ntmps12
    go_wp2_with fail
    refine (HVA.out _).mono ?_
    rintro e w1 ⟨rfl, hb1⟩
    have HX1 := Lib.hid (HX.out.step hb1)
    have HB1 := Lib.hid (HB.out.trans (hb1.mono HB.out.size))
    clear hb1 HX HB HVA
    obtain ⟨⟨a0, a1⟩, b0, b1⟩ := HX1.out.at_
    go_wp2_with fail
    refine (HVB.out _).mono ?_
    rintro e w2 ⟨rfl, hb2⟩
    have HB2 := Lib.hid (HB1.out.trans (hb2.mono HB1.out.size))
    clear hb2 a0 a1 b0 b1
    go_wp2_with fail
    refine (HAW.out _).mono ?_
    rintro e w3 ⟨rfl, hb3⟩
    have HB3 := Lib.hid (HB2.out.trans (hb3.mono HB2.out.size))
    clear hb3
    go_wp2
    go_ret
    exact ⟨rfl, HB3.out⟩
theorem strict_any (h : Prg) (a b : Ce.V) (w : World) :
    Calls Tryz.prog 12 #[.agg #[.int .u8 a.k, .int .i64 a.n], .agg #[.int .u8 b.k, .int .i64 b.n]] w fun e w' => e = .returned (.bool true) ∧ Below w.heap.size w w' := by
  cases ha : Ce.isValue a (-1) with
  | false => exact strict_out h a b (.inl ha) w
  | true => cases hb : Ce.isValue b (-1) with
    | false => exact strict_out h a b (.inr ⟨ha, hb⟩) w
    | true => exact strict_in h a b ha hb w
set_option maxRecDepth 100000 in
theorem open_value {H : Type} {enc : TypeId × Value → H} {w : World} {base b0 : Nat} {spare : Nat → Bool} {held : Bool} {r : Reach} {v : Value} {d : DataW H} {p : List MemPlace}
    (hv : Value.okWide Tryz.prog w r b0 26 v) (h : DataW.Trod enc Tryz.prog w base spare held 26 v d p) : ∃ q : Ce.V, v = .agg #[.int .u8 q.k, .int .i64 q.n] := by
  obtain ⟨cs, rfl, _⟩ := okWide_struct Tryz.underlying26 hv
  obtain ⟨fuel, hf⟩ := h
  obtain ⟨q, hq⟩ := read_value hf
  refine ⟨q, ?_⟩
  have : cs = (vC q).toArray := by rw [← hq]; simp [Value.cells]
  rw [this]
  rfl
end Go.Proofs.YtacggbpgillbaaaGreatDoor

namespace Go.Proofs.YtacggbpgillbaaaGreatDoor
open Go.ChangeShapes Go.WideShapes Go.ChangeAt Go.RowKit Go.El

set_option maxRecDepth 100000 in
theorem strictly_lifted (os : Os) (started : os.Started) (H : Type) (enc : TypeId × Value → H) :
    ReturnsInHanded {} Tryz.checked os 12 .any (fun w args => (Rows.cellsStrictSpec.pre enc Tryz.prog Tryz.f12 [] false w args ∧ laidMetH Tryz.prog Rows.cellsStrictRow.laid w) ∧ sizedMet enc Tryz.prog Tryz.f12 (OpenSpec.ofChange Rows.cellsStrictSpec) false w args)
      (Rows.cellsStrictSpec.post enc Tryz.prog Tryz.f12 false true false false) := by
  refine returnsInHanded_of_change_and (C := Tryz.checked) (X := fun w _ => laidMetH Tryz.prog Rows.cellsStrictRow.laid w) (fun _ _ _ hh h => h.of_heap hh) own_knob started (by kernel_rfl) Tryz.func12
    (ChangeSpec.witness_shaped (enc := enc) (C := Tryz.checked) (os := os) (X := fun w _ => laidMetH Tryz.prog Rows.cellsStrictRow.laid w) false (World.doorLaid Tryz.prog 400 os) #[.agg #[.int .u8 0, .int .i64 0], .agg #[.int .u8 0, .int .i64 0]] 8 rfl (World.shaped_of_RefB (by kernel_rfl) (by kernel_rfl)) (by kernel_rfl) (by kernel_rfl) (by kernel_rfl) (strictly_door os _)) ?_
  intro W base args ds gs before hval0 hW _ _ hL _
  have hval : ∀ (j : Nat) t v, Tryz.f12.params[j]? = some t → args[j]? = some v → Value.okWide Tryz.prog W .any base t v := hval0
  have hW' := hW
  obtain ⟨p, q, hA0, hV, rfl, hfz, hnd⟩ := hW
  have hA : DataW.TrodAll enc Tryz.prog W 0 (fun _ => true) true Tryz.f12.params.toList args.toList ds p := hA0
  rw [Tryz.params12] at hA hval
  obtain ⟨v0, v1, d0, d1, p0, p1, rfl, rfl, rfl, h0, h1⟩ := trodAll_two hA
  obtain ⟨rfl, rfl⟩ := trodVars_none hV
  obtain ⟨q0, hq0⟩ := open_value (hval 0 26 v0 rfl rfl) h0
  obtain ⟨q1, hq1⟩ := open_value (hval 1 26 v1 rfl rfl) h1
  subst hq0 hq1
  clear hA0 hval0 hA hV
  have hW' : DataW.Whole enc Tryz.checked.prog Tryz.f12.params.toList Rows.cellsStrictSpec.vars false W [.agg #[.int .u8 q0.k, .int .i64 q0.n], .agg #[.int .u8 q1.k, .int .i64 q1.n]] [d0, d1] [] (p0 ++ p1) := by simpa using hW'
  have hlt1 : ∀ x ∈ p0 ++ p1, x.block < W.heap.size := fun x hx => hW'.lt x hx
  refine (strict_any ⟨prim_any, play_a, draw_any, show_any⟩ q0 q1 W).mono fun e W' ⟨he, hb⟩ => ?_
  subst he
  refine ⟨_, rfl, post_of_below (ds := [d0, d1]) (gs := []) (pa := p0 ++ p1) (pv := []) hW' (fun _ _ _ => trodAll_mk1 (shut_bool Tryz.underlying4 _)) (fun sp hsp => ?_) (fun _ _ => rfl) (by simp) hb (ok_one (by kernel_rfl) rfl (okWide_bool_mk Tryz.underlying4 _))⟩
  have r0 := WideElems.Trod_stays (sp' := sp) (show laidOutB Tryz.prog = true by kernel_rfl) (by kernel_rfl) (of_decide_eq_true (by kernel_rfl)) h0 (fun x hx => hb.same (hlt1 x (by simp [hx]))) (fun x hx => hsp x (by simp [hx]))
  have r1 := WideElems.Trod_stays (sp' := sp) (show laidOutB Tryz.prog = true by kernel_rfl) (by kernel_rfl) (of_decide_eq_true (by kernel_rfl)) h1 (fun x hx => hb.same (hlt1 x (by simp [hx]))) (fun x hx => hsp x (by simp [hx]))
  exact trodAll_mk2 r0 r1

theorem cellsStrict_holds : Rows.CellsStrictSaid :=
  OpenClaim.holds_of_wide 12 Tryz.f12 rfl rfl rfl rfl rfl rfl rfl ⟨rfl, rfl, rfl, rfl, rfl⟩ rfl rfl rfl rfl rfl strictly_named Tryz.func12 strictly_closed
    (of_decide_eq_true (by kernel_rfl)) (by unfold Func.isWrapper; first | (rw [if_pos (by decide +kernel)]; kernel_rfl) | (rw [if_neg (by decide +kernel)]; exact ⟨rfl, rfl⟩))
    (fun os started H enc _ => strictly_lifted os started H enc)

theorem cellsStrict_card : Rows.CellsStrictCardSaid :=
  Claim7.holds_tied_plain_at .later [] [.data, .data, .data, .data] true (true, "8ff0c39d060ca7005f9edfea675a1b8a74e736012c3a26bfb96f06905f52f772") false
    cellsStrict_holds (fun _ h => by cases h) strictly_wf (fun _ h => by cases h) cellsStrict_row_tie rfl ⟨rfl, rfl⟩ strictly_main rfl
    (fun f fn hf hfn => by
      obtain rfl : f = 12 := Option.some.inj (strictly_func.symm.trans hf) |>.symm
      obtain rfl : fn = Tryz.f12 := (Option.some.inj (Tryz.func12.symm.trans hfn)).symm
      exact ⟨strictly_looks, fun j t ht => by
        rw [Tryz.params12] at ht
        have hm : t ∈ [26, 26] := by simpa using Array.mem_of_getElem? ht
        have hall : ([26, 26].all fun u => !Tryz.prog.wantsStandIn u) = true := by kernel_rfl
        exact (show Tryz.prog.wantsStandIn t = false by simpa using List.all_eq_true.1 hall t hm)⟩)
    strictly_goes
end Go.Proofs.YtacggbpgillbaaaGreatDoor
