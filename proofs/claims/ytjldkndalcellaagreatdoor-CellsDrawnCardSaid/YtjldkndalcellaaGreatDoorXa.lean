/- Layer 6, the program: copied. -/
import Derived.Test.YtjldkndalcellaaGreatDoorYj
namespace Go.Proofs.YtjldkndalcellaaGreatDoor
open Go.RowKit Go.El

/-- a load that the region's end turns: kept from being taken first -/
def ldC14 : Oper := { dst := some 14, op := Op.load 22 (Operand.tmp 13), type := 22, pos := "memory.go:54", after := #[{ on := 0, ground := Ground.data }], guard := none }
attribute [local go_sem] ldC14
set_option maxRecDepth 100000 in
set_option maxHeartbeats 4000000 in
theorem copied_any (m : Ce.Mem) (hm : Sz m) (A : Option Addr) (cap : Nat) (w : World) (h : MemAt w A m) :
    Calls Tryz.prog 56 #[.agg #[.slice A m.length cap]] w fun e w' => (∃ B c hs, e = .returned (.agg #[.slice B m.length c]) ∧ MO w' w.heap.size B c hs m) ∧ Below w.heap.size w w' := by
  have hm0 := hm.many
  have hml : (m.length : Int) ≤ 9223372036854775807 := by omega
  have HSZ := Lib.hid hm.each
  have hb1 : Below w.heap.size w (w.alloc (Obj.cells #[.slice A m.length cap] 24)) := (Below.refl _ _).alloc (Nat.le_refl _) _
  have HA := Lib.hid h
  have HS0 := Lib.hid (((Boxed.new w 24 (.slice A m.length cap)).alloc (.cells #[.slice none 0 0] 24)).alloc (.cells #[.slice none 0 0] 24))
  have HB0 := Lib.hid ((hb1.alloc (by simp) (.cells #[.slice none 0 0] 24)).alloc (by simp; omega) (.cells #[.slice none 0 0] 24))
  have HX0 := Lib.hid ((Boxed.new (w.alloc (Obj.cells #[.slice A m.length cap] 24)) 24 (.slice none 0 0)).alloc (.cells #[.slice none 0 0] 24))
  have HY0 := Lib.hid (Boxed.new ((w.alloc (Obj.cells #[.slice A m.length cap] 24)).alloc (.cells #[.slice none 0 0] 24)) 24 (.slice none 0 0))
  simp only [World.size_alloc] at HX0 HY0
  clear hm h hb1
  go_enter Tryz.func56, Tryz.ntmps56
  go_wp2_with fail
  go_loopw [9] (fun i wr => ∃ (k : Nat) (B : Option Addr) (c : Nat) (hs : List (Sl × Sl)), k ≤ m.length ∧ i = .int .i64 k ∧ Hid (Boxed wr w.heap.size 24 (.slice A m.length cap)) ∧ Hid (Boxed wr (w.heap.size + 1) 24 (.slice none 0 0)) ∧ Hid (Boxed wr (w.heap.size + 1 + 1) 24 (.slice B k c)) ∧ Hid (MO wr (w.heap.size + 3) B c hs (m.take k)) ∧ w.heap.size + 3 ≤ wr.heap.size ∧ Hid (Below w.heap.size w wr)) (fun i _ => m.length - (intOf i).toNat)
  case atStart => exact ⟨0, none, 0, [], Nat.zero_le _, rfl, HS0, HX0, HY0, Lib.hid (MO.nil _ _), by simp, HB0⟩
  case round =>
    clear HS0 HX0 HY0 HB0
    obtain ⟨k, B, c, hs, hk, rfl, HS, HX, HY, HM, hsz, HB⟩ := hrel
    have mA := HA.out.below HB.out
    have x0 := HS.out.cell
    have y0 := HY.out.cell
    by_cases hlt : k < m.length
    · have hlt' : (k : Int) < m.length := by omega
      obtain ⟨s, hs'⟩ : ∃ x, m[k]? = some x := ⟨_, List.getElem?_eq_getElem hlt⟩
      obtain ⟨hsz1, hsz2⟩ := HSZ.out k s hs'
      obtain ⟨b1, o1, A1, c1, A2, c2, rfl, hz1, x1, x2, P1, P2⟩ := mA.at4 hs'
      have HP := Lib.hid ((SlAt_stay P1).and (SlAt_stay P2))
      have HTK : Hid (m.take (k + 1) = m.take k ++ [s]) := Lib.hid (by rw [List.take_add_one, hs']; rfl)
      obtain ⟨cs, ws⟩ := s
      dsimp only at hsz1 hsz2 x1 x2 HP
      clear mA P1 P2 hs'
      have hq0 : w.heap.size < wr.heap.size := by omega
      have hq2 : w.heap.size + 1 + 1 < wr.heap.size := by omega
      have HHL : Hid (hs.length = k) := Lib.hid (by rw [HM.out.len, List.length_take]; omega)
      have HG := Lib.hid (box2 (W := wr) (v := .slice A1 cs.length c1) (u := .slice A2 ws.length c2) (t := 61))
      have HB5 : Hid (Below wr.heap.size wr (wr.alloc (Obj.cells #[.slice A1 cs.length c1, .slice A2 ws.length c2] 61))) := Lib.hid ((Below.refl _ _).alloc (Nat.le_refl _) _)
      have HZ5 : Hid ((wr.alloc (Obj.cells #[.slice A1 cs.length c1, .slice A2 ws.length c2] 61)).heap.size = wr.heap.size + 1) := Lib.hid (by simp)
      go_wp2_with fail
      generalize hWC : wr.alloc _ = wc at *
      clear hWC
      have HS := Lib.hid (HS.out.kept (grown_of_below HB5.out none) (by simp))
      have HX := Lib.hid (HX.out.kept (grown_of_below HB5.out none) (by simp))
      have HY := Lib.hid (HY.out.kept (grown_of_below HB5.out none) (by simp))
      have HP := Lib.hid (HP.out.step HB5.out)
      have HNE : Hid (∀ j, (Value.slice B hs.length c).ownBlock = some j → w.heap.size + 3 ≤ j ∧ j < wr.heap.size) := Lib.hid fun j hj => HM.out.own.lt j hj
      have HM := Lib.hid (HM.out.below HB5.out)
      have HB := Lib.hid (HB.out.trans (HB5.out.mono (by omega)))
      obtain ⟨g0, g1⟩ := HG.out.at_
      have y0 := HY.out.cell
      have lc0 : w.heap.size + 1 + 1 < wc.heap.size := HY.out.lt
      have lc1 : wr.heap.size < wc.heap.size := lt_of_cell g0
      have HV : Hid (∀ W, Below wc.heap.size wc W → Calls Tryz.prog 83 #[.slice A1 cs.length c1] W fun e w' => (∃ AV cV, e = .returned (.slice AV cs.length cV) ∧ ValE.Own 57 w' wc.heap.size AV cV cs) ∧ Below W.heap.size W w' ∧ Below wc.heap.size wc w') :=
        Lib.hid fun W hb => (valClone_any cs (by omega) A1 c1 W (HP.out W hb).1.arg).mono fun e w' ⟨⟨AV, cV, he, ho⟩, hb2⟩ => ⟨⟨AV, cV, he, Own.base_ ho hb.size⟩, hb2, hb.trans (hb2.mono hb.size)⟩
      have HR : Hid (∀ W, Below wc.heap.size wc W → Calls Tryz.prog 84 #[.slice A2 ws.length c2] W fun e w' => (∃ AR cR, e = .returned (.slice AR ws.length cR) ∧ RdE.Own 86 w' wc.heap.size AR cR ws) ∧ Below W.heap.size W w' ∧ Below wc.heap.size wc w') :=
        Lib.hid fun W hb => (rdClone_any ws (by omega) A2 c2 W (HP.out W hb).2.arg).mono fun e w' ⟨⟨AV, cV, he, ho⟩, hb2⟩ => ⟨⟨AV, cV, he, Own.base_ ho hb.size⟩, hb2, hb.trans (hb2.mono hb.size)⟩
      have STAY : Hid (∀ W, Below wc.heap.size wc W → (W.cell? ⟨wr.heap.size, 0, none⟩ = some (.slice A1 cs.length c1) ∧ W.cell? ⟨wr.heap.size, 1, none⟩ = some (.slice A2 ws.length c2)) ∧ W.cell? ⟨w.heap.size + 1 + 1, 0, none⟩ = some (.slice B k c) ∧ wr.heap.size < W.heap.size ∧ w.heap.size + 1 + 1 < W.heap.size) :=
        Lib.hid fun W hb => ⟨HG.out W hb, (HY.out.kept (grown_of_below hb none) (by simp)).cell, by have := hb.size; omega, by have := hb.size; omega⟩
      have hne5 : w.heap.size + 1 + 1 ≠ wr.heap.size := by omega
      have hne6 : wr.heap.size ≠ w.heap.size + 1 + 1 := by omega
      rw [show ({ dst := some 14, op := Op.load 22 (Operand.tmp 13), type := 22, pos := "memory.go:54", after := #[{ on := 0, ground := Ground.data }], guard := none } : Oper) = ldC14 from rfl]
      go_region_held3 (fun W => W.cell? ⟨wr.heap.size, 0, none⟩ = some (.slice A1 cs.length c1) ∧ W.cell? ⟨wr.heap.size, 1, none⟩ = some (.slice A2 ws.length c2))
        (go_keep)
        (first
          | (refine step_append_any StE _ rfl _ _ 22 61 rfl Tryz.underlying22 st_info rfl (w.heap.size + 3) B c _ hs [(⟨AV, cs.length, cV⟩, ⟨A3, ws.length, c3⟩)] _ _ _ rfl HHL.out.symm rfl rfl (fun hh => by cases hh) (Own.below (Own.below HM.out.own hX) ((Below.refl _ _).alloc (Nat.le_refl _) _)) (row_arg (K := StE) rfl rfl) (by simp [maxLen]; have := HHL.out; omega) (by simp; have := HHL.out; omega) (by have := hX.size; simp; omega) ?_; intro A4 c4 w4 hown4 hgrow4; have hne4 := fun j hj => HNE.out j hj; have hx4 := ((HY.out.kept (grown_of_below hX none) (by simp)).alloc _).kept hgrow4 (fun e => by have := HNE.out _ e.symm; omega); have v2 := hx4.cell; have vf := hx4.frozen; have vl := hx4.lt
             obtain ⟨q0, q1⟩ := HG.out _ (hX.alloc hX.size _)
             have v0 := hgrow4.cell q0 (fun e => by have := HNE.out _ e.symm; dsimp only at this; omega)
             have v1 := hgrow4.cell q1 (fun e => by have := HNE.out _ e.symm; dsimp only at this; omega)
             clear q0 q1)
          | (go_at_call 84; refine (HR.out _ hcV).mono ?_; rintro e wR ⟨⟨A3, c3, rfl, hrX⟩, hbR, hX⟩; have hoX := Own.below hoV hbR; obtain ⟨⟨v0, v1⟩, v2, v3, v4⟩ := STAY.out _ hX)
          | (go_at_call 83; refine (HV.out _ (Below.refl _ _).drew).mono ?_; rintro e wV ⟨⟨AV, cV, rfl, hoV⟩, hbV, hcV⟩; obtain ⟨⟨v0, v1⟩, v2, v3, v4⟩ := STAY.out _ hcV))
      all_goals
        clear g0 g1
        go_wp2_with fail
        go_roundw
        case rel =>
          have HXX : Hid (Boxed w4 (w.heap.size + 1) 24 (.slice none 0 0)) := Lib.hid (((HX.out.kept (grown_of_below hX none) (by simp)).alloc _).kept hgrow4 (fun e => by have := HNE.out _ e.symm; omega))
          have hset := grownBy_setCell' w4 (w.heap.size + 1 + 1) (.slice A4 (k + 1) c4)
          refine ⟨k + 1, A4, c4, hs ++ [(⟨AV, cs.length, cV⟩, ⟨A3, ws.length, c3⟩)], by omega, by go_num, ?_, ?_, ?_, ?_, ?_, ?_⟩
          · exact Lib.hid ((((HS.out.kept (grown_of_below hX none) (by simp)).alloc _).kept hgrow4 (fun e => by have := HNE.out _ e.symm; omega)).kept hset (by simp; omega))
          · exact Lib.hid (HXX.out.kept hset (by simp))
          · exact Lib.hid (hx4.set _)
          · refine Lib.hid (MO.low ?_ hset (fun j hj => by cases hj; omega))
            rw [HTK.out]
            exact HM.out.snoc (by omega) (hX.alloc hX.size _) ⟨rfl, Own.below hoX ((Below.refl _ _).alloc (Nat.le_refl _) _), rfl, Own.below hrX ((Below.refl _ _).alloc (Nat.le_refl _) _)⟩ hown4 hgrow4
          · have := hset.size
            have := hgrow4.size
            have := hX.size
            simp at *
            omega
          · exact Lib.hid (((((HB.out.trans (hX.mono (by omega))).alloc (by have := hX.size; omega) _)).grown hgrow4 (by have := hX.size; simp; omega) (fun j hj => by have := HNE.out j hj; omega)).setCell (by simp; omega) _)
        case measure => simp [intOf]; omega
    · have hlt' : ¬ (k : Int) < m.length := by omega
      obtain rfl : k = m.length := by omega
      have HE : Hid (MO wr (w.heap.size + 3) B c hs m) := Lib.hid (by have := HM.out; rwa [List.take_of_length_le (Nat.le_refl _)] at this)
      have z0 := HX.out.cell
      have zf := HX.out.frozen
      clear mA
      go_wp2
      refine bodyPost_ret (results_cell_row rfl _ _ (w.heap.size + 1) 24 #[.slice B m.length c] (0, 0) _ rfl (HX.out.set _) Tryz.underlying24 rfl mem_size) rfl ?_
      refine ⟨⟨B, c, rfl, hs, ?_⟩, ?_⟩
      · have := (HE.out.low (grownBy_setCell' wr (w.heap.size + 1) (.slice B m.length c)) (fun k hk => by cases hk; omega))
        exact ⟨this.len, Own.base_ this.own (by omega), fun i x s h1 h2 => let y := this.each i x s h1 h2; ⟨y.n1, Own.base_ y.o1 (by omega), y.n2, Own.base_ y.o2 (by omega)⟩, this.apart⟩
      · exact HB.out.setCell (by simp) _
end Go.Proofs.YtjldkndalcellaaGreatDoor
