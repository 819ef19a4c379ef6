/- Layer 6: the walk of the reference's memory. -/
import Derived.Test.YtjldkndalcellaaGreatDoorWb
namespace Go.Proofs.YtjldkndalcellaaGreatDoor
open Go.RowKit Go.El

/-- a memory that nobody waits in -/
def stOf (l : List Ce.V) : Ce.St := ⟨l, []⟩
def ldM14 : Oper := { dst := some 14, op := Op.load 22 (Operand.tmp 13), type := 22, pos := "ref.go:425", after := #[{ on := 0, ground := Ground.data }], guard := none }
attribute [local go_sem] ldM14
set_option maxRecDepth 100000 in
set_option maxHeartbeats 4000000 in
theorem memory6_any (p : Ce.Pic) (hp : Szp p) (V C : Option Addr) (cv cc : Nat) (w : World) (h : PicAt w V cv C p) :
    Calls Tryz.prog 53 #[.agg #[.slice V p.vals.length cv, .slice C p.cells.length cc]] w fun e w' => (∃ B c hs, e = .returned (.agg #[.slice B p.cells.length c]) ∧ MO w' w.heap.size B c hs (Ce.memory p)) ∧ Below w.heap.size w w' := by
  obtain ⟨vs, ls⟩ := p
  have hz2 := hp.many
  have HSZ := Lib.hid hp.each
  dsimp only at hz2 HSZ ⊢
  have HLS := Lib.hid h.c
  have HFIN : Hid (Ce.memory ⟨vs, ls⟩ = ls.map stOf) := Lib.hid rfl
  generalize Ce.memory ⟨vs, ls⟩ = FM at *
  have hbx : Below w.heap.size w (((w.alloc (.cells #[.slice V vs.length cv, .slice C ls.length cc] 37)).alloc (.cells #[.slice none 0 0] 24)).alloc (.cells #[.slice none 0 0] 24)) := (((Below.refl _ _).alloc (Nat.le_refl _) _).alloc (by simp) _).alloc (by simp; omega) _
  have HP0 := Lib.hid (((Blk.new w 37 #[.slice V vs.length cv, .slice C ls.length cc]).alloc (.cells #[.slice none 0 0] 24)).alloc (.cells #[.slice none 0 0] 24))
  have HX0 := Lib.hid ((Boxed.new (w.alloc (.cells #[.slice V vs.length cv, .slice C ls.length cc] 37)) 24 (.slice none 0 0)).alloc (.cells #[.slice none 0 0] 24))
  have HY0 := Lib.hid (Boxed.new ((w.alloc (.cells #[.slice V vs.length cv, .slice C ls.length cc] 37)).alloc (.cells #[.slice none 0 0] 24)) 24 (.slice none 0 0))
  simp only [World.size_alloc] at HX0 HY0
  have HB0 := Lib.hid hbx
  have hll : (ls.length : Int) ≤ 9223372036854775807 := by omega
  generalize vs.length = vn at *
  clear hp h hbx
  go_enter Tryz.func53, Tryz.ntmps53
  go_wp2_with fail
  go_loopw [4] (fun i wr => ∃ (k : Nat) (B : Option Addr) (c : Nat) (hs : List (Sl × Sl)), k ≤ ls.length ∧ i = .int .i64 k ∧ Hid (Blk wr w.heap.size 37 #[.slice V vn cv, .slice C ls.length cc]) ∧ Hid (Boxed wr (w.heap.size + 1) 24 (.slice none 0 0)) ∧ Hid (Boxed wr (w.heap.size + 1 + 1) 24 (.slice B k c)) ∧ Hid (MO wr (w.heap.size + 3) B c hs ((ls.take k).map stOf)) ∧ w.heap.size + 3 ≤ wr.heap.size ∧ Hid (Below w.heap.size w wr)) (fun i _ => ls.length - (intOf i).toNat)
  case atStart => exact ⟨0, none, 0, [], Nat.zero_le _, rfl, HP0, HX0, HY0, Lib.hid (MO.nil _ _), by simp, HB0⟩
  case round =>
    clear HP0 HX0 HY0 HB0
    obtain ⟨k, B, c, hs, hk, rfl, HP, HX, HY, HM, hsz, HB⟩ := hrel
    have x1 : wr.cell? ⟨w.heap.size, 1, none⟩ = some (.slice C ls.length cc) := HP.out.cell 1
    have g1 := HY.out.cell
    by_cases hlt : k < ls.length
    · have hlt' : (k : Int) < ls.length := by omega
      obtain ⟨s, hs'⟩ : ∃ x, ls[k]? = some x := ⟨_, List.getElem?_eq_getElem hlt⟩
      have hsz1 := HSZ.out k s hs'
      obtain ⟨bc, oc, A1, c1, rfl, hbc, y0, P1⟩ := HLS.out.at_ hs'
      have HPS := Lib.hid ((SlAt_stay P1).step HB.out)
      have y0 := ((bcell HB.out).1 _ _ hbc).trans y0
      have HTK : Hid ((ls.take (k + 1)).map stOf = (ls.take k).map stOf ++ [stOf s]) := Lib.hid (by rw [List.take_add_one, hs', List.map_append]; rfl)
      have HHL : Hid (hs.length = k) := Lib.hid (by rw [HM.out.len, List.length_map, List.length_take]; omega)
      have hbc2 : bc < wr.heap.size := by omega
      have hq0 : w.heap.size < wr.heap.size := by omega
      have hq2 : w.heap.size + 1 + 1 < wr.heap.size := by omega
      have hn1 : w.heap.size ≠ w.heap.size + 1 + 1 := by omega
      have hn2 : w.heap.size + 1 + 1 ≠ w.heap.size := by omega
      have hn3 : bc ≠ w.heap.size + 1 + 1 := by omega
      have hn4 : w.heap.size + 1 + 1 ≠ bc := by omega
      clear P1 hs'
      have HNE : Hid (∀ j, (Value.slice B hs.length c).ownBlock = some j → w.heap.size + 3 ≤ j ∧ j < wr.heap.size) := Lib.hid fun j hj => HM.out.own.lt j hj
      have HV : Hid (∀ W, Below wr.heap.size wr W → Calls Tryz.prog 18 #[.slice A1 s.length c1] W fun e w' => (∃ AV cV, e = .returned (.slice AV s.length cV) ∧ ValE.Own 57 w' wr.heap.size AV cV s) ∧ Below W.heap.size W w' ∧ Below wr.heap.size wr w') :=
        Lib.hid fun W hb => (values_any s (by omega) A1 c1 HPS.out.at_.none_ W (HPS.out W hb).arg).mono fun e w' ⟨⟨AV, cV, he, ho⟩, hb2⟩ => ⟨⟨AV, cV, he, Own.base_ ho hb.size⟩, hb2, hb.trans (hb2.mono hb.size)⟩
      have STAY : Hid (∀ W, Below wr.heap.size wr W → W.cell? ⟨w.heap.size, 1, none⟩ = some (.slice (some ⟨bc, oc, none⟩) ls.length cc) ∧ W.cell? ⟨bc, oc + k, none⟩ = some (.slice A1 s.length c1) ∧ W.cell? ⟨w.heap.size + 1 + 1, 0, none⟩ = some (.slice B k c) ∧ w.heap.size < W.heap.size ∧ bc < W.heap.size ∧ w.heap.size + 1 + 1 < W.heap.size) :=
        Lib.hid fun W hb => ⟨((bcell hb).1 _ _ hq0).trans x1, ((bcell hb).1 _ _ hbc2).trans y0, ((bcell hb).1 _ _ hq2).trans g1, by have := hb.size; omega, by have := hb.size; omega, by have := hb.size; omega⟩
      go_wp2_with fail
      rw [show ({ dst := some 14, op := Op.load 22 (Operand.tmp 13), type := 22, pos := "ref.go:425", after := #[{ on := 0, ground := Ground.data }], guard := none } : Oper) = ldM14 from rfl]
      go_region_held3 (fun W => W.cell? ⟨w.heap.size, 1, none⟩ = some (.slice (some ⟨bc, oc, none⟩) ls.length cc) ∧ W.cell? ⟨bc, oc + k, none⟩ = some (.slice A1 s.length c1))
        (go_keep)
        (first
          | (refine step_append_any StE _ rfl _ _ 22 61 rfl Tryz.underlying22 st_info rfl (w.heap.size + 3) B c _ hs [(⟨AV, s.length, cV⟩, ⟨none, 0, 0⟩)] _ _ _ rfl HHL.out.symm rfl rfl (fun hh => by cases hh) (Own.below (Own.below HM.out.own hX) ((Below.refl _ _).alloc (Nat.le_refl _) _)) (row_arg (K := StE) rfl rfl) (by simp [maxLen]; have := HHL.out; omega) (by simp; have := HHL.out; omega) (by have := hX.size; simp; omega) ?_; intro A4 c4 w4 hown4 hgrow4
             have hx4 := ((HY.out.kept (grown_of_below hX none) (by simp)).alloc _).kept hgrow4 (fun e => by have := HNE.out _ e.symm; omega)
             have v2 := hx4.cell
             have vf := hx4.frozen
             have vl := hx4.lt
             obtain ⟨q0, q1, _⟩ := STAY.out _ (hX.alloc hX.size _)
             have v0 := hgrow4.cell q0 (fun e => by have := HNE.out _ e.symm; dsimp only at this; omega)
             have v1 := hgrow4.cell q1 (fun e => by have := HNE.out _ e.symm; dsimp only at this; omega)
             clear q0 q1)
          | (go_at_call 18; refine (HV.out _ (Below.refl _ _).drew).mono ?_; rintro e wV ⟨⟨AV, cV, rfl, hoV⟩, hbV, hX⟩; obtain ⟨v0, v1, v2, v3, v4, v5⟩ := STAY.out _ hX))
      all_goals
        clear x1 y0 g1
        go_wp2_with fail
        go_roundw
        case rel =>
          have hset := grownBy_setCell' w4 (w.heap.size + 1 + 1) (.slice A4 (k + 1) c4)
          refine ⟨k + 1, A4, c4, hs ++ [(⟨AV, s.length, cV⟩, ⟨none, 0, 0⟩)], by omega, by go_num, ?_, ?_, ?_, ?_, ?_, ?_⟩
          · exact Lib.hid ((((HP.out.below hX).alloc _).kept hgrow4 (fun e => by have := HNE.out _ e.symm; omega)).kept hset (by simp; omega))
          · exact Lib.hid ((((HX.out.kept (grown_of_below hX none) (by simp)).alloc _).kept hgrow4 (fun e => by have := HNE.out _ e.symm; omega)).kept hset (by simp))
          · exact Lib.hid (hx4.set _)
          · refine Lib.hid (MO.low ?_ hset (fun j hj => by cases hj; omega))
            rw [HTK.out]
            exact HM.out.snoc (by omega) (hX.alloc hX.size _) ⟨rfl, Own.below hoV ((Below.refl _ _).alloc (Nat.le_refl _) _), rfl, Own.nil RdE 86 _ _⟩ hown4 hgrow4
          · have := hset.size
            have := hgrow4.size
            have := hX.size
            simp at *
            omega
          · exact Lib.hid (((((HB.out.trans (hX.mono (by omega))).alloc (by have := hX.size; omega) _)).grown hgrow4 (by have := hX.size; simp; omega) (fun j hj => by have := HNE.out j hj; omega)).setCell (by simp; omega) _)
        case measure => simp [intOf]; omega
    · have hlt' : ¬ (k : Int) < ls.length := by omega
      obtain rfl : k = ls.length := by omega
      have HE : Hid (MO wr (w.heap.size + 3) B c hs FM) := Lib.hid (by have := HM.out; rw [List.take_of_length_le (Nat.le_refl _), ← HFIN.out] at this; exact this)
      have z0 := HX.out.cell
      have zf := HX.out.frozen
      go_wp2
      refine bodyPost_ret (results_cell_row rfl _ _ (w.heap.size + 1) 24 #[.slice B ls.length c] (0, 0) _ rfl (HX.out.set _) Tryz.underlying24 rfl mem_size) rfl ?_
      refine ⟨⟨B, c, rfl, hs, ?_⟩, ?_⟩
      · have := (HE.out.low (grownBy_setCell' wr (w.heap.size + 1) (.slice B ls.length c)) (fun k hk => by cases hk; omega))
        exact ⟨this.len, Own.base_ this.own (by omega), fun i x s h1 h2 => let y := this.each i x s h1 h2; ⟨y.n1, Own.base_ y.o1 (by omega), y.n2, Own.base_ y.o2 (by omega)⟩, this.apart⟩
      · exact HB.out.setCell (by simp) _
end Go.Proofs.YtjldkndalcellaaGreatDoor
