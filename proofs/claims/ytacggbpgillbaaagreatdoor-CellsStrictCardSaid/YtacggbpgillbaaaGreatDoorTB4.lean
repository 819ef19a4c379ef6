/- Layer 6, the program: write, of the second cell. Layer 6, the program: do, of the four operations. Layer 6, the program: Play, of the four operations. -/
import Derived.Test.YtacggbpgillbaaaGreatDoorTB3
namespace Go.Proofs.YtacggbpgillbaaaGreatDoor
open Go.RowKit Go.El

theorem One.only {W W' : World} {B b r y : Nat} {cells : List Ce.V} {ws : List Ce.Rd} {n : Int} {ts : List Ce.Td} (h : One W B b r cells ws n ts) (hO : Only y W W') {cs : Array Value} (hy : Blk W y 26 cs) (hne : r ≠ y) : One W' B b r cells ws n ts := by
  obtain ⟨⟨g, c, Q, cq, T, ct, hw, hq⟩, hv, hl⟩ := h
  exact ⟨⟨g, c, Q, cq, T, ct, hO.work hy hw, hO.ownT hy hq (by decide)⟩, hO.own hv (fun a ha => by injection ha with ha; subst ha; exact hne), hl⟩
set_option maxRecDepth 100000 in
set_option maxHeartbeats 4000000 in
theorem write_in (B b r : Nat) (w : World) (h : One w B b r [Ce.hole, Ce.hole] [⟨1, 7⟩] 1 []) (hBw : B ≤ w.heap.size) :
    Calls Tryz.prog 132 #[.pointer (some ⟨b, 0, none⟩), opArg 2 4 0 1 1 1 5 0] w fun e w' => e = .returned (.tuple #[.agg #[.int .u8 3, .int .i64 0], .int .i64 0]) ∧ One w' B b r [Ce.hole, Ce.vint 5] [] 0 [⟨7, Ce.vint 5⟩] ∧ Below B w w' ∧ Fr r w w' := by
  have hb1 : Below w.heap.size w (w.alloc (.cells (opCells 2 4 0 1 1 1 5 0) 44)) := (Below.refl _ _).alloc (Nat.le_refl _) _
  have hb2 := hb1.alloc (by simp) (.cells #[.int .u8 0, .int .i64 0] 26)
  have HB2 := Lib.hid hb2
  have hrl : r < w.heap.size := (h.vals.lt r rfl).2
  have hBr : B ≤ r := (h.vals.lt r rfl).1
  have hbl : b < w.heap.size := by
    obtain ⟨_, _, _, _, _, _, hw, _⟩ := h.ex
    exact hw.blk.lt
  obtain ⟨⟨g, c, Q, cq, T, ct, hw, hq⟩, hv, _⟩ := h.below hb2
  obtain ⟨q, hA, _, _, _⟩ := Own.in_ hq (by simp)
  subst hA
  have HW := Lib.hid hw
  have HQ := Lib.hid hq
  have HV := Lib.hid hv
  have HY := Lib.hid (Blk.new (w.alloc (.cells (opCells 2 4 0 1 1 1 5 0) 44)) 26 #[.int .u8 0, .int .i64 0])
  have HO := Lib.hid ((Blk.new w 44 (opCells 2 4 0 1 1 1 5 0)).alloc (.cells #[.int .u8 0, .int .i64 0] 26))
  simp only [World.size_alloc] at HY
  have HCELL := Lib.hid (cell_in b g r c _ (hw.blk.cell 0) hw.at1.1)
  have HEM := Lib.hid (fun W => empty_any W)
  have HH := Lib.hid (fun W => isHole_any Ce.hole W)
  rw [isHole_hole] at HH
  have FACTS : Hid (∀ W, Below ((w.alloc (.cells (opCells 2 4 0 1 1 1 5 0) 44)).alloc (.cells #[.int .u8 0, .int .i64 0] 26)).heap.size ((w.alloc (.cells (opCells 2 4 0 1 1 1 5 0) 44)).alloc (.cells #[.int .u8 0, .int .i64 0] 26)) W →
      W.cell? ⟨b, 0, none⟩ = some (.slice (some ⟨g, 0, none⟩) 1 c) ∧ ((W.cell? ⟨r, 2, none⟩ = some (.int .u8 0) ∧ W.frozen? ⟨r, 2, none⟩ = false) ∧ (W.cell? ⟨r, 3, none⟩ = some (.int .i64 0) ∧ W.frozen? ⟨r, 3, none⟩ = false)) ∧
      W.cell? ⟨w.heap.size, 0, none⟩ = some (.int .u8 2) ∧ W.cell? ⟨w.heap.size, 1, none⟩ = some (.int .u8 4) ∧ W.cell? ⟨w.heap.size, 2, none⟩ = some (.int .i64 0) ∧ W.cell? ⟨w.heap.size, 3, none⟩ = some (.int .u8 1) ∧ W.cell? ⟨w.heap.size, 4, none⟩ = some (.int .i64 1) ∧ W.cell? ⟨w.heap.size, 5, none⟩ = some (.int .u8 1) ∧ W.cell? ⟨w.heap.size, 6, none⟩ = some (.int .i64 5) ∧ W.cell? ⟨w.heap.size, 7, none⟩ = some (.int .i64 0)) := Lib.hid fun W hb => by
    have hw' := HW.out.below hb
    have hv' := Own.below HV.out hb
    obtain ⟨r', hA, _, _, hin⟩ := Own.in_ hv' (by simp)
    injection hA with hA
    injection hA with hA
    subst hA
    exact ⟨hw'.blk.cell 0, ⟨⟨hin 1 _ rfl 0 _ rfl, World.ownsRow.frozenAt hv' 2⟩, ⟨hin 1 _ rfl 1 _ rfl, World.ownsRow.frozenAt hv' 3⟩⟩, op_at (HO.out.below hb)⟩
  obtain ⟨_, _, o0, o1, o2, o3, o4, o5, o6, o7⟩ := FACTS.out _ (Below.refl _ _)
  unfold opCells at *
  unfold opArg opCells
  clear hb1 hb2 h hw hq hv
  go_enter Tryz.func132, Tryz.ntmps132
  go_wp2_with fail
  generalize hWX : World.alloc _ _ = WX at *
  clear hWX
  refine HCELL.out.mono ?_
  rintro e w1 ⟨rfl, hb1⟩
  have HB1 := Lib.hid hb1
  clear o0 o1 o2 o3 o4 o5 o6 o7
  obtain ⟨b0, ⟨⟨r0, rf0⟩, ⟨r1, rf1⟩⟩, o0, o1, o2, o3, o4, o5, o6, o7⟩ := FACTS.out w1 hb1
  clear hb1
  go_wp2_with fail
  refine (HH.out _).mono ?_
  rintro e w2 ⟨rfl, hb2⟩
  have HB2' := Lib.hid (HB1.out.trans (hb2.mono HB1.out.size))
  clear b0 r0 r1 rf0 rf1 o0 o1 o2 o3 o4 o5 o6 o7 hb2
  obtain ⟨b0, ⟨⟨r0, rf0⟩, ⟨r1, rf1⟩⟩, o0, o1, o2, o3, o4, o5, o6, o7⟩ := FACTS.out w2 HB2'.out
  -- the cell written
  have hO3 := Only.set1 (y := r) (o := 2) (W := w2) (a := .int .u8 1) |>.trans (Only.set1 (y := r) (o := 3) (a := .int .i64 5))
  obtain ⟨rs, hrs⟩ := (Own.below HV.out HB2'.out).blk (g := r) rfl
  have HW3 := Lib.hid (hO3.workT hrs (by decide) (by decide) (by decide) (HW.out.below HB2'.out))
  have HQ3 := Lib.hid (hO3.ownT hrs (Own.below HQ.out HB2'.out) (by decide))
  have HV3 : Hid (ValE.Own 26 ((w2.setCell ⟨r, 2, none⟩ (.int .u8 1)).setCell ⟨r, 3, none⟩ (.int .i64 5)) B (some ⟨r, 0, none⟩) 2 [Ce.hole, Ce.vint 5]) := Lib.hid (World.ownsRow.stored (World.ownsRow.stored (Own.below HV.out HB2'.out) 2 (.int .u8 1)).1 3 (.int .i64 5)).1
  have HO3 := Lib.hid (hO3.blk (HO.out.below HB2'.out) (by omega))
  have HY3 := Lib.hid (hO3.blk (HY.out.below HB2'.out) (by omega))
  have HF3 : Hid (Below B w ((w2.setCell ⟨r, 2, none⟩ (.int .u8 1)).setCell ⟨r, 3, none⟩ (.int .i64 5)) ∧ Fr r w ((w2.setCell ⟨r, 2, none⟩ (.int .u8 1)).setCell ⟨r, 3, none⟩ (.int .i64 5))) := Lib.hid ⟨(((HB2.out.trans (HB2'.out.mono HB2.out.size)).mono hBw).setCell (p := ⟨r, 2, none⟩) hBr _).setCell (p := ⟨r, 3, none⟩) hBr _, ((Fr.below (HB2.out.trans (HB2'.out.mono HB2.out.size))).trans Fr.setr).trans Fr.setr⟩
  have hne1 : r ≠ w.heap.size := by omega
  have hne2 : w.heap.size ≠ r := by omega
  have HTELL := Lib.hid (fun W (h1 : Below ((w2.setCell ⟨r, 2, none⟩ (.int .u8 1)).setCell ⟨r, 3, none⟩ (.int .i64 5)).heap.size ((w2.setCell ⟨r, 2, none⟩ (.int .u8 1)).setCell ⟨r, 3, none⟩ (.int .i64 5)) W) => tell1_any B b g c r q cq T ct W (Nat.le_trans (by have := HF3.out.1.size; omega) h1.size) (HW3.out.below h1) (Own.below HQ3.out h1) (Own.below HV3.out h1))
  clear hO3 hrs
  go_wp2_with fail
  generalize hW3 : World.setCell (World.setCell w2 _ _) _ _ = W3 at *
  clear hW3 b0 r0 r1 rf0 rf1 o0 o1 o2 o3 o4 o5 o6 o7
  have b0 := HW3.out.blk.cell 0
  obtain ⟨o0, o1, o2, o3, o4, o5, o6, o7⟩ := op_at HO3.out
  dsimp at b0
  go_region_held3 (fun W => W.cell? ⟨b, 0, none⟩ = some (.slice (some ⟨g, 0, none⟩) 1 c) ∧ W.cell? ⟨w.heap.size, 2, none⟩ = some (.int .i64 0) ∧ W.cell? ⟨w.heap.size, 4, none⟩ = some (.int .i64 1))
    (go_keep)
    (first
      | (go_at_call 160; refine (HTELL.out _ (Below.refl _ _).drew).mono ?_; rintro e w4 ⟨rfl, hone, v0, hb4, hf4⟩
         have ho4 := hf4.blk (HO3.out.below (Below.refl _ _).drew) (by omega) (by decide) (by decide) (by decide) (by decide)
         have v2 := ho4.cell 2
         have v4 := ho4.cell 4))
  all_goals
    have HONE := Lib.hid hone
    have HF4 : Hid (Below B w w4 ∧ Fr r w w4) := Lib.hid ⟨HF3.out.1.trans ((Below.refl _ _).drew.trans hb4), (HF3.out.2.trans (Fr.below (Below.refl _ _).drew)).trans hf4⟩
    have HY4 := Lib.hid (hf4.blk (HY3.out.below (Below.refl _ _).drew) (by omega) (by decide) (by decide) (by decide) (by decide))
    clear hone hb4 hf4 ho4 v0 v2 v4 b0 o0 o1 o2 o3 o4 o5 o6 o7
    go_wp2_with fail
    refine (HEM.out _).mono ?_
    rintro e w5 ⟨rfl, hb5⟩
    have HY5 := Lib.hid (HY4.out.below hb5)
    have z0 := HY5.out.cell 0
    have z1 := HY5.out.cell 1
    have zf0 := HY5.out.frozen 0
    have zf1 := HY5.out.frozen 1
    dsimp at z0 z1
    have HB5 := Lib.hid hb5
    clear hb5
    go_wp2
    refine bodyPost_ret (results_row_tmp rfl _ _ (w.heap.size + 1) 26 #[.int .u8 3, .int .i64 0] (0, 0) _ rfl ((HY5.out.set_ 0 _).set_ 1 _) Tryz.underlying26 rfl val_size) rfl ?_
    have hO := Only.set2 (y := w.heap.size + 1) (W := w5) (a := .int .u8 3) (c := .int .i64 0)
    exact ⟨rfl, (HONE.out.below HB5.out).only hO HY5.out (by omega), ((HF4.out.1.trans (HB5.out.mono (by have := HF4.out.2.1; omega))).setCell (p := ⟨w.heap.size + 1, 0, none⟩) (by dsimp; omega) _).setCell (p := ⟨w.heap.size + 1, 1, none⟩) (by dsimp; omega) _, hO.fr (HF4.out.2.trans (Fr.below HB5.out)) (by omega)⟩
end Go.Proofs.YtacggbpgillbaaaGreatDoor

namespace Go.Proofs.YtacggbpgillbaaaGreatDoor
open Go.RowKit Go.El

/-- how the work stands behind so many of the operations -/
def StAfter (W : World) (B b r : Nat) : Nat → Prop
  | 0 => Work W B b none 0 [] 0 none 0 []
  | 1 => One W B b r [Ce.hole, Ce.hole] [] 0 []
  | 2 => One W B b r [Ce.hole, Ce.hole] [⟨1, 7⟩] 1 []
  | _ => One W B b r [Ce.hole, Ce.vint 5] [] 0 [⟨7, Ce.vint 5⟩]
theorem StAfter.below {W W' : World} {B b r : Nat} (hb : Below W.heap.size W W') : ∀ {k : Nat}, StAfter W B b r k → StAfter W' B b r k
  | 0, h => Work.below h hb
  | 1, h => One.below h hb
  | 2, h => One.below h hb
  | _ + 3, h => One.below h hb
def gave : List Ce.V := [Ce.vref 0, Ce.hole, Ce.vnil, Ce.vbad 3]

set_option maxRecDepth 100000 in
set_option maxHeartbeats 2000000 in
theorem do_0 (B b r : Nat) (w : World) (h : StAfter w B b r 0) (hBw : B ≤ w.heap.size) :
    Calls Tryz.prog 80 #[.pointer (some ⟨b, 0, none⟩), opArg 1 1 2 0 0 0 0 0] w fun e w' => e = .returned (.tuple #[.agg #[.int .u8 4, .int .i64 0], .int .i64 0]) ∧ (∃ r', (r' = r ∨ w.heap.size ≤ r') ∧ StAfter w' B b r' 1) ∧ Below B w w' ∧ Fr r w w' := by
  have hb1 : Below w.heap.size w (w.alloc (.cells (opCells 1 1 2 0 0 0 0 0) 44)) := (Below.refl _ _).alloc (Nat.le_refl _) _
  have hb2 := hb1.alloc (by simp) (.cells #[.int .u8 0, .int .i64 0] 26)
  have HB2 := Lib.hid hb2
  have HP := Lib.hid (h.below hb2)
  have HY := Lib.hid (Blk.new (w.alloc (.cells (opCells 1 1 2 0 0 0 0 0) 44)) 26 #[.int .u8 0, .int .i64 0])
  have HO := Lib.hid ((Blk.new w 44 (opCells 1 1 2 0 0 0 0 0)).alloc (.cells #[.int .u8 0, .int .i64 0] 26))
  simp only [World.size_alloc] at HY

  obtain ⟨o0, o1, o2, o3, o4, o5, o6, o7⟩ := op_at HO.out
  have HTK : Hid (Calls Tryz.prog 130 #[.pointer (some ⟨b, 0, none⟩), opArg 1 1 2 0 0 0 0 0] ((w.alloc (.cells (opCells 1 1 2 0 0 0 0 0) 44)).alloc (.cells #[.int .u8 0, .int .i64 0] 26)) fun e w' => e = .returned (.bool true) ∧ Below _ _ w') := Lib.hid (by
    exact takes_k1 0 b none 0 1 2 0 0 0 0 0 _ ((show Work _ B b none 0 [] 0 none 0 [] from HP.out).blk.cell 0) (by decide) (by decide))
  have HCALL := Lib.hid (fun W (hb : Below ((w.alloc (.cells (opCells 1 1 2 0 0 0 0 0) 44)).alloc (.cells #[.int .u8 0, .int .i64 0] 26)).heap.size ((w.alloc (.cells (opCells 1 1 2 0 0 0 0 0) 44)).alloc (.cells #[.int .u8 0, .int .i64 0] 26)) W) => alloc2_any B b none 0 [] 0 none 0 [] W (Work.below (show Work _ B b none 0 [] 0 none 0 [] from HP.out) hb) (by have := HB2.out.size; have := hb.size; omega) (by simp))
  unfold opArg opCells at *
  clear hb1 hb2 h
  go_enter Tryz.func80, Tryz.ntmps80
  go_wp2_with fail
  generalize hWX : World.alloc _ _ = WX at *
  clear hWX
  refine HTK.out.mono ?_
  rintro e w1 ⟨rfl, hb1⟩
  have HB1 := Lib.hid hb1
  clear o0 o1 o2 o3 o4 o5 o6 o7
  obtain ⟨o0, o1, o2, o3, o4, o5, o6, o7⟩ := op_at (HO.out.below hb1)
  clear hb1
  go_wp2_with fail
  refine (HCALL.out w1 HB1.out).mono ?_
  rintro e w2 ⟨rfl, ⟨r2, A2, c2, hr2, hwk, hvl⟩, hb2, hf2⟩
  have hsz0 : w.heap.size + 1 < w1.heap.size := (HY.out.below HB1.out).lt
  obtain ⟨g2, hA2, _⟩ := Own.in_ hwk.sts (by simp)
  subst hA2
  have HP2 : Hid (One w2 B b r2 [Ce.hole, Ce.hole] [] 0 []) := Lib.hid ⟨⟨g2, c2, none, 0, none, 0, hwk, Own.nil _ _ _ _⟩, hvl, rfl⟩
  have HF2 : Hid (Below B w w2 ∧ Fr r w w2) := Lib.hid ⟨((HB2.out.trans (HB1.out.mono HB2.out.size)).mono hBw).trans hb2, (Fr.below (HB2.out.trans (HB1.out.mono HB2.out.size))).trans (hf2 r)⟩
  have HY2 := Lib.hid ((hf2 (w.heap.size + 1 + 1)).blk (HY.out.below HB1.out) (by exact Nat.ne_of_lt (Nat.lt_succ_self _)) (by decide) (by decide) (by decide) (by decide))
  have hsz1 : w.heap.size + 1 < w1.heap.size := (HY.out.below HB1.out).lt
  have z0 := HY2.out.cell 0
  have z1 := HY2.out.cell 1
  have zf0 := HY2.out.frozen 0
  have zf1 := HY2.out.frozen 1
  dsimp at z0 z1
  clear o0 o1 o2 o3 o4 o5 o6 o7 hb2 hf2
  go_wp2
  refine bodyPost_ret (results_row_tmp rfl _ _ (w.heap.size + 1) 26 #[.int .u8 4, .int .i64 0] (0, 0) _ rfl ((HY2.out.set_ 0 _).set_ 1 _) Tryz.underlying26 rfl val_size) rfl ?_
  have hO := Only.set2 (y := w.heap.size + 1) (W := w2) (a := .int .u8 4) (c := .int .i64 0)
  exact ⟨rfl, ⟨r2, .inr (by omega), HP2.out.only hO HY2.out (by omega)⟩, (HF2.out.1.setCell (p := ⟨w.heap.size + 1, 0, none⟩) (by dsimp; omega) _).setCell (p := ⟨w.heap.size + 1, 1, none⟩) (by dsimp; omega) _, hO.fr HF2.out.2 (by omega)⟩

set_option maxRecDepth 100000 in
set_option maxHeartbeats 2000000 in
theorem do_1 (B b r : Nat) (w : World) (h : StAfter w B b r 1) (hBw : B ≤ w.heap.size) :
    Calls Tryz.prog 80 #[.pointer (some ⟨b, 0, none⟩), opArg 3 4 0 1 1 0 0 7] w fun e w' => e = .returned (.tuple #[.agg #[.int .u8 0, .int .i64 0], .int .i64 0]) ∧ (∃ r', (r' = r ∨ w.heap.size ≤ r') ∧ StAfter w' B b r' 2) ∧ Below B w w' ∧ Fr r w w' := by
  have hb1 : Below w.heap.size w (w.alloc (.cells (opCells 3 4 0 1 1 0 0 7) 44)) := (Below.refl _ _).alloc (Nat.le_refl _) _
  have hb2 := hb1.alloc (by simp) (.cells #[.int .u8 0, .int .i64 0] 26)
  have HB2 := Lib.hid hb2
  have HP := Lib.hid (h.below hb2)
  have HY := Lib.hid (Blk.new (w.alloc (.cells (opCells 3 4 0 1 1 0 0 7) 44)) 26 #[.int .u8 0, .int .i64 0])
  have HO := Lib.hid ((Blk.new w 44 (opCells 3 4 0 1 1 0 0 7)).alloc (.cells #[.int .u8 0, .int .i64 0] 26))
  simp only [World.size_alloc] at HY
  have hrl : r < w.heap.size := (One.vals h).lt r rfl |>.2
  obtain ⟨o0, o1, o2, o3, o4, o5, o6, o7⟩ := op_at HO.out
  have HTK : Hid (Calls Tryz.prog 130 #[.pointer (some ⟨b, 0, none⟩), opArg 3 4 0 1 1 0 0 7] ((w.alloc (.cells (opCells 3 4 0 1 1 0 0 7) 44)).alloc (.cells #[.int .u8 0, .int .i64 0] 26)) fun e w' => e = .returned (.bool true) ∧ Below _ _ w') := Lib.hid (by
    obtain ⟨⟨g, c, Q, cq, T, ct, hw, hq⟩, hv, _⟩ := (show One _ B b r _ _ _ _ from HP.out)
    exact takes_k3 1 b (some ⟨g, 0, none⟩) c 4 0 1 1 0 0 7 _ (hw.blk.cell 0) (by decide) (by decide))
  have HCALL := Lib.hid (fun W (hb : Below ((w.alloc (.cells (opCells 3 4 0 1 1 0 0 7) 44)).alloc (.cells #[.int .u8 0, .int .i64 0] 26)).heap.size ((w.alloc (.cells (opCells 3 4 0 1 1 0 0 7) 44)).alloc (.cells #[.int .u8 0, .int .i64 0] 26)) W) => read_in B b r W (One.below (show One _ B b r [Ce.hole, Ce.hole] [] 0 [] from HP.out) hb) (by have := HB2.out.size; have := hb.size; omega))
  unfold opArg opCells at *
  clear hb1 hb2 h
  go_enter Tryz.func80, Tryz.ntmps80
  go_wp2_with fail
  generalize hWX : World.alloc _ _ = WX at *
  clear hWX
  refine HTK.out.mono ?_
  rintro e w1 ⟨rfl, hb1⟩
  have HB1 := Lib.hid hb1
  clear o0 o1 o2 o3 o4 o5 o6 o7
  obtain ⟨o0, o1, o2, o3, o4, o5, o6, o7⟩ := op_at (HO.out.below hb1)
  clear hb1
  go_wp2_with fail
  refine (HCALL.out w1 HB1.out).mono ?_
  rintro e w2 ⟨rfl, hone, hb2, hf2⟩
  have HP2 := Lib.hid hone
  have HF2 : Hid (Below B w w2 ∧ Fr r w w2) := Lib.hid ⟨((HB2.out.trans (HB1.out.mono HB2.out.size)).mono hBw).trans hb2, (Fr.below (HB2.out.trans (HB1.out.mono HB2.out.size))).trans (hf2)⟩
  have HY2 := Lib.hid ((hf2).blk (HY.out.below HB1.out) (by omega) (by decide) (by decide) (by decide) (by decide))
  have hsz1 : w.heap.size + 1 < w1.heap.size := (HY.out.below HB1.out).lt
  have z0 := HY2.out.cell 0
  have z1 := HY2.out.cell 1
  have zf0 := HY2.out.frozen 0
  have zf1 := HY2.out.frozen 1
  dsimp at z0 z1
  clear o0 o1 o2 o3 o4 o5 o6 o7 hb2 hf2
  go_wp2
  refine bodyPost_ret (results_row_tmp rfl _ _ (w.heap.size + 1) 26 #[.int .u8 0, .int .i64 0] (0, 0) _ rfl ((HY2.out.set_ 0 _).set_ 1 _) Tryz.underlying26 rfl val_size) rfl ?_
  have hO := Only.set2 (y := w.heap.size + 1) (W := w2) (a := .int .u8 0) (c := .int .i64 0)
  exact ⟨rfl, ⟨r, .inl rfl, HP2.out.only hO HY2.out (by omega)⟩, (HF2.out.1.setCell (p := ⟨w.heap.size + 1, 0, none⟩) (by dsimp; omega) _).setCell (p := ⟨w.heap.size + 1, 1, none⟩) (by dsimp; omega) _, hO.fr HF2.out.2 (by omega)⟩

set_option maxRecDepth 100000 in
set_option maxHeartbeats 2000000 in
theorem do_2 (B b r : Nat) (w : World) (h : StAfter w B b r 2) (hBw : B ≤ w.heap.size) :
    Calls Tryz.prog 80 #[.pointer (some ⟨b, 0, none⟩), opArg 2 4 0 1 1 1 5 0] w fun e w' => e = .returned (.tuple #[.agg #[.int .u8 3, .int .i64 0], .int .i64 0]) ∧ (∃ r', (r' = r ∨ w.heap.size ≤ r') ∧ StAfter w' B b r' 3) ∧ Below B w w' ∧ Fr r w w' := by
  have hb1 : Below w.heap.size w (w.alloc (.cells (opCells 2 4 0 1 1 1 5 0) 44)) := (Below.refl _ _).alloc (Nat.le_refl _) _
  have hb2 := hb1.alloc (by simp) (.cells #[.int .u8 0, .int .i64 0] 26)
  have HB2 := Lib.hid hb2
  have HP := Lib.hid (h.below hb2)
  have HY := Lib.hid (Blk.new (w.alloc (.cells (opCells 2 4 0 1 1 1 5 0) 44)) 26 #[.int .u8 0, .int .i64 0])
  have HO := Lib.hid ((Blk.new w 44 (opCells 2 4 0 1 1 1 5 0)).alloc (.cells #[.int .u8 0, .int .i64 0] 26))
  simp only [World.size_alloc] at HY
  have hrl : r < w.heap.size := (One.vals h).lt r rfl |>.2
  obtain ⟨o0, o1, o2, o3, o4, o5, o6, o7⟩ := op_at HO.out
  have HTK : Hid (Calls Tryz.prog 130 #[.pointer (some ⟨b, 0, none⟩), opArg 2 4 0 1 1 1 5 0] ((w.alloc (.cells (opCells 2 4 0 1 1 1 5 0) 44)).alloc (.cells #[.int .u8 0, .int .i64 0] 26)) fun e w' => e = .returned (.bool true) ∧ Below _ _ w') := Lib.hid (by
    obtain ⟨⟨g, c, Q, cq, T, ct, hw, hq⟩, hv, _⟩ := (show One _ B b r _ _ _ _ from HP.out)
    exact takes_k2 1 b (some ⟨g, 0, none⟩) c 4 0 1 1 1 5 0 _ (hw.blk.cell 0) (by decide) (by decide))
  have HCALL := Lib.hid (fun W (hb : Below ((w.alloc (.cells (opCells 2 4 0 1 1 1 5 0) 44)).alloc (.cells #[.int .u8 0, .int .i64 0] 26)).heap.size ((w.alloc (.cells (opCells 2 4 0 1 1 1 5 0) 44)).alloc (.cells #[.int .u8 0, .int .i64 0] 26)) W) => write_in B b r W (One.below (show One _ B b r [Ce.hole, Ce.hole] [⟨1, 7⟩] 1 [] from HP.out) hb) (by have := HB2.out.size; have := hb.size; omega))
  unfold opArg opCells at *
  clear hb1 hb2 h
  go_enter Tryz.func80, Tryz.ntmps80
  go_wp2_with fail
  generalize hWX : World.alloc _ _ = WX at *
  clear hWX
  refine HTK.out.mono ?_
  rintro e w1 ⟨rfl, hb1⟩
  have HB1 := Lib.hid hb1
  clear o0 o1 o2 o3 o4 o5 o6 o7
  obtain ⟨o0, o1, o2, o3, o4, o5, o6, o7⟩ := op_at (HO.out.below hb1)
  clear hb1
  go_wp2_with fail
  refine (HCALL.out w1 HB1.out).mono ?_
  rintro e w2 ⟨rfl, hone, hb2, hf2⟩
  have HP2 := Lib.hid hone
  have HF2 : Hid (Below B w w2 ∧ Fr r w w2) := Lib.hid ⟨((HB2.out.trans (HB1.out.mono HB2.out.size)).mono hBw).trans hb2, (Fr.below (HB2.out.trans (HB1.out.mono HB2.out.size))).trans (hf2)⟩
  have HY2 := Lib.hid ((hf2).blk (HY.out.below HB1.out) (by omega) (by decide) (by decide) (by decide) (by decide))
  have hsz1 : w.heap.size + 1 < w1.heap.size := (HY.out.below HB1.out).lt
  have z0 := HY2.out.cell 0
  have z1 := HY2.out.cell 1
  have zf0 := HY2.out.frozen 0
  have zf1 := HY2.out.frozen 1
  dsimp at z0 z1
  clear o0 o1 o2 o3 o4 o5 o6 o7 hb2 hf2
  go_wp2
  refine bodyPost_ret (results_row_tmp rfl _ _ (w.heap.size + 1) 26 #[.int .u8 3, .int .i64 0] (0, 0) _ rfl ((HY2.out.set_ 0 _).set_ 1 _) Tryz.underlying26 rfl val_size) rfl ?_
  have hO := Only.set2 (y := w.heap.size + 1) (W := w2) (a := .int .u8 3) (c := .int .i64 0)
  exact ⟨rfl, ⟨r, .inl rfl, HP2.out.only hO HY2.out (by omega)⟩, (HF2.out.1.setCell (p := ⟨w.heap.size + 1, 0, none⟩) (by dsimp; omega) _).setCell (p := ⟨w.heap.size + 1, 1, none⟩) (by dsimp; omega) _, hO.fr HF2.out.2 (by omega)⟩

set_option maxRecDepth 100000 in
set_option maxHeartbeats 2000000 in
theorem do_3 (B b r : Nat) (w : World) (h : StAfter w B b r 3) (hBw : B ≤ w.heap.size) :
    Calls Tryz.prog 80 #[.pointer (some ⟨b, 0, none⟩), opArg 3 4 0 1 2 0 0 8] w fun e w' => e = .returned (.tuple #[.agg #[.int .u8 5, .int .i64 3], .int .i64 0]) ∧ (∃ r', (r' = r ∨ w.heap.size ≤ r') ∧ StAfter w' B b r' 4) ∧ Below B w w' ∧ Fr r w w' := by
  have hb1 : Below w.heap.size w (w.alloc (.cells (opCells 3 4 0 1 2 0 0 8) 44)) := (Below.refl _ _).alloc (Nat.le_refl _) _
  have hb2 := hb1.alloc (by simp) (.cells #[.int .u8 0, .int .i64 0] 26)
  have HB2 := Lib.hid hb2
  have HP := Lib.hid (h.below hb2)
  have HY := Lib.hid (Blk.new (w.alloc (.cells (opCells 3 4 0 1 2 0 0 8) 44)) 26 #[.int .u8 0, .int .i64 0])
  have HO := Lib.hid ((Blk.new w 44 (opCells 3 4 0 1 2 0 0 8)).alloc (.cells #[.int .u8 0, .int .i64 0] 26))
  simp only [World.size_alloc] at HY
  have hrl : r < w.heap.size := (One.vals h).lt r rfl |>.2
  obtain ⟨o0, o1, o2, o3, o4, o5, o6, o7⟩ := op_at HO.out
  have HTK : Hid (Calls Tryz.prog 130 #[.pointer (some ⟨b, 0, none⟩), opArg 3 4 0 1 2 0 0 8] ((w.alloc (.cells (opCells 3 4 0 1 2 0 0 8) 44)).alloc (.cells #[.int .u8 0, .int .i64 0] 26)) fun e w' => e = .returned (.bool true) ∧ Below _ _ w') := Lib.hid (by
    obtain ⟨⟨g, c, Q, cq, T, ct, hw, hq⟩, hv, _⟩ := (show One _ B b r _ _ _ _ from HP.out)
    exact takes_k3 1 b (some ⟨g, 0, none⟩) c 4 0 1 2 0 0 8 _ (hw.blk.cell 0) (by decide) (by decide))
  have HCALL := Lib.hid (fun W (hb : Below ((w.alloc (.cells (opCells 3 4 0 1 2 0 0 8) 44)).alloc (.cells #[.int .u8 0, .int .i64 0] 26)).heap.size ((w.alloc (.cells (opCells 3 4 0 1 2 0 0 8) 44)).alloc (.cells #[.int .u8 0, .int .i64 0] 26)) W) => read_out B b r [Ce.hole, Ce.vint 5] [] 0 [⟨7, Ce.vint 5⟩] W (One.below (show One _ B b r [Ce.hole, Ce.vint 5] [] 0 [⟨7, Ce.vint 5⟩] from HP.out) hb) (by have := HB2.out.size; have := hb.size; omega))
  unfold opArg opCells at *
  clear hb1 hb2 h
  go_enter Tryz.func80, Tryz.ntmps80
  go_wp2_with fail
  generalize hWX : World.alloc _ _ = WX at *
  clear hWX
  refine HTK.out.mono ?_
  rintro e w1 ⟨rfl, hb1⟩
  have HB1 := Lib.hid hb1
  clear o0 o1 o2 o3 o4 o5 o6 o7
  obtain ⟨o0, o1, o2, o3, o4, o5, o6, o7⟩ := op_at (HO.out.below hb1)
  clear hb1
  go_wp2_with fail
  refine (HCALL.out w1 HB1.out).mono ?_
  rintro e w2 ⟨rfl, hone, hb2, hf2⟩
  have HP2 := Lib.hid hone
  have HF2 : Hid (Below B w w2 ∧ Fr r w w2) := Lib.hid ⟨((HB2.out.trans (HB1.out.mono HB2.out.size)).mono hBw).trans hb2, (Fr.below (HB2.out.trans (HB1.out.mono HB2.out.size))).trans (hf2)⟩
  have HY2 := Lib.hid ((hf2).blk (HY.out.below HB1.out) (by omega) (by decide) (by decide) (by decide) (by decide))
  have hsz1 : w.heap.size + 1 < w1.heap.size := (HY.out.below HB1.out).lt
  have z0 := HY2.out.cell 0
  have z1 := HY2.out.cell 1
  have zf0 := HY2.out.frozen 0
  have zf1 := HY2.out.frozen 1
  dsimp at z0 z1
  clear o0 o1 o2 o3 o4 o5 o6 o7 hb2 hf2
  go_wp2
  refine bodyPost_ret (results_row_tmp rfl _ _ (w.heap.size + 1) 26 #[.int .u8 5, .int .i64 3] (0, 0) _ rfl ((HY2.out.set_ 0 _).set_ 1 _) Tryz.underlying26 rfl val_size) rfl ?_
  have hO := Only.set2 (y := w.heap.size + 1) (W := w2) (a := .int .u8 5) (c := .int .i64 3)
  exact ⟨rfl, ⟨r, .inl rfl, HP2.out.only hO HY2.out (by omega)⟩, (HF2.out.1.setCell (p := ⟨w.heap.size + 1, 0, none⟩) (by dsimp; omega) _).setCell (p := ⟨w.heap.size + 1, 1, none⟩) (by dsimp; omega) _, hO.fr HF2.out.2 (by omega)⟩

theorem do_any (k : Nat) (o : Ce.Op) (ho : opsL[k]? = some o) (B b r : Nat) (w : World) (h : StAfter w B b r k) (hBw : B ≤ w.heap.size) :
    Calls Tryz.prog 80 #[.pointer (some ⟨b, 0, none⟩), opArg o.kind o.v.k o.v.n o.i.k o.i.n o.x.k o.x.n o.who] w fun e w' => e = .returned (.tuple #[.agg #[.int .u8 (gave.getD k Ce.hole).k, .int .i64 (gave.getD k Ce.hole).n], .int .i64 0]) ∧ (∃ r', (r' = r ∨ w.heap.size ≤ r') ∧ StAfter w' B b r' (k + 1)) ∧ Below B w w' ∧ Fr r w w' := by
  match k, ho with
  | 0, ho => injection ho with ho; subst ho; exact do_0 B b r w h hBw
  | 1, ho => injection ho with ho; subst ho; exact do_1 B b r w h hBw
  | 2, ho => injection ho with ho; subst ho; exact do_2 B b r w h hBw
  | 3, ho => injection ho with ho; subst ho; exact do_3 B b r w h hBw
  | n + 4, ho => simp [opsL] at ho
end Go.Proofs.YtacggbpgillbaaaGreatDoor

namespace Go
theorem results_row_tmp4 {P : Program} {fn : Func} {p u1 u2 u3 u4 : Tmp} {ty : TypeId} (h : fn.results = #[.cell p ty, .tmp u1, .tmp u2, .tmp u3, .tmp u4]) (tmps : Array Value) (w : World) (g : Nat) (t : TypeId) (cs : Array Value) (fr : Nat × Nat) (d : TypeDesc)
    (hp : tmps.getD p undef = .pointer (some ⟨g, 0, none⟩)) (hg : w.heap[g]? = some (.cells cs t fr))
    (hu : P.underlying ty = some d) (hd : (match d with | .struct _ | .array _ _ => true | _ => false) = true) (hi : (P.info? ty).map (·.size) = some cs.size) :
    (results fn tmps).run P w = .ok (.tuple #[.agg cs, tmps.getD u1 undef, tmps.getD u2 undef, tmps.getD u3 undef, tmps.getD u4 undef]) w := by
  have hp' : tmps[p]?.getD undef = .pointer (some ⟨g, 0, none⟩) := by simpa using hp
  simp [results, h, hp', asAddr, run_loadVar_row w g t ty cs fr d hg hu hd hi, Result.andThen]
end Go
namespace Go.Proofs.YtacggbpgillbaaaGreatDoor
open Go.RowKit Go.El

theorem play_opsL : Ce.play [] opsL = ([⟨[Ce.hole, Ce.vint 5], []⟩], gave, [⟨7, Ce.vint 5⟩], 4, 0) := by decide +kernel
theorem One.grown {W W' : World} {B b r : Nat} {cells : List Ce.V} {ws : List Ce.Rd} {n : Int} {ts : List Ce.Td} (h : One W B b r cells ws n ts) {B' cg : Nat} {G : Option Addr} {L : List Ce.V} (ho : ValE.Own 26 W B' G cg L) (hne : ∀ a, G = some a → a.block ≠ r) (hg : W.grownBy W' (Value.slice G L.length cg).ownBlock) : One W' B b r cells ws n ts := by
  obtain ⟨⟨g, c, Q, cq, T, ct, hw, hq⟩, hv, hl⟩ := h
  refine ⟨⟨g, c, Q, cq, T, ct, ⟨hw.hB, hw.blk.kept hg (Own.ne_blk ho hw.blk (by decide)), hw.sts.kept hg (own_own_ne hw.sts ho (by decide)), hw.tds.kept hg (own_own_ne hw.tds ho (by decide))⟩, hq.kept hg (own_own_ne hq ho (by decide))⟩, hv.kept hg (.inr (fun e => ?_)), hl⟩
  cases G with
  | none => cases e
  | some a =>
    injection e with e
    exact hne a rfl e.symm
theorem StAfter.grown {W W' : World} {B b r : Nat} {B' cg : Nat} {G : Option Addr} {L : List Ce.V} (ho : ValE.Own 26 W B' G cg L) (hne : ∀ a, G = some a → a.block ≠ r) (hg : W.grownBy W' (Value.slice G L.length cg).ownBlock) : ∀ {k : Nat}, StAfter W B b r (k + 1) → StAfter W' B b r (k + 1)
  | 0, h => One.grown h ho hne hg
  | 1, h => One.grown h ho hne hg
  | _ + 2, h => One.grown h ho hne hg
theorem One.cell0 {W : World} {B b r : Nat} {x : Ce.V} {l : List Ce.V} {ws : List Ce.Rd} {n : Int} {ts : List Ce.Td} (h : One W B b r (x :: l) ws n ts) : W.cell? ⟨r, 0, none⟩ = some (.int .u8 x.k) := by
  obtain ⟨r', hA, _, _, hin⟩ := Own.in_ h.vals (by simp)
  injection hA with hA
  injection hA with hA
  subst hA
  exact hin 0 _ rfl 0 _ rfl
theorem StAfter.cell0 {W : World} {B b r : Nat} : ∀ {k : Nat}, StAfter W B b r (k + 1) → W.cell? ⟨r, 0, none⟩ = some (.int .u8 0)
  | 0, h => One.cell0 h
  | 1, h => One.cell0 h
  | _ + 2, h => One.cell0 h
theorem gave_ne {W : World} {B b r k cap : Nat} {A : Option Addr} (hs : StAfter W B b r (k + 1)) (ho : ValE.Own 26 W B A cap (gave.take (k + 1))) : ∀ a, A = some a → a.block ≠ r := by
  intro a ha e
  obtain ⟨g, hA, _, _, hin⟩ := Own.in_ ho (by simp [gave])
  rw [ha] at hA
  injection hA with hA
  subst hA
  have h0 : (gave.take (k + 1))[0]? = some (Ce.vref 0) := by simp [gave]
  have h1 := hin 0 _ h0 0 _ rfl
  have h2 := hs.cell0
  rw [← e] at h2
  have h3 : some (Value.int .u8 4) = some (Value.int .u8 0) := h1.symm.trans h2
  injection h3 with h3
  injection h3 with _ h3
  exact absurd h3 (by decide)
theorem gave_take (k : Nat) (hk : k < 4) : gave[k]? = some (gave.getD k Ce.hole) := by
  rw [List.getD_eq_getElem?_getD, List.getElem?_eq_getElem (show k < gave.length from hk)]
  rfl

set_option maxRecDepth 100000 in
set_option maxHeartbeats 8000000 in
theorem play_a : PlayA := by
  intro m l A Bp c c2 w hm0 hl0 hm hl hV hS
  subst hm0 hl0
  rw [play_opsL]
  have hb1 : Below w.heap.size w (w.alloc (.cells #[.slice A 0 c] 35)) := (Below.refl _ _).alloc (Nat.le_refl _) _
  have hb2 := hb1.alloc (by simp) (.cells #[.slice none 0 0] 35)
  have HB2 := Lib.hid hb2
  have HX := Lib.hid ((Blk.new w 35 #[.slice A 0 c]).alloc (.cells #[.slice none 0 0] 35))
  have HR := Lib.hid (Blk.new (w.alloc (.cells #[.slice A 0 c] 35)) 35 #[.slice none 0 0])
  simp only [World.size_alloc] at HR
  have his := isMemory_any [] hm A c _ (hV.at_.below hb2)
  rw [show Ce.memOk [] = true by decide] at his
  have HIS : Hid _ := Lib.hid his
  have HNW := Lib.hid (fun W (hb : Below w.heap.size w W) => newWork_nil A c W (hV.at_.below hb))
  have HSA := Lib.hid hS.arg
  have x0 := HX.out.cell 0
  dsimp at x0
  show Calls _ _ #[.agg #[.slice A 0 c], .slice Bp 4 c2] w _
  clear hb1 hb2 hm hl hV hS his
  go_enter Tryz.func36, Tryz.ntmps36
  go_wp2_with fail
  generalize hWX : World.alloc _ _ = WX at *
  clear hWX
  refine HIS.out.mono ?_
  rintro e w1 ⟨rfl, hb1⟩
  have HB1 := Lib.hid hb1
  have x1 := (HX.out.below hb1).cell 0
  dsimp at x1
  clear hb1 x0
  go_wp2_with fail
  refine (HNW.out w1 (HB2.out.trans (HB1.out.mono HB2.out.size))).mono ?_
  rintro e w2 ⟨⟨b, rfl, hwk⟩, hb2⟩
  have HB3 := Lib.hid hb2
  have HWK := Lib.hid hwk
  have HBW : Hid (Below w.heap.size w w1) := Lib.hid (HB2.out.trans (HB1.out.mono HB2.out.size))
  have HR1 := Lib.hid (HR.out.below HB1.out)
  generalize hB : w1.heap.size = B at *
  have hwB : w.heap.size + 1 < B := by have := HR1.out.lt; omega
  have HBB : Hid (∀ wr, Below B w2 wr → Below w.heap.size w wr) := Lib.hid fun wr h => HBW.out.trans ((HB3.out.trans h).mono (by omega))
  have HRB : Hid (∀ wr, Below B w2 wr → Blk wr (w.heap.size + 1) 35 #[.slice none 0 0]) := Lib.hid fun wr h => HR1.out.below (by rw [hB]; exact HB3.out.trans h)
  have hB2 : B ≤ w2.heap.size := by have := HB3.out.size; omega
  clear hwk hb2 x1
  go_wp2_with fail
  go_loopw [10, 23] (fun s10 i wr => ∃ (L : List Ce.V) (r cg : Nat) (G : Option Addr), L.length ≤ 4 ∧ Hid (L = gave.take L.length) ∧ i = .int .i64 L.length ∧ s10 = .slice G L.length cg ∧ Hid (StAfter wr B b r L.length) ∧ Hid (ValE.Own 26 wr B G cg L) ∧ Hid (∀ a, G = some a → a.block ≠ r) ∧ Hid (Below B w2 wr) ∧ B ≤ wr.heap.size) (fun _ i _ => 4 - (intOf i).toNat)
  case atStart => exact ⟨[], 0, 0, none, by simp, Lib.hid rfl, rfl, rfl, HWK, Lib.hid (Own.nil _ _ _ _), Lib.hid (fun a h => by cases h), Lib.hid (Below.refl _ _), hB2⟩
  case round =>
    obtain ⟨L, r, cg, G, hL4, HL, rfl, rfl, HST, HG, HNE, HB, hBr⟩ := hrel
    by_cases hlt : L.length < 4
    · have hlt' : (L.length : Int) < 4 := by omega
      obtain ⟨o, ho⟩ : ∃ x, opsL[L.length]? = some x := ⟨_, List.getElem?_eq_getElem (show L.length < opsL.length from hlt)⟩
      obtain ⟨bl, ol, rfl, hin, hbl⟩ := (HSA.out.below (HBB.out wr HB.out)).at_lt (show L.length < opsL.length from hlt)
      have x0 : wr.cell? ⟨bl, ol + L.length * 8, none⟩ = some (.int .u8 o.kind) := hin _ o ho 0 _ rfl
      have x1 : wr.cell? ⟨bl, ol + L.length * 8 + 1, none⟩ = some (.int .u8 o.v.k) := hin _ o ho 1 _ rfl
      have x2 : wr.cell? ⟨bl, ol + L.length * 8 + 2, none⟩ = some (.int .i64 o.v.n) := hin _ o ho 2 _ rfl
      have x3 : wr.cell? ⟨bl, ol + L.length * 8 + 3, none⟩ = some (.int .u8 o.i.k) := hin _ o ho 3 _ rfl
      have x4 : wr.cell? ⟨bl, ol + L.length * 8 + 4, none⟩ = some (.int .i64 o.i.n) := hin _ o ho 4 _ rfl
      have x5 : wr.cell? ⟨bl, ol + L.length * 8 + 5, none⟩ = some (.int .u8 o.x.k) := hin _ o ho 5 _ rfl
      have x6 : wr.cell? ⟨bl, ol + L.length * 8 + 6, none⟩ = some (.int .i64 o.x.n) := hin _ o ho 6 _ rfl
      have x7 : wr.cell? ⟨bl, ol + L.length * 8 + 7, none⟩ = some (.int .i64 o.who) := hin _ o ho 7 _ rfl
      have hba : Below wr.heap.size wr (wr.alloc (.cells (opCells o.kind o.v.k o.v.n o.i.k o.i.n o.x.k o.x.n o.who) 44)) := (Below.refl _ _).alloc (Nat.le_refl _) _
      have HBA := Lib.hid hba
      have HD := Lib.hid (do_any L.length o ho B b r _ (HST.out.below hba) (by simp; omega))
      obtain ⟨y0, y1, y2, y3, y4, y5, y6, y7⟩ := op_at (Blk.new wr 44 (opCells o.kind o.v.k o.v.n o.i.k o.i.n o.x.k o.x.n o.who))
      have HV : Hid (gave[L.length]? = some (gave.getD L.length Ce.hole)) := Lib.hid (gave_take _ hlt)
      generalize gave.getD L.length Ce.hole = v at *
      have HL1 : Hid (L ++ [v] = gave.take (L ++ [v]).length) := Lib.hid (by
        rw [List.length_append, List.length_singleton, List.take_add_one, HV.out, ← HL.out]; rfl)
      unfold opCells opArg at *
      clear hba hin ho
      go_wp2_with fail
      refine HD.out.mono ?_
      rintro e w4 ⟨rfl, ⟨r', hr', hst'⟩, hb4, hf4⟩
      have HG4 : Hid (ValE.Own 26 w4 B G cg L) := Lib.hid (hf4.own (Own.below HG.out HBA.out) HNE.out (by decide) (by decide) (by decide) (by decide))
      have HB4 : Hid (Below B w2 w4) := Lib.hid ((HB.out.trans (HBA.out.mono hBr)).trans hb4)
      have hsz4 : wr.heap.size < w4.heap.size := by have := hf4.1; simp at this; omega
      have HNE4 : Hid (∀ a, G = some a → a.block ≠ r') := Lib.hid (fun a ha => by
        rcases hr' with h | h
        · rw [h]; exact HNE.out a ha
        · have := (Own.block HG.out ha).2
          simp at h
          omega)
      have hbA : Below w4.heap.size w4 (w4.alloc (.cells #[.int .u8 v.k, .int .i64 v.n] 26)) := (Below.refl _ _).alloc (Nat.le_refl _) _
      have hbA6 := hbA.alloc (by simp) (.cells #[.int .u8 v.k, .int .i64 v.n] 26)
      have HBA6 := Lib.hid hbA6
      have HG6 := Lib.hid (Own.below HG4.out hbA6)
      have HST6 := Lib.hid (hst'.below hbA6)
      have zb := Blk.new w4 26 #[.int .u8 v.k, .int .i64 v.n]
      have z0 := zb.cell 0
      have z1 := zb.cell 1
      dsimp at z0 z1
      have HEL : Hid (∀ j u, (ValE.cells v)[j]? = some u → ((w4.alloc (.cells #[.int .u8 v.k, .int .i64 v.n] 26)).alloc (.cells #[.int .u8 v.k, .int .i64 v.n] 26)).cell? ⟨w4.heap.size + 1, j, none⟩ = some u) := Lib.hid (fun j u hj => by
        have h2 := (Blk.new (w4.alloc (.cells #[.int .u8 v.k, .int .i64 v.n] 26)) 26 #[.int .u8 v.k, .int .i64 v.n]).cell j
        simp only [World.size_alloc] at h2
        rw [h2]
        simpa [ValE, vC] using hj)
      have hBs4 : B ≤ w4.heap.size := by omega
      clear hb4 hf4 hst' hbA hbA6 zb hr' x0 x1 x2 x3 x4 x5 x6 x7 y0 y1 y2 y3 y4 y5 y6 y7 HD
      go_wp2_with (at_builtin; refine wpList_append_one ValE _ rfl _ _ 22 26 rfl Tryz.underlying22 val_info rfl B G cg L v (w4.heap.size + 1) rfl rfl HG6.out HEL.out (by omega) (by omega) (by simp; omega) ?_)
      intro A' cap' w7 hown7 hgrow7
      have hst7 := StAfter.grown HG6.out HNE4.out hgrow7 HST6.out
      have hlen : (L ++ [v]).length = L.length + 1 := by simp
      have HNE7 : Hid (∀ a, A' = some a → a.block ≠ r') := Lib.hid (by
        have h1 := hown7
        rw [show L ++ [v] = gave.take (L.length + 1) by have := HL1.out; rwa [hlen] at this] at h1
        exact gave_ne hst7 h1)
      have HST7 := Lib.hid hst7
      have HOWN7 := Lib.hid hown7
      have HB7 : Hid (Below B w2 w7) := Lib.hid ((HB4.out.trans (HBA6.out.mono hBs4)).grown hgrow7 (by simp; omega) (fun j hj => (HG6.out.lt j hj).1))
      have hs7 : B ≤ w7.heap.size := by have := hgrow7.size; simp at this; omega
      clear hst7 hown7 hgrow7
      go_wp2_with fail
      go_roundw
      case rel => exact ⟨L ++ [v], r', cap', A', by omega, HL1, by rw [hlen]; go_num, by rw [hlen], by rw [hlen]; exact HST7, HOWN7, HNE7, HB7, hs7⟩
      case measure => simp [intOf]; omega
    · have hlt' : ¬ (L.length : Int) < 4 := by omega
      have h4 : L.length = 4 := by omega
      have hLg : L = gave := by have := HL.out; rw [h4] at this; exact this.trans rfl
      subst hLg
      obtain ⟨⟨g, c', Q, cq, T, ct, hw, hq⟩, hv, _⟩ := (show One wr B b r [Ce.hole, Ce.vint 5] [] 0 [⟨7, Ce.vint 5⟩] from HST.out)
      have HW := Lib.hid hw
      have HQ := Lib.hid hq
      have HV := Lib.hid hv
      have HP := Lib.hid (HRB.out wr HB.out)
      have HBF := Lib.hid (HBB.out wr HB.out)
      have m0 := hw.blk.cell 0
      have m2 := hw.blk.cell 2
      have p0 := HP.out.cell 0
      have pf := HP.out.frozen 0
      have pl := HP.out.lt
      have hBb := hw.hB
      dsimp at m0 m2 p0
      have hbp : b ≠ w.heap.size + 1 := by omega
      have hbp2 : w.heap.size + 1 ≠ b := by omega
      have hg4 : gave.length = 4 := rfl
      simp only [hg4] at *
      clear hw hq hv
      go_wp2_with fail
      go_region_held3 (fun W => W.cell? ⟨b, 0, none⟩ = some (.slice (some ⟨g, 0, none⟩) 1 c') ∧ W.cell? ⟨b, 2, none⟩ = some (.slice T 1 ct))
        (go_keep)
        (first | (fail "none"))
      all_goals
        have hd := (Below.refl wr.heap.size wr).drew
        have hP2 := HP.out.below hd
        have hO := Only.set1 (y := w.heap.size + 1) (o := 0) (W := wr.drew) (a := .slice (some ⟨g, 0, none⟩) 1 c')
        have hW2 := hO.workT hP2 (by decide) (by decide) (by decide) (HW.out.below hd)
        have hQ2 := hO.ownT hP2 (Own.below HQ.out hd) (by decide)
        have hV2 := hO.ownT hP2 (Own.below HV.out hd) (by decide)
        have hG2 := hO.ownT hP2 (Own.below HG.out hd) (by decide)
        have HE : Hid ((MemV (wr.drew.setCell ⟨w.heap.size + 1, 0, none⟩ (.slice (some ⟨g, 0, none⟩) 1 c')) (some ⟨g, 0, none⟩) c' [⟨[Ce.hole, Ce.vint 5], []⟩] ∧ SlAt ValE (wr.drew.setCell ⟨w.heap.size + 1, 0, none⟩ (.slice (some ⟨g, 0, none⟩) 1 c')) ⟨G, 4, cg⟩ gave ∧ SlAt TdE (wr.drew.setCell ⟨w.heap.size + 1, 0, none⟩ (.slice (some ⟨g, 0, none⟩) 1 c')) ⟨T, 1, ct⟩ [⟨7, Ce.vint 5⟩]) ∧ Below w.heap.size w (wr.drew.setCell ⟨w.heap.size + 1, 0, none⟩ (.slice (some ⟨g, 0, none⟩) 1 c'))) := Lib.hid ⟨⟨⟨⟨[(⟨some ⟨r, 0, none⟩, 2, 2⟩, ⟨Q, 0, cq⟩)], rfl, Own.arg hW2.sts, fun i x s hx hs => by
            match i, hx, hs with
            | 0, hx, hs =>
              injection hx with hx
              injection hs with hs
              subst hx hs
              exact ⟨SlAt.of_own hV2, SlAt.of_own hQ2⟩
            | j + 1, hx, _ => simp at hx⟩, fun h => (by cases h), (Own.le hW2.sts).1⟩, SlAt.of_own hG2, SlAt.of_own hW2.tds⟩, (HBF.out.trans (hd.mono HBF.out.size)).setCell (p := ⟨w.heap.size + 1, 0, none⟩) (by dsimp; omega) _⟩
        have hP3 := hP2.set_ 0 (.slice (some ⟨g, 0, none⟩) 1 c')
        clear hd hP2 hO hW2 hQ2 hV2 hG2
        go_wp2
        refine bodyPost_ret (results_row_tmp4 rfl _ _ (w.heap.size + 1) 35 #[.slice (some ⟨g, 0, none⟩) 1 c'] (0, 0) _ rfl hP3 Tryz.underlying35 rfl mem_size) rfl ?_
        exact ⟨⟨some ⟨g, 0, none⟩, c', G, cg, T, ct, rfl, HE.out.1⟩, HE.out.2⟩
end Go.Proofs.YtacggbpgillbaaaGreatDoor
