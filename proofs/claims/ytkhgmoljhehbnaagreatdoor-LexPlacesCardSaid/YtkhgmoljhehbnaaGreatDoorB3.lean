/- The walk of (vocabulary).bare, whole. -/
import Derived.Test.YtkhgmoljhehbnaaGreatDoorB2
import Derived.Deep.RegionHeld3
import Derived.StillTailTactics
namespace Go.Proofs.YtkhgmoljhehbnaaGreatDoor
open Go.RowKit

set_option maxRecDepth 100000 in
set_option maxHeartbeats 4000000 in
theorem bare_empty (mo : Option Nat) (so : Option Addr) (q : Nat) (A : Option Addr) (cap : Nat) (w : World) :
    Calls Tryz.prog 19 #[.agg #[.map mo, .slice so q q], .slice A 0 cap] w fun e w' => e = .returned (.string ⟨#[]⟩) ∧ Below w.heap.size w w' := by
  have hnew := BldF.new (w.alloc (.cells #[.map mo, .slice so q q] 58))
  simp only [World.size_alloc] at hnew
  have HN := Lib.hid hnew
  clear hnew
  go_enter Tryz.func19, Tryz.ntmps19
  go_wp2_with fail
  go_loopw [10] (fun a wr => a = .int .i64 0 ∧ wr = (w.alloc (.cells #[.map mo, .slice so q q] 58)).alloc (.cells #[.pointer none, .slice none 0 0] 78)) (fun _ _ => 0)
  case atStart => exact ⟨rfl, rfl⟩
  case round =>
    obtain ⟨rfl, rfl⟩ := hrel
    go_wp2_with fail
    refine (Tryz.Builder_String_any_k (w.heap.size + 1) (w.heap.size + 1) [] _ HN.out (by simp)).mono ?_
    rintro e w2 ⟨rfl, _, hb, _⟩
    go_wp2
    go_ret
    exact ⟨rfl, (((Below.refl _ w).alloc (Nat.le_refl _) _).alloc (by simp) _).trans (hb.mono (by simp))⟩

set_option maxRecDepth 100000 in
set_option maxHeartbeats 8000000 in
theorem bare_any (ts : List LT) (hsz : (bareP ts).length ≤ 3000000) (hn : ts.length ≤ 3000000) (bm bs blk off cap : Nat) (w : World) (hv : Voc w bm bs) (he : Env w) (ht : ToksIn w blk off ts) (hne : ts ≠ []) :
    Calls Tryz.prog 19 #[.agg #[.map (some bm), .slice (some ⟨bs, 0, none⟩) 26 26], .slice (some ⟨blk, off, none⟩) ts.length cap] w fun e w' => e = .returned (.string ⟨(bareP ts).toArray⟩) ∧ Below w.heap.size w w' := by
  have hnew := BldF.new (w.alloc (vocObj bm bs))
  simp only [World.size_alloc] at hnew
  have HN := Lib.hid hnew
  have HV := Lib.hid (hv.alloc (vocObj bm bs))
  have HE := Lib.hid (he.alloc (vocObj bm bs))
  have HT := Lib.hid (ht.below (((Below.refl _ w).alloc (Nat.le_refl _) (vocObj bm bs))) (fun h => ht.lt h))
  have HVB := Lib.hid (VocAt.new w bm bs)
  have hblk := ht.lt hne
  have hle := fun k (hk : k ≤ ts.length) => Nat.le_trans (bareN_le ts ts.length k hk) hsz
  have HL := Lib.hid hle
  clear hnew hv he ht hsz hne hle
  go_enter Tryz.func19, Tryz.ntmps19
  go_wp2_with fail
  go_loopw [10] (fun a wr => ∃ k : Nat, k ≤ ts.length ∧ a = .int .i64 k ∧ Hid (BldF (w.heap.size + 1) (w.heap.size + 1) (Lib.byteCells (bareN ts k)) wr) ∧ Below (w.heap.size + 1) (w.alloc (vocObj bm bs)) wr) (fun a _ => ts.length - (intOf a).toNat)
  case atStart => exact ⟨0, Nat.zero_le _, rfl, HN, (Below.refl _ _).alloc (by simp) _⟩
  case round =>
    obtain ⟨k, hk, rfl, HB, hbw⟩ := hrel
    by_cases hlt : k < ts.length
    · have hlt' : (k : Int) < ts.length := by omega
      obtain ⟨x, hx⟩ : ∃ x, ts[k]? = some x := ⟨_, List.getElem?_eq_getElem hlt⟩
      have hzw := hbw.size
      simp only [World.size_alloc] at hzw
      have HTW := Lib.hid (HT.out.below hbw (fun _ => by omega))
      obtain ⟨x0, x1, x2⟩ := HTW.out k x hx
      have hL1 := HL.out (k + 1) hlt
      have htx : txtAt ts k = x.text.data.toList := by unfold txtAt; rw [hx]
      have hbn : bareN ts (k + 1) = bareN ts k ++ sepAt ts k ++ x.text.data.toList := by rw [bareN, htx]
      have hxs : x.text.size ≤ 3000000 := by rw [hbn] at hL1; simp at hL1; rw [Lib.size_eq]; simp; omega
      have HX := Lib.hid hx
      have HLT : Hid (k < ts.length) := hlt
      have hk6 : (bareN ts k).length ≤ 3000000 := HL.out k hk
      cases k with
      | zero =>
        have HBN : Hid (Lib.byteCells (bareN ts (0 + 1)) = Lib.byteCells (bareN ts 0) ++ Lib.strCells x.text) := by
          show _ = _
          rw [hbn, Lib.strCells_eq, Lib.byteCells_append, Lib.byteCells_append]; simp [sepAt, Lib.byteCells]
        clear hbn htx hx hL1 HL
        simp only [Nat.zero_mul, Nat.add_zero] at x0 x1 x2
        go_wp2_with fail
        go_region
        go_wp2_with fail
        refine (writeString_any (w.heap.size + 1) (w.heap.size + 1) (Lib.byteCells (bareN ts 0)) x.text _ (HB.out.alloc _).drew (by rw [Lib.byteCells_length]; omega) (by simp; omega)).mono ?_
        rintro e w4 ⟨rfl, hbld, hb4, _⟩
        have HBL := Lib.hid hbld
        have hbn4 : Below (w.heap.size + 1) (w.alloc (vocObj bm bs)) w4 := ((hbw.alloc (by omega) _).drew).trans hb4
        clear hbld hb4
        go_wp2_with fail
        go_roundw
        case rel => exact ⟨0 + 1, by omega, by go_num, Lib.hid (by rw [HBN.out]; exact .inr HBL.out), hbn4⟩
        case measure => simp [intOf]; omega
      | succ j =>
        obtain ⟨y, hy⟩ : ∃ y, ts[j]? = some y := ⟨_, List.getElem?_eq_getElem (by omega)⟩
        obtain ⟨y0, y1, y2⟩ := HTW.out j y hy
        have hys : y.text.size ≤ 3000000 := by
          have h1 := HL.out (j + 1) hk
          rw [bareN] at h1
          unfold txtAt at h1
          rw [hy] at h1
          simp at h1
          rw [Lib.size_eq]; simp; omega
        have hsep : sepAt ts (j + 1) = if apartB y.kind y.text x.text then [32] else [] := by
          have hx' := HX.out
          simp only [sepAt, hy, hx']
        rw [hsep] at hbn
        have hap := fun W hV hE => apart_ex y.kind x.kind y.text x.text y.at_ x.at_ (by omega) bm bs W hV hE
        generalize apartB y.kind y.text x.text = q at hbn hap
        have HAP := Lib.hid hap
        have HBN := Lib.hid hbn
        obtain ⟨v0, v1⟩ := HVB.out.below hbw (by omega)
        have VV := Lib.hid (HV.out.below (by simpa using hbw))
        have EE := Lib.hid (HE.out.below (B := w.heap.size + 1) hbw (by have := HE.out.lt; simpa using this))
        have hs1 : ((j + 1 : Nat) : Int) - 1 = j := by omega
        have hs2 : (j : Int) + 1 - 1 = j := by omega
        have hj0 : (0 : Int) ≤ j := by omega
        have hj1 : (j : Int) < ts.length := by omega
        have hj2 : j < ts.length := by omega
        have hjm : (j : Int) ≤ 9223372036854775807 := by omega
        have hwr : IntKind.i64.wrap (j : Int) = j := by rw [IntKind.wrap_i64]; omega
        have hk0 : (0 : Int) < ((j + 1 : Nat) : Int) := by omega
        have hk1 : (0 : Int) < (j : Int) + 1 := by omega
        clear hbn htx hx hL1 HL hap hsep hy
        go_wp2_with fail
        have z0 : (wr.alloc (.cells #[.int .u8 x.kind, .string x.text, .int .i64 x.at_] 44)).cell? ⟨w.heap.size, 0, none⟩ = some (.map (some bm)) := (cell_al _ _ (by omega)).trans v0
        have z1 : (wr.alloc (.cells #[.int .u8 x.kind, .string x.text, .int .i64 x.at_] 44)).cell? ⟨w.heap.size, 1, none⟩ = some (.slice (some ⟨bs, 0, none⟩) 26 26) := (cell_al _ _ (by omega)).trans v1
        have z2 : (wr.alloc (.cells #[.int .u8 x.kind, .string x.text, .int .i64 x.at_] 44)).cell? ⟨blk, off + j * 3, none⟩ = some (.int .u8 y.kind) := (cell_al _ _ (by omega)).trans y0
        have z3 : (wr.alloc (.cells #[.int .u8 x.kind, .string x.text, .int .i64 x.at_] 44)).cell? ⟨blk, off + j * 3 + 1, none⟩ = some (.string y.text) := (cell_al _ _ (by omega)).trans y1
        have z4 : (wr.alloc (.cells #[.int .u8 x.kind, .string x.text, .int .i64 x.at_] 44)).cell? ⟨blk, off + j * 3 + 2, none⟩ = some (.int .i64 y.at_) := (cell_al _ _ (by omega)).trans y2
        have z5 : (wr.alloc (.cells #[.int .u8 x.kind, .string x.text, .int .i64 x.at_] 44)).cell? ⟨wr.heap.size, 0, none⟩ = some (.int .u8 x.kind) := by simp
        have z6 : (wr.alloc (.cells #[.int .u8 x.kind, .string x.text, .int .i64 x.at_] 44)).cell? ⟨wr.heap.size, 1, none⟩ = some (.string x.text) := by simp
        have z7 : (wr.alloc (.cells #[.int .u8 x.kind, .string x.text, .int .i64 x.at_] 44)).cell? ⟨wr.heap.size, 2, none⟩ = some (.int .i64 x.at_) := by simp
        have hltb := HB.out.lt
        have BX := Blk.new wr 44 #[.int .u8 x.kind, .string x.text, .int .i64 x.at_]
        have hz1 : (wr.alloc (.cells #[.int .u8 x.kind, .string x.text, .int .i64 x.at_] 44)).heap.size = wr.heap.size + 1 := by simp
        have HB1 := Lib.hid (HB.out.alloc (.cells #[.int .u8 x.kind, .string x.text, .int .i64 x.at_] 44))
        have VV1 := Lib.hid (VV.out.alloc (.cells #[.int .u8 x.kind, .string x.text, .int .i64 x.at_] 44))
        have EE1 := Lib.hid (EE.out.alloc (.cells #[.int .u8 x.kind, .string x.text, .int .i64 x.at_] 44))
        have hbw1 : Below (w.heap.size + 1) (w.alloc (vocObj bm bs)) (wr.alloc (.cells #[.int .u8 x.kind, .string x.text, .int .i64 x.at_] 44)) := hbw.alloc (by omega) _
        clear HB VV EE hbw v0 v1 y0 y1 y2 x0 x1 x2 HTW
        generalize wr.alloc (.cells #[.int .u8 x.kind, .string x.text, .int .i64 x.at_] 44) = W1 at *
        have hz1' : W1.drew.heap.size = wr.heap.size + 1 := hz1
        go_region_held3 (fun W => W.cell? ⟨w.heap.size, 0, none⟩ = some (.map (some bm)) ∧ W.cell? ⟨w.heap.size, 1, none⟩ = some (.slice (some ⟨bs, 0, none⟩) 26 26) ∧ W.cell? ⟨blk, off + j * 3, none⟩ = some (.int .u8 y.kind) ∧ W.cell? ⟨blk, off + j * 3 + 1, none⟩ = some (.string y.text) ∧ W.cell? ⟨blk, off + j * 3 + 2, none⟩ = some (.int .i64 y.at_) ∧ W.cell? ⟨wr.heap.size, 0, none⟩ = some (.int .u8 x.kind) ∧ W.cell? ⟨wr.heap.size, 1, none⟩ = some (.string x.text) ∧ W.cell? ⟨wr.heap.size, 2, none⟩ = some (.int .i64 x.at_))
          (first
            | exact ⟨z0, z1, z2, z3, z4, z5, z6, z7⟩
            | exact ⟨((bcell hb2).1 _ _ (by omega)).trans z0, ((bcell hb2).1 _ _ (by omega)).trans z1, ((bcell hb2).1 _ _ (by omega)).trans z2, ((bcell hb2).1 _ _ (by omega)).trans z3, ((bcell hb2).1 _ _ (by omega)).trans z4, ((bcell hb2).1 _ _ (by omega)).trans z5, ((bcell hb2).1 _ _ (by omega)).trans z6, ((bcell hb2).1 _ _ (by omega)).trans z7⟩)
          ((first
            | (go_at_call 33; refine (HAP.out W1.drew (VV1.out.below (Below.refl _ _).drew) (EE1.out.below (Below.refl _ _).drew EE1.out.lt)).mono ?_; rintro e w2 ⟨rfl, hb2⟩)))
        have HB2 := Lib.hid (HB1.out.drew.below hb2)
        have hz2 := hb2.size
        have BX2 : Blk w2 wr.heap.size 44 #[.int .u8 x.kind, .string x.text, .int .i64 x.at_] := Blk.below (w := W1.drew) BX hb2 (by omega)
        have x1 := ((bcell hb2).1 wr.heap.size 1 (by omega)).trans z6
        have hbw2 : Below (w.heap.size + 1) (w.alloc (vocObj bm bs)) w2 := hbw1.drew.trans (hb2.mono (by omega))
        have hBW : wr.heap.size < w2.heap.size := by omega
        clear hb2 z0 z1 z2 z3 z4 z5 z6 z7 HB1 VV1 EE1 hbw1
        cases q with
        | false =>
          have HBY : Hid (Lib.byteCells (bareN ts (j + 1 + 1)) = Lib.byteCells (bareN ts (j + 1)) ++ Lib.strCells x.text) := by
            show _ = _
            rw [HBN.out, Lib.strCells_eq, Lib.byteCells_append, Lib.byteCells_append]; simp [Lib.byteCells]
          go_wp2_with fail
          refine (writeString_any (w.heap.size + 1) (w.heap.size + 1) (Lib.byteCells (bareN ts (j + 1))) x.text _ HB2.out (by rw [Lib.byteCells_length]; omega) (by omega)).mono ?_
          rintro e w4 ⟨rfl, hbld, hb4, _⟩
          have HBL := Lib.hid hbld
          have hbn4 : Below (w.heap.size + 1) (w.alloc (vocObj bm bs)) w4 := hbw2.trans hb4
          clear hbld hb4
          go_wp2_with fail
          go_roundw
          case rel => exact ⟨j + 1 + 1, by omega, by go_num, Lib.hid (by rw [HBY.out]; exact .inr HBL.out), hbn4⟩
          case measure => simp [intOf]; omega
        | true =>
          have HBY : Hid (Lib.byteCells (bareN ts (j + 1 + 1)) = (Lib.byteCells (bareN ts (j + 1)) ++ [.int .u8 ((32 : Nat) : Int)]) ++ Lib.strCells x.text) := by
            show _ = _
            rw [HBN.out, Lib.strCells_eq, Lib.byteCells_append, Lib.byteCells_append]; simp [Lib.byteCells]
          have hwb := fun W h h2 => writeByte_any (w.heap.size + 1) (w.heap.size + 1) (Lib.byteCells (bareN ts (j + 1))) 32 W h (by rw [Lib.byteCells_length]; omega) h2
          have HWB := Lib.hid hwb
          clear hwb
          go_wp2_with fail
          refine (HWB.out _ HB2.out (by omega)).mono ?_
          rintro e w3 ⟨rfl, hbld, hb3, hk3⟩
          have HBL3 := Lib.hid hbld
          have hz3 := hb3.size
          have x1' : w3.cell? ⟨wr.heap.size, 1, none⟩ = some (.string x.text) := by
            have h3 : w3.heap[wr.heap.size]? = _ := hk3 wr.heap.size _ BX2 (by simp; omega) (fun c fz h => by injection h with _ h1 _; revert h1; decide)
            rw [cell_of_row w3 wr.heap.size 1 _ _ _ h3]; rfl
          have hbn3 : Below (w.heap.size + 1) (w.alloc (vocObj bm bs)) w3 := hbw2.trans hb3
          clear hbld hb3 hk3 x1
          go_wp2_with fail
          refine (writeString_any (w.heap.size + 1) (w.heap.size + 1) _ x.text _ (.inr HBL3.out) (by rw [List.length_append, Lib.byteCells_length]; simp; omega) (by omega)).mono ?_
          rintro e w4 ⟨rfl, hbld, hb4, _⟩
          have HBL := Lib.hid hbld
          have hbn4 : Below (w.heap.size + 1) (w.alloc (vocObj bm bs)) w4 := hbn3.trans hb4
          clear hbld hb4
          go_wp2_with fail
          go_roundw
          case rel => exact ⟨j + 1 + 1, by omega, by go_num, Lib.hid (by rw [HBY.out]; exact .inr HBL.out), hbn4⟩
          case measure => simp [intOf]; omega
    · have hlt' : ¬ (k : Int) < ts.length := by omega
      have hkn : k = ts.length := by omega
      subst hkn
      have hz := hbw.size
      simp only [World.size_alloc] at hz
      go_wp2_with fail
      refine (Tryz.Builder_String_any_k (w.heap.size + 1) (w.heap.size + 1) (bareN ts ts.length) _ HB.out hz).mono ?_
      rintro e w2 ⟨rfl, _, hb, _⟩
      go_wp2
      go_ret
      exact ⟨rfl, (((Below.refl _ w).alloc (Nat.le_refl _) _).trans (hbw.mono (by simp))).trans (hb.mono (by omega))⟩

end Go.Proofs.YtkhgmoljhehbnaaGreatDoor
