/- Layer 6: pictures: lists of values that the call owns; the walk of the reference's CopyPicture. -/
import Derived.Test.YtacggbpgillbaaaGreatDoorSk
namespace Go.Proofs.YtacggbpgillbaaaGreatDoor
open Go.RowKit Go.El

theorem ls_info : (Tryz.prog.info? 22).map (fun i => (i.zero, i.size, i.bytes)) = some (some (.slice none 0 0), 1, 24) := by kernel_rfl
theorem pic_size : (Tryz.prog.info? 57).map (·.size) = some 2 := by kernel_rfl
/-- lists of values that the call owns -/
structure LO (W : World) (base : Nat) (B : Option Addr) (c : Nat) (hs : List Sl) (m : List (List Ce.V)) : Prop where
  len : hs.length = m.length
  own : SlE.Own 22 W base B c hs
  each : ∀ (i : Nat) (h : Sl) (s : List Ce.V), hs[i]? = some h → m[i]? = some s → h.n = s.length ∧ ValE.Own 26 W base h.A h.c s
theorem LO.below {W W' : World} {base : Nat} {B : Option Addr} {c : Nat} {hs : List Sl} {m : List (List Ce.V)} (h : LO W base B c hs m) (hb : Below W.heap.size W W') : LO W' base B c hs m :=
  ⟨h.len, Own.below h.own hb, fun i x s h1 h2 => let y := h.each i x s h1 h2; ⟨y.1, Own.below y.2 hb⟩⟩
theorem LO.low {W W' : World} {base : Nat} {B : Option Addr} {c : Nat} {hs : List Sl} {m : List (List Ce.V)} (h : LO W base B c hs m) {row : Option Nat} (hg : W.grownBy W' row) (hr : ∀ k, row = some k → k < base) : LO W' base B c hs m :=
  ⟨h.len, Own.low h.own hg hr, fun i x s h1 h2 => let y := h.each i x s h1 h2; ⟨y.1, Own.low y.2 hg hr⟩⟩
theorem LO.base_ {W : World} {base base' : Nat} {B : Option Addr} {c : Nat} {hs : List Sl} {m : List (List Ce.V)} (h : LO W base B c hs m) (hle : base' ≤ base) : LO W base' B c hs m :=
  ⟨h.len, Own.base_ h.own hle, fun i x s h1 h2 => let y := h.each i x s h1 h2; ⟨y.1, Own.base_ y.2 hle⟩⟩
theorem LO.at_ {W : World} {base : Nat} {B : Option Addr} {c : Nat} {hs : List Sl} {m : List (List Ce.V)} (h : LO W base B c hs m) : LsAt W B m :=
  ⟨hs, h.len, Own.arg h.own, fun i x s h1 h2 => let y := h.each i x s h1 h2; ⟨y.1, Own.arg y.2, (Own.le y.2).2, by rw [y.1]; exact (Own.le y.2).1⟩⟩
theorem LO.nil (W : World) (base : Nat) : LO W base none 0 [] [] := ⟨rfl, Own.nil SlE 22 W base, fun i x s h1 _ => by simp at h1⟩
theorem grownBy_setCell1 (w : World) (b o : Nat) (v : Value) : w.grownBy (w.setCell ⟨b, o, none⟩ v) (some b) :=
  ⟨rfl, rfl, rfl, by simp [World.setCell], fun k _ hk => Below.heap_setCell _ _ _ k (fun e => hk (by rw [e]))⟩
theorem LO.snoc {W W1 W2 : World} {base : Nat} {B B' : Option Addr} {c c' : Nat} {hs : List Sl} {m : List (List Ce.V)} {x : Sl} {s : List Ce.V} (h : LO W base B c hs m) (hb : Below W.heap.size W W1) (hn : x.n = s.length) (hx : ValE.Own 26 W1 base x.A x.c s)
    (hown : SlE.Own 22 W2 base B' c' (hs ++ [x])) (hg : W1.grownBy W2 (Value.slice B hs.length c).ownBlock) : LO W2 base B' c' (hs ++ [x]) (m ++ [s]) := by
  have h1 := h.below hb
  refine ⟨by simp [h.len], hown, fun i y t e1 e2 => ?_⟩
  by_cases hi : i < hs.length
  · rw [List.getElem?_append_left hi] at e1
    rw [List.getElem?_append_left (by rw [← h.len]; exact hi)] at e2
    have q := h1.each i y t e1 e2
    exact ⟨q.1, q.2.kept hg (own_own_ne q.2 h1.own (by decide))⟩
  · have hi' : i = hs.length := by
      have := (List.getElem?_eq_some_iff.1 e1).1
      simp at this
      omega
    subst hi'
    rw [List.getElem?_append_right (Nat.le_refl _), Nat.sub_self] at e1
    rw [h.len, List.getElem?_append_right (Nat.le_refl _), Nat.sub_self] at e2
    injection e1 with e1
    injection e2 with e2
    subst e1 e2
    exact ⟨hn, hx.kept hg (own_own_ne hx h1.own (by decide))⟩
/-- a list of a picture, at its place -/
theorem LsAt.at_ {W : World} {A : Option Addr} {m : List (List Ce.V)} (h : LsAt W A m) {i : Nat} {s : List Ce.V} (hs : m[i]? = some s) :
    ∃ b o A1 c1, A = some ⟨b, o, none⟩ ∧ b < W.heap.size ∧ W.cell? ⟨b, o + i, none⟩ = some (.slice A1 s.length c1) ∧ SlAt ValE W ⟨A1, s.length, c1⟩ s := by
  obtain ⟨hh, e1, e2, e3⟩ := h
  have hi : i < hh.length := by rw [e1]; exact (List.getElem?_eq_some_iff.1 hs).1
  have hx : hh[i]? = some hh[i] := List.getElem?_eq_getElem hi
  obtain ⟨b, o, hA, hin, hb⟩ := e2.at_lt hi
  have k1 := e3 i _ s hx hs
  have k2 := hin i _ hx 0 _ rfl
  generalize hh[i] = q at *
  obtain ⟨A1, n1, c1⟩ := q
  have e := k1.n
  dsimp only at e
  subst e
  refine ⟨b, o, A1, c1, hA, hb, ?_, k1⟩
  have e : i * SlE.k = i := Nat.mul_one i
  rw [e] at k2
  exact k2
theorem LsAt.stay {W : World} {A : Option Addr} {m : List (List Ce.V)} (h : LsAt W A m) : Stay (fun V => LsAt V A m) W := fun _ hb => h.below hb
/-- small enough for slices -/
structure Szp (p : Ce.Pic) : Prop where
  vals : p.vals.length ≤ 10000
  many : p.cells.length ≤ 10000
  each : ∀ (i : Nat) (s : List Ce.V), p.cells[i]? = some s → s.length ≤ 10000
/-- a picture, read -/
structure PicAt (W : World) (V : Option Addr) (cv : Nat) (C : Option Addr) (p : Ce.Pic) : Prop where
  v : SlAt ValE W ⟨V, p.vals.length, cv⟩ p.vals
  c : LsAt W C p.cells
theorem PicAt.below {W W' : World} {V C : Option Addr} {cv : Nat} {p : Ce.Pic} (h : PicAt W V cv C p) (hb : Below W.heap.size W W') : PicAt W' V cv C p := ⟨h.v.below hb, h.c.below hb⟩
theorem PicAt.stay {W : World} {V C : Option Addr} {cv : Nat} {p : Ce.Pic} (h : PicAt W V cv C p) : Stay (fun W => PicAt W V cv C p) W := fun _ hb => h.below hb

/-- a load that the region's end turns: kept from being taken first -/
def ldPic : Oper := { dst := some 17, op := Op.load 55 (Operand.tmp 16), type := 55, pos := "ref.go:149", after := #[{ on := 0, ground := Ground.data }], guard := none }
attribute [local go_sem] ldPic
set_option maxRecDepth 100000 in
set_option maxHeartbeats 4000000 in
theorem copyPic_any (p : Ce.Pic) (hp : Szp p) (V C : Option Addr) (cv cc : Nat) (w : World) (h : PicAt w V cv C p) :
    Calls Tryz.prog 39 #[.agg #[.slice V p.vals.length cv, .slice C p.cells.length cc]] w fun e w' => (∃ V' cv' C' cc' hs, e = .returned (.agg #[.slice V' p.vals.length cv', .slice C' p.cells.length cc']) ∧ ValE.Own 26 w' w.heap.size V' cv' p.vals ∧ LO w' w.heap.size C' cc' hs p.cells) ∧ Below w.heap.size w w' := by
  obtain ⟨vs, ls⟩ := p
  have hz1 := hp.vals
  have hz2 := hp.many
  have HSZ := Lib.hid hp.each
  dsimp only at hz1 hz2 HSZ ⊢
  have HLS := Lib.hid h.c
  have hbx : Below w.heap.size w ((w.alloc (.cells #[.slice V vs.length cv, .slice C ls.length cc] 57)).alloc (.cells #[.slice none 0 0, .slice none 0 0] 57)) := ((Below.refl _ _).alloc (Nat.le_refl _) _).alloc (by simp) _
  have HVL := Lib.hid (values_any vs (by omega) V cv h.v.none_ _ (h.v.arg.below hbx))
  have HX0 := Lib.hid ((Blk.new w 57 #[.slice V vs.length cv, .slice C ls.length cc]).alloc (.cells #[.slice none 0 0, .slice none 0 0] 57))
  have HY0 := Lib.hid (Blk.new (w.alloc (.cells #[.slice V vs.length cv, .slice C ls.length cc] 57)) 57 #[.slice none 0 0, .slice none 0 0])
  simp only [World.size_alloc] at HY0
  have HB0 := Lib.hid hbx
  clear hp h hbx
  have hll : (ls.length : Int) ≤ 9223372036854775807 := by omega
  go_enter Tryz.func39, Tryz.ntmps39
  go_wp2_with fail
  refine HVL.out.mono ?_
  rintro e w1 ⟨⟨V', cv', rfl, ho1⟩, hb1⟩
  have hs1 : w.heap.size + 2 ≤ w1.heap.size := by have := hb1.size; simp at this; omega
  have HX1 := Lib.hid ((HX0.out.below hb1).alloc (.cells #[.slice V' vs.length cv', .slice none 0 0] 57))
  have HY1 := Lib.hid ((HY0.out.below hb1).alloc (.cells #[.slice V' vs.length cv', .slice none 0 0] 57))
  have HG1 := Lib.hid (Blk.new w1 57 #[.slice V' vs.length cv', .slice none 0 0])
  have HO1 := Lib.hid (Own.below (Own.base_ ho1 (show w.heap.size + 2 ≤ _ by simp)) ((Below.refl _ _).alloc (Nat.le_refl w1.heap.size) (.cells #[.slice V' vs.length cv', .slice none 0 0] 57)))
  have HVB : Hid (∀ j, (Value.slice V' vs.length cv').ownBlock = some j → j < w1.heap.size) := Lib.hid fun j hj => (ho1.lt j hj).2
  have HB1 := Lib.hid ((HB0.out.trans (hb1.mono (by simp; omega))).alloc (by omega) (.cells #[.slice V' vs.length cv', .slice none 0 0] 57))
  have HGE : Hid (w1.heap.size + 1 = (w1.alloc (.cells #[.slice V' vs.length cv', .slice none 0 0] 57)).heap.size) := Lib.hid (by simp)
  generalize hgs : w1.heap.size = G at *
  clear ho1 hb1 HX0 HY0 HB0 HVL
  go_wp2_with fail
  go_loopw [4] (fun i wr => ∃ (k : Nat) (B : Option Addr) (c : Nat) (hs : List Sl), k ≤ ls.length ∧ i = .int .i64 k ∧ Hid (Blk wr w.heap.size 57 #[.slice V vs.length cv, .slice C ls.length cc]) ∧ Hid (Blk wr (w.heap.size + 1) 57 #[.slice none 0 0, .slice none 0 0]) ∧ Hid (Blk wr G 57 #[.slice V' vs.length cv', .slice B k c]) ∧ Hid (ValE.Own 26 wr (w.heap.size + 2) V' cv' vs) ∧ Hid (LO wr (G + 1) B c hs (ls.take k)) ∧ G + 1 ≤ wr.heap.size ∧ Hid (Below w.heap.size w wr)) (fun i _ => ls.length - (intOf i).toNat)
  case atStart => exact ⟨0, none, 0, [], Nat.zero_le _, rfl, HX1, HY1, HG1, HO1, Lib.hid (LO.nil _ _), by simp; omega, HB1⟩
  case round =>
    clear HX1 HY1 HG1 HO1 HB1 HGE
    obtain ⟨k, B, c, hs, hk, rfl, HX, HY, HG, HO, HL, hsz, HB⟩ := hrel
    have x1 : wr.cell? ⟨w.heap.size, 1, none⟩ = some (.slice C ls.length cc) := HX.out.cell 1
    by_cases hlt : k < ls.length
    · have hlt' : (k : Int) < ls.length := by omega
      obtain ⟨s, hs'⟩ : ∃ x, ls[k]? = some x := ⟨_, List.getElem?_eq_getElem hlt⟩
      have hsz1 := HSZ.out k s hs'
      obtain ⟨bc, oc, A1, c1, rfl, hbc, y0, P1⟩ := HLS.out.at_ hs'
      have HP := Lib.hid ((SlAt_stay P1).step HB.out)
      have y0 := ((bcell HB.out).1 _ _ hbc).trans y0
      have HTK : Hid (ls.take (k + 1) = ls.take k ++ [s]) := Lib.hid (by rw [List.take_add_one, hs']; rfl)
      have HHL : Hid (hs.length = k) := Lib.hid (by rw [HL.out.len, List.length_take]; omega)
      have hbc2 : bc < wr.heap.size := by omega
      have hq0 : w.heap.size < wr.heap.size := by omega
      have hqG : G < wr.heap.size := by omega
      have hn1 : w.heap.size ≠ G := by omega
      have hn2 : G ≠ w.heap.size := by omega
      have hn3 : bc ≠ G := by omega
      have hn4 : G ≠ bc := by omega
      clear P1 hs'
      have g1 : wr.cell? ⟨G, 1, none⟩ = some (.slice B k c) := HG.out.cell 1
      have HNE : Hid (∀ j, (Value.slice B hs.length c).ownBlock = some j → G + 1 ≤ j ∧ j < wr.heap.size) := Lib.hid fun j hj => HL.out.own.lt j hj
      have HV : Hid (∀ W, Below wr.heap.size wr W → Calls Tryz.prog 19 #[.slice A1 s.length c1] W fun e w' => (∃ AV cV, e = .returned (.slice AV s.length cV) ∧ ValE.Own 26 w' wr.heap.size AV cV s) ∧ Below W.heap.size W w' ∧ Below wr.heap.size wr w') :=
        Lib.hid fun W hb => (values_any s (by omega) A1 c1 HP.out.at_.none_ W (HP.out W hb).arg).mono fun e w' ⟨⟨AV, cV, he, ho⟩, hb2⟩ => ⟨⟨AV, cV, he, Own.base_ ho hb.size⟩, hb2, hb.trans (hb2.mono hb.size)⟩
      have STAY : Hid (∀ W, Below wr.heap.size wr W → W.cell? ⟨w.heap.size, 1, none⟩ = some (.slice (some ⟨bc, oc, none⟩) ls.length cc) ∧ W.cell? ⟨bc, oc + k, none⟩ = some (.slice A1 s.length c1) ∧ W.cell? ⟨G, 1, none⟩ = some (.slice B k c) ∧ w.heap.size < W.heap.size ∧ bc < W.heap.size ∧ G < W.heap.size) :=
        Lib.hid fun W hb => ⟨((bcell hb).1 _ _ hq0).trans x1, ((bcell hb).1 _ _ hbc2).trans y0, ((bcell hb).1 _ _ hqG).trans g1, by have := hb.size; omega, by have := hb.size; omega, by have := hb.size; omega⟩
      go_wp2_with fail
      rw [show ({ dst := some 17, op := Op.load 55 (Operand.tmp 16), type := 55, pos := "ref.go:149", after := #[{ on := 0, ground := Ground.data }], guard := none } : Oper) = ldPic from rfl]
      go_region_held3 (fun W => W.cell? ⟨w.heap.size, 1, none⟩ = some (.slice (some ⟨bc, oc, none⟩) ls.length cc) ∧ W.cell? ⟨bc, oc + k, none⟩ = some (.slice A1 s.length c1))
        (go_keep)
        (first
          | (refine step_append_any SlE _ rfl _ _ 55 22 rfl Tryz.underlying55 ls_info rfl (G + 1) B c _ hs [⟨AV, s.length, cV⟩] _ _ _ rfl HHL.out.symm rfl rfl (fun hh => by cases hh) (Own.below (Own.below HL.out.own hX) ((Below.refl _ _).alloc (Nat.le_refl _) _)) (row_arg (K := SlE) rfl rfl) (by simp [maxLen]; have := HHL.out; omega) (by simp; have := HHL.out; omega) (by have := hX.size; simp; omega) ?_; intro A4 c4 w4 hown4 hgrow4
             have hg4 := ((HG.out.below hX).alloc _).kept hgrow4 (fun e => by have := HNE.out _ e.symm; omega)
             have v2 : w4.cell? ⟨G, 1, none⟩ = some (.slice B k c) := hg4.cell 1
             have vf := hg4.frozen 1
             have vl := hg4.lt
             obtain ⟨q0, q1, _⟩ := STAY.out _ (hX.alloc hX.size _)
             have v0 := hgrow4.cell q0 (fun e => by have := HNE.out _ e.symm; dsimp only at this; omega)
             have v1 := hgrow4.cell q1 (fun e => by have := HNE.out _ e.symm; dsimp only at this; omega)
             clear q0 q1)
          | (go_at_call 19; refine (HV.out _ (Below.refl _ _).drew).mono ?_; rintro e wV ⟨⟨AV, cV, rfl, hoV⟩, hbV, hX⟩; obtain ⟨v0, v1, v2, v3, v4, v5⟩ := STAY.out _ hX))
      all_goals
        clear x1 y0 g1
        go_wp2_with fail
        go_roundw
        case rel =>
          have hset := grownBy_setCell1 w4 G 1 (.slice A4 (k + 1) c4)
          refine ⟨k + 1, A4, c4, hs ++ [⟨AV, s.length, cV⟩], by omega, by go_num, ?_, ?_, ?_, ?_, ?_, ?_, ?_⟩
          · exact Lib.hid ((((HX.out.below hX).alloc _).kept hgrow4 (fun e => by have := HNE.out _ e.symm; omega)).kept hset (by simp; omega))
          · exact Lib.hid ((((HY.out.below hX).alloc _).kept hgrow4 (fun e => by have := HNE.out _ e.symm; omega)).kept hset (by simp; omega))
          · exact Lib.hid (hg4.set_ 1 _)
          · have hv : ValE.Own 26 (wV.alloc (.cells #[.slice AV s.length cV] 22)) (w.heap.size + 2) V' cv' vs := Own.below (Own.below HO.out hX) ((Below.refl _ _).alloc (Nat.le_refl _) _)
            have hv4 := hv.kept hgrow4 (own_own_ne hv (show SlE.Own 22 (wV.alloc (.cells #[.slice AV s.length cV] 22)) (G + 1) B c hs from Own.below (Own.below HL.out.own hX) ((Below.refl _ _).alloc (Nat.le_refl _) _)) (by decide))
            refine Lib.hid (hv4.kept hset ?_)
            by_cases hn : (Value.slice V' vs.length cv').ownBlock = none
            · exact .inl hn
            · exact .inr fun e => by have := HVB.out _ e; omega
          · refine Lib.hid (LO.low ?_ hset (fun j hj => by cases hj; omega))
            rw [HTK.out]
            exact HL.out.snoc (hX.alloc hX.size _) rfl (Own.below (Own.base_ hoV (by omega)) ((Below.refl _ _).alloc (Nat.le_refl _) _)) hown4 hgrow4
          · have := hset.size
            have := hgrow4.size
            have := hX.size
            simp at *
            omega
          · exact Lib.hid (((((HB.out.trans (hX.mono (by omega))).alloc (by have := hX.size; omega) _)).grown hgrow4 (by have := hX.size; simp; omega) (fun j hj => by have := HNE.out j hj; omega)).setCell (by simp; omega) _)
        case measure => simp [intOf]; omega
    · have hlt' : ¬ (k : Int) < ls.length := by omega
      obtain rfl : k = ls.length := by omega
      have HE : Hid (LO wr (G + 1) B c hs ls) := Lib.hid (by have := HL.out; rwa [List.take_of_length_le (Nat.le_refl _)] at this)
      have g0 : wr.cell? ⟨G, 0, none⟩ = some (.slice V' vs.length cv') := HG.out.cell 0
      have g1 : wr.cell? ⟨G, 1, none⟩ = some (.slice B ls.length c) := HG.out.cell 1
      have z0 : wr.cell? ⟨w.heap.size + 1, 0, none⟩ = some (.slice none 0 0) := HY.out.cell 0
      have z1 : wr.cell? ⟨w.heap.size + 1, 1, none⟩ = some (.slice none 0 0) := HY.out.cell 1
      have zf0 := HY.out.frozen 0
      have zf1 := HY.out.frozen 1
      go_wp2
      refine bodyPost_ret (results_cell_row rfl _ _ (w.heap.size + 1) 57 #[.slice V' vs.length cv', .slice B ls.length c] (0, 0) _ rfl ((HY.out.set_ 0 _).set_ 1 _) Tryz.underlying57 rfl pic_size) rfl ?_
      have hs1' := (grownBy_setCell1 wr (w.heap.size + 1) 0 (.slice V' vs.length cv'))
      have hs2' := (grownBy_setCell1 (wr.setCell ⟨w.heap.size + 1, 0, none⟩ (.slice V' vs.length cv')) (w.heap.size + 1) 1 (.slice B ls.length c))
      have hgg := hs1'.trans hs2'
      exact ⟨⟨V', cv', B, c, rfl, Own.base_ (Own.low HO.out hgg (fun j hj => by cases hj; omega)) (by omega), hs, (HE.out.low hgg (fun j hj => by cases hj; omega)).base_ (by omega)⟩, (HB.out.setCell (by simp) _).setCell (by simp) _⟩
end Go.Proofs.YtacggbpgillbaaaGreatDoor
