/- Layer 6, the program: drawn. Layer 6, the program: slices.Equal, slices.EqualFunc, same. -/
import Derived.Test.YtjldkndalcellaaGreatDoorYj
namespace Ce
theorem drawK_step {m : Mem} {f k : Nat} {met : List Int} {n : Int} (h : met[k]? = some n) : drawK m (f + 1) k met = (renum (stAt m n).cells met).1 :: drawK m f (k + 1) (renum (stAt m n).cells met).2 := by
  rw [drawK, h]
theorem drawK_end {m : Mem} {f k : Nat} {met : List Int} (h : met.length ≤ k) : drawK m f k met = [] := by
  cases f with
  | zero => rfl
  | succ f => rw [drawK, List.getElem?_eq_none h]
theorem drawn_vals (m : Mem) (l : List V) : (drawn m l).vals = (renum l []).1 := rfl
theorem drawn_len (m : Mem) (l : List V) : (drawn m l).vals.length = l.length := renum_len l []
end Ce
namespace Go.Proofs.YtjldkndalcellaaGreatDoor
open Go.RowKit Go.El

theorem LO.keeps2 {W W' : World} {base : Nat} {B : Option Addr} {c : Nat} {hs : List Sl} {m : List (List Ce.V)} (h : LO W base B c hs m) (hk : Keeps2 W W') : LO W' base B c hs m :=
  ⟨h.len, hk.own h.own (by decide) (by decide), fun i x s h1 h2 => let y := h.each i x s h1 h2; ⟨y.1, hk.own y.2 (by decide) (by decide)⟩⟩
theorem DrawIs.set' {W : World} {base p b : Nat} {met : List Int} (h : DrawIs W base p b met) {a : Addr} {v : Value} {c : Array Value} {T : TypeId} {f : Nat × Nat} (ha : W.heap[a.block]? = some (.cells c T f)) (h1 : T ≠ 129) (h2 : T ≠ 3) : DrawIs (W.setCell a v) base p b met := by
  obtain ⟨M, cm, h⟩ := h
  exact ⟨M, cm, h.set ha h1 h2⟩
/-- a row of another kind grows -/
theorem DrawIs.grown {α : Type} {K : El α} {W W' : World} {base p b : Nat} {met : List Int} (h : DrawIs W base p b met) {T : TypeId} {base' cap : Nat} {B : Option Addr} {l : List α} (ho : K.Own T W base' B cap l) (h1 : T ≠ 129) (h2 : T ≠ 3) (hg : W.grownBy W' (Value.slice B l.length cap).ownBlock) : DrawIs W' base p b met := by
  obtain ⟨M, cm, h⟩ := h
  refine ⟨M, cm, h.blk.kept hg (ho.ne_blk h.blk (Ne.symm h1)), h.map.grown hg (ho.ne_map h.map), h.own.kept' hg (fun g e => ?_), h.pb, h.bb⟩
  obtain ⟨c', hc⟩ := ho.blk e
  exact h.own.ne_blk hc h2
def ldP21 : Oper := { dst := some 21, op := Op.load 35 (Operand.tmp 20), type := 35, pos := "picture.go:25", after := #[{ on := 0, ground := Ground.data }], guard := none }
def ldP25 : Oper := { dst := some 25, op := Op.load 52 (Operand.tmp 24), type := 52, pos := "picture.go:25", after := #[{ on := 4, ground := Ground.data }], guard := none }
def ldP28 : Oper := { dst := some 28, op := Op.load 3 (Operand.tmp 27), type := 3, pos := "picture.go:25", after := #[{ on := 7, ground := Ground.data }], guard := none }
attribute [local go_sem] ldP21 ldP25 ldP28
theorem DrawIs.open_ {W : World} {base p b : Nat} {met : List Int} (h : DrawIs W base p b met) : ∃ M cm, W.cell? ⟨p, 1, none⟩ = some (.slice M met.length cm) ∧ ∀ k n, met[k]? = some n → ∃ g, M = some ⟨g, 0, none⟩ ∧ W.cell? ⟨g, k, none⟩ = some (.int .i64 n) := by
  obtain ⟨M, cm, h⟩ := h
  refine ⟨M, cm, h.blk.cell 1, fun k n hk => ?_⟩
  obtain ⟨g, rfl, _, _, hin⟩ := Own.in_ h.own (by rintro rfl; simp at hk)
  have := IntE.at1 hin hk
  simp only [Nat.zero_add, Nat.mul_one] at this
  exact ⟨g, rfl, this⟩

def DrawnIs (p : Ce.Pic) (n : Nat) (w w' : World) (e : Ending) : Prop := ∃ V cv C cc hs, e = .returned (.agg #[.slice V n cv, .slice C p.cells.length cc]) ∧ ValE.Own 57 w' w.heap.size V cv p.vals ∧ LO w' w.heap.size C cc hs p.cells
set_option maxRecDepth 100000 in
set_option maxHeartbeats 8000000 in
theorem drawn_any (m : Ce.Mem) (hm : Ce.memOk m = true) (l : List Ce.V) (hl : l.length ≤ 100) (hv : Ce.areValues l m.length = true) (A A2 : Option Addr) (c0 cap : Nat) (w : World) (h1 : MemAt w A m) (h2 : ValE.Arg w A2 l) :
    Calls Tryz.prog 49 #[.agg #[.slice A m.length c0], .slice A2 l.length cap] w fun e w' => DrawnIs (Ce.drawn m l) l.length w w' e ∧ Below w.heap.size w w' := by
  have hok := (Ce.ok_iff m).1 hm
  have hml := hok.len
  have HMS := Lib.hid h1.stay
  have hbx : Below w.heap.size w ((((w.alloc (.cells #[.slice A m.length c0] 24)).alloc (.cells #[.slice none 0 0, .slice none 0 0] 37)).alloc (.map #[] 0)).alloc (.cells #[.map (some (w.heap.size + 2)), .slice none 0 0] 129)) :=
    ((((Below.refl _ _).alloc (Nat.le_refl _) _).alloc (by simp) _).alloc (by simp; omega) _).alloc (by simp; omega) _
  have hD0 : DrawIs ((((w.alloc (.cells #[.slice A m.length c0] 24)).alloc (.cells #[.slice none 0 0, .slice none 0 0] 37)).alloc (.map #[] 0)).alloc (.cells #[.map (some (w.heap.size + 2)), .slice none 0 0] 129)) (w.heap.size + 2) (w.heap.size + 3) (w.heap.size + 2) [] := by
    have hm0 := MapIs.made ((w.alloc (.cells #[.slice A m.length c0] 24)).alloc (.cells #[.slice none 0 0, .slice none 0 0] 37)) (.int .i64)
    have hb0 := Blk.new (((w.alloc (.cells #[.slice A m.length c0] 24)).alloc (.cells #[.slice none 0 0, .slice none 0 0] 37)).alloc (.map #[] 0)) 129 #[.map (some (w.heap.size + 2)), .slice none 0 0]
    simp only [World.size_alloc] at hm0 hb0
    exact ⟨none, 0, hb0, hm0.below ((Below.refl _ _).alloc (Nat.le_refl _) _) hm0.lt, Own.nil IntE 3 _ _, by omega, by omega⟩
  have HREN := Lib.hid (renumbered_any l (by omega) m.length (by omega) hv [] (fun n h => by cases h) List.nodup_nil (w.heap.size + 2) (w.heap.size + 3) (w.heap.size + 2) A2 cap _ hD0 (by simp) (h2.below hbx))
  have HX0 := Lib.hid ((((Blk.new w 24 #[.slice A m.length c0]).alloc (.cells #[.slice none 0 0, .slice none 0 0] 37)).alloc (.map #[] 0)).alloc (.cells #[.map (some (w.heap.size + 2)), .slice none 0 0] 129))
  have HY0 := Lib.hid (((Blk.new (w.alloc (.cells #[.slice A m.length c0] 24)) 37 #[.slice none 0 0, .slice none 0 0]).alloc (.map #[] 0)).alloc (.cells #[.map (some (w.heap.size + 2)), .slice none 0 0] 129))
  simp only [World.size_alloc] at HY0
  have HB0 := Lib.hid hbx
  have HMET0 := Lib.hid (Ce.renum_ok l [] (fun n h => by cases h) List.nodup_nil hv)
  have HVL := Lib.hid (Ce.drawn_vals m l)
  have HFIN : Hid ((Ce.drawn m l).cells = Ce.drawK m m.length 0 (Ce.renum l []).2) := Lib.hid rfl
  have HST : Hid (∀ n : Int, 0 ≤ n → n < m.length → m[n.toNat]? = some (Ce.stAt m n) ∧ Ce.areValues (Ce.stAt m n).cells m.length = true ∧ (Ce.stAt m n).cells.length ≤ 100) := Lib.hid fun n h0 h1 => by
    have hg := Ce.stAt_get (m := m) (n := n) (by omega)
    have := hok.each _ (List.mem_of_getElem? hg)
    unfold Ce.stOk at this
    rw [Bool.and_eq_true, Bool.and_eq_true, decide_eq_true_iff] at this
    exact ⟨hg, this.1.2, this.1.1⟩
  generalize Ce.drawn m l = pic at *
  obtain ⟨pv, pc⟩ := pic
  dsimp only at HVL HFIN ⊢
  have hmm := @run_makeMap Tryz.prog
  clear hok h1 h2 hm hv hbx hD0
  go_enter Tryz.func49, Tryz.ntmps49
  go_wp2_with fail
  refine HREN.out.mono ?_
  rintro e w1 ⟨⟨V, cv, rfl, hoV, hd1⟩, hbb1, hk1⟩
  have hz1 : w.heap.size + 4 ≤ w1.heap.size := by have := hbb1.size; simp at this; omega
  have hba : Below w1.heap.size w1 (w1.alloc (.cells #[.slice V l.length cv, .slice none 0 0] 37)) := (Below.refl _ _).alloc (Nat.le_refl _) _
  have HX1 := Lib.hid ((hk1.blk HX0.out (by decide) (by decide)).below hba)
  have HY1 := Lib.hid ((hk1.blk HY0.out (by decide) (by decide)).below hba)
  have HG1 := Lib.hid (Blk.new w1 37 #[.slice V l.length cv, .slice none 0 0])
  have HO1 : Hid (ValE.Own 57 (w1.alloc (.cells #[.slice V l.length cv, .slice none 0 0] 37)) (w.heap.size + 4) V cv pv) := Lib.hid (by
    rw [HVL.out]
    exact (Own.base_ hoV (by simp)).below hba)
  have HD1 := Lib.hid (hd1.below hba)
  have HB1 := Lib.hid ((HB0.out.trans (hbb1.mono (by omega))).alloc (by omega) (.cells #[.slice V l.length cv, .slice none 0 0] 37))
  have HVLEN : Hid (pv.length = l.length) := Lib.hid (by rw [HVL.out, Ce.renum_len])
  have HVB : Hid (∀ j, (Value.slice V pv.length cv).ownBlock = some j → j < w1.heap.size) := Lib.hid fun j hj => by
    rw [HVL.out] at hj
    exact (hoV.lt j hj).2
  generalize (Ce.renum l []).2 = met0 at *
  generalize hgs : w1.heap.size = G at *
  clear hoV hd1 hbb1 hk1 hba HX0 HY0 HB0 HREN hmm
  go_wp2_with fail
  go_loopw [7] (fun i wr => ∃ (k : Nat) (B : Option Addr) (c : Nat) (hs : List Sl) (L : List (List Ce.V)) (met : List Int), k ≤ m.length ∧ i = .int .i64 k ∧ L.length = k ∧ Hid (Blk wr w.heap.size 24 #[.slice A m.length c0]) ∧ Hid (Blk wr (w.heap.size + 1) 37 #[.slice none 0 0, .slice none 0 0]) ∧ Hid (Blk wr G 37 #[.slice V l.length cv, .slice B k c]) ∧ Hid (ValE.Own 57 wr (w.heap.size + 4) V cv pv) ∧ Hid (LO wr (G + 1) B c hs L) ∧ Hid (DrawIs wr (w.heap.size + 2) (w.heap.size + 3) (w.heap.size + 2) met) ∧ Hid (Ce.Below m.length met ∧ met.Nodup) ∧ Hid (pc = L ++ Ce.drawK m (m.length - k) k met) ∧ G + 1 ≤ wr.heap.size ∧ Hid (Below w.heap.size w wr)) (fun i _ => m.length - (intOf i).toNat)
  case atStart => exact ⟨0, none, 0, [], [], met0, Nat.zero_le _, rfl, rfl, HX1, HY1, HG1, HO1, Lib.hid (LO.nil _ _), HD1, HMET0, HFIN, by simp; omega, HB1⟩
  case round =>
    clear HX1 HY1 HG1 HO1 HD1 HB1 HFIN HMET0
    obtain ⟨k, B, c, hs, L, met, hk, rfl, hLk, HX, HY, HG, HO, HL, HD, HMET, HF, hsz, HB⟩ := hrel
    have HLK := Lib.hid hLk
    clear hLk
    have hml2 := Ce.below_len HMET.out.1 HMET.out.2
    have x1 : wr.cell? ⟨w.heap.size, 0, none⟩ = some (.slice A m.length c0) := HX.out.cell 0
    have g1 : wr.cell? ⟨G, 1, none⟩ = some (.slice B k c) := HG.out.cell 1
    obtain ⟨M, cm, d1, hmet⟩ := HD.out.open_
    have hmlz : (met.length : Int) ≤ 400 := by omega
    by_cases hlt : k < met.length
    · have hlt' : (k : Int) < met.length := by omega
      obtain ⟨n, hn⟩ : ∃ x, met[k]? = some x := ⟨_, List.getElem?_eq_getElem hlt⟩
      obtain ⟨hn0, hn1⟩ := HMET.out.1 n (List.mem_of_getElem? hn)
      obtain ⟨gM, rfl, d2⟩ := hmet k n hn
      obtain ⟨hst, hav, hcl⟩ := HST.out n hn0 hn1
      have HF2 : Hid (pc = (L ++ [(Ce.renum (Ce.stAt m n).cells met).1]) ++ Ce.drawK m (m.length - (k + 1)) (k + 1) (Ce.renum (Ce.stAt m n).cells met).2) := Lib.hid (by
        rw [HF.out, show m.length - k = (m.length - (k + 1)) + 1 by omega, Ce.drawK_step hn, List.append_assoc]; rfl)
      obtain ⟨j, rfl⟩ : ∃ j : Nat, n = j := ⟨n.toNat, by omega⟩
      have hj1 : (j : Int) < m.length := hn1
      rw [Int.toNat_natCast] at hst
      obtain ⟨bm, om, A1, c1, A3, c3, rfl, hbm, y0, _, P1, _⟩ := (HMS.out w (Below.refl _ _)).at' hst
      have Y0 := Lib.hid y0
      have y0 := ((bcell HB.out).1 _ _ hbm).trans y0
      generalize Ce.stAt m j = s at *
      have HP := Lib.hid (P1.below HB.out)
      generalize s.cells = cs at *
      have HMET2 := Lib.hid (Ce.renum_ok cs met HMET.out.1 HMET.out.2 hav)
      have HRL : Hid ((Ce.renum cs met).1.length = cs.length) := Lib.hid (Ce.renum_len cs met)
      have HREN := Lib.hid (renumbered_any cs (by omega) m.length (by omega) hav met HMET.out.1 HMET.out.2 (w.heap.size + 2) (w.heap.size + 3) (w.heap.size + 2) A1 c1 wr.drew (HD.out.below (Below.refl _ _).drew) (by show _ ≤ wr.heap.size; omega) (HP.out.below (Below.refl _ _).drew))
      have HHL : Hid (hs.length = k) := Lib.hid (by rw [HL.out.len, HLK.out])
      have hq0 : w.heap.size < wr.heap.size := by omega
      have hn1' : w.heap.size ≠ G := by omega
      have hn2 : G ≠ w.heap.size := by omega
      have hn3 : bm ≠ G := by omega
      have hn4 : G ≠ bm := by omega
      have hn5 : G ≠ w.heap.size + 3 := by omega
      have hn6 : w.heap.size + 3 ≠ G := by omega
      have hpos : k < met.length := hlt
      have hposj : j < m.length := by omega
      have HNE : Hid (∀ j, (Value.slice B hs.length c).ownBlock = some j → G + 1 ≤ j ∧ j < wr.heap.size) := Lib.hid fun j hj => HL.out.own.lt j hj
      have HMET3 := HMET
      clear P1 hst hn hmet hav HF HMET
      go_wp2_with fail
      rw [show ({ dst := some 21, op := Op.load 35 (Operand.tmp 20), type := 35, pos := "picture.go:25", after := #[{ on := 0, ground := Ground.data }], guard := none } : Oper) = ldP21 from rfl,
        show ({ dst := some 25, op := Op.load 52 (Operand.tmp 24), type := 52, pos := "picture.go:25", after := #[{ on := 4, ground := Ground.data }], guard := none } : Oper) = ldP25 from rfl,
        show ({ dst := some 28, op := Op.load 3 (Operand.tmp 27), type := 3, pos := "picture.go:25", after := #[{ on := 7, ground := Ground.data }], guard := none } : Oper) = ldP28 from rfl]
      go_region_held3 (fun W => W.cell? ⟨w.heap.size, 0, none⟩ = some (.slice (some ⟨bm, om, none⟩) m.length c0) ∧ W.cell? ⟨bm, om + j * 2, none⟩ = some (.slice A1 cs.length c1))
        (go_keep)
        (first
          | (refine step_append_any SlE _ rfl _ _ 35 34 rfl Tryz.underlying35 ls_info rfl (G + 1) B c _ hs [⟨AV, cs.length, cV⟩] _ _ _ rfl HHL.out.symm rfl rfl (fun hh => by cases hh) (Own.below (hkV.own HL.out.own (by decide) (by decide)) ((Below.refl _ _).alloc (Nat.le_refl _) _)) (row_arg (K := SlE) rfl rfl) (by simp [maxLen]; have := HHL.out; omega) (by simp; have := HHL.out; omega) (by have := hbV.size; simp; omega) ?_; intro A4 c4 w4 hown4 hgrow4
             have hne4 := fun (p : Nat) (cs' : Array Value) (t : TypeId) (hp : Blk (wV.alloc (.cells #[.slice AV cs.length cV] 34)) p t cs') (ht : t ≠ 34) => Own.ne_blk (Own.below (hkV.own HL.out.own (by decide) (by decide)) ((Below.refl _ _).alloc (Nat.le_refl _) (.cells #[.slice AV cs.length cV] 34))) hp ht
             have hg4 := ((hkV.blk HG.out (by decide) (by decide)).alloc _).kept hgrow4 (hne4 _ _ _ ((hkV.blk HG.out (by decide) (by decide)).alloc _) (by decide))
             have hx4 := ((hkV.blk HX.out (by decide) (by decide)).alloc _).kept hgrow4 (hne4 _ _ _ ((hkV.blk HX.out (by decide) (by decide)).alloc _) (by decide))
             have v2 : w4.cell? ⟨G, 1, none⟩ = some (.slice B k c) := hg4.cell 1
             have vf := hg4.frozen 1
             have vl := hg4.lt
             have v0 : w4.cell? ⟨w.heap.size, 0, none⟩ = some (.slice (some ⟨bm, om, none⟩) m.length c0) := hx4.cell 0
             have hb4 : Below w.heap.size w w4 := ((HB.out.trans (hbV.mono (by omega))).alloc (by have := hbV.size; omega) _).grown hgrow4 (by have := hbV.size; simp; omega) (fun j hj => by have := HNE.out j hj; omega)
             have v1 := ((bcell hb4).1 _ _ hbm).trans Y0.out)
          | (go_at_call 78; refine HREN.out.mono ?_; rintro e wV ⟨⟨AV, cV, rfl, hoV, hdV⟩, hbV0, hkV0⟩
             have hbV : Below (w.heap.size + 2) wr wV := (Below.refl _ _).drew.trans hbV0
             have hkV : Keeps2 wr wV := (Keeps2.below (Below.refl _ _).drew).trans hkV0
             have hoV : ValE.Own 57 wV wr.heap.size AV cV (Ce.renum cs met).1 := hoV
             have hxV := hkV.blk HX.out (by decide) (by decide)
             have hgV := hkV.blk HG.out (by decide) (by decide)
             have v0 : wV.cell? ⟨w.heap.size, 0, none⟩ = some (.slice (some ⟨bm, om, none⟩) m.length c0) := hxV.cell 0
             have v1 := ((bcell (HB.out.trans (hbV.mono (by omega)))).1 _ _ hbm).trans Y0.out
             have v2 : wV.cell? ⟨G, 1, none⟩ = some (.slice B k c) := hgV.cell 1
             have v3 := hxV.lt
             have v4 := hgV.lt
             have v5 : bm < wV.heap.size := by omega))
      all_goals
        clear x1 y0 g1 d1 d2 HREN
        go_wp2_with fail
        go_roundw
        case rel =>
          have hset := grownBy_setCell1 w4 G 1 (.slice A4 (k + 1) c4)
          have hal : Below wV.heap.size wV (wV.alloc (.cells #[.slice AV cs.length cV] 34)) := (Below.refl _ _).alloc (Nat.le_refl _) _
          have hLV := (HL.out.keeps2 hkV).below hal
          refine ⟨k + 1, A4, c4, hs ++ [⟨AV, cs.length, cV⟩], L ++ [(Ce.renum cs met).1], (Ce.renum cs met).2, by omega, by go_num, by simp [HLK.out], ?_, ?_, ?_, ?_, ?_, ?_, HMET2, HF2, ?_, ?_⟩
          · exact Lib.hid (hx4.kept hset (by simp; omega))
          · exact Lib.hid (((((hkV.blk HY.out (by decide) (by decide)).alloc _).kept hgrow4 (hne4 _ _ _ ((hkV.blk HY.out (by decide) (by decide)).alloc _) (by decide)))).kept hset (by simp; omega))
          · exact Lib.hid (hg4.set_ 1 _)
          · have hv := (hkV.own HO.out (by decide) (by decide)).below hal
            have hv4 : ValE.Own 57 w4 (w.heap.size + 4) V cv pv := hv.kept hgrow4 (own_own_ne hv hLV.own (by decide))
            refine Lib.hid (Own.kept' hv4 hset (fun g e => ?_))
            injection e with e
            subst e
            exact Own.ne_blk hv4 hg4 (by decide)
          · refine Lib.hid (LO.low ?_ hset (fun j hj => by cases hj; omega))
            exact (HL.out.keeps2 hkV).snoc hal HRL.out.symm ((Own.base_ hoV (by omega)).below hal) hown4 hgrow4
          · have hd4 := (hdV.below hal).grown hLV.own (by decide) (by decide) hgrow4
            exact Lib.hid (hd4.set' (a := ⟨G, 1, none⟩) hg4 (by decide) (by decide))
          · have := hset.size
            have := hgrow4.size
            have := hbV.size
            simp at *
            omega
          · exact Lib.hid (hb4.setCell (by dsimp only; omega) _)
        case measure => simp [intOf]; omega
    · have hlt' : ¬ (k : Int) < met.length := by omega
      have HE : Hid (pc = L) := Lib.hid (by rw [HF.out, Ce.drawK_end (by omega), List.append_nil])
      have HKL : Hid (k = pc.length) := Lib.hid (by rw [HE.out, HLK.out])
      have g0 : wr.cell? ⟨G, 0, none⟩ = some (.slice V l.length cv) := HG.out.cell 0
      have z0 : wr.cell? ⟨w.heap.size + 1, 0, none⟩ = some (.slice none 0 0) := HY.out.cell 0
      have z1 : wr.cell? ⟨w.heap.size + 1, 1, none⟩ = some (.slice none 0 0) := HY.out.cell 1
      have zf0 := HY.out.frozen 0
      have zf1 := HY.out.frozen 1
      clear hmet x1
      go_wp2
      refine bodyPost_ret (results_cell_row rfl _ _ (w.heap.size + 1) 37 #[.slice V l.length cv, .slice B k c] (0, 0) _ rfl ((HY.out.set_ 0 _).set_ 1 _) Tryz.underlying37 rfl pic_size) rfl ?_
      have hs1' := (grownBy_setCell1 wr (w.heap.size + 1) 0 (.slice V l.length cv))
      have hs2' := (grownBy_setCell1 (wr.setCell ⟨w.heap.size + 1, 0, none⟩ (.slice V l.length cv)) (w.heap.size + 1) 1 (.slice B k c))
      have hgg := hs1'.trans hs2'
      refine ⟨⟨V, cv, B, c, hs, ?_, Own.base_ (Own.low HO.out hgg (fun j hj => by cases hj; omega)) (by omega), ?_⟩, (HB.out.setCell (by simp) _).setCell (by simp) _⟩
      · rw [← HKL.out]
      · rw [HE.out]
        exact (HL.out.low hgg (fun j hj => by cases hj; omega)).base_ (by omega)
end Go.Proofs.YtjldkndalcellaaGreatDoor

namespace Go.Proofs.YtjldkndalcellaaGreatDoor
open Go.RowKit Go.El

set_option maxRecDepth 100000 in
set_option maxHeartbeats 1000000 in
/-- slices.Equal at values -/
theorem sEqual_any (a b : List Ce.V) (hla : a.length ≤ maxLen) (A C : Option Addr) (cap1 cap2 : Nat) (w : World) (h1 : ValE.Arg w A a) (h2 : ValE.Arg w C b) :
    Calls Tryz.prog 80 #[.slice A a.length cap1, .slice C b.length cap2] w fun e w' => e = .returned (.bool (decide (a = b))) ∧ Below w.heap.size w w' := by
  have hm : (a.length : Int) ≤ 9223372036854775807 := by unfold maxLen at hla; omega
  by_cases hl : a.length = b.length
  · have H1 := Lib.hid h1
    have H2 := Lib.hid h2
    have HL := Lib.hid hl
    generalize hn : b.length = n
    have hna : a.length = n := by omega
    have HN := Lib.hid hn
    have HNA := Lib.hid hna
    rw [hna] at hm
    generalize hR : decide (a = b) = R
    have HR := Lib.hid hR
    rw [hna]
    clear h1 h2 hl hn hna hR
    go_enter Tryz.func80, Tryz.ntmps80
    go_wp2_with fail
    go_loopw [13] (fun i wr => ∃ k : Nat, k ≤ n ∧ i = .int .i64 k ∧ Hid (a.take k = b.take k) ∧ Below w.heap.size w wr) (fun i _ => n - (intOf i).toNat)
    case atStart => exact ⟨0, Nat.zero_le _, rfl, Lib.hid rfl, Below.refl _ _⟩
    case round =>
      obtain ⟨k, hk, rfl, HK, hbw⟩ := hrel
      by_cases hlt : k < n
      · have hlt' : (k : Int) < n := by omega
        obtain ⟨b1, o1, rfl, hin1, hz1⟩ := H1.out.at_lt (by rw [HNA.out]; exact hlt)
        obtain ⟨b2, o2, rfl, hin2, hz2⟩ := H2.out.at_lt (by rw [HN.out]; exact hlt)
        obtain ⟨x, hx⟩ : ∃ x, a[k]? = some x := ⟨_, List.getElem?_eq_getElem (by rw [HNA.out]; exact hlt)⟩
        obtain ⟨y, hy⟩ : ∃ y, b[k]? = some y := ⟨_, List.getElem?_eq_getElem (by rw [HN.out]; exact hlt)⟩
        obtain ⟨x0, x1⟩ := ValE.at2 (hin1.below hbw (fun _ => hz1)) hx
        obtain ⟨y0, y1⟩ := ValE.at2 (hin2.below hbw (fun _ => hz2)) hy
        have hne : Hid (x ≠ y → R = false) := Lib.hid fun hf => by
          rw [← HR.out]
          exact decide_eq_false fun e => hf (by rw [e, hy] at hx; exact (Option.some.inj hx).symm)
        have heq : Hid (x = y → a.take (k + 1) = b.take (k + 1)) := Lib.hid fun hf => by
          rw [List.take_add_one, List.take_add_one, HK.out, hx, hy, hf]
        clear hx hy hin1 hin2
        obtain ⟨xk, xn⟩ := x
        obtain ⟨yk, yn⟩ := y
        dsimp only at x0 x1 y0 y1
        by_cases hkk : xk = yk
        · subst hkk
          by_cases hnn : xn = yn
          · subst hnn
            have HK1 := Lib.hid (heq.out rfl)
            clear heq hne HK
            go_wp2_with fail
            go_region
            go_wp2_with fail
            go_roundw
            case rel => exact ⟨k + 1, by omega, by go_num, HK1, hbw.drew⟩
            case measure => simp [intOf]; omega
          · have hnn' : (xn == yn) = false := beq_eq_false_iff_ne.2 hnn
            have HK1 := Lib.hid (hne.out (by simp [hnn]))
            clear heq hne HK hnn
            go_wp2_with fail
            go_region
            go_wp2_with fail
            go_ret
            exact ⟨by rw [HK1.out]; rfl, hbw.drew⟩
        · have hkk' : (xk == yk) = false := beq_eq_false_iff_ne.2 hkk
          have HK1 := Lib.hid (hne.out (by simp [hkk]))
          clear heq hne HK hkk
          go_wp2_with fail
          go_region
          go_wp2_with fail
          go_ret
          exact ⟨by rw [HK1.out]; rfl, hbw.drew⟩
      · have hlt' : ¬ (k : Int) < n := by omega
        have HE : Hid (R = true) := Lib.hid (by
          rw [← HR.out]
          refine decide_eq_true ?_
          have e := HK.out
          rwa [List.take_of_length_le (by rw [HNA.out]; omega), List.take_of_length_le (by rw [HN.out]; omega)] at e)
        go_wp2
        go_ret
        exact ⟨by rw [HE.out]; rfl, hbw⟩
  · rw [decide_eq_false (fun e => hl (by rw [e]))]
    have hl' : ((a.length : Int) == b.length) = false := beq_eq_false_iff_ne.2 (by omega)
    generalize a.length = n at hl'
    generalize b.length = m at hl'
    clear h1 h2 hl hm
    go_enter Tryz.func80, Tryz.ntmps80
    go_wp2
    go_ret
    exact ⟨rfl, Below.refl _ _⟩

set_option maxRecDepth 100000 in
set_option maxHeartbeats 2000000 in
/-- slices.EqualFunc at lists of values, by slices.Equal -/
theorem sEqualFunc_any (a b : List (List Ce.V)) (hla : a.length ≤ 1000000) (hea : ∀ (i : Nat) s, a[i]? = some s → s.length ≤ 1000000) (A C : Option Addr) (cap1 cap2 : Nat) (w : World) (h1 : LsAt w A a) (h2 : LsAt w C b) :
    Calls Tryz.prog 81 #[.slice A a.length cap1, .slice C b.length cap2, .func (.func 80) #[] #[]] w fun e w' => e = .returned (.bool (decide (a = b))) ∧ Below w.heap.size w w' := by
  have eg : ∀ args w, (callFunc 80 args).run Tryz.prog w = .ok (.enter 80 args) w := enters_of Tryz.func80 (by kernel_rfl) rfl
  by_cases hl : a.length = b.length
  · have H1 := Lib.hid h1.stay
    have H2 := Lib.hid h2.stay
    have HL := Lib.hid hl
    have HEA := Lib.hid hea
    generalize hn : b.length = n at *
    have HN := Lib.hid hn
    have HNA : Hid (a.length = n) := Lib.hid hl
    rw [hl] at hla ⊢
    have hm : (n : Int) ≤ 1000000 := by omega
    generalize hR : decide (a = b) = R
    have HR := Lib.hid hR
    clear h1 h2 hl hn hR hea
    go_enter Tryz.func81, Tryz.ntmps81
    go_wp2_with fail
    go_loopw [17] (fun i wr => ∃ k : Nat, k ≤ n ∧ i = .int .i64 k ∧ Hid (a.take k = b.take k) ∧ Below w.heap.size w wr) (fun i _ => n - (intOf i).toNat)
    case atStart => exact ⟨0, Nat.zero_le _, rfl, Lib.hid rfl, Below.refl _ _⟩
    case round =>
      obtain ⟨k, hk, rfl, HK, hbw⟩ := hrel
      have hzw := hbw.size
      by_cases hlt : k < n
      · have hlt' : (k : Int) < n := by omega
        obtain ⟨x, hx⟩ : ∃ x, a[k]? = some x := ⟨_, List.getElem?_eq_getElem (by rw [HNA.out]; exact hlt)⟩
        obtain ⟨y, hy⟩ : ∃ y, b[k]? = some y := ⟨_, List.getElem?_eq_getElem (by rw [HN.out]; exact hlt)⟩
        obtain ⟨b1, o1, A1, c1, rfl, hz1, x0, P1⟩ := (H1.out wr hbw).at_ hx
        obtain ⟨b2, o2, A2, c2, rfl, hz2, y0, P2⟩ := (H2.out wr hbw).at_ hy
        have hxl := HEA.out k x hx
        have hcall := fun W hb => sEqual_any x y (by unfold maxLen; omega) A1 A2 c1 c2 W (P1.below hb).arg (P2.below hb).arg
        have hne : Hid (x ≠ y → R = false) := Lib.hid fun hf => by
          rw [← HR.out]
          exact decide_eq_false fun e => hf (by rw [e, hy] at hx; exact (Option.some.inj hx).symm)
        have heq : Hid (x = y → a.take (k + 1) = b.take (k + 1)) := Lib.hid fun hf => by
          rw [List.take_add_one, List.take_add_one, HK.out, hx, hy, hf]
        have HC := Lib.hid hcall
        clear hx hy P1 P2 hcall
        by_cases hxy : x = y
        · have HK1 := Lib.hid (heq.out hxy)
          have HC2 := Lib.hid (fun W hb => by have := HC.out W hb; rw [decide_eq_true hxy] at this; exact this)
          clear heq hne HK HC hxy
          go_wp2_with (go_at_fn 80; refine (HC2.out _ (Below.refl _ _)).mono ?_; rintro e w' ⟨rfl, hb'⟩)
          go_roundw
          case rel => exact ⟨k + 1, by omega, by go_num, HK1, hbw.trans (hb'.mono hzw)⟩
          case measure => simp [intOf]; omega
        · have HK1 := Lib.hid (hne.out hxy)
          have HC2 := Lib.hid (fun W hb => by have := HC.out W hb; rw [decide_eq_false hxy] at this; exact this)
          clear heq hne HK HC hxy
          go_wp2_with (go_at_fn 80; refine (HC2.out _ (Below.refl _ _)).mono ?_; rintro e w' ⟨rfl, hb'⟩)
          go_ret
          exact ⟨by rw [HK1.out]; rfl, hbw.trans (hb'.mono hzw)⟩
      · have hlt' : ¬ (k : Int) < n := by omega
        have HE : Hid (R = true) := Lib.hid (by
          rw [← HR.out]
          refine decide_eq_true ?_
          have e := HK.out
          rwa [List.take_of_length_le (by rw [HNA.out]; omega), List.take_of_length_le (by rw [HN.out]; omega)] at e)
        go_wp2
        go_ret
        exact ⟨by rw [HE.out]; rfl, hbw⟩
  · rw [decide_eq_false (fun e => hl (by rw [e]))]
    have hl' : ((a.length : Int) == b.length) = false := beq_eq_false_iff_ne.2 (by omega)
    have hl2 : ((a.length : Int) != b.length) = true := by rw [bne, hl']; rfl
    generalize a.length = n at *
    generalize b.length = m at *
    clear h1 h2 hl hea
    go_enter Tryz.func81, Tryz.ntmps81
    go_wp2
    go_ret
    exact ⟨rfl, Below.refl _ _⟩

set_option maxRecDepth 100000 in
set_option maxHeartbeats 2000000 in
/-- two pictures are compared -/
theorem csame_any (p q : Ce.Pic) (hp : p.vals.length ≤ 1000000) (hpc : p.cells.length ≤ 1000000) (hea : ∀ (i : Nat) s, p.cells[i]? = some s → s.length ≤ 1000000) (V1 C1 V2 C2 : Option Addr) (cv1 cc1 cv2 cc2 : Nat) (w : World) (h1 : PicAt w V1 cv1 C1 p) (h2 : PicAt w V2 cv2 C2 q) :
    Calls Tryz.prog 52 #[.agg #[.slice V1 p.vals.length cv1, .slice C1 p.cells.length cc1], .agg #[.slice V2 q.vals.length cv2, .slice C2 q.cells.length cc2]] w fun e w' => e = .returned (.bool (decide (p = q))) ∧ Below w.heap.size w w' := by
  have hB : Below w.heap.size w ((w.alloc (.cells #[.slice V1 p.vals.length cv1, .slice C1 p.cells.length cc1] 37)).alloc (.cells #[.slice V2 q.vals.length cv2, .slice C2 q.cells.length cc2] 37)) := ((Below.refl _ _).alloc (Nat.le_refl _) _).alloc (by simp) _
  have HB := Lib.hid hB
  have sp := (box2 (W := w) (v := .slice V1 p.vals.length cv1) (u := .slice C1 p.cells.length cc1) (t := 37)).alloc (.cells #[.slice V2 q.vals.length cv2, .slice C2 q.cells.length cc2] 37)
  have sq := box2 (W := w.alloc (.cells #[.slice V1 p.vals.length cv1, .slice C1 p.cells.length cc1] 37)) (v := .slice V2 q.vals.length cv2) (u := .slice C2 q.cells.length cc2) (t := 37)
  simp only [World.size_alloc] at sq
  have SB := Lib.hid (sp.and sq)
  have HV := Lib.hid (sEqual_any p.vals q.vals (by unfold maxLen; omega) V1 V2 cv1 cv2 _ (h1.v.arg.below hB) (h2.v.arg.below hB))
  have HC := Lib.hid (fun W (hb : Below ((w.alloc (.cells #[.slice V1 p.vals.length cv1, .slice C1 p.cells.length cc1] 37)).alloc (.cells #[.slice V2 q.vals.length cv2, .slice C2 q.cells.length cc2] 37)).heap.size ((w.alloc (.cells #[.slice V1 p.vals.length cv1, .slice C1 p.cells.length cc1] 37)).alloc (.cells #[.slice V2 q.vals.length cv2, .slice C2 q.cells.length cc2] 37)) W) =>
    sEqualFunc_any p.cells q.cells hpc hea C1 C2 cc1 cc2 W ((h1.c.below hB).below hb) ((h2.c.below hB).below hb))
  have hdec : decide (p = q) = (decide (p.vals = q.vals) && decide (p.cells = q.cells)) := by
    obtain ⟨a, b⟩ := p
    obtain ⟨c, d⟩ := q
    simp
  rw [hdec]
  generalize decide (p.vals = q.vals) = r1 at *
  generalize decide (p.cells = q.cells) = r2 at *
  clear h1 h2 sp sq hB hdec hea
  cases r1 with
  | false =>
    rw [Bool.false_and]
    clear HC
    go_enter Tryz.func52, Tryz.ntmps52
    go_wp2_with fail
    refine HV.out.mono ?_
    rintro e w1 ⟨rfl, hb1⟩
    go_wp2
    go_ret
    exact ⟨rfl, HB.out.trans (hb1.mono HB.out.size)⟩
  | true =>
    rw [Bool.true_and]
    cases r2 with
    | false =>
      go_enter Tryz.func52, Tryz.ntmps52
      go_wp2_with fail
      refine HV.out.mono ?_
      rintro e w1 ⟨rfl, hb1⟩
      obtain ⟨⟨x0, x1⟩, y0, y1⟩ := SB.out w1 hb1
      have HB1 := Lib.hid (HB.out.trans (hb1.mono HB.out.size))
      have HC1 := Lib.hid (HC.out w1 hb1)
      clear hb1 HC
      go_wp2_with fail
      refine HC1.out.mono ?_
      rintro e w2 ⟨rfl, hb2⟩
      go_wp2
      go_ret
      exact ⟨rfl, HB1.out.trans (hb2.mono HB1.out.size)⟩
    | true =>
      go_enter Tryz.func52, Tryz.ntmps52
      go_wp2_with fail
      refine HV.out.mono ?_
      rintro e w1 ⟨rfl, hb1⟩
      obtain ⟨⟨x0, x1⟩, y0, y1⟩ := SB.out w1 hb1
      have HB1 := Lib.hid (HB.out.trans (hb1.mono HB.out.size))
      have HC1 := Lib.hid (HC.out w1 hb1)
      clear hb1 HC
      go_wp2_with fail
      refine HC1.out.mono ?_
      rintro e w2 ⟨rfl, hb2⟩
      go_wp2
      go_ret
      exact ⟨rfl, HB1.out.trans (hb2.mono HB1.out.size)⟩
end Go.Proofs.YtjldkndalcellaaGreatDoor
