/- Layer 6: the walk of the reference's drawn. -/
import Derived.Test.YtjldkndalcellaaGreatDoorWa
import Derived.Test.YtjldkndalcellaaGreatDoorYk
namespace Go.Proofs.YtjldkndalcellaaGreatDoor
open Go.RowKit Go.El

theorem LO.keepsM {W W' : World} {base : Nat} {B : Option Addr} {c : Nat} {hs : List Sl} {m : List (List Ce.V)} (h : LO W base B c hs m) (hk : KeepsM W W') : LO W' base B c hs m :=
  ⟨h.len, hk.own h.own (by decide) (by decide), fun i x s h1 h2 => let y := h.each i x s h1 h2; ⟨y.1, hk.own y.2 (by decide) (by decide)⟩⟩
theorem MetIs.open_ {W : World} {base p : Nat} {met : List Int} (h : MetIs W base p met) : ∃ M cm, W.cell? ⟨p, 0, none⟩ = some (.slice M met.length cm) ∧ ∀ k n, met[k]? = some n → ∃ g, M = some ⟨g, 0, none⟩ ∧ W.cell? ⟨g, k, none⟩ = some (.int .i64 n) := by
  obtain ⟨M, cm, h⟩ := h
  refine ⟨M, cm, h.blk.cell 0, fun k n hk => ?_⟩
  obtain ⟨g, rfl, _, _, hin⟩ := Own.in_ h.own (by rintro rfl; simp at hk)
  have := IntE.at1 hin hk
  simp only [Nat.zero_add, Nat.mul_one] at this
  exact ⟨g, rfl, this⟩
def ldR18 : Oper := { dst := some 18, op := Op.load 35 (Operand.tmp 17), type := 35, pos := "ref.go:386", after := #[{ on := 0, ground := Ground.data }], guard := none }
def ldR21 : Oper := { dst := some 21, op := Op.load 52 (Operand.tmp 5), type := 52, pos := "ref.go:386", after := #[], guard := none }
def ldR24 : Oper := { dst := some 24, op := Op.load 3 (Operand.tmp 23), type := 3, pos := "ref.go:386", after := #[{ on := 6, ground := Ground.data }], guard := none }
attribute [local go_sem] ldR18 ldR21 ldR24
set_option maxRecDepth 100000 in
set_option maxHeartbeats 8000000 in
theorem drawn6_any (m : Ce.Mem) (hm : Ce.memOk m = true) (l : List Ce.V) (hl : l.length ≤ 100) (hv : Ce.areValues l m.length = true) (A A2 : Option Addr) (c0 cap : Nat) (w : World) (h1 : MemAt w A m) (h2 : SlAt ValE w ⟨A2, l.length, cap⟩ l) :
    Calls Tryz.prog 50 #[.agg #[.slice A m.length c0], .slice A2 l.length cap] w fun e w' => DrawnIs (Ce.drawn m l) l.length w w' e ∧ Below w.heap.size w w' := by
  have hok := (Ce.ok_iff m).1 hm
  have hml := hok.len
  have HMS := Lib.hid h1.stay
  have hbx : Below w.heap.size w (((w.alloc (.cells #[.slice A m.length c0] 24)).alloc (.cells #[.slice none 0 0, .slice none 0 0] 37)).alloc (.cells #[.slice none 0 0] 52)) :=
    (((Below.refl _ _).alloc (Nat.le_refl _) _).alloc (by simp) _).alloc (by simp; omega) _
  have hD0 : MetIs (((w.alloc (.cells #[.slice A m.length c0] 24)).alloc (.cells #[.slice none 0 0, .slice none 0 0] 37)).alloc (.cells #[.slice none 0 0] 52)) (w.heap.size + 2) (w.heap.size + 2) [] := by
    have hb0 := Blk.new ((w.alloc (.cells #[.slice A m.length c0] 24)).alloc (.cells #[.slice none 0 0, .slice none 0 0] 37)) 52 #[.slice none 0 0]
    simp only [World.size_alloc] at hb0
    exact ⟨none, 0, hb0, Own.nil IntE 3 _ _, by omega⟩
  have HREN := Lib.hid (renumber6_any l (by omega) m.length (by omega) hv [] (fun n h => by cases h) List.nodup_nil (w.heap.size + 2) (w.heap.size + 2) A2 cap h2.none_ _ hD0 (by simp) (h2.arg.below hbx))
  have HX0 := Lib.hid (((Blk.new w 24 #[.slice A m.length c0]).alloc (.cells #[.slice none 0 0, .slice none 0 0] 37)).alloc (.cells #[.slice none 0 0] 52))
  have HY0 := Lib.hid ((Blk.new (w.alloc (.cells #[.slice A m.length c0] 24)) 37 #[.slice none 0 0, .slice none 0 0]).alloc (.cells #[.slice none 0 0] 52))
  simp only [World.size_alloc] at HY0
  have HB0 := Lib.hid hbx
  have HMET0 := Lib.hid (Ce.renum_ok l [] (fun n h => by cases h) List.nodup_nil hv)
  have HVL := Lib.hid (Ce.drawn_vals m l)
  have HFIN : Hid ((Ce.drawn m l).cells = Ce.drawK m m.length 0 (Ce.renum l []).2) := Lib.hid rfl
  have HST : Hid (∀ n : Int, 0 ≤ n → n < m.length → m[n.toNat]? = some (Ce.stAt m n) ∧ Ce.areValues (Ce.stAt m n).cells m.length = true ∧ (Ce.stAt m n).cells.length ≤ 100) := Lib.hid fun n h0 h1 => by
    have hg := Ce.stAt_get (m := m) (n := n) (by omega)
    have := hok.each _ (List.mem_of_getElem? hg)
    unfold Ce.stOk at this
    rw [Bool.and_eq_true, Bool.and_eq_true, decide_eq_true_iff] at this
    exact ⟨hg, this.1.2, this.1.1⟩
  generalize Ce.drawn m l = pic at *
  obtain ⟨pv, pc⟩ := pic
  dsimp only at HVL HFIN ⊢
  clear hok h1 h2 hm hv hbx hD0
  go_enter Tryz.func50, Tryz.ntmps50
  go_wp2_with fail
  refine HREN.out.mono ?_
  rintro e w1 ⟨⟨V, cv, rfl, hoV, hd1⟩, hbb1, hk1⟩
  have hz1 : w.heap.size + 3 ≤ w1.heap.size := by have := hbb1.size; simp at this; omega
  have hba : Below w1.heap.size w1 (w1.alloc (.cells #[.slice V l.length cv, .slice none 0 0] 37)) := (Below.refl _ _).alloc (Nat.le_refl _) _
  have HX1 := Lib.hid ((hk1.blk HX0.out (by decide) (by decide)).below hba)
  have HY1 := Lib.hid ((hk1.blk HY0.out (by decide) (by decide)).below hba)
  have HG1 := Lib.hid (Blk.new w1 37 #[.slice V l.length cv, .slice none 0 0])
  have HO1 : Hid (ValE.Own 57 (w1.alloc (.cells #[.slice V l.length cv, .slice none 0 0] 37)) (w.heap.size + 3) V cv pv) := Lib.hid (by
    rw [HVL.out]
    exact (Own.base_ hoV (by simp)).below hba)
  have HD1 := Lib.hid (hd1.below hba)
  have HB1 := Lib.hid ((HB0.out.trans (hbb1.mono (by omega))).alloc (by omega) (.cells #[.slice V l.length cv, .slice none 0 0] 37))
  have HVLEN : Hid (pv.length = l.length) := Lib.hid (by rw [HVL.out, Ce.renum_len])
  have HVB : Hid (∀ j, (Value.slice V pv.length cv).ownBlock = some j → j < w1.heap.size) := Lib.hid fun j hj => by
    rw [HVL.out] at hj
    exact (hoV.lt j hj).2
  generalize (Ce.renum l []).2 = met0 at *
  generalize hgs : w1.heap.size = G at *
  clear hoV hd1 hbb1 hk1 hba HX0 HY0 HB0 HREN
  go_wp2_with fail
  go_loopw [7] (fun i wr => ∃ (k : Nat) (B : Option Addr) (c : Nat) (hs : List Sl) (L : List (List Ce.V)) (met : List Int), k ≤ m.length ∧ i = .int .i64 k ∧ L.length = k ∧ Hid (Blk wr w.heap.size 24 #[.slice A m.length c0]) ∧ Hid (Blk wr (w.heap.size + 1) 37 #[.slice none 0 0, .slice none 0 0]) ∧ Hid (Blk wr G 37 #[.slice V l.length cv, .slice B k c]) ∧ Hid (ValE.Own 57 wr (w.heap.size + 3) V cv pv) ∧ Hid (LO wr (G + 1) B c hs L) ∧ Hid (MetIs wr (w.heap.size + 2) (w.heap.size + 2) met) ∧ Hid (Ce.Below m.length met ∧ met.Nodup) ∧ Hid (pc = L ++ Ce.drawK m (m.length - k) k met) ∧ G + 1 ≤ wr.heap.size ∧ Hid (Below w.heap.size w wr)) (fun i _ => m.length - (intOf i).toNat)
  case atStart => exact ⟨0, none, 0, [], [], met0, Nat.zero_le _, rfl, rfl, HX1, HY1, HG1, HO1, Lib.hid (LO.nil _ _), HD1, HMET0, HFIN, by simp; omega, HB1⟩
  case round =>
    clear HX1 HY1 HG1 HO1 HD1 HB1 HFIN HMET0
    obtain ⟨k, B, c, hs, L, met, hk, rfl, hLk, HX, HY, HG, HO, HL, HD, HMET, HF, hsz, HB⟩ := hrel
    have HLK := Lib.hid hLk
    clear hLk
    have hml2 := Ce.below_len HMET.out.1 HMET.out.2
    have x1 : wr.cell? ⟨w.heap.size, 0, none⟩ = some (.slice A m.length c0) := HX.out.cell 0
    have g1 : wr.cell? ⟨G, 1, none⟩ = some (.slice B k c) := HG.out.cell 1
    obtain ⟨M, cm, d1, hmet⟩ := HD.out.open_
    have hmlz : (met.length : Int) ≤ 400 := by omega
    by_cases hlt : k < met.length
    · have hlt' : (k : Int) < met.length := by omega
      obtain ⟨n, hn⟩ : ∃ x, met[k]? = some x := ⟨_, List.getElem?_eq_getElem hlt⟩
      obtain ⟨hn0, hn1⟩ := HMET.out.1 n (List.mem_of_getElem? hn)
      obtain ⟨gM, rfl, d2⟩ := hmet k n hn
      obtain ⟨hst, hav, hcl⟩ := HST.out n hn0 hn1
      have HF2 : Hid (pc = (L ++ [(Ce.renum (Ce.stAt m n).cells met).1]) ++ Ce.drawK m (m.length - (k + 1)) (k + 1) (Ce.renum (Ce.stAt m n).cells met).2) := Lib.hid (by
        rw [HF.out, show m.length - k = (m.length - (k + 1)) + 1 by omega, Ce.drawK_step hn, List.append_assoc]; rfl)
      obtain ⟨j, rfl⟩ : ∃ j : Nat, n = j := ⟨n.toNat, by omega⟩
      have hj1 : (j : Int) < m.length := hn1
      rw [Int.toNat_natCast] at hst
      obtain ⟨bm, om, A1, c1, A3, c3, rfl, hbm, y0, _, P1, _⟩ := (HMS.out w (Below.refl _ _)).at4 hst
      have HNON := Lib.hid P1.none_
      have P1 := P1.arg
      dsimp only at HNON P1
      have Y0 := Lib.hid y0
      have y0 := ((bcell HB.out).1 _ _ hbm).trans y0
      generalize Ce.stAt m j = s at *
      have HP := Lib.hid (P1.below HB.out)
      generalize s.cells = cs at *
      have HMET2 := Lib.hid (Ce.renum_ok cs met HMET.out.1 HMET.out.2 hav)
      have HRL : Hid ((Ce.renum cs met).1.length = cs.length) := Lib.hid (Ce.renum_len cs met)
      have HREN := Lib.hid (renumber6_any cs (by omega) m.length (by omega) hav met HMET.out.1 HMET.out.2 (w.heap.size + 2) (w.heap.size + 2) A1 c1 HNON.out wr.drew (HD.out.below (Below.refl _ _).drew) (by show _ ≤ wr.heap.size; omega) (HP.out.below (Below.refl _ _).drew))
      have HHL : Hid (hs.length = k) := Lib.hid (by rw [HL.out.len, HLK.out])
      have hq0 : w.heap.size < wr.heap.size := by omega
      have hn1' : w.heap.size ≠ G := by omega
      have hn2 : G ≠ w.heap.size := by omega
      have hn3 : bm ≠ G := by omega
      have hn4 : G ≠ bm := by omega
      have hn5 : G ≠ w.heap.size + 2 := by omega
      have hn6 : w.heap.size + 2 ≠ G := by omega
      have hpos : k < met.length := hlt
      have hposj : j < m.length := by omega
      have HNE : Hid (∀ j, (Value.slice B hs.length c).ownBlock = some j → G + 1 ≤ j ∧ j < wr.heap.size) := Lib.hid fun j hj => HL.out.own.lt j hj
      have HMET3 := HMET
      clear P1 hst hn hmet hav HF HMET
      go_wp2_with fail
      rw [show ({ dst := some 18, op := Op.load 35 (Operand.tmp 17), type := 35, pos := "ref.go:386", after := #[{ on := 0, ground := Ground.data }], guard := none } : Oper) = ldR18 from rfl,
        show ({ dst := some 21, op := Op.load 52 (Operand.tmp 5), type := 52, pos := "ref.go:386", after := #[], guard := none } : Oper) = ldR21 from rfl,
        show ({ dst := some 24, op := Op.load 3 (Operand.tmp 23), type := 3, pos := "ref.go:386", after := #[{ on := 6, ground := Ground.data }], guard := none } : Oper) = ldR24 from rfl]
      go_region_held3 (fun W => W.cell? ⟨w.heap.size, 0, none⟩ = some (.slice (some ⟨bm, om, none⟩) m.length c0) ∧ W.cell? ⟨bm, om + j * 2, none⟩ = some (.slice A1 cs.length c1))
        (go_keep)
        (first
          | (refine step_append_any SlE _ rfl _ _ 35 34 rfl Tryz.underlying35 ls_info rfl (G + 1) B c _ hs [⟨AV, cs.length, cV⟩] _ _ _ rfl HHL.out.symm rfl rfl (fun hh => by cases hh) (Own.below (hkV.own HL.out.own (by decide) (by decide)) ((Below.refl _ _).alloc (Nat.le_refl _) _)) (row_arg (K := SlE) rfl rfl) (by simp [maxLen]; have := HHL.out; omega) (by simp; have := HHL.out; omega) (by have := hbV.size; simp; omega) ?_; intro A4 c4 w4 hown4 hgrow4
             have hne4 := fun (p : Nat) (cs' : Array Value) (t : TypeId) (hp : Blk (wV.alloc (.cells #[.slice AV cs.length cV] 34)) p t cs') (ht : t ≠ 34) => Own.ne_blk (Own.below (hkV.own HL.out.own (by decide) (by decide)) ((Below.refl _ _).alloc (Nat.le_refl _) (.cells #[.slice AV cs.length cV] 34))) hp ht
             have hg4 := ((hkV.blk HG.out (by decide) (by decide)).alloc _).kept hgrow4 (hne4 _ _ _ ((hkV.blk HG.out (by decide) (by decide)).alloc _) (by decide))
             have hx4 := ((hkV.blk HX.out (by decide) (by decide)).alloc _).kept hgrow4 (hne4 _ _ _ ((hkV.blk HX.out (by decide) (by decide)).alloc _) (by decide))
             have v2 : w4.cell? ⟨G, 1, none⟩ = some (.slice B k c) := hg4.cell 1
             have vf := hg4.frozen 1
             have vl := hg4.lt
             have v0 : w4.cell? ⟨w.heap.size, 0, none⟩ = some (.slice (some ⟨bm, om, none⟩) m.length c0) := hx4.cell 0
             have hb4 : Below w.heap.size w w4 := ((HB.out.trans (hbV.mono (by omega))).alloc (by have := hbV.size; omega) _).grown hgrow4 (by have := hbV.size; simp; omega) (fun j hj => by have := HNE.out j hj; omega)
             have v1 := ((bcell hb4).1 _ _ hbm).trans Y0.out)
          | (go_at_call 79; refine HREN.out.mono ?_; rintro e wV ⟨⟨AV, cV, rfl, hoV, hdV⟩, hbV0, hkV0⟩
             have hbV : Below (w.heap.size + 2) wr wV := (Below.refl _ _).drew.trans hbV0
             have hkV : KeepsM wr wV := (KeepsM.below (Below.refl _ _).drew).trans hkV0
             have hoV : ValE.Own 57 wV wr.heap.size AV cV (Ce.renum cs met).1 := hoV
             have hxV := hkV.blk HX.out (by decide) (by decide)
             have hgV := hkV.blk HG.out (by decide) (by decide)
             have v0 : wV.cell? ⟨w.heap.size, 0, none⟩ = some (.slice (some ⟨bm, om, none⟩) m.length c0) := hxV.cell 0
             have v1 := ((bcell (HB.out.trans (hbV.mono (by omega)))).1 _ _ hbm).trans Y0.out
             have v2 : wV.cell? ⟨G, 1, none⟩ = some (.slice B k c) := hgV.cell 1
             have v3 := hxV.lt
             have v4 := hgV.lt
             have v5 : bm < wV.heap.size := by omega))
      all_goals
        clear x1 y0 g1 d1 d2 HREN
        go_wp2_with fail
        go_roundw
        case rel =>
          have hset := grownBy_setCell1 w4 G 1 (.slice A4 (k + 1) c4)
          have hal : Below wV.heap.size wV (wV.alloc (.cells #[.slice AV cs.length cV] 34)) := (Below.refl _ _).alloc (Nat.le_refl _) _
          have hLV := (HL.out.keepsM hkV).below hal
          refine ⟨k + 1, A4, c4, hs ++ [⟨AV, cs.length, cV⟩], L ++ [(Ce.renum cs met).1], (Ce.renum cs met).2, by omega, by go_num, by simp [HLK.out], ?_, ?_, ?_, ?_, ?_, ?_, HMET2, HF2, ?_, ?_⟩
          · exact Lib.hid (hx4.kept hset (by simp; omega))
          · exact Lib.hid (((((hkV.blk HY.out (by decide) (by decide)).alloc _).kept hgrow4 (hne4 _ _ _ ((hkV.blk HY.out (by decide) (by decide)).alloc _) (by decide)))).kept hset (by simp; omega))
          · exact Lib.hid (hg4.set_ 1 _)
          · have hv := (hkV.own HO.out (by decide) (by decide)).below hal
            have hv4 : ValE.Own 57 w4 (w.heap.size + 3) V cv pv := hv.kept hgrow4 (own_own_ne hv hLV.own (by decide))
            refine Lib.hid (Own.kept' hv4 hset (fun g e => ?_))
            injection e with e
            subst e
            exact Own.ne_blk hv4 hg4 (by decide)
          · refine Lib.hid (LO.low ?_ hset (fun j hj => by cases hj; omega))
            exact (HL.out.keepsM hkV).snoc hal HRL.out.symm ((Own.base_ hoV (by omega)).below hal) hown4 hgrow4
          · have hd4 := (hdV.below hal).grown hLV.own (by decide) (by decide) hgrow4
            exact Lib.hid (hd4.set (a := ⟨G, 1, none⟩) hg4 (by decide) (by decide))
          · have := hset.size
            have := hgrow4.size
            have := hbV.size
            simp at *
            omega
          · exact Lib.hid (hb4.setCell (by dsimp only; omega) _)
        case measure => simp [intOf]; omega
    · have hlt' : ¬ (k : Int) < met.length := by omega
      have HE : Hid (pc = L) := Lib.hid (by rw [HF.out, Ce.drawK_end (by omega), List.append_nil])
      have HKL : Hid (k = pc.length) := Lib.hid (by rw [HE.out, HLK.out])
      have g0 : wr.cell? ⟨G, 0, none⟩ = some (.slice V l.length cv) := HG.out.cell 0
      have z0 : wr.cell? ⟨w.heap.size + 1, 0, none⟩ = some (.slice none 0 0) := HY.out.cell 0
      have z1 : wr.cell? ⟨w.heap.size + 1, 1, none⟩ = some (.slice none 0 0) := HY.out.cell 1
      have zf0 := HY.out.frozen 0
      have zf1 := HY.out.frozen 1
      clear hmet x1
      go_wp2
      refine bodyPost_ret (results_cell_row rfl _ _ (w.heap.size + 1) 37 #[.slice V l.length cv, .slice B k c] (0, 0) _ rfl ((HY.out.set_ 0 _).set_ 1 _) Tryz.underlying37 rfl pic_size) rfl ?_
      have hs1' := (grownBy_setCell1 wr (w.heap.size + 1) 0 (.slice V l.length cv))
      have hs2' := (grownBy_setCell1 (wr.setCell ⟨w.heap.size + 1, 0, none⟩ (.slice V l.length cv)) (w.heap.size + 1) 1 (.slice B k c))
      have hgg := hs1'.trans hs2'
      refine ⟨⟨V, cv, B, c, hs, ?_, Own.base_ (Own.low HO.out hgg (fun j hj => by cases hj; omega)) (by omega), ?_⟩, (HB.out.setCell (by simp) _).setCell (by simp) _⟩
      · rw [← HKL.out]
      · rw [HE.out]
        exact (HL.out.low hgg (fun j hj => by cases hj; omega)).base_ (by omega)
end Go.Proofs.YtjldkndalcellaaGreatDoor
