/- CellsDrawn: the walk of the law: whatever the picture, it returns true. -/
import Derived.Test.YtjldkndalcellaaGreatDoorSo
import Derived.Test.YtjldkndalcellaaGreatDoorWg
import Derived.Test.YtjldkndalcellaaGreatDoorWi
import Derived.Test.YtjldkndalcellaaGreatDoorXb
import Derived.Test.YtjldkndalcellaaGreatDoorXf
namespace Ce
def up (s : St) : St := ⟨s.cells.map high, []⟩
def upK (m : Mem) (k : Nat) : Mem := ⟨[vint 1], []⟩ :: (m.take k).map up
theorem upK_zero (m : Mem) : upK m 0 = [⟨[vint 1], []⟩] := rfl
theorem upK_step {m : Mem} {k : Nat} {s : St} (h : m[k]? = some s) : upK m (k + 1) = upK m k ++ [up s] := by unfold upK; rw [List.take_add_one, h, List.map_append]; rfl
theorem upK_end (m : Mem) (k : Nat) (h : m.length ≤ k) : upK m k = upM m := by unfold upK; rw [List.take_of_length_le h]; rfl
theorem upK_len (m : Mem) (k : Nat) (h : k ≤ m.length) : (upK m k).length = k + 1 := by unfold upK; rw [List.length_cons, List.length_map, List.length_take]; omega
end Ce
namespace Go.El
open Go.RowKit
/-- a literal is a row of the call's own -/
theorem Own.lit {α : Type} (K : El α) (e : TypeId) (W : World) {base : Nat} (l : List α) (cs : Array Value) (hcs : cs.toList = K.row l) (hb : base ≤ W.heap.size) (hn : l.length ≤ maxLen) : K.Own e (W.alloc (.cells cs e)) base (some ⟨W.heap.size, 0, none⟩) l.length l := by
  have hl := K.row_len l
  have hs : cs.size = l.length * K.k := by rw [← hl, ← hcs, Array.length_toList]
  refine ⟨hl, .inr ⟨W.heap.size, l.length, cs, rfl, hb, heap_alloc_new W _, Nat.le_refl _, hn, hs, ?_⟩⟩
  rw [hcs, List.take_of_length_le (by omega)]
end Go.El
namespace Go.Proofs.YtjldkndalcellaaGreatDoor
open Go.RowKit Go.El

/-- a picture in a box -/
def Boxp (p : Ce.Pic) (g nv nc : Nat) (V C : Option Addr) (v c : Nat) (U : World) : Prop := PicAt U V v C p ∧ U.cell? ⟨g, 0, none⟩ = some (.slice V nv v) ∧ U.cell? ⟨g, 1, none⟩ = some (.slice C nc c)
theorem boxp_new {W3 wc : World} {nv nc base : Nat} {V C : Option Addr} {v c : Nat} {ks : List Sl} {p : Ce.Pic} (hX : Below W3.heap.size W3 wc) (hvo : ValE.Own 57 wc base V v p.vals) (hlo : LO wc base C c ks p.cells) :
    Hid (Stay (Boxp p wc.heap.size nv nc V C v c) (wc.alloc (.cells #[.slice V nv v, .slice C nc c] 37))) ∧ Hid (Below W3.heap.size W3 (wc.alloc (.cells #[.slice V nv v, .slice C nc c] 37))) := by
  have hE : Below wc.heap.size wc (wc.alloc (.cells #[.slice V nv v, .slice C nc c] 37)) := (Below.refl _ _).alloc (Nat.le_refl _) _
  have s1 := (PicAt.stay (LO.picV (p := p) hvo hlo).at_).step hE
  have s2 := box2 (W := wc) (v := .slice V nv v) (u := .slice C nc c) (t := 37)
  exact ⟨Lib.hid fun U hu => ⟨s1 U hu, s2 U hu⟩, Lib.hid (hX.trans (hE.mono hX.size))⟩
theorem boxp_old {W3 wc : World} {g nv nc base : Nat} {V C : Option Addr} {v c : Nat} {ks : List Sl} {p : Ce.Pic} (hX : Below W3.heap.size W3 wc) (b37 : Blk wc g 37 #[.slice none 0 0, .slice none 0 0]) (h37 : W3.heap.size ≤ g) (hvo : ValE.Own 57 wc base V v p.vals) (hlo : LO wc base C c ks p.cells) :
    Hid (Stay (Boxp p g nv nc V C v c) ((wc.setCell ⟨g, 0, none⟩ (.slice V nv v)).setCell ⟨g, 1, none⟩ (.slice C nc c))) ∧ Hid (Below W3.heap.size W3 ((wc.setCell ⟨g, 0, none⟩ (.slice V nv v)).setCell ⟨g, 1, none⟩ (.slice C nc c))) := by
  have p2 := b37.set_ 0 (.slice V nv v)
  have kk := (KeepsB.set (j := 0) (v := .slice V nv v) b37 (.inr rfl)).trans (KeepsB.set (j := 1) (v := .slice C nc c) p2 (.inr rfl))
  have p3 := p2.set_ 1 (.slice C nc c)
  have hb := (hX.setCell (p := ⟨g, 0, none⟩) h37 (.slice V nv v)).setCell (p := ⟨g, 1, none⟩) h37 (.slice C nc c)
  have s1 := PicAt.stay (LO.picV (p := p) (kk.own hvo (by decide) (by decide)) (hlo.keepsB kk)).at_
  have s2 := Blk.stay p3
  exact ⟨Lib.hid fun U hu => ⟨s1 U hu, (s2 U hu).cell 0, (s2 U hu).cell 1⟩, Lib.hid hb⟩
theorem lt_ne {a s g : Nat} (h1 : a < s) (h2 : s ≤ g) : a ≠ g ∧ g ≠ a := by omega
theorem self_same (p : Ce.Pic) (hp : Szp p) (V1 C1 V2 C2 : Option Addr) (cv1 cc1 cv2 cc2 : Nat) (w : World) (h1 : PicAt w V1 cv1 C1 p) (h2 : PicAt w V2 cv2 C2 p) :
    Calls Tryz.prog 22 #[.agg #[.slice V1 p.vals.length cv1, .slice C1 p.cells.length cc1], .agg #[.slice V2 p.vals.length cv2, .slice C2 p.cells.length cc2]] w fun e w' => e = .returned (.bool true) ∧ Below w.heap.size w w' := by
  have := samePic_any p p hp V1 C1 V2 C2 cv1 cc1 cv2 cc2 w h1 h2
  rwa [decide_eq_true rfl] at this
theorem drawn_self_own {p : Ce.Pic} (hp : Szp p) (hq : Ce.isPic p = true) (B X : Option Addr) (c cx : Nat) (W : World) (h1 : MemAt W B (Ce.memory p)) (h2 : ValE.Arg W X p.vals) :
    Calls Tryz.prog 20 #[.agg #[.slice B p.cells.length c], .slice X p.vals.length cx] W fun e w' => DrawnOwn p p.vals.length W w' e ∧ Below W.heap.size W w' := by
  obtain ⟨q1, q2, q3, q4⟩ := Ce.isPic_parts hq
  have hm := Ce.memory_len p
  have := cdraw_own (Ce.memory p) (sz_memory hp) p.vals q1 q2 (by rw [hm]; exact q3) B X c cx W h1 h2
  rwa [q4, hm] at this
theorem up_bound {p : Ce.Pic} (hq : Ce.isPic p = true) : (∀ v ∈ p.vals, v.k = 4 → -1000000 ≤ v.n ∧ v.n ≤ 1000000) ∧ ∀ (i : Nat) (s : Ce.St), (Ce.memory p)[i]? = some s → ∀ v ∈ s.cells, v.k = 4 → -1000000 ≤ v.n ∧ v.n ≤ 1000000 := by
  obtain ⟨q1, q2, q3, q4⟩ := Ce.isPic_parts hq
  have hok := (Ce.ok_iff _).1 q1
  have hml := hok.len
  have hm := Ce.memory_len p
  have key : ∀ (v : Ce.V) (n : Nat), n ≤ 400 → Ce.isValue v n = true → v.k = 4 → -1000000 ≤ v.n ∧ v.n ≤ 1000000 := fun v n hn h h4 => by
    unfold Ce.isValue at h
    rw [if_neg (by omega), if_neg (by omega), if_neg (by omega), if_neg (by omega), if_pos h4] at h
    simp at h
    omega
  refine ⟨fun v hv h4 => key v p.cells.length (by omega) (List.all_eq_true.1 q3 v hv) h4, fun i s hs v hv h4 => ?_⟩
  have := hok.each s (List.mem_of_getElem? hs)
  unfold Ce.stOk at this
  rw [Bool.and_eq_true, Bool.and_eq_true] at this
  exact key v _ hml (List.all_eq_true.1 this.1.2 v hv) h4
theorem sz_upM {p : Ce.Pic} (hp : Ce.ThinP p) : Sz (Ce.upM (Ce.memory p)) := by
  have hm := Ce.memory_len p
  refine ⟨by rw [Ce.upM_len, hm]; have := hp.2.1; omega, fun i s hs => ?_⟩
  cases i with
  | zero => simp [Ce.upM] at hs; subst hs; exact ⟨by simp, by simp⟩
  | succ i =>
    unfold Ce.upM at hs
    rw [List.getElem?_cons_succ, List.getElem?_map] at hs
    obtain ⟨t, ht, rfl⟩ := Option.map_eq_some_iff.1 hs
    unfold Ce.memory at ht
    rw [List.getElem?_map] at ht
    obtain ⟨l, hl, rfl⟩ := Option.map_eq_some_iff.1 ht
    have := hp.2.2 i l hl
    exact ⟨by simp; omega, by simp⟩
theorem drawn_up_own {p : Ce.Pic} (hp : Ce.ThinP p) (hq : Ce.isPic p = true) (B X : Option Addr) (c cx : Nat) (W : World) (h1 : MemAt W B (Ce.upM (Ce.memory p))) (h2 : ValE.Arg W X (p.vals.map Ce.high)) :
    Calls Tryz.prog 20 #[.agg #[.slice B (p.cells.length + 1) c], .slice X p.vals.length cx] W fun e w' => DrawnOwn p p.vals.length W w' e ∧ Below W.heap.size W w' := by
  obtain ⟨q1, q2, q3, q4⟩ := Ce.isPic_parts hq
  have hm := Ce.memory_len p
  have hz := hp.2.1
  have := cdraw_own (Ce.upM (Ce.memory p)) (sz_upM hp) (p.vals.map Ce.high) (Ce.upM_ok q1 (by omega)) (by rw [List.length_map]; exact q2) (by rw [Ce.upM_len]; exact Ce.high_vals (by rw [hm]; exact q3)) B X c cx W h1 h2
  rwa [Ce.drawn_up (Ce.memory p) q1 p.vals (by rw [hm]; exact q3), q4, Ce.upM_len, hm, List.length_map] at this
def ldUp : Oper := { dst := some 50, op := Op.load 22 (Operand.tmp 49), type := 22, pos := "plain.go:252", after := #[{ on := 0, ground := Ground.data }], guard := none }
attribute [local go_sem] ldUp
set_option maxRecDepth 100000 in
set_option maxHeartbeats 8000000 in
theorem drawnLaw_any (h : Prg) (p : Ce.Pic) (hp : Bgp p) (V C : Option Addr) (cv cc : Nat) (w : World) (h3 : PicAt w V cv C p) :
    Calls Tryz.prog 7 #[.agg #[.slice V p.vals.length cv, .slice C p.cells.length cc]] w fun e w' => e = .returned (.bool true) ∧ Below w.heap.size w w' := by
  have HAW := Lib.hid (fun W => awake_any h W)
  have hb0 : Below w.heap.size w (w.alloc (.cells #[.slice V p.vals.length cv, .slice C p.cells.length cc] 37)) := (Below.refl _ _).alloc (Nat.le_refl _) _
  have HTP := Lib.hid (thinPic_any p hp V C cv cc _ (h3.below hb0))
  have HS0 := Lib.hid ((h3.stay.step hb0).and (box2 (W := w) (v := .slice V p.vals.length cv) (u := .slice C p.cells.length cc) (t := 37)))
  have HB0 := Lib.hid hb0
  have HML := Lib.hid (Ce.memory_len p)
  clear h hp h3 hb0
  go_enter Tryz.func7, Tryz.ntmps7
  go_wp2_with fail
  refine HTP.out.mono ?_
  rintro e w1 ⟨⟨b, rfl, hbp⟩, hb1⟩
  have HS1 := Lib.hid (HS0.out.step hb1)
  have HB1 := Lib.hid (HB0.out.trans (hb1.mono HB0.out.size))
  clear hb1 HS0 HB0 HTP
  cases b with
  | false =>
    clear hbp
    go_wp2_with fail
    refine (HAW.out _).mono ?_
    rintro e w9 ⟨rfl, hb9⟩
    go_wp2
    go_ret
    exact ⟨rfl, HB1.out.trans (hb9.mono HB1.out.size)⟩
  | true =>
    have HTN := Lib.hid (hbp (by trivial))
    have HZ := Lib.hid (thin_szp HTN.out)
    clear hbp
    obtain ⟨hpa, x0, x1⟩ := HS1.out.at_
    have HPA1 := Lib.hid hpa
    clear hpa
    have HIQ := Lib.hid (isPicture6_any p HZ.out V C cv cc _ HPA1.out)
    have HQ : Hid (Ce.isPic p = true ∨ Ce.isPic p = false) := Lib.hid (by cases Ce.isPic p <;> simp)
    rcases HQ.out with hq | hq
    rotate_left
    · rw [hq] at HIQ
      clear HQ
      go_wp2_with fail
      refine HIQ.out.mono ?_
      rintro e w2 ⟨rfl, hb2⟩
      have HB2 := Lib.hid (HB1.out.trans (hb2.mono HB1.out.size))
      clear hb2 x0 x1
      go_wp2_with fail
      refine (HAW.out _).mono ?_
      rintro e w9 ⟨rfl, hb9⟩
      go_wp2
      go_ret
      exact ⟨rfl, HB2.out.trans (hb9.mono HB2.out.size)⟩
    rw [hq] at HIQ
    have HIP := Lib.hid hq
    clear hq HQ
    go_wp2_with fail
    refine HIQ.out.mono ?_
    rintro e w2 ⟨rfl, hb2⟩
    have HS2 := Lib.hid (HS1.out.step hb2)
    have HB2 := Lib.hid (HB1.out.trans (hb2.mono HB1.out.size))
    clear hb2 HS1 HB1 HPA1 HIQ x0 x1
    obtain ⟨hpa, x0, x1⟩ := HS2.out.at_
    have HPA2 := Lib.hid hpa
    clear hpa
    go_wp2_with fail
    refine (copyPic_any p HZ.out V C cv cc _ HPA2.out).mono ?_
    rintro e w3 ⟨⟨V1, v1, C1, d1, ks1, rfl, ho1, hl1⟩, hb3⟩
    have HS3 := Lib.hid (HS2.out.step hb3)
    have HB3 := Lib.hid (HB2.out.trans (hb3.mono HB2.out.size))
    have HPC := Lib.hid (LO.picV (p := p) ho1 hl1).at_
    clear hb3 HS2 HB2 HPA2 ho1 hl1 x0 x1
    go_wp2_with fail
    refine (cmemory_ok p HZ.out HIP.out V1 C1 v1 d1 _ HPC.out).mono ?_
    rintro e w4 ⟨⟨B, c, hs, rfl, hmo⟩, hb4⟩
    have hb5 : Below w4.heap.size w4 (w4.alloc (.cells #[.slice B p.cells.length c] 24)) := (Below.refl _ _).alloc (Nat.le_refl _) _
    have HS5 := Lib.hid ((((HS3.out.step hb4).step hb5)).and ((hmo.at_.stay.step hb5).and (box1 (W := w4) (v := .slice B p.cells.length c) (t := 24))))
    have HB5 := Lib.hid ((HB3.out.trans (hb4.mono HB3.out.size)).trans (hb5.mono (HB3.out.trans (hb4.mono HB3.out.size)).size))
    clear hb4 hb5 HS3 HB3 HPC hmo
    go_wp2_with fail
    generalize w4.alloc (.cells #[.slice B p.cells.length c] 24) = W5 at *
    have HALL : Hid (∀ U, Below W5.heap.size W5 U → U.cell? ⟨w.heap.size, 0, none⟩ = some (.slice V p.vals.length cv) ∧ U.cell? ⟨w.heap.size, 1, none⟩ = some (.slice C p.cells.length cc) ∧ U.cell? ⟨w4.heap.size, 0, none⟩ = some (.slice B p.cells.length c)) := Lib.hid fun U hu => ⟨(HS5.out U hu).1.2.1, (HS5.out U hu).1.2.2, (HS5.out U hu).2.2⟩
    have HPA := Lib.hid fun U (hu : Below W5.heap.size W5 U) => (HS5.out U hu).1.1
    have HMA := Lib.hid fun U (hu : Below W5.heap.size W5 U) => (HS5.out U hu).2.1
    clear HS5
    obtain ⟨x0, x1, y0⟩ := HALL.out _ (Below.refl _ _)
    have q0 : w.heap.size < W5.heap.size := lt_of_cell x0
    have q1 : w4.heap.size < W5.heap.size := lt_of_cell y0
    go_cut [5, 6] (fun va vb wx => ∃ (gp : Nat) (V2 : Option Addr) (v2 : Nat) (C2 : Option Addr) (d2 : Nat), va = .pointer (some ⟨gp, 0, none⟩) ∧ vb = .int .i64 0 ∧ Hid (Stay (Boxp p gp p.vals.length p.cells.length V2 C2 v2 d2) wx) ∧ Hid (Below W5.heap.size W5 wx))
    case first =>
      have HCP : Hid (∀ W, MemAt W B (Ce.memory p) → Calls Tryz.prog 11 #[.agg #[.slice B p.cells.length c]] W fun e w' => (∃ B c hs, e = .returned (.agg #[.slice B p.cells.length c]) ∧ MO w' W.heap.size B c hs (Ce.memory p)) ∧ Below W.heap.size W w') := Lib.hid fun W hh => by
        have := copy6_any (Ce.memory p) (sz_memory HZ.out) B c W hh
        rwa [HML.out] at this
      have HVL : Hid (∀ W, SlAt ValE W ⟨V, p.vals.length, cv⟩ p.vals → Calls Tryz.prog 18 #[.slice V p.vals.length cv] W fun e w' => valuesIs p.vals W w' e ∧ Below W.heap.size W w') := Lib.hid fun W hh => values_any p.vals (by have := HZ.out.vals; omega) V cv hh.none_ W hh.arg
      have HDR := Lib.hid fun B X c cx W h1 h2 => drawn_self_own HZ.out HIP.out B X c cx W h1 h2
      clear HAW HB5 HTN
      go_region_held3 (fun U => U.cell? ⟨w.heap.size, 0, none⟩ = some (.slice V p.vals.length cv) ∧ U.cell? ⟨w.heap.size, 1, none⟩ = some (.slice C p.cells.length cc) ∧ U.cell? ⟨w4.heap.size, 0, none⟩ = some (.slice B p.cells.length c))
        (go_keep)
        (first
          | (go_at_call 11; refine (HCP.out _ (HMA.out _ ?hw)).mono ?_; (case hw => first | (with_reducible exact (Below.refl W5.heap.size W5).drew) | (with_reducible exact ((Below.refl W5.heap.size W5).alloc (Nat.le_refl _) _).drew)); rintro e wa ⟨⟨B', c', hs', rfl, hmo⟩, hb⟩; have hL : Below W5.heap.size W5 wa := by first | (with_reducible exact (Below.refl W5.heap.size W5).drew.trans (hb.mono (by simp <;> omega))) | (with_reducible exact ((Below.refl W5.heap.size W5).alloc (Nat.le_refl _) _).drew.trans (hb.mono (by simp <;> omega))) | (exact (Below.refl W5.heap.size W5).drew.trans (hb.mono (by simp <;> omega))) | (exact ((Below.refl W5.heap.size W5).alloc (Nat.le_refl _) _).drew.trans (hb.mono (by simp <;> omega)))
             have hX : Below W5.heap.size W5 wa := hL
             obtain ⟨x0, x1, y0⟩ := HALL.out _ hX
             first | (have b37 : _ ∧ W5.heap.size ≤ _ := ⟨b37.1.below hL, b37.2⟩) | (have b37 : Blk wa W5.heap.size 37 #[.slice none 0 0, .slice none 0 0] ∧ W5.heap.size ≤ W5.heap.size := ⟨((Blk.new W5 37 #[.slice none 0 0, .slice none 0 0]).drew).below hb, by omega⟩) | skip
             have hsa := hX.size
             clear hb hL)
          | (go_at_call 18; refine (HVL.out _ (HPA.out _ (hX.trans (Below.mono ?hw hX.size))).v).mono ?_; (case hw => first | (with_reducible exact (Below.refl wa.heap.size wa)) | (with_reducible exact ((Below.refl wa.heap.size wa).alloc (Nat.le_refl _) _))); rintro e wb ⟨⟨X, cx, rfl, hov⟩, hb⟩; have hL : Below wa.heap.size wa wb := by first | (with_reducible exact (Below.refl wa.heap.size wa).trans (hb.mono (by simp <;> omega))) | (with_reducible exact ((Below.refl wa.heap.size wa).alloc (Nat.le_refl _) _).trans (hb.mono (by simp <;> omega))) | (exact (Below.refl wa.heap.size wa).trans (hb.mono (by simp <;> omega))) | (exact ((Below.refl wa.heap.size wa).alloc (Nat.le_refl _) _).trans (hb.mono (by simp <;> omega)))
             have hmo := hmo.below hL
             have hX : Below W5.heap.size W5 wb := hX.trans (hL.mono hX.size)
             obtain ⟨x0, x1, y0⟩ := HALL.out _ hX
             first | (have b37 : _ ∧ W5.heap.size ≤ _ := ⟨b37.1.below hL, b37.2⟩) | (have b37 : Blk wb wa.heap.size 37 #[.slice none 0 0, .slice none 0 0] ∧ W5.heap.size ≤ wa.heap.size := ⟨((Blk.new wa 37 #[.slice none 0 0, .slice none 0 0])).below hb, by omega⟩) | skip
             have hsa := hX.size
             clear hb hL)
          | (go_at_call 20; refine (HDR.out _ _ _ _ _ ((hmo.below ?hw).at_) (Own.arg (Own.below hov ?hw))).mono ?_; (case hw => first | (with_reducible exact (Below.refl wb.heap.size wb)) | (with_reducible exact ((Below.refl wb.heap.size wb).alloc (Nat.le_refl _) _))); rintro e wc ⟨⟨V2, v2, C2, d2, ks2, rfl, hvo, hlo⟩, hb⟩; have hL : Below wb.heap.size wb wc := by first | (with_reducible exact (Below.refl wb.heap.size wb).trans (hb.mono (by simp <;> omega))) | (with_reducible exact ((Below.refl wb.heap.size wb).alloc (Nat.le_refl _) _).trans (hb.mono (by simp <;> omega))) | (exact (Below.refl wb.heap.size wb).trans (hb.mono (by simp <;> omega))) | (exact ((Below.refl wb.heap.size wb).alloc (Nat.le_refl _) _).trans (hb.mono (by simp <;> omega)))
             have hX : Below W5.heap.size W5 wc := hX.trans (hL.mono hX.size)
             obtain ⟨x0, x1, y0⟩ := HALL.out _ hX
             first | (have b37 : _ ∧ W5.heap.size ≤ _ := ⟨b37.1.below hL, b37.2⟩) | (have b37 : Blk wc wb.heap.size 37 #[.slice none 0 0, .slice none 0 0] ∧ W5.heap.size ≤ wb.heap.size := ⟨((Blk.new wb 37 #[.slice none 0 0, .slice none 0 0])).below hb, by omega⟩) | skip
             have hsa := hX.size
             have k0 : w.heap.size < wc.heap.size := by omega
             have k1 : w4.heap.size < wc.heap.size := by omega
             first | (have c37 := b37.1.cell 0; have d37 := b37.1.cell 1; have f37 := b37.1.frozen 0; have e37 := b37.1.frozen 1; have l37 := b37.1.lt; dsimp at c37 d37) | skip
             first | (have n1 := (lt_ne q0 b37.2).1; have n2 := (lt_ne q0 b37.2).2; have n3 := (lt_ne q1 b37.2).1; have n4 := (lt_ne q1 b37.2).2) | skip
             clear hb hL))
      all_goals
        go_wp2_with fail
        go_meet
        refine ⟨_, V2, v2, C2, d2, rfl, rfl, ?_⟩
        first
          | exact boxp_old hX b37.1 b37.2 hvo hlo
          | exact boxp_new hX hvo hlo
    case rest =>
      obtain ⟨gp, V2, v2, C2, d2, rfl, rfl, HF, HBX⟩ := hcut
      have HBW := Lib.hid (HB5.out.trans (HBX.out.mono HB5.out.size))
      clear x0 x1 y0 q0 q1 HB5
      go_wp2_with fail
      refine (mkInt_any 1 _).mono ?_
      rintro e w6 ⟨rfl, hb6⟩
      have HF := Lib.hid (HF.out.step hb6)
      have HX6 := Lib.hid (HBX.out.trans (hb6.mono HBX.out.size))
      have HBW := Lib.hid (HBW.out.trans (hb6.mono HBW.out.size))
      clear hb6 HBX
      have hE : Below w6.heap.size w6 (((w6.alloc (.cells #[.int .u8 1, .int .i64 1] 57)).alloc (.cells #[.slice (some ⟨w6.heap.size, 0, none⟩) 1 1, .slice none 0 0] 61)).alloc (.cells #[.slice (some ⟨w6.heap.size + 1, 0, none⟩) 1 1] 24)) := (((Below.refl _ _).alloc (Nat.le_refl _) _).alloc (by simp) _).alloc (by simp; omega) _
      have hlv : ValE.Own 57 (w6.alloc (.cells #[.int .u8 1, .int .i64 1] 57)) w6.heap.size (some ⟨w6.heap.size, 0, none⟩) 1 [Ce.vint 1] := Own.lit ValE 57 w6 [Ce.vint 1] #[.int .u8 1, .int .i64 1] rfl (Nat.le_refl _) (by simp [maxLen])
      have hls : StE.Own 61 ((w6.alloc (.cells #[.int .u8 1, .int .i64 1] 57)).alloc (.cells #[.slice (some ⟨w6.heap.size, 0, none⟩) 1 1, .slice none 0 0] 61)) w6.heap.size (some ⟨w6.heap.size + 1, 0, none⟩) 1 [((⟨some ⟨w6.heap.size, 0, none⟩, 1, 1⟩, ⟨none, 0, 0⟩) : Sl × Sl)] := by
        have q := Own.lit StE 61 (w6.alloc (.cells #[.int .u8 1, .int .i64 1] 57)) (base := w6.heap.size) [((⟨some ⟨w6.heap.size, 0, none⟩, 1, 1⟩, ⟨none, 0, 0⟩) : Sl × Sl)] #[.slice (some ⟨w6.heap.size, 0, none⟩) 1 1, .slice none 0 0] rfl (by simp) (by simp [maxLen])
        simp only [World.size_alloc] at q
        exact q
      have HM7 : Hid (MO (((w6.alloc (.cells #[.int .u8 1, .int .i64 1] 57)).alloc (.cells #[.slice (some ⟨w6.heap.size, 0, none⟩) 1 1, .slice none 0 0] 61)).alloc (.cells #[.slice (some ⟨w6.heap.size + 1, 0, none⟩) 1 1] 24)) w6.heap.size (some ⟨w6.heap.size + 1, 0, none⟩) 1 [((⟨some ⟨w6.heap.size, 0, none⟩, 1, 1⟩, ⟨none, 0, 0⟩) : Sl × Sl)] (Ce.upK (Ce.memory p) 0)) := Lib.hid (by
        rw [Ce.upK_zero]
        refine ⟨rfl, hls.below ((Below.refl _ _).alloc (Nat.le_refl _) _), fun i x s h1 h2 => ?_, fun i j x y hij h1 h2 => ?_⟩
        · have hi := (List.getElem?_eq_some_iff.1 h1).1
          obtain rfl : i = 0 := by simp at hi; omega
          simp at h1 h2
          subst h1 h2
          exact ⟨rfl, (hlv.below ((Below.refl _ _).alloc (Nat.le_refl _) _)).below ((Below.refl _ _).alloc (Nat.le_refl _) _), rfl, Own.nil RdE 86 _ _⟩
        · have hj := (List.getElem?_eq_some_iff.1 h2).1
          simp at hj
          omega)
      have HY7 : Hid (Blk (((w6.alloc (.cells #[.int .u8 1, .int .i64 1] 57)).alloc (.cells #[.slice (some ⟨w6.heap.size, 0, none⟩) 1 1, .slice none 0 0] 61)).alloc (.cells #[.slice (some ⟨w6.heap.size + 1, 0, none⟩) 1 1] 24)) (w6.heap.size + 1 + 1) 24 #[.slice (some ⟨w6.heap.size + 1, 0, none⟩) 1 1]) := Lib.hid (by
        have q := Blk.new ((w6.alloc (.cells #[.int .u8 1, .int .i64 1] 57)).alloc (.cells #[.slice (some ⟨w6.heap.size, 0, none⟩) 1 1, .slice none 0 0] 61)) 24 #[.slice (some ⟨w6.heap.size + 1, 0, none⟩) 1 1]
        simp only [World.size_alloc] at q
        exact q)
      have HE7 := Lib.hid hE
      have hz7 := hE.size
      clear hE hlv hls
      have HALL := Lib.hid fun U (hu : Below w6.heap.size w6 U) => HALL.out U (HX6.out.trans (hu.mono HX6.out.size))
      have HPA := Lib.hid fun U (hu : Below w6.heap.size w6 U) => HPA.out U (HX6.out.trans (hu.mono HX6.out.size))
      have HMA := Lib.hid fun U (hu : Below w6.heap.size w6 U) => HMA.out U (HX6.out.trans (hu.mono HX6.out.size))
      clear HX6
      obtain ⟨HBD1, HBD2⟩ := up_bound HIP.out
      have HBV := Lib.hid HBD1
      have HBC := Lib.hid HBD2
      have HSZ := Lib.hid (sz_memory HZ.out).each
      clear HBD1 HBD2
      have hncz : (p.cells.length : Int) ≤ 14 := by have := HTN.out.2.1; omega
      obtain ⟨_, _, y0⟩ := HALL.out _ HE7.out
      go_wp2_with fail
      clear y0
      go_loopw [8] (fun i wr => ∃ (k : Nat) (Bn : Option Addr) (cn : Nat) (hn : List (Sl × Sl)), k ≤ p.cells.length ∧ i = .int .i64 k ∧ Hid (Blk wr (w6.heap.size + 1 + 1) 24 #[.slice Bn (k + 1 : Nat) cn]) ∧ Hid (MO wr w6.heap.size Bn cn hn (Ce.upK (Ce.memory p) k)) ∧ w6.heap.size ≤ wr.heap.size ∧ Hid (Below w6.heap.size w6 wr)) (fun i _ => p.cells.length - (intOf i).toNat)
      case atStart => exact ⟨0, _, 1, _, Nat.zero_le _, rfl, HY7, HM7, hz7, HE7⟩
      case round =>
        clear HY7 HM7 hz7 HE7
        obtain ⟨k, Bn, cn, hn, hk, rfl, HY, HM, hsz, HBX⟩ := hrel
        obtain ⟨x0, x1, y0⟩ := HALL.out _ HBX.out
        have n0 := HY.out.cell 0
        dsimp at n0
        by_cases hlt : k < p.cells.length
        · have hlt' : (k : Int) < p.cells.length := by omega
          obtain ⟨s, hs'⟩ : ∃ x, (Ce.memory p)[k]? = some x := ⟨_, List.getElem?_eq_getElem (by rw [HML.out]; exact hlt)⟩
          obtain ⟨hsz1, _⟩ := HSZ.out k s hs'
          obtain ⟨bm, om, A1, c1, A2, c2, rfl, hbm, z0, _, P1, _⟩ := (HMA.out _ (Below.refl _ _)).at4 hs'
          have HP := Lib.hid (SlAt_stay P1)
          have HZ0 := Lib.hid z0
          have z0 := ((bcell HBX.out).1 _ _ hbm).trans z0
          have HTK := Lib.hid (Ce.upK_step hs')
          have HHL : Hid (hn.length = k + 1) := Lib.hid (by rw [HM.out.len, Ce.upK_len _ _ (by rw [HML.out]; omega)])
          have HBS := Lib.hid (HBC.out k s hs')
          obtain ⟨cs, ws⟩ := s
          dsimp only at hsz1 z0 HP HZ0 HBS
          clear P1 hs'
          have HV : Hid (∀ W, Below wr.heap.size wr W → Calls Tryz.prog 33 #[.slice A1 cs.length c1] W fun e w' => (∃ AV cV, e = .returned (.slice AV cs.length cV) ∧ ValE.Own 57 w' wr.heap.size AV cV (cs.map Ce.high)) ∧ Below W.heap.size W w' ∧ Below wr.heap.size wr w') :=
            Lib.hid fun W hb => (higher_any cs (by omega) HBS.out A1 c1 HP.out.at_.none_ W (HP.out W (HBX.out.trans (hb.mono HBX.out.size))).arg).mono fun e w' ⟨⟨AV, cV, he, ho⟩, hb2⟩ => ⟨⟨AV, cV, he, Own.base_ ho hb.size⟩, hb2, hb.trans (hb2.mono hb.size)⟩
          have STAY : Hid (∀ W, Below wr.heap.size wr W → W.cell? ⟨w4.heap.size, 0, none⟩ = some (.slice (some ⟨bm, om, none⟩) p.cells.length c) ∧ W.cell? ⟨bm, om + k * 2, none⟩ = some (.slice A1 cs.length c1)) :=
            Lib.hid fun W hb => ⟨(HALL.out W (HBX.out.trans (hb.mono HBX.out.size))).2.2, ((bcell (HBX.out.trans (hb.mono HBX.out.size))).1 _ _ hbm).trans HZ0.out⟩
          have l4 := lt_of_cell y0
          have lb := lt_of_cell z0
          have hq4 : w4.heap.size < w6.heap.size := by have := lt_of_cell (HALL.out _ (Below.refl _ _)).2.2; exact this
          have n41 : w4.heap.size ≠ w6.heap.size + 1 + 1 := by omega
          have n42 : w6.heap.size + 1 + 1 ≠ w4.heap.size := by omega
          have n43 : bm ≠ w6.heap.size + 1 + 1 := by omega
          have n44 : w6.heap.size + 1 + 1 ≠ bm := by omega
          have lg := HY.out.lt
          clear x0 x1
          go_wp2_with fail
          rw [show ({ dst := some 50, op := Op.load 22 (Operand.tmp 49), type := 22, pos := "plain.go:252", after := #[{ on := 0, ground := Ground.data }], guard := none } : Oper) = ldUp from rfl]
          go_region_held3 (fun W => W.cell? ⟨w4.heap.size, 0, none⟩ = some (.slice (some ⟨bm, om, none⟩) p.cells.length c) ∧ W.cell? ⟨bm, om + k * 2, none⟩ = some (.slice A1 cs.length c1))
            (go_keep)
            (first
              | (refine step_append_any StE _ rfl _ _ 22 61 rfl Tryz.underlying22 st_info rfl w6.heap.size Bn cn _ hn [(⟨AV, cs.length, cV⟩, ⟨none, 0, 0⟩)] _ _ _ rfl HHL.out.symm rfl rfl (fun hh => by cases hh) (Own.below (Own.below HM.out.own hX) ((Below.refl _ _).alloc (Nat.le_refl _) _)) (row_arg (K := StE) rfl rfl) (by simp [maxLen]; have := HHL.out; omega) (by simp; have := HHL.out; omega) (by have := hX.size; simp; omega) ?_; intro A4 c4 w4' hown4 hgrow4
                 have hoA := Own.below (Own.below HM.out.own hX) ((Below.refl _ _).alloc (Nat.le_refl _) (.cells #[.slice AV cs.length cV, .slice none 0 0] 61))
                 have hyA := (HY.out.below hX).alloc (.cells #[.slice AV cs.length cV, .slice none 0 0] 61)
                 have hy4 := hyA.kept hgrow4 (hoA.ne_blk hyA (by decide))
                 have v2 := hy4.cell 0
                 dsimp at v2
                 have vf := hy4.frozen 0
                 have vl := hy4.lt
                 have hB4 : Below w6.heap.size w6 w4' := ((HBX.out.trans (hX.mono hsz)).alloc (by have := hX.size; omega) _).grown hgrow4 (by have := hX.size; simp; omega) (fun j hj => (hoA.lt j hj).1)
                 have v0 := (HALL.out _ hB4).2.2
                 have v1 := ((bcell hB4).1 _ _ hbm).trans HZ0.out)
              | (go_at_call 33; refine (HV.out _ (Below.refl _ _).drew).mono ?_; rintro e wV ⟨⟨AV, cV, rfl, hoV⟩, hbV, hX⟩; obtain ⟨v0, v1⟩ := STAY.out _ hX; have v2 := (HY.out.below hX).cell 0; dsimp at v2; have v3 := (HY.out.below hX).lt; have v4 := lt_of_cell v0; have v5 := lt_of_cell v1))
          all_goals
            go_wp2_with fail
            go_roundw
            case rel =>
              have hset := grownBy_setCell1 w4' (w6.heap.size + 1 + 1) 0 (.slice A4 (k + 1 + 1 : Nat) c4)
              have kB := KeepsB.set (j := 0) (v := .slice A4 (k + 1 + 1 : Nat) c4) hy4 (.inl rfl)
              refine ⟨k + 1, A4, c4, hn ++ [(⟨AV, cs.length, cV⟩, ⟨none, 0, 0⟩)], by omega, by go_num, ?_, ?_, ?_, ?_⟩
              · exact Lib.hid (hy4.set_ 0 _)
              · refine Lib.hid (MO.keepsB ?_ kB)
                rw [HTK.out]
                exact HM.out.snoc hsz (hX.alloc hX.size _) ⟨by simp [Ce.up], Own.below hoV ((Below.refl _ _).alloc (Nat.le_refl _) _), rfl, Own.nil RdE 86 _ _⟩ hown4 hgrow4
              · have := hset.size
                have := hB4.size
                omega
              · exact Lib.hid (hB4.setCell (p := ⟨w6.heap.size + 1 + 1, 0, none⟩) (by dsimp only; omega) _)
            case measure => simp [intOf]; omega
        · have hlt' : ¬ (k : Int) < p.cells.length := by omega
          obtain rfl : k = p.cells.length := by omega
          have HME := Lib.hid (show MemAt wr Bn (Ce.upM (Ce.memory p)) by have := HM.out.at_; rwa [Ce.upK_end _ _ (by rw [HML.out]; exact Nat.le_refl _)] at this)
          have HNS := Lib.hid (HME.out.stay.and (Blk.stay HY.out))
          have HF := Lib.hid (HF.out.step HBX.out)
          have HPA := Lib.hid fun U (hu : Below wr.heap.size wr U) => HPA.out U (HBX.out.trans (hu.mono hsz))
          have HALL3 : Hid (∀ U, Below wr.heap.size wr U → U.cell? ⟨w.heap.size, 0, none⟩ = some (.slice V p.vals.length cv) ∧ U.cell? ⟨w.heap.size, 1, none⟩ = some (.slice C p.cells.length cc) ∧ U.cell? ⟨w6.heap.size + 1 + 1, 0, none⟩ = some (.slice Bn (p.cells.length + 1 : Nat) cn)) := Lib.hid fun U hu => ⟨(HALL.out U (HBX.out.trans (hu.mono hsz))).1, (HALL.out U (HBX.out.trans (hu.mono hsz))).2.1, (HNS.out U hu).2.cell 0⟩
          have HBW := Lib.hid (HBW.out.trans (HBX.out.mono HBW.out.size))
          have q0 : w.heap.size < wr.heap.size := lt_of_cell x0
          have q1 : w6.heap.size + 1 + 1 < wr.heap.size := HY.out.lt
          clear HM HY HBX HMA HALL HSZ HBC HME hsz
          go_wp2_with fail
          obtain ⟨WR, hWR⟩ : ∃ x, x = wr := ⟨_, rfl⟩
          subst hWR
          go_cut [9, 10] (fun va vb wx => ∃ (gp : Nat) (V2 : Option Addr) (v2 : Nat) (C2 : Option Addr) (d2 : Nat), va = .pointer (some ⟨gp, 0, none⟩) ∧ vb = .int .i64 0 ∧ Hid (Stay (Boxp p gp p.vals.length p.cells.length V2 C2 v2 d2) wx) ∧ Hid (Below WR.heap.size WR wx))
          case first =>
            have HHI : Hid (∀ W, SlAt ValE W ⟨V, p.vals.length, cv⟩ p.vals → Calls Tryz.prog 33 #[.slice V p.vals.length cv] W fun e w' => (∃ B c, e = .returned (.slice B p.vals.length c) ∧ ValE.Own 57 w' W.heap.size B c (p.vals.map Ce.high)) ∧ Below W.heap.size W w') := Lib.hid fun W hh => higher_any p.vals (by have := HZ.out.vals; omega) HBV.out V cv hh.none_ W hh.arg
            have HDU := Lib.hid fun B X c cx W h1 h2 => drawn_up_own HTN.out HIP.out B X c cx W h1 h2
            have HMN := Lib.hid fun U (hu : Below WR.heap.size WR U) => (HNS.out U hu).1
            clear HAW HBW HTN HF
            go_region_held3 (fun U => U.cell? ⟨w.heap.size, 0, none⟩ = some (.slice V p.vals.length cv) ∧ U.cell? ⟨w.heap.size, 1, none⟩ = some (.slice C p.cells.length cc) ∧ U.cell? ⟨w6.heap.size + 1 + 1, 0, none⟩ = some (.slice Bn (p.cells.length + 1 : Nat) cn))
              (go_keep)
              (first
                | (go_at_call 33; refine (HHI.out _ (HPA.out _ ?hw).v).mono ?_; (case hw => first | (with_reducible exact (Below.refl WR.heap.size WR).drew) | (with_reducible exact ((Below.refl WR.heap.size WR).alloc (Nat.le_refl _) _).drew)); rintro e wb ⟨⟨X, cx, rfl, hov⟩, hb⟩; have hL : Below WR.heap.size WR wb := by first | (with_reducible exact (Below.refl WR.heap.size WR).drew.trans (hb.mono (by simp <;> omega))) | (with_reducible exact ((Below.refl WR.heap.size WR).alloc (Nat.le_refl _) _).drew.trans (hb.mono (by simp <;> omega))) | (exact (Below.refl WR.heap.size WR).drew.trans (hb.mono (by simp <;> omega))) | (exact ((Below.refl WR.heap.size WR).alloc (Nat.le_refl _) _).drew.trans (hb.mono (by simp <;> omega)))
                   have hX : Below WR.heap.size WR wb := hL
                   obtain ⟨x0, x1, n0⟩ := HALL3.out _ hX
                   first | (have b37 : _ ∧ WR.heap.size ≤ _ := ⟨b37.1.below hL, b37.2⟩) | (have b37 : Blk wb WR.heap.size 37 #[.slice none 0 0, .slice none 0 0] ∧ WR.heap.size ≤ WR.heap.size := ⟨((Blk.new WR 37 #[.slice none 0 0, .slice none 0 0]).drew).below hb, by omega⟩) | skip
                   have hsa := hX.size
                   clear hb hL)
                | (go_at_call 20; refine (HDU.out _ _ _ _ _ (HMN.out _ (hX.trans (Below.mono ?hw hX.size))) (Own.arg (Own.below hov ?hw))).mono ?_; (case hw => first | (with_reducible exact (Below.refl wb.heap.size wb)) | (with_reducible exact ((Below.refl wb.heap.size wb).alloc (Nat.le_refl _) _))); rintro e wc ⟨⟨V2, v2, C2, d2, ks2, rfl, hvo, hlo⟩, hb⟩; have hL : Below wb.heap.size wb wc := by first | (with_reducible exact (Below.refl wb.heap.size wb).trans (hb.mono (by simp <;> omega))) | (with_reducible exact ((Below.refl wb.heap.size wb).alloc (Nat.le_refl _) _).trans (hb.mono (by simp <;> omega))) | (exact (Below.refl wb.heap.size wb).trans (hb.mono (by simp <;> omega))) | (exact ((Below.refl wb.heap.size wb).alloc (Nat.le_refl _) _).trans (hb.mono (by simp <;> omega)))
                   have hX : Below WR.heap.size WR wc := hX.trans (hL.mono hX.size)
                   obtain ⟨x0, x1, n0⟩ := HALL3.out _ hX
                   first | (have b37 : _ ∧ WR.heap.size ≤ _ := ⟨b37.1.below hL, b37.2⟩) | (have b37 : Blk wc wb.heap.size 37 #[.slice none 0 0, .slice none 0 0] ∧ WR.heap.size ≤ wb.heap.size := ⟨((Blk.new wb 37 #[.slice none 0 0, .slice none 0 0])).below hb, by omega⟩) | skip
                   have hsa := hX.size
                   have k0 : w.heap.size < wc.heap.size := by omega
                   have k1 : w6.heap.size + 1 + 1 < wc.heap.size := by omega
                   first | (have c37 := b37.1.cell 0; have d37 := b37.1.cell 1; have f37 := b37.1.frozen 0; have e37 := b37.1.frozen 1; have l37 := b37.1.lt; dsimp at c37 d37) | skip
                   first | (have n1 := (lt_ne q0 b37.2).1; have n2 := (lt_ne q0 b37.2).2; have n3 := (lt_ne q1 b37.2).1; have n4 := (lt_ne q1 b37.2).2) | skip
                   clear hb hL))
            all_goals
              go_wp2_with fail
              go_meet
              refine ⟨_, V2, v2, C2, d2, rfl, rfl, ?_⟩
              first
                | exact boxp_old hX b37.1 b37.2 hvo hlo
                | exact boxp_new hX hvo hlo
          case rest =>
            obtain ⟨gq, V3, v3, C3, d3, rfl, rfl, HG, HBX⟩ := hcut
            have HF := Lib.hid (HF.out.step HBX.out)
            have HS := Lib.hid (fun U (hu : Below wc.heap.size wc U) => HPA.out U (HBX.out.trans (hu.mono HBX.out.size)))
            have HXX := Lib.hid (fun U (hu : Below wc.heap.size wc U) => HALL3.out U (HBX.out.trans (hu.mono HBX.out.size)))
            have HBW := Lib.hid (HBW.out.trans (HBX.out.mono HBW.out.size))
            clear HPA HALL3 HNS HBX q0 q1 x0 x1 n0
            obtain ⟨_, e0, e1⟩ := HF.out.at_
            obtain ⟨x0, x1, _⟩ := HXX.out _ (Below.refl _ _)
            go_wp2_with fail
            refine (self_same p HZ.out _ _ _ _ _ _ _ _ _ HF.out.at_.1 (HS.out _ (Below.refl _ _))).mono ?_
            rintro e w8 ⟨rfl, hb8⟩
            clear e0 e1 x0 x1
            obtain ⟨_, e0, e1⟩ := HG.out.step hb8 |>.at_
            obtain ⟨x0, x1, _⟩ := HXX.out _ hb8
            have HB8 := Lib.hid (HBW.out.trans (hb8.mono HBW.out.size))
            go_wp2_with fail
            refine (self_same p HZ.out _ _ _ _ _ _ _ _ _ (HG.out.step hb8 |>.at_).1 (HS.out _ hb8)).mono ?_
            rintro e w9 ⟨rfl, hb9⟩
            have HB9 := Lib.hid (HB8.out.trans (hb9.mono HB8.out.size))
            clear e0 e1 x0 x1 hb8 hb9
            go_wp2_with fail
            refine (HAW.out _).mono ?_
            rintro e w10 ⟨rfl, hb10⟩
            go_wp2
            go_ret
            exact ⟨rfl, HB9.out.trans (hb10.mono HB9.out.size)⟩
end Go.Proofs.YtjldkndalcellaaGreatDoor
