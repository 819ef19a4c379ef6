/- Layer 6: the walk of the reference's Copy. Layer 6: the walk of the reference's Check. -/
import Derived.Test.YtjldkndalcellaaGreatDoorYc
import Derived.Laws.Rows
namespace Go.Proofs.YtjldkndalcellaaGreatDoor
open Go.RowKit Go.El

theorem mem_size : (Tryz.prog.info? 24).map (·.size) = some 1 := by kernel_rfl
/-- a load that the region's end turns: kept from being taken first -/
def ldCopy : Oper := { dst := some 20, op := Op.load 22 (Operand.tmp 19), type := 22, pos := "ref.go:141", after := #[{ on := 0, ground := Ground.data }], guard := none }
attribute [local go_sem] ldCopy
set_option maxRecDepth 100000 in
set_option maxHeartbeats 4000000 in
theorem copy6_any (m : Ce.Mem) (hm : Sz m) (A : Option Addr) (cap : Nat) (w : World) (h : MemAt w A m) :
    Calls Tryz.prog 11 #[.agg #[.slice A m.length cap]] w fun e w' => (∃ B c hs, e = .returned (.agg #[.slice B m.length c]) ∧ MO w' w.heap.size B c hs m) ∧ Below w.heap.size w w' := by
  have hm0 := hm.many
  have hml : (m.length : Int) ≤ 9223372036854775807 := by omega
  have HSZ := Lib.hid hm.each
  have hb1 : Below w.heap.size w (w.alloc (Obj.cells #[.slice A m.length cap] 24)) := (Below.refl _ _).alloc (Nat.le_refl _) _
  have HA := Lib.hid h
  have HS0 := Lib.hid (((Boxed.new w 24 (.slice A m.length cap)).alloc (.cells #[.slice none 0 0] 24)).alloc (.cells #[.slice none 0 0] 24))
  have HB0 := Lib.hid ((hb1.alloc (by simp) (.cells #[.slice none 0 0] 24)).alloc (by simp; omega) (.cells #[.slice none 0 0] 24))
  have HX0 := Lib.hid ((Boxed.new (w.alloc (Obj.cells #[.slice A m.length cap] 24)) 24 (.slice none 0 0)).alloc (.cells #[.slice none 0 0] 24))
  have HY0 := Lib.hid (Boxed.new ((w.alloc (Obj.cells #[.slice A m.length cap] 24)).alloc (.cells #[.slice none 0 0] 24)) 24 (.slice none 0 0))
  simp only [World.size_alloc] at HX0 HY0
  clear hm h hb1
  go_enter Tryz.func11, Tryz.ntmps11
  go_wp2_with fail
  go_loopw [4] (fun i wr => ∃ (k : Nat) (B : Option Addr) (c : Nat) (hs : List (Sl × Sl)), k ≤ m.length ∧ i = .int .i64 k ∧ Hid (Boxed wr w.heap.size 24 (.slice A m.length cap)) ∧ Hid (Boxed wr (w.heap.size + 1) 24 (.slice none 0 0)) ∧ Hid (Boxed wr (w.heap.size + 1 + 1) 24 (.slice B k c)) ∧ Hid (MO wr (w.heap.size + 3) B c hs (m.take k)) ∧ w.heap.size + 3 ≤ wr.heap.size ∧ Hid (Below w.heap.size w wr)) (fun i _ => m.length - (intOf i).toNat)
  case atStart => exact ⟨0, none, 0, [], Nat.zero_le _, rfl, HS0, HX0, HY0, Lib.hid (MO.nil _ _), by simp, HB0⟩
  case round =>
    clear HS0 HX0 HY0 HB0
    obtain ⟨k, B, c, hs, hk, rfl, HS, HX, HY, HM, hsz, HB⟩ := hrel
    have mA := HA.out.below HB.out
    have x0 := HS.out.cell
    have y0 := HY.out.cell
    by_cases hlt : k < m.length
    · have hlt' : (k : Int) < m.length := by omega
      obtain ⟨s, hs'⟩ : ∃ x, m[k]? = some x := ⟨_, List.getElem?_eq_getElem hlt⟩
      obtain ⟨hsz1, hsz2⟩ := HSZ.out k s hs'
      obtain ⟨b1, o1, A1, c1, A2, c2, rfl, hz1, x1, x2, P1, P2⟩ := mA.at4 hs'
      have HP := Lib.hid ((SlAt_stay P1).and (SlAt_stay P2))
      have HTK : Hid (m.take (k + 1) = m.take k ++ [s]) := Lib.hid (by rw [List.take_add_one, hs']; rfl)
      obtain ⟨cs, ws⟩ := s
      dsimp only at hsz1 hsz2 x1 x2 HP
      clear mA P1 P2 hs'
      have hq0 : w.heap.size < wr.heap.size := by omega
      have hq2 : w.heap.size + 1 + 1 < wr.heap.size := by omega
      have HHL : Hid (hs.length = k) := Lib.hid (by rw [HM.out.len, List.length_take]; omega)
      have HG := Lib.hid (box2 (W := wr) (v := .slice A1 cs.length c1) (u := .slice A2 ws.length c2) (t := 61))
      have HB5 : Hid (Below wr.heap.size wr (wr.alloc (Obj.cells #[.slice A1 cs.length c1, .slice A2 ws.length c2] 61))) := Lib.hid ((Below.refl _ _).alloc (Nat.le_refl _) _)
      have HZ5 : Hid ((wr.alloc (Obj.cells #[.slice A1 cs.length c1, .slice A2 ws.length c2] 61)).heap.size = wr.heap.size + 1) := Lib.hid (by simp)
      go_wp2_with fail
      generalize hWC : wr.alloc _ = wc at *
      clear hWC
      have HS := Lib.hid (HS.out.kept (grown_of_below HB5.out none) (by simp))
      have HX := Lib.hid (HX.out.kept (grown_of_below HB5.out none) (by simp))
      have HY := Lib.hid (HY.out.kept (grown_of_below HB5.out none) (by simp))
      have HP := Lib.hid (HP.out.step HB5.out)
      have HNE : Hid (∀ j, (Value.slice B hs.length c).ownBlock = some j → w.heap.size + 3 ≤ j ∧ j < wr.heap.size) := Lib.hid fun j hj => HM.out.own.lt j hj
      have HM := Lib.hid (HM.out.below HB5.out)
      have HB := Lib.hid (HB.out.trans (HB5.out.mono (by omega)))
      obtain ⟨g0, g1⟩ := HG.out.at_
      have y0 := HY.out.cell
      have lc0 : w.heap.size + 1 + 1 < wc.heap.size := HY.out.lt
      have lc1 : wr.heap.size < wc.heap.size := lt_of_cell g0
      have HV : Hid (∀ W, Below wc.heap.size wc W → Calls Tryz.prog 18 #[.slice A1 cs.length c1] W fun e w' => (∃ AV cV, e = .returned (.slice AV cs.length cV) ∧ ValE.Own 57 w' wc.heap.size AV cV cs) ∧ Below W.heap.size W w' ∧ Below wc.heap.size wc w') :=
        Lib.hid fun W hb => (values_any cs (by omega) A1 c1 HP.out.at_.1.none_ W (HP.out W hb).1.arg).mono fun e w' ⟨⟨AV, cV, he, ho⟩, hb2⟩ => ⟨⟨AV, cV, he, Own.base_ ho hb.size⟩, hb2, hb.trans (hb2.mono hb.size)⟩
      have HR : Hid (∀ W, Below wc.heap.size wc W → RdE.Arg W A2 ws) := Lib.hid fun W hb => (HP.out W hb).2.arg
      have HN2 : Hid (A2 = none → ws.length = 0 ∧ c2 = 0) := Lib.hid fun h => by
        have p := HP.out.at_.2
        have := p.none_ h
        have := p.le
        dsimp only at *
        omega
      have STAY : Hid (∀ W, Below wc.heap.size wc W → (W.cell? ⟨wr.heap.size, 0, none⟩ = some (.slice A1 cs.length c1) ∧ W.cell? ⟨wr.heap.size, 1, none⟩ = some (.slice A2 ws.length c2)) ∧ W.cell? ⟨w.heap.size + 1 + 1, 0, none⟩ = some (.slice B k c) ∧ wr.heap.size < W.heap.size ∧ w.heap.size + 1 + 1 < W.heap.size) :=
        Lib.hid fun W hb => ⟨HG.out W hb, (HY.out.kept (grown_of_below hb none) (by simp)).cell, by have := hb.size; omega, by have := hb.size; omega⟩
      have HMD : Hid (RdE.Own 86 (wc.alloc (.cells #[] 86)).drew wc.heap.size (some ⟨wc.heap.size, 0, none⟩) 0 []) := Lib.hid (Own.made RdE 86 wc (Nat.le_refl _))
      have hne5 : w.heap.size + 1 + 1 ≠ wr.heap.size := by omega
      have hne6 : wr.heap.size ≠ w.heap.size + 1 + 1 := by omega
      rw [show ({ dst := some 20, op := Op.load 22 (Operand.tmp 19), type := 22, pos := "ref.go:141", after := #[{ on := 0, ground := Ground.data }], guard := none } : Oper) = ldCopy from rfl]
      go_region_held3 (fun W => W.cell? ⟨wr.heap.size, 0, none⟩ = some (.slice A1 cs.length c1) ∧ W.cell? ⟨wr.heap.size, 1, none⟩ = some (.slice A2 ws.length c2))
        (go_keep)
        (first
          | (refine step_append_any StE _ rfl _ _ 22 61 rfl Tryz.underlying22 st_info rfl (w.heap.size + 3) B c _ hs [(⟨AV, cs.length, cV⟩, ⟨A3, ws.length, c3⟩)] _ _ _ rfl HHL.out.symm rfl rfl (fun hh => by cases hh) (Own.below (Own.below HM.out.own hX) ((Below.refl _ _).alloc (Nat.le_refl _) _)) (row_arg (K := StE) rfl rfl) (by simp [maxLen]; have := HHL.out; omega) (by simp; have := HHL.out; omega) (by have := hX.size; simp; omega) ?_; intro A4 c4 w4 hown4 hgrow4; have hne4 := fun j hj => HNE.out j hj; have hx4 := ((HY.out.kept (grown_of_below hX none) (by simp)).alloc _).kept hgrow4 (fun e => by have := HNE.out _ e.symm; omega); have v2 := hx4.cell; have vf := hx4.frozen; have vl := hx4.lt
             obtain ⟨q0, q1⟩ := HG.out _ (hX.alloc hX.size _)
             have v0 := hgrow4.cell q0 (fun e => by have := HNE.out _ e.symm; dsimp only at this; omega)
             have v1 := hgrow4.cell q1 (fun e => by have := HNE.out _ e.symm; dsimp only at this; omega)
             clear q0 q1)
          | (refine step_append_any RdE _ rfl _ _ 59 86 rfl Tryz.underlying59 rd_info rfl wc.heap.size _ 0 _ [] ws _ _ _ rfl rfl rfl rfl HN2.out (Own.made RdE 86 wV hcV.size) (HR.out _ (hcV.alloc hcV.size _)) (by simp [maxLen]; omega) (by simp; omega) (by have := hcV.size; simp; omega) ?_; intro A3 c3 w2 hown2 hgrow2
             have hX := (hcV.alloc hcV.size _).grown hgrow2 (by have := hcV.size; simp; omega) (fun j hj => ((Own.made RdE 86 wV hcV.size).lt j hj).1)
             have hoX := (Own.below hoV ((Below.refl _ _).alloc (Nat.le_refl _) _)).kept hgrow2 (own_own_ne (Own.below hoV ((Below.refl _ _).alloc (Nat.le_refl _) _)) (Own.made RdE 86 wV hcV.size) (by decide))
             have hrX := hown2
             obtain ⟨⟨v0, v1⟩, v2, v3, v4⟩ := STAY.out _ hX)
          | (refine step_append_any RdE _ rfl _ _ 59 86 rfl Tryz.underlying59 rd_info rfl wc.heap.size _ 0 _ [] ws _ _ _ rfl rfl rfl rfl HN2.out (Own.below HMD.out hbV) (HR.out _ hcV) (by simp [maxLen]; omega) (by simp; omega) hcV.size ?_; intro A3 c3 w2 hown2 hgrow2
             have hX := hcV.grown hgrow2 hcV.size (fun j hj => ((Own.below HMD.out hbV).lt j hj).1)
             have hoX := hoV.kept hgrow2 (own_own_ne hoV (Own.below HMD.out hbV) (by decide))
             have hrX := hown2
             obtain ⟨⟨v0, v1⟩, v2, v3, v4⟩ := STAY.out _ hX)
          | (refine step_append_any RdE _ rfl _ _ 59 86 rfl Tryz.underlying59 rd_info rfl wc.heap.size _ 0 _ [] ws _ _ _ rfl rfl rfl rfl HN2.out HMD.out (HR.out _ ((Below.refl _ _).alloc (Nat.le_refl _) _).drew) (by simp [maxLen]; omega) (by simp; omega) (by simp) ?_; intro A3 c3 w2 hown2 hgrow2
             have hA2 := (((Below.refl wc.heap.size wc).alloc (Nat.le_refl _) _).drew).grown hgrow2 (by simp) (fun j hj => (HMD.out.lt j hj).1)
             obtain ⟨⟨v0, v1⟩, v2, v3, v4⟩ := STAY.out _ hA2)
          | (go_at_call 18; refine (HV.out _ hA2).mono ?_; rintro e wV ⟨⟨AV, cV, rfl, hoX⟩, hbV, hX⟩; have hrX := Own.below hown2 hbV; obtain ⟨⟨v0, v1⟩, v2, v3, v4⟩ := STAY.out _ hX)
          | (go_at_call 18; refine (HV.out _ ((Below.refl _ _).alloc (Nat.le_refl _) _).drew).mono ?_; rintro e wV ⟨⟨AV, cV, rfl, hoV⟩, hbV, hcV⟩; obtain ⟨⟨v0, v1⟩, v2, v3, v4⟩ := STAY.out _ hcV)
          | (go_at_call 18; refine (HV.out _ (Below.refl _ _).drew).mono ?_; rintro e wV ⟨⟨AV, cV, rfl, hoV⟩, hbV, hcV⟩; obtain ⟨⟨v0, v1⟩, v2, v3, v4⟩ := STAY.out _ hcV))
      all_goals
        clear g0 g1
        go_wp2_with fail
        go_roundw
        case rel =>
          have HXX : Hid (Boxed w4 (w.heap.size + 1) 24 (.slice none 0 0)) := Lib.hid (((HX.out.kept (grown_of_below hX none) (by simp)).alloc _).kept hgrow4 (fun e => by have := HNE.out _ e.symm; omega))
          have hset := grownBy_setCell' w4 (w.heap.size + 1 + 1) (.slice A4 (k + 1) c4)
          refine ⟨k + 1, A4, c4, hs ++ [(⟨AV, cs.length, cV⟩, ⟨A3, ws.length, c3⟩)], by omega, by go_num, ?_, ?_, ?_, ?_, ?_, ?_⟩
          · exact Lib.hid ((((HS.out.kept (grown_of_below hX none) (by simp)).alloc _).kept hgrow4 (fun e => by have := HNE.out _ e.symm; omega)).kept hset (by simp; omega))
          · exact Lib.hid (HXX.out.kept hset (by simp))
          · exact Lib.hid (hx4.set _)
          · refine Lib.hid (MO.low ?_ hset (fun j hj => by cases hj; omega))
            rw [HTK.out]
            exact HM.out.snoc (by omega) (hX.alloc hX.size _) ⟨rfl, Own.below hoX ((Below.refl _ _).alloc (Nat.le_refl _) _), rfl, Own.below hrX ((Below.refl _ _).alloc (Nat.le_refl _) _)⟩ hown4 hgrow4
          · have := hset.size
            have := hgrow4.size
            have := hX.size
            simp at *
            omega
          · exact Lib.hid (((((HB.out.trans (hX.mono (by omega))).alloc (by have := hX.size; omega) _)).grown hgrow4 (by have := hX.size; simp; omega) (fun j hj => by have := HNE.out j hj; omega)).setCell (by simp; omega) _)
        case measure => simp [intOf]; omega
    · have hlt' : ¬ (k : Int) < m.length := by omega
      obtain rfl : k = m.length := by omega
      have HE : Hid (MO wr (w.heap.size + 3) B c hs m) := Lib.hid (by have := HM.out; rwa [List.take_of_length_le (Nat.le_refl _)] at this)
      have z0 := HX.out.cell
      have zf := HX.out.frozen
      clear mA
      go_wp2
      refine bodyPost_ret (results_cell_row rfl _ _ (w.heap.size + 1) 24 #[.slice B m.length c] (0, 0) _ rfl (HX.out.set _) Tryz.underlying24 rfl mem_size) rfl ?_
      refine ⟨⟨B, c, rfl, hs, ?_⟩, ?_⟩
      · have := (HE.out.low (grownBy_setCell' wr (w.heap.size + 1) (.slice B m.length c)) (fun k hk => by cases hk; omega))
        exact ⟨this.len, Own.base_ this.own (by omega), fun i x s h1 h2 => let y := this.each i x s h1 h2; ⟨y.n1, Own.base_ y.o1 (by omega), y.n2, Own.base_ y.o2 (by omega)⟩, this.apart⟩
      · exact HB.out.setCell (by simp) _
end Go.Proofs.YtjldkndalcellaaGreatDoor

namespace Ce
theorem reads_append (a b : Mem) : reads (a ++ b) = reads a + reads b := by
  induction a with
  | nil => simp [reads]
  | cons s r ih => simp [reads, ih, Nat.add_assoc]
theorem reads_step (m : Mem) (k : Nat) (s : St) (h : m[k]? = some s) : reads (m.take (k + 1)) = reads (m.take k) + s.wait.length := by
  rw [List.take_add_one, h, reads_append]; rfl
theorem reads_take_le (m : Mem) (k : Nat) : reads (m.take k) ≤ reads m := by
  have := reads_append (m.take k) (m.drop k)
  rw [List.take_append_drop] at this
  omega
theorem reads_le (m : Mem) (b : Nat) (h : ∀ s ∈ m, s.wait.length ≤ b) : reads m ≤ m.length * b := by
  induction m with
  | nil => simp [reads]
  | cons s r ih =>
    have h1 := h s (by simp)
    have h2 := ih fun t ht => h t (by simp [ht])
    simp only [reads, List.length_cons, Nat.add_mul]
    omega
theorem cellAt_some {l : List V} {c : Int} (h : inn c 0 (l.length - 1) = true) : ∃ (j : Nat) (v : V), c = j ∧ j < l.length ∧ l[j]? = some v ∧ cellAt l c = some v := by
  simp only [inn, Bool.and_eq_true, decide_eq_true_eq] at h
  obtain ⟨j, rfl⟩ := Int.eq_ofNat_of_zero_le h.1
  have hj : j < l.length := by omega
  refine ⟨j, l[j], rfl, hj, List.getElem?_eq_getElem hj, ?_⟩
  unfold cellAt
  rw [if_pos h.1]
  simp
theorem cellAt_none {l : List V} {c : Int} (h : inn c 0 (l.length - 1) = false) : cellAt l c = none := by
  unfold cellAt
  split
  · rename_i h0
    refine List.getElem?_eq_none ?_
    simp only [inn, decide_eq_true h0, Bool.true_and, decide_eq_false_iff_not] at h
    omega
  · rfl
theorem check_many {m : Mem} (h : 400 < m.length) : check m = 4 := by
  unfold check memOk
  rw [decide_eq_false (by omega)]
  rfl
theorem check_bad {m : Mem} {k : Nat} {s : St} (hs : m[k]? = some s) (h : stOk m.length s = false) : check m = 4 := by
  have : m.all (stOk m.length) = false := by rw [List.all_eq_false]; exact ⟨s, List.mem_of_getElem? hs, by rw [h]; decide⟩
  unfold check memOk
  rw [this]
  simp
theorem check_end {m : Mem} (h4 : ¬ 400 < m.length) (h : m.all (stOk m.length) = true) : check m = if 6000 < reads m then 4 else 0 := by
  unfold check memOk
  rw [h, decide_eq_true (by omega)]
  by_cases h6 : 6000 < reads m
  · rw [if_pos h6, decide_eq_false (by omega)]; rfl
  · rw [if_neg h6, decide_eq_true (by omega)]; rfl
theorem all_step {m : Mem} {f : St → Bool} {k : Nat} {s : St} (hs : m[k]? = some s) (h : (m.take k).all f = true) (h1 : f s = true) : (m.take (k + 1)).all f = true := by
  rw [List.take_add_one, hs, List.all_append, h]
  simp [h1]
theorem allr_step {m : List Rd} {f : Rd → Bool} {k : Nat} {s : Rd} (hs : m[k]? = some s) (h : (m.take k).all f = true) (h1 : f s = true) : (m.take (k + 1)).all f = true := by
  rw [List.take_add_one, hs, List.all_append, h]
  simp [h1]
end Ce
namespace Go.Proofs.YtjldkndalcellaaGreatDoor
open Go.RowKit Go.El

set_option maxRecDepth 100000 in
set_option maxHeartbeats 4000000 in
theorem check6_any (m : Ce.Mem) (hm : Sz m) (A : Option Addr) (cap : Nat) (w : World) (h : MemAt w A m) :
    Calls Tryz.prog 15 #[.agg #[.slice A m.length cap]] w fun e w' => e = .returned (.int .i64 (Ce.check m)) ∧ Below w.heap.size w w' := by
  have hm0 := hm.many
  have hml : (m.length : Int) ≤ 9223372036854775807 := by omega
  have HSZ := Lib.hid hm.each
  have HRD : Hid (Ce.reads m ≤ 100000000) := Lib.hid (by
    have := Ce.reads_le m 10000 fun s hs => by obtain ⟨i, hi⟩ := List.getElem?_of_mem hs; exact (hm.each i s hi).2
    have := Nat.mul_le_mul_right 10000 hm0
    omega)
  have hb1 : Below w.heap.size w (w.alloc (Obj.cells #[.slice A m.length cap] 24)) := (Below.refl _ _).alloc (Nat.le_refl _) _
  have HS0 := Lib.hid ((h.stay.step hb1).and (box1 (W := w) (v := .slice A m.length cap) (t := 24)))
  have HB0 := Lib.hid hb1
  generalize hn : m.length = n at *
  have HN := Lib.hid hn
  have HBAD : Hid (∀ (k : Nat) (s : Ce.St), m[k]? = some s → Ce.stOk n s = false → Ce.check m = 4) := Lib.hid fun k s hs hf => Ce.check_bad hs (by rw [hn]; exact hf)
  have HMANY : Hid (400 < n → Ce.check m = 4) := Lib.hid fun hf => Ce.check_many (by rw [hn]; exact hf)
  have HEND : Hid (¬ 400 < n → m.all (Ce.stOk n) = true → Ce.check m = if 6000 < Ce.reads m then 4 else 0) := Lib.hid fun h1 h2 => Ce.check_end (by rw [hn]; exact h1) (by rw [hn]; exact h2)
  generalize Ce.check m = E at *
  clear hm h hb1 hn
  by_cases h4 : 400 < n
  · have h4' : (400 : Int) < n := by omega
    have HE := Lib.hid (HMANY.out h4)
    clear HMANY HEND HBAD
    obtain ⟨mA, x0⟩ := HS0.out.at_
    clear mA
    go_enter Tryz.func15, Tryz.ntmps15
    go_wp2
    go_ret
    exact ⟨by rw [HE.out]; rfl, HB0.out⟩
  have h4' : ¬ (400 : Int) < n := by omega
  have HEND := Lib.hid (HEND.out h4)
  clear HMANY
  go_enter Tryz.func15, Tryz.ntmps15
  go_wp2_with fail
  go_loopw [4, 5] (fun r i wr => ∃ (k q : Nat), k ≤ n ∧ i = .int .i64 k ∧ r = .int .i64 q ∧ Hid (q = Ce.reads (m.take k)) ∧ Hid ((m.take k).all (Ce.stOk n) = true) ∧ Hid (Stay (fun V => MemAt V A m ∧ V.cell? ⟨w.heap.size, 0, none⟩ = some (.slice A n cap)) wr) ∧ Hid (Below w.heap.size w wr)) (fun _ i _ => n - (intOf i).toNat)
  case atStart => exact ⟨0, 0, Nat.zero_le _, rfl, rfl, Lib.hid rfl, Lib.hid rfl, HS0, HB0⟩
  case round =>
    clear HS0 HB0
    obtain ⟨k, q, hk, rfl, rfl, HQ, HK, HS, HB⟩ := hrel
    obtain ⟨mA, x0⟩ := HS.out.at_
    by_cases hlt : k < n
    · have hlt' : (k : Int) < n := by omega
      obtain ⟨s, hs⟩ : ∃ x, m[k]? = some x := ⟨_, List.getElem?_eq_getElem (by rw [HN.out]; exact hlt)⟩
      obtain ⟨hsz1, hsz2⟩ := HSZ.out k s hs
      have HQ1 : Hid (q + s.wait.length = Ce.reads (m.take (k + 1))) := Lib.hid (by rw [Ce.reads_step m k s hs, HQ.out])
      have hqb : q + s.wait.length ≤ 100000000 := by rw [HQ1.out]; exact Nat.le_trans (Ce.reads_take_le m _) HRD.out
      obtain ⟨b1, o1, A1, c1, A2, c2, rfl, hz1, x1, x2, P1, P2⟩ := mA.at' hs
      have HYES : Hid (Ce.stOk n s = true → (m.take (k + 1)).all (Ce.stOk n) = true) := Lib.hid fun hf => Ce.all_step hs HK.out hf
      have HNO : Hid (Ce.stOk n s = false → E = 4) := Lib.hid (HBAD.out k s hs)
      clear mA hs
      have HP := Lib.hid (P1.stay.and P2.stay)
      clear P1 P2
      obtain ⟨cs, ws⟩ := s
      have HST : Hid (Ce.stOk n ⟨cs, ws⟩ = ((decide (cs.length ≤ 100) && Ce.areValues cs n) && ws.all (Ce.rdOk cs))) := Lib.hid rfl
      dsimp only at hsz1 hsz2 HP x1 x2 hqb HQ1
      have hq0 : w.heap.size < wr.heap.size := lt_of_cell x0
      have HG := Lib.hid (box2 (W := wr) (v := .slice A1 cs.length c1) (u := .slice A2 ws.length c2) (t := 61))
      have HB5 : Hid (Below wr.heap.size wr (wr.alloc (Obj.cells #[.slice A1 cs.length c1, .slice A2 ws.length c2] 61))) := Lib.hid ((Below.refl _ _).alloc (Nat.le_refl _) _)
      by_cases h100 : 100 < cs.length
      · have h100' : (100 : Int) < cs.length := by omega
        have HE := Lib.hid (HNO.out (by rw [HST.out, decide_eq_false (by omega)]; rfl))
        obtain ⟨g0, g1⟩ := HG.out.at_
        clear HYES HNO
        go_wp2
        go_ret
        exact ⟨by rw [HE.out]; rfl, HB.out.trans (HB5.out.mono (by omega))⟩
      have h100' : ¬ (100 : Int) < cs.length := by omega
      have HCV : Hid (∀ W, Below wr.heap.size wr W → Calls Tryz.prog 47 #[.slice A1 cs.length c1, .int .i64 n] W fun e w' => e = .returned (.bool (Ce.areValues cs n)) ∧ Below W.heap.size W w') := Lib.hid fun W hb => areValues_any cs (by unfold maxLen; omega) n A1 c1 W (HP.out W hb).1
      cases hav : Ce.areValues cs n with
      | false =>
        rw [hav] at HCV
        have HE := Lib.hid (HNO.out (by rw [HST.out, hav, Bool.and_false]; rfl))
        clear HYES HNO hav
        obtain ⟨g0, g1⟩ := HG.out.at_
        go_wp2_with fail
        refine (HCV.out _ HB5.out).mono ?_
        rintro e w6 ⟨rfl, hb6⟩
        have HB6 := Lib.hid ((HB.out.trans (HB5.out.mono (by omega))).trans (hb6.mono (by simp; omega)))
        clear hb6
        go_wp2
        go_ret
        exact ⟨by rw [HE.out]; rfl, HB6.out⟩
      | true =>
        rw [hav] at HCV
        have HST := Lib.hid (HST.out.trans (by rw [hav, decide_eq_true (by omega), Bool.true_and, Bool.true_and]))
        clear hav
        obtain ⟨g0, g1⟩ := HG.out.at_
        go_wp2_with fail
        refine (HCV.out _ HB5.out).mono ?_
        rintro e w6 ⟨rfl, hb6⟩
        have HG := Lib.hid (HG.out.step hb6)
        have HB6 := Lib.hid (HB5.out.trans (hb6.mono (by simp)))
        clear hb6 g0 g1 HCV HB5
        obtain ⟨g0, g1⟩ := HG.out.at_
        go_wp2_with fail
        go_loopw [7, 8] (fun i at_ wv => ∃ p : Nat, p ≤ ws.length ∧ i = .int .i64 p ∧ Hid ((ws.take p).all (Ce.rdOk cs) = true) ∧ Hid (Below w6.heap.size w6 wv)) (fun i _ _ => ws.length - (intOf i).toNat)
        case atStart => exact ⟨0, Nat.zero_le _, rfl, Lib.hid rfl, Lib.hid (Below.refl _ _)⟩
        case round =>
          obtain ⟨p, hp, rfl, HKP, HBV⟩ := hrel
          have HG := Lib.hid (HG.out.step HBV.out)
          obtain ⟨g0, g1⟩ := HG.out.at_
          have HB7 := Lib.hid (HB6.out.trans (HBV.out.mono HB6.out.size))
          by_cases hpt : p < ws.length
          · have hpt' : (p : Int) < ws.length := by omega
            obtain ⟨r, hr⟩ : ∃ x, ws[p]? = some x := ⟨_, List.getElem?_eq_getElem hpt⟩
            obtain ⟨P1, P2⟩ := HP.out _ HB7.out
            obtain ⟨b5, o5, rfl, hin5, hz5⟩ := P2.at_lt hpt
            obtain ⟨y0, y1⟩ := RdE.at2 hin5 hr
            have HOKN : Hid (Ce.rdOk cs r = false → E = 4) := Lib.hid fun hf => HNO.out (by
              rw [HST.out, List.all_eq_false]
              exact ⟨r, List.mem_of_getElem? hr, by rw [hf]; decide⟩)
            have HOKY : Hid (Ce.rdOk cs r = true → (ws.take (p + 1)).all (Ce.rdOk cs) = true) := Lib.hid fun hf => Ce.allr_step hr HKP.out hf
            obtain ⟨rc, rw'⟩ := r
            dsimp only at y0 y1
            generalize hD : (cs.length : Int) - 1 = D
            have hDw : IntKind.i64.wrap D = D := by rw [IntKind.wrap_i64]; omega
            have HIN := Lib.hid (fun W => in6_any rc 0 D W)
            clear hin5 hr
            cases hin : Ce.inn rc 0 D with
            | false =>
              rw [hin] at HIN
              have HE := Lib.hid (HOKN.out (by unfold Ce.rdOk; rw [Ce.cellAt_none (by rw [hD]; exact hin)]))
              clear P1 P2 hin
              go_wp2_with fail
              refine (HIN.out _).mono ?_
              rintro e w8 ⟨rfl, rfl⟩
              go_wp2
              go_ret
              exact ⟨by rw [HE.out]; rfl, HB.out.trans (HB7.out.mono (by omega))⟩
            | true =>
              rw [hin] at HIN
              rw [← hD] at hin
              obtain ⟨j, v, rfl, hj, hv, hca⟩ := Ce.cellAt_some hin
              obtain ⟨b6, o6, rfl, hin6, hz6⟩ := P1.at_lt hj
              obtain ⟨z0, z1⟩ := ValE.at2 hin6 hv
              have hj' : (j : Int) < cs.length := by omega
              have hj0 : (0 : Int) ≤ j := by omega
              have HRD2 : Hid (Ce.rdOk cs ⟨j, rw'⟩ = decide (v.k = 0)) := Lib.hid (by unfold Ce.rdOk; rw [hca])
              clear P1 P2 hin hin6 hv hca
              obtain ⟨vk, vn⟩ := v
              dsimp only at z0 z1
              by_cases h0 : vk = 0
              · subst h0
                have HKP1 := Lib.hid (HOKY.out (by rw [HRD2.out]; rfl))
                clear HOKN HOKY
                go_wp2_with fail
                refine (HIN.out _).mono ?_
                rintro e w8 ⟨rfl, rfl⟩
                go_wp2
                go_roundw
                case rel => exact ⟨p + 1, by omega, by go_num, HKP1, HBV⟩
                case measure => simp [intOf]; omega
              · have h0' : (vk == 0) = false := beq_eq_false_iff_ne.2 h0
                have h0'' : (vk != 0) = true := by rw [bne, h0']; rfl
                have HE := Lib.hid (HOKN.out (by rw [HRD2.out]; exact decide_eq_false h0))
                clear HOKN HOKY h0
                go_wp2_with fail
                refine (HIN.out _).mono ?_
                rintro e w8 ⟨rfl, rfl⟩
                go_wp2
                go_ret
                exact ⟨by rw [HE.out]; rfl, HB.out.trans (HB7.out.mono (by omega))⟩
          · have hpt' : ¬ (p : Int) < ws.length := by omega
            have HK1 := Lib.hid (HYES.out (by rw [HST.out]; have := HKP.out; rwa [List.take_of_length_le (by omega)] at this))
            have HS := Lib.hid (HS.out.step HB7.out)
            have HB8 := Lib.hid (HB.out.trans (HB7.out.mono (by omega)))
            go_wp2
            go_roundw
            case rel => exact ⟨k + 1, q + ws.length, by omega, by go_num, by first | go_num | rfl, HQ1, HK1, HS, HB8⟩
            case measure => simp [intOf]; omega
    · have hlt' : ¬ (k : Int) < n := by omega
      have HQ2 : Hid (Ce.reads m = q) := Lib.hid (by have := HQ.out; rwa [List.take_of_length_le (by rw [HN.out]; omega), eq_comm] at this)
      have HE := Lib.hid (HEND.out (by have := HK.out; rwa [List.take_of_length_le (by rw [HN.out]; omega)] at this))
      rw [HQ2.out] at HE
      clear mA
      by_cases h6 : 6000 < q
      · have h6' : (6000 : Int) < q := by omega
        rw [if_pos h6] at HE
        go_wp2
        go_ret
        exact ⟨by rw [HE.out]; rfl, HB.out⟩
      · have h6' : ¬ (6000 : Int) < q := by omega
        rw [if_neg h6] at HE
        go_wp2
        go_ret
        exact ⟨by rw [HE.out]; rfl, HB.out⟩
end Go.Proofs.YtjldkndalcellaaGreatDoor
