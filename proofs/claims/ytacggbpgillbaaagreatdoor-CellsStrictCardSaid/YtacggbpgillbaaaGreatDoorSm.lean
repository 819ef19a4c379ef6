/- Layer 6: the walk of the reference's SamePicture. -/
import Derived.Test.YtacggbpgillbaaaGreatDoorSl
namespace Go.Proofs.YtacggbpgillbaaaGreatDoor
open Go.RowKit Go.El

theorem twoboxes0 {W : World} {a b c d : Value} {t : TypeId} : Stay (fun V => (V.cell? ⟨W.heap.size, 0, none⟩ = some a ∧ V.cell? ⟨W.heap.size, 1, none⟩ = some b) ∧ (V.cell? ⟨W.heap.size + 1, 0, none⟩ = some c ∧ V.cell? ⟨W.heap.size + 1, 1, none⟩ = some d)) ((W.alloc (Obj.cells #[a, b] t)).alloc (Obj.cells #[c, d] t)) := by
  have s := ((box2 (W := W) (v := a) (u := b) (t := t)).alloc (Obj.cells #[c, d] t)).and (box2 (W := W.alloc (Obj.cells #[a, b] t)) (v := c) (u := d) (t := t))
  simpa only [World.size_alloc] using s
set_option maxRecDepth 100000 in
set_option maxHeartbeats 4000000 in
theorem samePic_any (p q : Ce.Pic) (hp : Szp p) (V1 C1 V2 C2 : Option Addr) (cv1 cc1 cv2 cc2 : Nat) (w : World) (h1 : PicAt w V1 cv1 C1 p) (h2 : PicAt w V2 cv2 C2 q) :
    Calls Tryz.prog 42 #[.agg #[.slice V1 p.vals.length cv1, .slice C1 p.cells.length cc1], .agg #[.slice V2 q.vals.length cv2, .slice C2 q.cells.length cc2]] w fun e w' => e = .returned (.bool (decide (p = q))) ∧ Below w.heap.size w w' := by
  obtain ⟨vs, ls⟩ := p
  obtain ⟨us, ms⟩ := q
  have hz1 := hp.vals
  have hz2 := hp.many
  have HSZ := Lib.hid hp.each
  have HP1 := Lib.hid h1.stay
  have HP2 := Lib.hid h2.stay
  have hv1 := h1.v.arg
  have hv2 := h2.v.arg
  dsimp only at hz1 hz2 HSZ hv1 hv2 ⊢
  have hbx : Below w.heap.size w ((w.alloc (.cells #[.slice V1 vs.length cv1, .slice C1 ls.length cc1] 57)).alloc (.cells #[.slice V2 us.length cv2, .slice C2 ms.length cc2] 57)) := ((Below.refl _ _).alloc (Nat.le_refl _) _).alloc (by simp) _
  have HX := Lib.hid (twoboxes0 (W := w) (a := .slice V1 vs.length cv1) (b := .slice C1 ls.length cc1) (c := .slice V2 us.length cv2) (d := .slice C2 ms.length cc2) (t := 57))
  have hcall := sameValues_any vs us (by unfold maxLen; omega) V1 V2 cv1 cv2 _ (hv1.below hbx) (hv2.below hbx)
  have HB0 := Lib.hid hbx
  have hll : (ls.length : Int) ≤ 9223372036854775807 := by omega
  have hpq : decide ((⟨vs, ls⟩ : Ce.Pic) = ⟨us, ms⟩) = (decide (vs = us) && decide (ls = ms)) := by
    rw [Bool.eq_iff_iff]; simp
  rw [hpq]
  clear hp h1 h2 hv1 hv2 hbx hpq
  cases hq : decide (vs = us) with
  | false =>
    rw [hq] at hcall
    have HC := Lib.hid hcall
    obtain ⟨⟨x0, x1⟩, y0, y1⟩ := HX.out.at_
    clear hcall hq
    rw [Bool.false_and]
    go_enter Tryz.func42, Tryz.ntmps42
    go_wp2_with fail
    refine HC.out.mono ?_
    rintro e w1 ⟨rfl, hb1⟩
    go_wp2
    go_ret
    exact ⟨rfl, HB0.out.trans (hb1.mono HB0.out.size)⟩
  | true =>
    rw [hq] at hcall
    have HC := Lib.hid hcall
    rw [Bool.true_and]
    clear hcall hq
    generalize hn1 : ls.length = n at *
    generalize hn2 : ms.length = n2 at *
    have HN1 := Lib.hid hn1
    have HN2 := Lib.hid hn2
    by_cases hl : n = n2
    · subst hl
      generalize hR : decide (ls = ms) = R
      have HR := Lib.hid hR
      clear hn1 hn2 hR
      obtain ⟨⟨x0, x1⟩, y0, y1⟩ := HX.out.at_
      go_enter Tryz.func42, Tryz.ntmps42
      go_wp2_with fail
      refine HC.out.mono ?_
      rintro e w1 ⟨rfl, hb1⟩
      have HX1 := Lib.hid (HX.out.step hb1)
      have HB1 := Lib.hid (HB0.out.trans (hb1.mono HB0.out.size))
      clear x0 x1 y0 y1 hb1 HX HB0 HC
      obtain ⟨⟨x0, x1⟩, y0, y1⟩ := HX1.out.at_
      go_wp2_with fail
      clear x0 x1 y0 y1
      go_loopw [5] (fun i wr => ∃ k : Nat, k ≤ n ∧ i = .int .i64 k ∧ Hid (ls.take k = ms.take k) ∧ Hid (Stay (fun V => (V.cell? ⟨w.heap.size, 0, none⟩ = some (.slice V1 vs.length cv1) ∧ V.cell? ⟨w.heap.size, 1, none⟩ = some (.slice C1 n cc1)) ∧ (V.cell? ⟨w.heap.size + 1, 0, none⟩ = some (.slice V2 us.length cv2) ∧ V.cell? ⟨w.heap.size + 1, 1, none⟩ = some (.slice C2 n cc2))) wr) ∧ Hid (Below w.heap.size w wr)) (fun i _ => n - (intOf i).toNat)
      case atStart => exact ⟨0, Nat.zero_le _, rfl, Lib.hid rfl, HX1, HB1⟩
      case round =>
        clear HX1 HB1
        obtain ⟨k, hk, rfl, HK, HX, HB⟩ := hrel
        obtain ⟨⟨_, x1⟩, _, y1⟩ := HX.out.at_
        by_cases hlt : k < n
        · have hlt' : (k : Int) < n := by omega
          obtain ⟨s, hs⟩ : ∃ x, ls[k]? = some x := ⟨_, List.getElem?_eq_getElem (by rw [HN1.out]; exact hlt)⟩
          obtain ⟨u, hu⟩ : ∃ x, ms[k]? = some x := ⟨_, List.getElem?_eq_getElem (by rw [HN2.out]; exact hlt)⟩
          have hsz := HSZ.out k s hs
          obtain ⟨b1, o1, A1, c1, rfl, hb1, z1, P1⟩ := (HP1.out.at_).c.at_ hs
          obtain ⟨b2, o2, A2, c2, rfl, hb2, z2, P2⟩ := (HP2.out.at_).c.at_ hu
          have S1 := Lib.hid (((Stay.cell z1).step HB.out).and ((Stay.cell z2).step HB.out))
          have S2 := Lib.hid (((SlAt_stay P1).step HB.out).and ((SlAt_stay P2).step HB.out))
          have hne : Hid (s ≠ u → R = false) := Lib.hid fun hf => by
            rw [← HR.out]
            exact decide_eq_false fun e => hf (by rw [e, hu] at hs; exact (Option.some.inj hs).symm)
          have heq : Hid (s = u → ls.take (k + 1) = ms.take (k + 1)) := Lib.hid fun hf => by
            rw [List.take_add_one, List.take_add_one, HK.out, hs, hu, hf]
          obtain ⟨z1', z2'⟩ := S1.out.at_
          have HCV : Hid (∀ W, Below wr.heap.size wr W → Calls Tryz.prog 24 #[.slice A1 s.length c1, .slice A2 u.length c2] W fun e w' => e = .returned (.bool (decide (s = u))) ∧ Below W.heap.size W w') :=
            Lib.hid fun W hb => sameValues_any s u (by unfold maxLen; omega) A1 A2 c1 c2 W (S2.out W hb).1.arg (S2.out W hb).2.arg
          have hq0 : w.heap.size < wr.heap.size := lt_of_cell x1
          have hq1 : w.heap.size + 1 < wr.heap.size := lt_of_cell y1
          clear z1 z2 P1 P2 hs hu
          have HD : Hid ((decide (s = u) = true → s = u) ∧ (decide (s = u) = false → s ≠ u)) := Lib.hid ⟨of_decide_eq_true, of_decide_eq_false⟩
          generalize decide (s = u) = q at HCV HD
          go_wp2_with fail
          cases q with
          | false =>
            have HE := Lib.hid (hne.out (HD.out.2 rfl))
            go_region_held3 (fun W => W.cell? ⟨w.heap.size, 1, none⟩ = some (.slice (some ⟨b1, o1, none⟩) n cc1) ∧ W.cell? ⟨w.heap.size + 1, 1, none⟩ = some (.slice (some ⟨b2, o2, none⟩) n cc2) ∧ W.cell? ⟨b1, o1 + k, none⟩ = some (.slice A1 s.length c1) ∧ W.cell? ⟨b2, o2 + k, none⟩ = some (.slice A2 u.length c2))
              (go_keep)
              (first
                | (go_at_call 24; refine (HCV.out _ (Below.refl _ _).drew).mono ?_; rintro e w4 ⟨rfl, hb4⟩
                   have hb5 : Below wr.heap.size wr w4 := (Below.refl _ _).drew.trans hb4
                   obtain ⟨⟨_, v1⟩, _, v2⟩ := HX.out _ hb5
                   obtain ⟨v3, v4⟩ := S1.out _ hb5))
            all_goals
              go_wp2_with fail
              go_ret
              exact ⟨by rw [HE.out]; rfl, HB.out.trans (hb5.mono HB.out.size)⟩
          | true =>
            have HE := Lib.hid (heq.out (HD.out.1 rfl))
            go_region_held3 (fun W => W.cell? ⟨w.heap.size, 1, none⟩ = some (.slice (some ⟨b1, o1, none⟩) n cc1) ∧ W.cell? ⟨w.heap.size + 1, 1, none⟩ = some (.slice (some ⟨b2, o2, none⟩) n cc2) ∧ W.cell? ⟨b1, o1 + k, none⟩ = some (.slice A1 s.length c1) ∧ W.cell? ⟨b2, o2 + k, none⟩ = some (.slice A2 u.length c2))
              (go_keep)
              (first
                | (go_at_call 24; refine (HCV.out _ (Below.refl _ _).drew).mono ?_; rintro e w4 ⟨rfl, hb4⟩
                   have hb5 : Below wr.heap.size wr w4 := (Below.refl _ _).drew.trans hb4
                   obtain ⟨⟨_, v1⟩, _, v2⟩ := HX.out _ hb5
                   obtain ⟨v3, v4⟩ := S1.out _ hb5))
            all_goals
              clear x1 y1
              go_wp2_with fail
              go_roundw
              case rel => exact ⟨k + 1, by omega, by go_num, HE, Lib.hid (HX.out.step hb5), Lib.hid (HB.out.trans (hb5.mono HB.out.size))⟩
              case measure => simp [intOf]; omega
        · have hlt' : ¬ (k : Int) < n := by omega
          have HE : Hid (R = true) := Lib.hid (by
            rw [← HR.out]
            refine decide_eq_true ?_
            have e := HK.out
            rwa [List.take_of_length_le (by rw [HN1.out]; omega), List.take_of_length_le (by rw [HN2.out]; omega)] at e)
          go_wp2
          go_ret
          exact ⟨by rw [HE.out]; rfl, HB.out⟩
    · have hl' : ((n : Int) == n2) = false := beq_eq_false_iff_ne.2 (by omega)
      have hl2 : ((n : Int) != n2) = true := by rw [bne, hl']; rfl
      rw [decide_eq_false (fun e => hl (by rw [← hn1, ← hn2, e]))]
      clear hn1 hn2
      obtain ⟨⟨x0, x1⟩, y0, y1⟩ := HX.out.at_
      go_enter Tryz.func42, Tryz.ntmps42
      go_wp2_with fail
      refine HC.out.mono ?_
      rintro e w1 ⟨rfl, hb1⟩
      have HX1 := Lib.hid (HX.out.step hb1)
      have HB1 := Lib.hid (HB0.out.trans (hb1.mono HB0.out.size))
      clear x0 x1 y0 y1 hb1
      obtain ⟨⟨x0, x1⟩, y0, y1⟩ := HX1.out.at_
      go_wp2
      go_ret
      exact ⟨rfl, HB1.out⟩
end Go.Proofs.YtacggbpgillbaaaGreatDoor
