/- Layer 6, the program: slices.Equal, slices.EqualFunc, same. -/
import Derived.Test.YtacggbpgillbaaaGreatDoorTq
namespace Go.Proofs.YtacggbpgillbaaaGreatDoor
open Go.RowKit Go.El

set_option maxRecDepth 100000 in
set_option maxHeartbeats 1000000 in
/-- slices.Equal at values -/
theorem sEqual_any (a b : List Ce.V) (hla : a.length ≤ maxLen) (A C : Option Addr) (cap1 cap2 : Nat) (w : World) (h1 : ValE.Arg w A a) (h2 : ValE.Arg w C b) :
    Calls Tryz.prog 139 #[.slice A a.length cap1, .slice C b.length cap2] w fun e w' => e = .returned (.bool (decide (a = b))) ∧ Below w.heap.size w w' := by
  have hm : (a.length : Int) ≤ 9223372036854775807 := by unfold maxLen at hla; omega
  by_cases hl : a.length = b.length
  · have H1 := Lib.hid h1
    have H2 := Lib.hid h2
    have HL := Lib.hid hl
    generalize hn : b.length = n
    have hna : a.length = n := by omega
    have HN := Lib.hid hn
    have HNA := Lib.hid hna
    rw [hna] at hm
    generalize hR : decide (a = b) = R
    have HR := Lib.hid hR
    rw [hna]
    clear h1 h2 hl hn hna hR
    go_enter Tryz.func139, Tryz.ntmps139
    go_wp2_with fail
    go_loopw [13] (fun i wr => ∃ k : Nat, k ≤ n ∧ i = .int .i64 k ∧ Hid (a.take k = b.take k) ∧ Below w.heap.size w wr) (fun i _ => n - (intOf i).toNat)
    case atStart => exact ⟨0, Nat.zero_le _, rfl, Lib.hid rfl, Below.refl _ _⟩
    case round =>
      obtain ⟨k, hk, rfl, HK, hbw⟩ := hrel
      by_cases hlt : k < n
      · have hlt' : (k : Int) < n := by omega
        obtain ⟨b1, o1, rfl, hin1, hz1⟩ := H1.out.at_lt (by rw [HNA.out]; exact hlt)
        obtain ⟨b2, o2, rfl, hin2, hz2⟩ := H2.out.at_lt (by rw [HN.out]; exact hlt)
        obtain ⟨x, hx⟩ : ∃ x, a[k]? = some x := ⟨_, List.getElem?_eq_getElem (by rw [HNA.out]; exact hlt)⟩
        obtain ⟨y, hy⟩ : ∃ y, b[k]? = some y := ⟨_, List.getElem?_eq_getElem (by rw [HN.out]; exact hlt)⟩
        obtain ⟨x0, x1⟩ := ValE.at2 (hin1.below hbw (fun _ => hz1)) hx
        obtain ⟨y0, y1⟩ := ValE.at2 (hin2.below hbw (fun _ => hz2)) hy
        have hne : Hid (x ≠ y → R = false) := Lib.hid fun hf => by
          rw [← HR.out]
          exact decide_eq_false fun e => hf (by rw [e, hy] at hx; exact (Option.some.inj hx).symm)
        have heq : Hid (x = y → a.take (k + 1) = b.take (k + 1)) := Lib.hid fun hf => by
          rw [List.take_add_one, List.take_add_one, HK.out, hx, hy, hf]
        clear hx hy hin1 hin2
        obtain ⟨xk, xn⟩ := x
        obtain ⟨yk, yn⟩ := y
        dsimp only at x0 x1 y0 y1
        by_cases hkk : xk = yk
        · subst hkk
          by_cases hnn : xn = yn
          · subst hnn
            have HK1 := Lib.hid (heq.out rfl)
            clear heq hne HK
            go_wp2_with fail
            go_region
            go_wp2_with fail
            go_roundw
            case rel => exact ⟨k + 1, by omega, by go_num, HK1, hbw.drew⟩
            case measure => simp [intOf]; omega
          · have hnn' : (xn == yn) = false := beq_eq_false_iff_ne.2 hnn
            have HK1 := Lib.hid (hne.out (by simp [hnn]))
            clear heq hne HK hnn
            go_wp2_with fail
            go_region
            go_wp2_with fail
            go_ret
            exact ⟨by rw [HK1.out]; rfl, hbw.drew⟩
        · have hkk' : (xk == yk) = false := beq_eq_false_iff_ne.2 hkk
          have HK1 := Lib.hid (hne.out (by simp [hkk]))
          clear heq hne HK hkk
          go_wp2_with fail
          go_region
          go_wp2_with fail
          go_ret
          exact ⟨by rw [HK1.out]; rfl, hbw.drew⟩
      · have hlt' : ¬ (k : Int) < n := by omega
        have HE : Hid (R = true) := Lib.hid (by
          rw [← HR.out]
          refine decide_eq_true ?_
          have e := HK.out
          rwa [List.take_of_length_le (by rw [HNA.out]; omega), List.take_of_length_le (by rw [HN.out]; omega)] at e)
        go_wp2
        go_ret
        exact ⟨by rw [HE.out]; rfl, hbw⟩
  · rw [decide_eq_false (fun e => hl (by rw [e]))]
    have hl' : ((a.length : Int) == b.length) = false := beq_eq_false_iff_ne.2 (by omega)
    generalize a.length = n at hl'
    generalize b.length = m at hl'
    clear h1 h2 hl hm
    go_enter Tryz.func139, Tryz.ntmps139
    go_wp2
    go_ret
    exact ⟨rfl, Below.refl _ _⟩

set_option maxRecDepth 100000 in
set_option maxHeartbeats 2000000 in
/-- slices.EqualFunc at lists of values, by slices.Equal -/
theorem sEqualFunc_any (a b : List (List Ce.V)) (hla : a.length ≤ 1000000) (hea : ∀ (i : Nat) s, a[i]? = some s → s.length ≤ 1000000) (A C : Option Addr) (cap1 cap2 : Nat) (w : World) (h1 : LsAt w A a) (h2 : LsAt w C b) :
    Calls Tryz.prog 140 #[.slice A a.length cap1, .slice C b.length cap2, .func (.func 139) #[] #[]] w fun e w' => e = .returned (.bool (decide (a = b))) ∧ Below w.heap.size w w' := by
  have eg : ∀ args w, (callFunc 139 args).run Tryz.prog w = .ok (.enter 139 args) w := enters_of Tryz.func139 (by kernel_rfl) rfl
  by_cases hl : a.length = b.length
  · have H1 := Lib.hid h1.stay
    have H2 := Lib.hid h2.stay
    have HL := Lib.hid hl
    have HEA := Lib.hid hea
    generalize hn : b.length = n at *
    have HN := Lib.hid hn
    have HNA : Hid (a.length = n) := Lib.hid hl
    rw [hl] at hla ⊢
    have hm : (n : Int) ≤ 1000000 := by omega
    generalize hR : decide (a = b) = R
    have HR := Lib.hid hR
    clear h1 h2 hl hn hR hea
    go_enter Tryz.func140, Tryz.ntmps140
    go_wp2_with fail
    go_loopw [17] (fun i wr => ∃ k : Nat, k ≤ n ∧ i = .int .i64 k ∧ Hid (a.take k = b.take k) ∧ Below w.heap.size w wr) (fun i _ => n - (intOf i).toNat)
    case atStart => exact ⟨0, Nat.zero_le _, rfl, Lib.hid rfl, Below.refl _ _⟩
    case round =>
      obtain ⟨k, hk, rfl, HK, hbw⟩ := hrel
      have hzw := hbw.size
      by_cases hlt : k < n
      · have hlt' : (k : Int) < n := by omega
        obtain ⟨x, hx⟩ : ∃ x, a[k]? = some x := ⟨_, List.getElem?_eq_getElem (by rw [HNA.out]; exact hlt)⟩
        obtain ⟨y, hy⟩ : ∃ y, b[k]? = some y := ⟨_, List.getElem?_eq_getElem (by rw [HN.out]; exact hlt)⟩
        obtain ⟨b1, o1, A1, c1, rfl, hz1, x0, P1⟩ := (H1.out wr hbw).at_ hx
        obtain ⟨b2, o2, A2, c2, rfl, hz2, y0, P2⟩ := (H2.out wr hbw).at_ hy
        have hxl := HEA.out k x hx
        have hcall := fun W hb => sEqual_any x y (by unfold maxLen; omega) A1 A2 c1 c2 W (P1.below hb).arg (P2.below hb).arg
        have hne : Hid (x ≠ y → R = false) := Lib.hid fun hf => by
          rw [← HR.out]
          exact decide_eq_false fun e => hf (by rw [e, hy] at hx; exact (Option.some.inj hx).symm)
        have heq : Hid (x = y → a.take (k + 1) = b.take (k + 1)) := Lib.hid fun hf => by
          rw [List.take_add_one, List.take_add_one, HK.out, hx, hy, hf]
        have HC := Lib.hid hcall
        clear hx hy P1 P2 hcall
        by_cases hxy : x = y
        · have HK1 := Lib.hid (heq.out hxy)
          have HC2 := Lib.hid (fun W hb => by have := HC.out W hb; rw [decide_eq_true hxy] at this; exact this)
          clear heq hne HK HC hxy
          go_wp2_with (go_at_fn 139; refine (HC2.out _ (Below.refl _ _)).mono ?_; rintro e w' ⟨rfl, hb'⟩)
          go_roundw
          case rel => exact ⟨k + 1, by omega, by go_num, HK1, hbw.trans (hb'.mono hzw)⟩
          case measure => simp [intOf]; omega
        · have HK1 := Lib.hid (hne.out hxy)
          have HC2 := Lib.hid (fun W hb => by have := HC.out W hb; rw [decide_eq_false hxy] at this; exact this)
          clear heq hne HK HC hxy
          go_wp2_with (go_at_fn 139; refine (HC2.out _ (Below.refl _ _)).mono ?_; rintro e w' ⟨rfl, hb'⟩)
          go_ret
          exact ⟨by rw [HK1.out]; rfl, hbw.trans (hb'.mono hzw)⟩
      · have hlt' : ¬ (k : Int) < n := by omega
        have HE : Hid (R = true) := Lib.hid (by
          rw [← HR.out]
          refine decide_eq_true ?_
          have e := HK.out
          rwa [List.take_of_length_le (by rw [HNA.out]; omega), List.take_of_length_le (by rw [HN.out]; omega)] at e)
        go_wp2
        go_ret
        exact ⟨by rw [HE.out]; rfl, hbw⟩
  · rw [decide_eq_false (fun e => hl (by rw [e]))]
    have hl' : ((a.length : Int) == b.length) = false := beq_eq_false_iff_ne.2 (by omega)
    have hl2 : ((a.length : Int) != b.length) = true := by rw [bne, hl']; rfl
    generalize a.length = n at *
    generalize b.length = m at *
    clear h1 h2 hl hea
    go_enter Tryz.func140, Tryz.ntmps140
    go_wp2
    go_ret
    exact ⟨rfl, Below.refl _ _⟩

set_option maxRecDepth 100000 in
set_option maxHeartbeats 2000000 in
/-- two pictures are compared -/
theorem csame_any (p q : Ce.Pic) (hp : p.vals.length ≤ 1000000) (hpc : p.cells.length ≤ 1000000) (hea : ∀ (i : Nat) s, p.cells[i]? = some s → s.length ≤ 1000000) (V1 C1 V2 C2 : Option Addr) (cv1 cc1 cv2 cc2 : Nat) (w : World) (h1 : PicAt w V1 cv1 C1 p) (h2 : PicAt w V2 cv2 C2 q) :
    Calls Tryz.prog 90 #[.agg #[.slice V1 p.vals.length cv1, .slice C1 p.cells.length cc1], .agg #[.slice V2 q.vals.length cv2, .slice C2 q.cells.length cc2]] w fun e w' => e = .returned (.bool (decide (p = q))) ∧ Below w.heap.size w w' := by
  have hB : Below w.heap.size w ((w.alloc (.cells #[.slice V1 p.vals.length cv1, .slice C1 p.cells.length cc1] 57)).alloc (.cells #[.slice V2 q.vals.length cv2, .slice C2 q.cells.length cc2] 57)) := ((Below.refl _ _).alloc (Nat.le_refl _) _).alloc (by simp) _
  have HB := Lib.hid hB
  have sp := (box2 (W := w) (v := .slice V1 p.vals.length cv1) (u := .slice C1 p.cells.length cc1) (t := 57)).alloc (.cells #[.slice V2 q.vals.length cv2, .slice C2 q.cells.length cc2] 57)
  have sq := box2 (W := w.alloc (.cells #[.slice V1 p.vals.length cv1, .slice C1 p.cells.length cc1] 57)) (v := .slice V2 q.vals.length cv2) (u := .slice C2 q.cells.length cc2) (t := 57)
  simp only [World.size_alloc] at sq
  have SB := Lib.hid (sp.and sq)
  have HV := Lib.hid (sEqual_any p.vals q.vals (by unfold maxLen; omega) V1 V2 cv1 cv2 _ (h1.v.arg.below hB) (h2.v.arg.below hB))
  have HC := Lib.hid (fun W (hb : Below ((w.alloc (.cells #[.slice V1 p.vals.length cv1, .slice C1 p.cells.length cc1] 57)).alloc (.cells #[.slice V2 q.vals.length cv2, .slice C2 q.cells.length cc2] 57)).heap.size ((w.alloc (.cells #[.slice V1 p.vals.length cv1, .slice C1 p.cells.length cc1] 57)).alloc (.cells #[.slice V2 q.vals.length cv2, .slice C2 q.cells.length cc2] 57)) W) =>
    sEqualFunc_any p.cells q.cells hpc hea C1 C2 cc1 cc2 W ((h1.c.below hB).below hb) ((h2.c.below hB).below hb))
  have hdec : decide (p = q) = (decide (p.vals = q.vals) && decide (p.cells = q.cells)) := by
    obtain ⟨a, b⟩ := p
    obtain ⟨c, d⟩ := q
    simp
  rw [hdec]
  generalize decide (p.vals = q.vals) = r1 at *
  generalize decide (p.cells = q.cells) = r2 at *
  clear h1 h2 sp sq hB hdec hea
  cases r1 with
  | false =>
    rw [Bool.false_and]
    clear HC
    go_enter Tryz.func90, Tryz.ntmps90
    go_wp2_with fail
    refine HV.out.mono ?_
    rintro e w1 ⟨rfl, hb1⟩
    go_wp2
    go_ret
    exact ⟨rfl, HB.out.trans (hb1.mono HB.out.size)⟩
  | true =>
    rw [Bool.true_and]
    cases r2 with
    | false =>
      go_enter Tryz.func90, Tryz.ntmps90
      go_wp2_with fail
      refine HV.out.mono ?_
      rintro e w1 ⟨rfl, hb1⟩
      obtain ⟨⟨x0, x1⟩, y0, y1⟩ := SB.out w1 hb1
      have HB1 := Lib.hid (HB.out.trans (hb1.mono HB.out.size))
      have HC1 := Lib.hid (HC.out w1 hb1)
      clear hb1 HC
      go_wp2_with fail
      refine HC1.out.mono ?_
      rintro e w2 ⟨rfl, hb2⟩
      go_wp2
      go_ret
      exact ⟨rfl, HB1.out.trans (hb2.mono HB1.out.size)⟩
    | true =>
      go_enter Tryz.func90, Tryz.ntmps90
      go_wp2_with fail
      refine HV.out.mono ?_
      rintro e w1 ⟨rfl, hb1⟩
      obtain ⟨⟨x0, x1⟩, y0, y1⟩ := SB.out w1 hb1
      have HB1 := Lib.hid (HB.out.trans (hb1.mono HB.out.size))
      have HC1 := Lib.hid (HC.out w1 hb1)
      clear hb1 HC
      go_wp2_with fail
      refine HC1.out.mono ?_
      rintro e w2 ⟨rfl, hb2⟩
      go_wp2
      go_ret
      exact ⟨rfl, HB1.out.trans (hb2.mono HB1.out.size)⟩
end Go.Proofs.YtacggbpgillbaaaGreatDoor
