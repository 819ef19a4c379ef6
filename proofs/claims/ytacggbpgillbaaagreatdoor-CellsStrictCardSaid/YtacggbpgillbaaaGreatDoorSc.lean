/- Layer 6: the walks of the reference's In, IsValue, makers of values, SameValues, Values, areValues. -/
import Derived.Test.YtacggbpgillbaaaGreatDoorSb
namespace Go.Proofs.YtacggbpgillbaaaGreatDoor
open Go.RowKit Go.El

theorem in6_any (n lo hi : Int) (w : World) : Calls Tryz.prog 67 #[.int .i64 n, .int .i64 lo, .int .i64 hi] w fun e w' => e = .returned (.bool (Ce.inn n lo hi)) ∧ w = w' := by
  unfold Ce.inn
  by_cases h1 : lo ≤ n
  · by_cases h2 : n ≤ hi
    · rw [decide_eq_true h1, decide_eq_true h2]
      go_enter Tryz.func67, Tryz.ntmps67
      go_wp2
      go_ret
      exact ⟨rfl, rfl⟩
    · rw [decide_eq_false h2, Bool.and_false]
      go_enter Tryz.func67, Tryz.ntmps67
      go_wp2
      go_ret
      exact ⟨rfl, rfl⟩
  · rw [decide_eq_false h1, Bool.false_and]
    go_enter Tryz.func67, Tryz.ntmps67
    go_wp2
    go_ret
    exact ⟨rfl, rfl⟩

set_option maxHeartbeats 1000000 in
theorem isValue_any (v : Ce.V) (many : Int) (w : World) : Calls Tryz.prog 59 #[.agg #[.int .u8 v.k, .int .i64 v.n], .int .i64 many] w fun e w' => e = .returned (.bool (Ce.isValue v many)) ∧ Below w.heap.size w w' := by
  obtain ⟨k, n⟩ := v
  have hin := fun lo hi W => in6_any n lo hi W
  have HIN := Lib.hid hin
  clear hin
  unfold Ce.isValue
  dsimp only
  by_cases h0 : k = 0
  · subst h0
    rw [if_pos rfl]
    by_cases hn : n = 0
    · subst hn
      go_enter Tryz.func59, Tryz.ntmps59
      go_wp2
      go_ret
      exact ⟨rfl, (Below.refl _ _).alloc (Nat.le_refl _) _⟩
    · rw [decide_eq_false hn]
      have hn' : (n == 0) = false := beq_eq_false_iff_ne.2 hn
      go_enter Tryz.func59, Tryz.ntmps59
      go_wp2
      go_ret
      exact ⟨rfl, (Below.refl _ _).alloc (Nat.le_refl _) _⟩
  rw [if_neg h0]
  by_cases h1 : k = 1
  · subst h1
    rw [if_pos rfl]
    clear h0
    go_enter Tryz.func59, Tryz.ntmps59
    go_wp2_with fail
    refine (HIN.out _ _ _).mono ?_
    rintro e w1 ⟨rfl, rfl⟩
    go_wp2
    go_ret
    exact ⟨rfl, (Below.refl _ _).alloc (Nat.le_refl _) _⟩
  rw [if_neg h1]
  by_cases h2 : k = 2
  · subst h2
    rw [if_pos rfl]
    clear h0 h1
    by_cases hn : n = 0
    · subst hn
      go_enter Tryz.func59, Tryz.ntmps59
      go_wp2
      go_ret
      exact ⟨rfl, (Below.refl _ _).alloc (Nat.le_refl _) _⟩
    · have hn' : (n == 0) = false := beq_eq_false_iff_ne.2 hn
      rw [decide_eq_false hn, Bool.false_or]
      by_cases hm : n = 1
      · subst hm
        go_enter Tryz.func59, Tryz.ntmps59
        go_wp2
        go_ret
        exact ⟨rfl, (Below.refl _ _).alloc (Nat.le_refl _) _⟩
      · have hm' : (n == 1) = false := beq_eq_false_iff_ne.2 hm
        rw [decide_eq_false hm]
        go_enter Tryz.func59, Tryz.ntmps59
        go_wp2
        go_ret
        exact ⟨rfl, (Below.refl _ _).alloc (Nat.le_refl _) _⟩
  rw [if_neg h2]
  by_cases h3 : k = 3
  · subst h3
    rw [if_pos rfl]
    clear h0 h1 h2
    by_cases hn : n = 0
    · subst hn
      go_enter Tryz.func59, Tryz.ntmps59
      go_wp2
      go_ret
      exact ⟨rfl, (Below.refl _ _).alloc (Nat.le_refl _) _⟩
    · rw [decide_eq_false hn]
      have hn' : (n == 0) = false := beq_eq_false_iff_ne.2 hn
      go_enter Tryz.func59, Tryz.ntmps59
      go_wp2
      go_ret
      exact ⟨rfl, (Below.refl _ _).alloc (Nat.le_refl _) _⟩
  rw [if_neg h3]
  by_cases h4 : k = 4
  · subst h4
    rw [if_pos rfl]
    clear h0 h1 h2 h3
    by_cases hn : 0 ≤ n
    · rw [decide_eq_true hn, Bool.true_and]
      by_cases hm : many < 0
      · rw [decide_eq_true hm, Bool.true_or]
        go_enter Tryz.func59, Tryz.ntmps59
        go_wp2
        go_ret
        exact ⟨rfl, (Below.refl _ _).alloc (Nat.le_refl _) _⟩
      · rw [decide_eq_false hm, Bool.false_or]
        by_cases hl : n < many
        · rw [decide_eq_true hl]
          go_enter Tryz.func59, Tryz.ntmps59
          go_wp2
          go_ret
          exact ⟨rfl, (Below.refl _ _).alloc (Nat.le_refl _) _⟩
        · rw [decide_eq_false hl]
          go_enter Tryz.func59, Tryz.ntmps59
          go_wp2
          go_ret
          exact ⟨rfl, (Below.refl _ _).alloc (Nat.le_refl _) _⟩
    · rw [decide_eq_false hn, Bool.false_and]
      go_enter Tryz.func59, Tryz.ntmps59
      go_wp2
      go_ret
      exact ⟨rfl, (Below.refl _ _).alloc (Nat.le_refl _) _⟩
  rw [if_neg h4]
  by_cases h5 : k = 5
  · subst h5
    rw [if_pos rfl]
    clear h0 h1 h2 h3 h4
    go_enter Tryz.func59, Tryz.ntmps59
    go_wp2_with fail
    refine (HIN.out _ _ _).mono ?_
    rintro e w1 ⟨rfl, rfl⟩
    go_wp2
    go_ret
    exact ⟨rfl, (Below.refl _ _).alloc (Nat.le_refl _) _⟩
  rw [if_neg h5]
  have g0 : (k == 0) = false := beq_eq_false_iff_ne.2 h0
  have g1 : (k == 1) = false := beq_eq_false_iff_ne.2 h1
  have g2 : (k == 2) = false := beq_eq_false_iff_ne.2 h2
  have g3 : (k == 3) = false := beq_eq_false_iff_ne.2 h3
  have g4 : (k == 4) = false := beq_eq_false_iff_ne.2 h4
  have g5 : (k == 5) = false := beq_eq_false_iff_ne.2 h5
  clear h0 h1 h2 h3 h4 h5
  go_enter Tryz.func59, Tryz.ntmps59
  go_wp2
  go_ret
  exact ⟨rfl, (Below.refl _ _).alloc (Nat.le_refl _) _⟩

set_option maxRecDepth 100000 in
set_option maxHeartbeats 1000000 in
/-- two lists of values are compared -/
theorem sameValues_any (a b : List Ce.V) (hla : a.length ≤ maxLen) (A C : Option Addr) (cap1 cap2 : Nat) (w : World) (h1 : ValE.Arg w A a) (h2 : ValE.Arg w C b) :
    Calls Tryz.prog 24 #[.slice A a.length cap1, .slice C b.length cap2] w fun e w' => e = .returned (.bool (decide (a = b))) ∧ Below w.heap.size w w' := by
  have hm : (a.length : Int) ≤ 9223372036854775807 := by unfold maxLen at hla; omega
  by_cases hl : a.length = b.length
  · have H1 := Lib.hid h1
    have H2 := Lib.hid h2
    have HL := Lib.hid hl
    generalize hn : b.length = n
    have hna : a.length = n := by omega
    have HN := Lib.hid hn
    have HNA := Lib.hid hna
    rw [hna] at hm
    generalize hR : decide (a = b) = R
    have HR := Lib.hid hR
    rw [hna]
    clear h1 h2 hl hn hna hR
    go_enter Tryz.func24, Tryz.ntmps24
    go_wp2_with fail
    go_loopw [5] (fun i wr => ∃ k : Nat, k ≤ n ∧ i = .int .i64 k ∧ Hid (a.take k = b.take k) ∧ Below w.heap.size w wr) (fun i _ => n - (intOf i).toNat)
    case atStart => exact ⟨0, Nat.zero_le _, rfl, Lib.hid rfl, Below.refl _ _⟩
    case round =>
      obtain ⟨k, hk, rfl, HK, hbw⟩ := hrel
      by_cases hlt : k < n
      · have hlt' : (k : Int) < n := by omega
        obtain ⟨b1, o1, rfl, hin1, hz1⟩ := H1.out.at_lt (by rw [HNA.out]; exact hlt)
        obtain ⟨b2, o2, rfl, hin2, hz2⟩ := H2.out.at_lt (by rw [HN.out]; exact hlt)
        obtain ⟨x, hx⟩ : ∃ x, a[k]? = some x := ⟨_, List.getElem?_eq_getElem (by rw [HNA.out]; exact hlt)⟩
        obtain ⟨y, hy⟩ : ∃ y, b[k]? = some y := ⟨_, List.getElem?_eq_getElem (by rw [HN.out]; exact hlt)⟩
        obtain ⟨x0, x1⟩ := ValE.at2 (hin1.below hbw (fun _ => hz1)) hx
        obtain ⟨y0, y1⟩ := ValE.at2 (hin2.below hbw (fun _ => hz2)) hy
        have hne : Hid (x ≠ y → R = false) := Lib.hid fun hf => by
          rw [← HR.out]
          exact decide_eq_false fun e => hf (by rw [e, hy] at hx; exact (Option.some.inj hx).symm)
        have heq : Hid (x = y → a.take (k + 1) = b.take (k + 1)) := Lib.hid fun hf => by
          rw [List.take_add_one, List.take_add_one, HK.out, hx, hy, hf]
        clear hx hy hin1 hin2
        obtain ⟨xk, xn⟩ := x
        obtain ⟨yk, yn⟩ := y
        dsimp only at x0 x1 y0 y1
        by_cases hkk : xk = yk
        · subst hkk
          by_cases hnn : xn = yn
          · subst hnn
            have HK1 := Lib.hid (heq.out rfl)
            clear heq hne HK
            go_wp2_with fail
            go_region
            go_wp2_with fail
            go_roundw
            case rel => exact ⟨k + 1, by omega, by go_num, HK1, hbw.drew⟩
            case measure => simp [intOf]; omega
          · have hnn' : (xn == yn) = false := beq_eq_false_iff_ne.2 hnn
            have HK1 := Lib.hid (hne.out (by simp [hnn]))
            clear heq hne HK hnn
            go_wp2_with fail
            go_region
            go_wp2_with fail
            go_ret
            exact ⟨by rw [HK1.out]; rfl, hbw.drew⟩
        · have hkk' : (xk == yk) = false := beq_eq_false_iff_ne.2 hkk
          have HK1 := Lib.hid (hne.out (by simp [hkk]))
          clear heq hne HK hkk
          go_wp2_with fail
          go_region
          go_wp2_with fail
          go_ret
          exact ⟨by rw [HK1.out]; rfl, hbw.drew⟩
      · have hlt' : ¬ (k : Int) < n := by omega
        have HE : Hid (R = true) := Lib.hid (by
          rw [← HR.out]
          refine decide_eq_true ?_
          have e := HK.out
          rwa [List.take_of_length_le (by rw [HNA.out]; omega), List.take_of_length_le (by rw [HN.out]; omega)] at e)
        go_wp2
        go_ret
        exact ⟨by rw [HE.out]; rfl, hbw⟩
  · rw [decide_eq_false (fun e => hl (by rw [e]))]
    have hl' : ((a.length : Int) == b.length) = false := beq_eq_false_iff_ne.2 (by omega)
    generalize a.length = n at hl'
    generalize b.length = m at hl'
    clear h1 h2 hl hm
    go_enter Tryz.func24, Tryz.ntmps24
    go_wp2
    go_ret
    exact ⟨rfl, Below.refl _ _⟩
end Go.Proofs.YtacggbpgillbaaaGreatDoor
