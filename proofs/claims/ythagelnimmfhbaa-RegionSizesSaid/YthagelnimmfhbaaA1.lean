/- Layer 5, the program: isSize, kindOf, value, valid's closure, has, walked. -/
import Derived.Test.YthagelnimmfhbaaRo
namespace Go.Proofs.Ythagelnimmfhbaa
open Go.RowKit Go.El

theorem isSize_any (n : Int) (w : World) : Calls Try.prog 53 #[.int .i64 n] w fun e w' => e = .returned (.bool (decide (0 ≤ n) && decide (n ≤ 100))) ∧ w = w' := by
  by_cases h1 : 0 ≤ n
  · by_cases h2 : n ≤ 100
    · go_enter Try.func53, Try.ntmps53
      go_wp2
      go_ret
      exact ⟨by rw [decide_eq_true h1, decide_eq_true h2]; rfl, rfl⟩
    · go_enter Try.func53, Try.ntmps53
      go_wp2
      go_ret
      exact ⟨by simp [h2], rfl⟩
  · go_enter Try.func53, Try.ntmps53
    go_wp2
    go_ret
    exact ⟨by rw [decide_eq_false (Int.not_le.2 h1)]; rfl, rfl⟩

def kindI (c n s : Int) : Int := if c < 0 ∨ s ≤ c then 3 else if n = 0 then 1 else if 1 < n then 2 else 0
theorem kindOf_any (c n s : Int) (w : World) : Calls Try.prog 58 #[.int .i64 c, .int .i64 n, .int .i64 s] w fun e w' => e = .returned (.int .u8 (kindI c n s)) ∧ w = w' := by
  by_cases h1 : c < 0
  · rw [show kindI c n s = 3 from if_pos (.inl h1)]
    go_enter Try.func58, Try.ntmps58
    go_wp2
    go_ret
    exact ⟨rfl, rfl⟩
  · by_cases h2 : s ≤ c
    · rw [show kindI c n s = 3 from if_pos (.inr h2)]
      go_enter Try.func58, Try.ntmps58
      go_wp2
      go_ret
      exact ⟨rfl, rfl⟩
    · have h12 : ¬ (c < 0 ∨ s ≤ c) := by omega
      by_cases h3 : n = 0
      · rw [show kindI c n s = 1 by unfold kindI; rw [if_neg h12, if_pos h3]]
        subst h3
        clear h12
        go_enter Try.func58, Try.ntmps58
        go_wp2
        go_ret
        exact ⟨rfl, rfl⟩
      · have h3' : (n == 0) = false := by simp [h3]
        by_cases h4 : 1 < n
        · rw [show kindI c n s = 2 by unfold kindI; rw [if_neg h12, if_neg h3, if_pos h4]]
          clear h12
          go_enter Try.func58, Try.ntmps58
          go_wp2
          go_ret
          exact ⟨rfl, rfl⟩
        · rw [show kindI c n s = 0 by unfold kindI; rw [if_neg h12, if_neg h3, if_neg h4]]
          clear h12
          go_enter Try.func58, Try.ntmps58
          go_wp2
          go_ret
          exact ⟨rfl, rfl⟩

/-- a part with a size -/
def szC (p : Rg.Pt) (s : Int) : List Value := [.bool p.lo.size, .int .i64 p.lo.n, .bool p.hi.size, .int .i64 p.hi.n, .int .i64 p.step, .int .i64 s]
/-- a size less a number fits -/
theorem svalue_any (p : Rg.Pt) (b : Rg.Bd) (s : Int) (hb : b.ok = true) (h0 : -1000 ≤ s) (h1 : s ≤ 1000) (w : World) :
    Calls Try.prog 56 #[.agg (szC p s).toArray, .agg #[.bool b.size, .int .i64 b.n]] w fun e w' => e = .returned (.int .i64 (b.val s)) ∧ Below w.heap.size w w' := by
  obtain ⟨z, n⟩ := b
  simp [Rg.Bd.ok] at hb
  obtain ⟨hn0, hn1⟩ := hb
  unfold szC
  cases z with
  | true =>
    go_enter Try.func56, Try.ntmps56
    go_wp2
    go_ret
    exact ⟨rfl, ((Below.refl _ _).alloc (Nat.le_refl _) _).alloc (by simp) _⟩
  | false =>
    go_enter Try.func56, Try.ntmps56
    go_wp2
    go_ret
    exact ⟨rfl, ((Below.refl _ _).alloc (Nat.le_refl _) _).alloc (by simp) _⟩

theorem valid1_any (p : Rg.Pt) (w : World) : Calls Try.prog 62 #[.agg (ptC p).toArray] w fun e w' => e = .returned (.bool (!p.ok)) ∧ Below w.heap.size w w' := by
  have hok : p.ok = (p.lo.ok && p.hi.ok && (decide (1 ≤ p.step) && decide (p.step ≤ 9))) := rfl
  have h1 : ∀ W, Calls Try.prog 53 #[.int .i64 p.lo.n] W fun e w' => e = .returned (.bool p.lo.ok) ∧ W = w' := fun W => isSize_any p.lo.n W
  have h2 : ∀ W, Calls Try.prog 53 #[.int .i64 p.hi.n] W fun e w' => e = .returned (.bool p.hi.ok) ∧ W = w' := fun W => isSize_any p.hi.n W
  unfold ptC
  rw [hok]
  generalize p.lo.ok = q1 at *
  generalize p.hi.ok = q2 at *
  generalize p.step = st at *
  have H1 := Lib.hid h1
  have H2 := Lib.hid h2
  clear h1 h2 hok
  by_cases k1 : st < 1
  · have k1' : decide (1 ≤ st) = false := decide_eq_false (by omega)
    rw [k1']
    go_enter Try.func62, Try.ntmps62
    go_wp2
    go_ret
    exact ⟨by simp, (Below.refl _ _).alloc (Nat.le_refl _) _⟩
  · by_cases k2 : 9 < st
    · have k2' : decide (st ≤ 9) = false := decide_eq_false (by omega)
      rw [k2']
      go_enter Try.func62, Try.ntmps62
      go_wp2
      go_ret
      exact ⟨by simp, (Below.refl _ _).alloc (Nat.le_refl _) _⟩
    · have k1' : decide (1 ≤ st) = true := decide_eq_true (by omega)
      have k2' : decide (st ≤ 9) = true := decide_eq_true (by omega)
      rw [k1', k2']
      clear k1' k2'
      cases q1 with
      | false =>
        go_enter Try.func62, Try.ntmps62
        go_wp2_with fail
        refine (H1.out _).mono ?_
        rintro e w1 ⟨rfl, rfl⟩
        go_wp2
        go_ret
        exact ⟨rfl, (Below.refl _ _).alloc (Nat.le_refl _) _⟩
      | true =>
        cases q2 with
        | false =>
          go_enter Try.func62, Try.ntmps62
          go_wp2_with fail
          refine (H1.out _).mono ?_
          rintro e w1 ⟨rfl, rfl⟩
          go_wp2_with fail
          refine (H2.out _).mono ?_
          rintro e w1 ⟨rfl, rfl⟩
          go_wp2
          go_ret
          exact ⟨rfl, (Below.refl _ _).alloc (Nat.le_refl _) _⟩
        | true =>
          go_enter Try.func62, Try.ntmps62
          go_wp2_with fail
          refine (H1.out _).mono ?_
          rintro e w1 ⟨rfl, rfl⟩
          go_wp2_with fail
          refine (H2.out _).mono ?_
          rintro e w1 ⟨rfl, rfl⟩
          go_wp2
          go_ret
          exact ⟨rfl, (Below.refl _ _).alloc (Nat.le_refl _) _⟩

set_option maxRecDepth 100000 in
set_option maxHeartbeats 1000000 in
theorem shas_any (p : Rg.Pt) (hp : p.ok = true) (s c : Int) (h0 : 0 ≤ s) (h1 : s ≤ 109) (_ : -1000000 ≤ c) (_ : c ≤ 1000000) (w : World) :
    Calls Try.prog 66 #[.agg (szC p s).toArray, .int .i64 c] w fun e w' => e = .returned (.bool (p.has s c)) ∧ Below w.heap.size w w' := by
  have ho := (p.ok_iff).1 hp
  have hlo : p.lo.ok = true := by simp [Rg.Bd.ok]; omega
  have hhi : p.hi.ok = true := by simp [Rg.Bd.ok]; omega
  have hv1 := fun W => svalue_any p p.lo s hlo (by omega) (by omega) W
  have hv2 := fun W => svalue_any p p.hi s hhi (by omega) (by omega) W
  have r1 := Rg.Bd.val_range hlo h0 h1
  have r2 := Rg.Bd.val_range hhi h0 h1
  have hs1 : 1 ≤ p.step := ho.2.2.1
  have hs2 : p.step ≤ 9 := ho.2.2.2
  rw [has_val]
  unfold szC at *
  generalize p.lo.val s = a at *
  generalize p.hi.val s = b at *
  generalize p.step = st at *
  have HV1 := Lib.hid hv1
  have HV2 := Lib.hid hv2
  clear hv1 hv2 hlo hhi ho hp
  by_cases k1 : a ≤ c
  · have d1 : decide (a ≤ c) = true := decide_eq_true k1
    by_cases k2 : c ≤ b
    · have d2 : decide (c ≤ b) = true := decide_eq_true k2
      have k3 : 0 ≤ c - a := by omega
      rw [d1, d2, Bool.true_and, Bool.true_and]
      clear d1 d2
      by_cases k4 : (c - a) % st = 0
      all_goals
        go_enter Try.func66, Try.ntmps66
        go_wp2_with fail
        refine (HV1.out _).mono ?_
        rintro e w1 ⟨rfl, hb1⟩
        obtain ⟨hc1, hf1⟩ := bcell hb1
        have hz1 : w.heap.size < w1.heap.size := by have := hb1.size; simp at this; omega
        go_wp2_with fail
        refine (HV2.out _).mono ?_
        rintro e w2 ⟨rfl, hb2⟩
        obtain ⟨hc2, hf2⟩ := bcell hb2
        go_wp2
        go_ret
        exact ⟨by simp [k4], ((Below.refl _ _).alloc (Nat.le_refl _) _).trans ((hb1.mono (by simp)).trans (hb2.mono (by omega)))⟩
    · have d2 : decide (c ≤ b) = false := decide_eq_false k2
      rw [d2, Bool.false_and, Bool.and_false]
      go_enter Try.func66, Try.ntmps66
      go_wp2_with fail
      refine (HV1.out _).mono ?_
      rintro e w1 ⟨rfl, hb1⟩
      obtain ⟨hc1, hf1⟩ := bcell hb1
      have hz1 : w.heap.size < w1.heap.size := by have := hb1.size; simp at this; omega
      go_wp2_with fail
      refine (HV2.out _).mono ?_
      rintro e w2 ⟨rfl, hb2⟩
      obtain ⟨hc2, hf2⟩ := bcell hb2
      go_wp2
      go_ret
      exact ⟨rfl, ((Below.refl _ _).alloc (Nat.le_refl _) _).trans ((hb1.mono (by simp)).trans (hb2.mono (by omega)))⟩
  · have d1 : decide (a ≤ c) = false := decide_eq_false k1
    rw [d1, Bool.false_and]
    go_enter Try.func66, Try.ntmps66
    go_wp2_with fail
    refine (HV1.out _).mono ?_
    rintro e w1 ⟨rfl, hb1⟩
    obtain ⟨hc1, hf1⟩ := bcell hb1
    have hz1 : w.heap.size < w1.heap.size := by have := hb1.size; simp at this; omega
    go_wp2
    go_ret
    exact ⟨rfl, ((Below.refl _ _).alloc (Nat.le_refl _) _).trans (hb1.mono (by simp))⟩

end Go.Proofs.Ythagelnimmfhbaa
