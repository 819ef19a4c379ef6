/- Numbers in digits: what strconv.Atoi and Itoa make of them. -/
import Derived.Test.YtkhgmoljhehbnaaDoorPure
import Derived.Lib.AtoiAllCases
import Derived.Lib.ItoaNum
namespace Lx
open Go.Lib

def val (acc : Nat) (l : B) : Nat := l.foldl (fun n c => 10 * n + (c.toNat - 48)) acc
theorem val_eq (l : B) : digitVal l = val 0 l := rfl
theorem val_ge : ∀ (l : B) (acc : Nat), acc ≤ val acc l
  | [], _ => Nat.le_refl _
  | c :: r, acc => by
    have := val_ge r (10 * acc + (c.toNat - 48))
    simp only [val, List.foldl_cons] at this ⊢
    omega
theorem val_snoc (l : B) (c : UInt8) (acc : Nat) : val acc (l ++ [c]) = 10 * val acc l + (c.toNat - 48) := by simp [val, List.foldl_append]
def Dig (l : B) : Prop := ∀ c ∈ l, 48 ≤ c.toNat ∧ c.toNat ≤ 57

theorem parse_ok : ∀ (l : B) (acc : Nat), Dig l → val acc l < 18446744073709551616 → parseUint10 acc l = .ok (val acc l)
  | [], acc, _, _ => rfl
  | c :: r, acc, hd, hv => by
    have hc := hd c (by simp)
    have hg := val_ge r (10 * acc + (c.toNat - 48))
    have e : val acc (c :: r) = val (10 * acc + (c.toNat - 48)) r := rfl
    rw [e] at hv ⊢
    unfold parseUint10
    rw [if_pos hc, if_neg (by omega), if_neg (by omega), Nat.mul_comm acc 10]
    exact parse_ok r _ (fun d h => hd d (by simp [h])) hv

theorem parse_range : ∀ (l : B) (acc : Nat), Dig l → acc < 18446744073709551616 → 18446744073709551616 ≤ val acc l → parseUint10 acc l = .range
  | [], acc, _, ha, hv => by simp [val] at hv; omega
  | c :: r, acc, hd, ha, hv => by
    have hc := hd c (by simp)
    have e : val acc (c :: r) = val (10 * acc + (c.toNat - 48)) r := rfl
    rw [e] at hv
    unfold parseUint10
    rw [if_pos hc]
    by_cases h1 : 1844674407370955162 ≤ acc
    · rw [if_pos h1]
    · rw [if_neg h1]
      by_cases h2 : 18446744073709551616 ≤ acc * 10 + (c.toNat - 48)
      · rw [if_pos h2]
      · rw [if_neg h2, Nat.mul_comm acc 10]
        exact parse_range r _ (fun d h => hd d (by simp [h])) (by omega) hv

theorem atoi_ok (c : UInt8) (r : B) (hd : Dig (c :: r)) (hv : val 0 (c :: r) < 9223372036854775808) : atoiAll (c :: r) = .ok (val 0 (c :: r) : Int) := by
  have hc := hd c (by simp)
  rw [atoiAll_plain c r (by omega) (by omega), parseMag, if_neg (by simp), parse_ok _ _ hd (by omega)]
  simp only [signless]
  rw [if_neg (by omega)]

theorem atoi_range (c : UInt8) (r : B) (hd : Dig (c :: r)) (hv : 9223372036854775808 ≤ val 0 (c :: r)) : atoiAll (c :: r) = .range := by
  have hc := hd c (by simp)
  rw [atoiAll_plain c r (by omega) (by omega), parseMag, if_neg (by simp)]
  by_cases h : val 0 (c :: r) < 18446744073709551616
  · rw [parse_ok _ _ hd h]
    simp only [signless]
    rw [if_pos hv]
  · rw [parse_range _ _ hd (by omega) (by omega)]
    rfl

theorem snoc_ind {p : B → Prop} (h0 : p []) (h1 : ∀ l c, p l → p (l ++ [c])) : ∀ l, p l := fun l => by
  have : ∀ r : B, p r.reverse := fun r => by
    induction r with
    | nil => exact h0
    | cons c r ih => rw [List.reverse_cons]; exact h1 _ _ ih
  have := this l.reverse
  rwa [List.reverse_reverse] at this

theorem val_lt (l : B) : Dig l → val 0 l < 10 ^ l.length := by
  induction l using snoc_ind with
  | h0 => intro _; simp [val]
  | h1 l c ih =>
    intro hd
    have := ih (fun d h => hd d (by simp [h]))
    have hc := hd c (by simp)
    rw [val_snoc, List.length_append, List.length_singleton, Nat.pow_succ]
    omega

theorem val_pos (c : UInt8) (r : B) (h : 49 ≤ c.toNat) : 1 ≤ val 0 (c :: r) := by
  have := val_ge r (10 * 0 + (c.toNat - 48))
  have e : val 0 (c :: r) = val (10 * 0 + (c.toNat - 48)) r := rfl
  omega

theorem ofNat_dig (c : UInt8) (h1 : 48 ≤ c.toNat) (h2 : c.toNat ≤ 57) : UInt8.ofNat (48 + (c.toNat - 48)) = c := by
  rw [show 48 + (c.toNat - 48) = c.toNat from by omega]; exact UInt8.ofNat_toNat

theorem dec_ok (l : B) : Dig l → l ≠ [] → (1 < l.length → l.head? ≠ some 48) → decDigits (val 0 l) = l := by
  induction l using snoc_ind with
  | h0 => intro _ h; exact absurd rfl h
  | h1 l c ih =>
    intro hd _ hz
    have hc := hd c (by simp)
    rw [val_snoc]
    cases l with
    | nil =>
      rw [show 10 * val 0 [] + (c.toNat - 48) = c.toNat - 48 from by simp [val], decDigits_one (by omega), ofNat_dig c hc.1 hc.2]; rfl
    | cons a r =>
      have ha := hd a (by simp)
      have hne : a ≠ 48 := fun e => hz (by simp) (by subst e; rfl)
      have h49 : 49 ≤ a.toNat := by
        rcases Nat.lt_or_ge 48 a.toNat with h | h
        · omega
        · exfalso; apply hne; apply UInt8.toNat_inj.1; show a.toNat = 48; omega
      have hp := val_pos a r h49
      have hi := ih (fun d h => hd d (by simp at h ⊢; rcases h with h | h <;> simp [h])) (by simp) (fun _ e => hne (by simpa using e))
      rw [decDigits, dif_neg (by omega), show (10 * val 0 (a :: r) + (c.toNat - 48)) / 10 = val 0 (a :: r) from by omega, hi,
        show 48 + (10 * val 0 (a :: r) + (c.toNat - 48)) % 10 = 48 + (c.toNat - 48) from by omega, ofNat_dig c hc.1 hc.2]

theorem nDigits_le : ∀ (k u : Nat), u < 10 ^ (k + 1) → nDigits u ≤ k + 1
  | 0, u, h => by rw [nDigits_small (by simpa using h)]; omega
  | k + 1, u, h => by
    by_cases hu : u < 10
    · rw [nDigits_small hu]; omega
    · rw [nDigits_big hu]
      have := nDigits_le k (u / 10) (by rw [Nat.pow_succ] at h; omega)
      omega

theorem dec_bad (r : B) (hd : Dig (48 :: r)) (hr : r ≠ []) : decDigits (val 0 (48 :: r)) ≠ 48 :: r := by
  intro e
  have hv := val_lt r (fun d h => hd d (by simp [h]))
  have e2 : val 0 (48 :: r) = val 0 r := rfl
  have hl := decDigits_length (val 0 (48 :: r))
  rw [e, e2] at hl
  obtain ⟨k, hk⟩ : ∃ k, r.length = k + 1 := by
    cases r with
    | nil => exact absurd rfl hr
    | cons a b => exact ⟨b.length, by simp⟩
  rw [hk] at hv
  have := nDigits_le k _ hv
  simp only [List.length_cons] at hl
  omega

theorem itoa_nat (n : Nat) : itoa (n : Int) = decDigits n := by unfold itoa; rw [if_neg (by omega)]; simp

/-- what the code asks of a number -/
theorem numOk_iff (c : UInt8) (r : B) (hd : Dig (c :: r)) : numOk (c :: r) = (decide (val 0 (c :: r) ≤ 1000000000) && (itoa (val 0 (c :: r) : Int) == c :: r)) := by
  unfold numOk
  rw [val_eq, itoa_nat]
  congr 1
  by_cases h : 1 < (c :: r).length ∧ c = 48
  · obtain ⟨h1, rfl⟩ := h
    have hr : r ≠ [] := by intro e; subst e; simp at h1
    have := dec_bad r hd hr
    rw [beq_eq_false_iff_ne.2 this]
    simp at h1 ⊢
    exact h1
  · rw [dec_ok (c :: r) hd (by simp) (fun h1 e => h ⟨h1, by simpa using e⟩), beq_self_eq_true]
    by_cases h1 : 1 < (c :: r).length
    · have : c ≠ 48 := fun e => h ⟨h1, e⟩
      simp [this]
    · simp at h1 ⊢
      exact Or.inl h1

theorem run_dig (l : B) : Dig (l.take (run isDigit l)) := by
  intro c hc
  obtain ⟨i, hi, rfl⟩ := List.getElem_of_mem hc
  have hi' : i < run isDigit l := by simp at hi; omega
  obtain ⟨d, hd, hp⟩ := run_lt isDigit l i hi'
  have hl : i < l.length := by simp at hi; omega
  rw [List.getElem?_eq_getElem hl] at hd
  simp only [List.getElem_take]
  cases hd
  simpa [isDigit] using hp

end Lx
