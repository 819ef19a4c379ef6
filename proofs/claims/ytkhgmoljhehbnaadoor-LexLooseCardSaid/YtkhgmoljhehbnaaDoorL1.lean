/- Plain lemmas on tokens: a text that is one token; two tokens in a row. -/
import Derived.Test.YtkhgmoljhehbnaaDoorK2
namespace Go.Proofs.YtkhgmoljhehbnaaDoor
open Go.RowKit

/-- what is known of a text that is a token -/
structure Whole (l : Lx.B) : Prop where
  pos : 0 < l.length
  len : l.length ≤ 2500 / 2
  ok : Lx.run Lx.okByte l = l.length
  gap : ∀ m, Lx.gap (l ++ m) = 0

theorem run_all (p : UInt8 → Bool) : ∀ l : Lx.B, l.all p = true → Lx.run p l = l.length
  | [], _ => rfl
  | c :: r, h => by
    rw [List.all_cons, Bool.and_eq_true] at h
    rw [Lx.run, if_pos h.1, run_all p r h.2, List.length_cons]
theorem all_run (p : UInt8 → Bool) : ∀ l : Lx.B, l.length ≤ Lx.run p l → l.all p = true
  | [], _ => rfl
  | c :: r, h => by
    rw [Lx.run] at h
    rw [List.all_cons, Bool.and_eq_true]
    split at h
    · rename_i hc; exact ⟨hc, all_run p r (by simpa using h)⟩
    · simp at h
theorem all_imp {p q : UInt8 → Bool} (h : ∀ c, p c = true → q c = true) {l : Lx.B} (hl : l.all p = true) : l.all q = true := by
  rw [List.all_eq_true] at hl ⊢
  exact fun x hx => h x (hl x hx)
theorem run_append (p : UInt8 → Bool) : ∀ (l m : Lx.B), Lx.run p l = l.length → Lx.run p (l ++ m) = l.length + Lx.run p m
  | [], m, _ => by simp
  | c :: r, m, h => by
    rw [Lx.run] at h
    split at h
    · rename_i hc
      rw [List.cons_append, Lx.run, if_pos hc, run_append p r m (by simpa using h), List.length_cons]; omega
    · simp at h

theorem letter_ok (c : UInt8) (h : Lx.isLetter c = true) : Lx.okByte c = true ∧ Lx.gapByte c = false ∧ c.toNat ≠ 126 := by
  simp [Lx.isLetter, Lx.okByte, Lx.isPrinted, Lx.gapByte, Lx.isBlank, Lx.isFeed] at h ⊢
  omega
theorem digit_ok (c : UInt8) (h : Lx.isDigit c = true) : Lx.okByte c = true ∧ Lx.gapByte c = false ∧ c.toNat ≠ 126 := by
  simp [Lx.isDigit, Lx.okByte, Lx.isPrinted, Lx.gapByte, Lx.isBlank, Lx.isFeed] at h ⊢
  omega
theorem word_ok (c : UInt8) (h : Lx.wordByte c = true) : Lx.okByte c = true := by
  unfold Lx.wordByte at h
  rw [Bool.or_eq_true] at h
  exact h.elim (fun h => (letter_ok c h).1) (fun h => (digit_ok c h).1)

theorem gap_head {c : UInt8} {r : Lx.B} (hb : Lx.gapByte c = false) (h : c.toNat ≠ 126) (m : Lx.B) : Lx.gap ((c :: r) ++ m) = 0 := by
  rw [List.cons_append]; exact Lx.gap_none c _ h hb

theorem signs_ok : ∀ t ∈ Lx.signs, 0 < t.length ∧ t.length ≤ 2500 / 2 ∧ t.all Lx.okByte = true ∧ (match t with | [] => false | c :: _ => !Lx.gapByte c && decide (c.toNat ≠ 126)) = true := by decide

theorem val_big : ∀ (l : Lx.B) (n : Nat), n * 10 ^ l.length ≤ Lx.val n l
  | [], n => by simp [Lx.val]
  | c :: r, n => by
    have h := val_big r (10 * n + (c.toNat - 48))
    rw [List.length_cons, Nat.pow_succ]
    have e : Lx.val n (c :: r) = Lx.val (10 * n + (c.toNat - 48)) r := rfl
    rw [e]
    have h2 : n * (10 ^ r.length * 10) ≤ (10 * n + (c.toNat - 48)) * 10 ^ r.length := by
      rw [show n * (10 ^ r.length * 10) = 10 * n * 10 ^ r.length by rw [Nat.mul_comm (10 ^ r.length) 10, ← Nat.mul_assoc, Nat.mul_comm n 10]]
      exact Nat.mul_le_mul_right _ (Nat.le_add_right _ _)
    omega

theorem numOk_len (l : Lx.B) (hd : l.all Lx.isDigit = true) (h : Lx.numOk l = true) : l.length ≤ 2500 / 2 := by
  cases l with
  | nil => simp
  | cons c r =>
    unfold Lx.numOk at h
    simp only [Bool.and_eq_true, decide_eq_true_eq, Bool.not_eq_true'] at h
    obtain ⟨h1, h2⟩ := h
    rcases Nat.lt_or_ge r.length 1 with hr | hr
    · simp; omega
    · have hc : c ≠ 48 := by
        intro e; subst e
        rw [Bool.and_eq_false_iff] at h2
        rcases h2 with h2 | h2
        · rw [decide_eq_false_iff_not, List.length_cons] at h2; omega
        · simp at h2
      have hdc : Lx.isDigit c = true := by rw [List.all_cons, Bool.and_eq_true] at hd; exact hd.1
      have hcn : 49 ≤ c.toNat := by
        have h48 : c.toNat ≠ 48 := fun e => hc (by apply UInt8.toNat_inj.1; rw [e]; rfl)
        simp [Lx.isDigit] at hdc
        omega
      have hv : Lx.digitVal (c :: r) = Lx.val (10 * 0 + (c.toNat - 48)) r := rfl
      have hb := val_big r (10 * 0 + (c.toNat - 48))
      rw [hv] at h1
      rcases Nat.lt_or_ge r.length 11 with hr2 | hr2
      · simp; omega
      · exfalso
        have hp : 10 ^ 11 ≤ 10 ^ r.length := Nat.pow_le_pow_right (by decide) hr2
        have : 10 ^ r.length ≤ (10 * 0 + (c.toNat - 48)) * 10 ^ r.length := Nat.le_mul_of_pos_left _ (by omega)
        omega

theorem whole_of_tok {l : Lx.B} {k : Nat} (h : Lx.tok l = some (k, l)) : Whole l := by
  obtain ⟨hp1, hp2, hp3, _, _⟩ := Lx.tok_prefix h
  unfold Lx.tok Lx.tokOf at h
  split at h
  · rename_i hl
    obtain ⟨c, r, rfl⟩ := List.exists_cons_of_ne_nil (List.length_pos_iff.1 hp2)
    have hc : Lx.isLetter c = true := by
      rw [Lx.run] at hl
      split at hl
      · assumption
      · omega
    have hlk := letter_ok c hc
    have ht : (c :: r).take (Lx.run Lx.wordByte (c :: r)) = c :: r ∧ (c :: r).length ≤ 2500 / 2 := by
      simp only at h
      split at h
      · rename_i hk
        simp only [Option.some.injEq, Prod.mk.injEq] at h
        rw [h.2] at hk
        have := kw_short (c :: r) (by simpa using hk)
        exact ⟨h.2, by omega⟩
      · split at h
        · cases h
        · rename_i h12
          simp only [Option.some.injEq, Prod.mk.injEq] at h
          rw [h.2] at h12
          exact ⟨h.2, by omega⟩
    have hall : (c :: r).all Lx.wordByte = true := all_run _ _ (by
      have := congrArg List.length ht.1
      rw [List.length_take] at this
      omega)
    exact ⟨hp2, ht.2, run_all _ _ (all_imp word_ok hall), gap_head hlk.2.1 hlk.2.2⟩
  · split at h
    · rename_i hl
      obtain ⟨c, r, rfl⟩ := List.exists_cons_of_ne_nil (List.length_pos_iff.1 hp2)
      have hc : Lx.isDigit c = true := by
        rw [Lx.run] at hl
        split at hl
        · assumption
        · omega
      have hlk := digit_ok c hc
      simp only at h
      split at h
      · rename_i hn
        simp only [Option.some.injEq, Prod.mk.injEq] at h
        rw [h.2] at hn
        have hall : (c :: r).all Lx.isDigit = true := all_run _ _ (by
          have := congrArg List.length h.2
          rw [List.length_take] at this
          omega)
        exact ⟨hp2, numOk_len _ hall hn, run_all _ _ (all_imp (fun c h => (digit_ok c h).1) hall), gap_head hlk.2.1 hlk.2.2⟩
      · cases h
    · unfold Lx.signOf at h
      cases hf : Lx.signs.find? (Lx.hasPrefix l) with
      | none => rw [hf] at h; cases h
      | some t =>
        rw [hf] at h
        simp only [Option.map_some, Option.some.injEq, Prod.mk.injEq] at h
        have hm := List.mem_of_find?_eq_some hf
        rw [h.2] at hm
        obtain ⟨h1, h2, h3, h4⟩ := signs_ok l hm
        refine ⟨h1, h2, run_all _ _ h3, ?_⟩
        cases l with
        | nil => simp at h1
        | cons c r =>
          simp only [Bool.and_eq_true, Bool.not_eq_true', decide_eq_true_eq] at h4
          exact gap_head h4.1 h4.2

end Go.Proofs.YtkhgmoljhehbnaaDoor
