/- The bare text of a text's tokens is no longer than the text, and its tokens are right: plainly. -/
import Derived.Test.YtkhgmoljhehbnaaDoorT1
namespace Lx

theorem run_min (p : UInt8 → Bool) : ∀ l m : B, run p l = min (run p (l ++ m)) l.length
  | [], m => by simp [run]
  | c :: r, m => by
    have := run_min p r m
    simp only [List.cons_append, run, List.length_cons]
    split <;> omega

theorem run_word_letter (l : B) : run isLetter l ≤ run wordByte l := by
  induction l with
  | nil => exact Nat.le_refl _
  | cons c r ih =>
    unfold run
    split
    · rename_i h; rw [if_pos (by simp [wordByte, h])]; omega
    · omega

theorem find_less {p q : B → Bool} {a : B} (hpq : ∀ x, q x = true → p x = true) (ha : q a = true) : ∀ l : List B, l.find? p = some a → l.find? q = some a
  | [], h => by simp at h
  | x :: r, h => by
    rw [List.find?_cons] at h ⊢
    by_cases hx : p x = true
    · rw [hx] at h; simp only [Option.some.injEq] at h; subst h; rw [ha]
    · have hq : q x = false := by cases hh : q x with | false => rfl | true => exact absurd (hpq x hh) hx
      rw [hq]
      have hx' : p x = false := by simpa using hx
      rw [hx'] at h
      exact find_less hpq ha r h

theorem hasPrefix_less {a m r x : B} (h : hasPrefix (a ++ m) x = true) : hasPrefix (a ++ (m ++ r)) x = true := by
  unfold hasPrefix at h ⊢
  rw [beq_iff_eq] at h ⊢
  have hl : x.length ≤ (a ++ m).length := by
    have := congrArg List.length h
    rw [List.length_take] at this
    omega
  rw [← List.append_assoc, List.take_append_of_le_length hl]
  exact h
theorem hasPrefix_self (a m : B) : hasPrefix (a ++ m) a = true := by unfold hasPrefix; simp

/-- a token stays, if less stands behind it -/
theorem tok_stay {a m r : B} {k : Nat} (h : tok (a ++ (m ++ r)) = some (k, a)) : tok (a ++ m) = some (k, a) := by
  obtain ⟨_, hpos, _, _, _⟩ := tok_prefix h
  have key : ∀ p, run p (a ++ m) = min (run p (a ++ (m ++ r))) (a ++ m).length := fun p => by
    have := run_min p (a ++ m) r
    rwa [List.append_assoc] at this
  have hlen : a.length ≤ (a ++ m).length := by simp
  unfold tok tokOf at h ⊢
  by_cases h1 : 0 < run isLetter (a ++ (m ++ r))
  · rw [if_pos h1] at h
    rw [if_pos (by rw [key]; omega)]
    have ht : (a ++ (m ++ r)).take (run wordByte (a ++ (m ++ r))) = a := by
      simp only at h
      split at h
      · simp only [Option.some.injEq, Prod.mk.injEq] at h; exact h.2
      · split at h
        · cases h
        · simp only [Option.some.injEq, Prod.mk.injEq] at h; exact h.2
    have hn : run wordByte (a ++ (m ++ r)) = a.length := by
      have := congrArg List.length ht
      rw [List.length_take, Nat.min_eq_left (run_le _ _)] at this
      exact this
    have hn2 : run wordByte (a ++ m) = a.length := by rw [key, hn]; omega
    have ht2 : (a ++ m).take (run wordByte (a ++ m)) = a := by rw [hn2]; simp
    simp only [ht, ht2] at h ⊢
    exact h
  · rw [if_neg h1] at h
    rw [if_neg (by rw [key]; omega)]
    by_cases h2 : 0 < run isDigit (a ++ (m ++ r))
    · rw [if_pos h2] at h
      rw [if_pos (by rw [key]; omega)]
      have ht : (a ++ (m ++ r)).take (run isDigit (a ++ (m ++ r))) = a := by
        simp only at h
        split at h
        · simp only [Option.some.injEq, Prod.mk.injEq] at h; exact h.2
        · cases h
      have hn : run isDigit (a ++ (m ++ r)) = a.length := by
        have := congrArg List.length ht
        rw [List.length_take, Nat.min_eq_left (run_le _ _)] at this
        exact this
      have hn2 : run isDigit (a ++ m) = a.length := by rw [key, hn]; omega
      have ht2 : (a ++ m).take (run isDigit (a ++ m)) = a := by rw [hn2]; simp
      simp only [ht, ht2] at h ⊢
      exact h
    · rw [if_neg h2] at h
      rw [if_neg (by rw [key]; omega)]
      unfold signOf at h ⊢
      cases hf : signs.find? (hasPrefix (a ++ (m ++ r))) with
      | none => rw [hf] at h; cases h
      | some x =>
        rw [hf] at h
        simp only [Option.map_some, Option.some.injEq, Prod.mk.injEq] at h
        obtain ⟨rfl, rfl⟩ := h
        rw [find_less (p := hasPrefix (x ++ (m ++ r))) (q := hasPrefix (x ++ m)) (fun y hy => hasPrefix_less hy) (hasPrefix_self x m) _ hf]
        rfl
end Lx

namespace Go.Proofs.YtkhgmoljhehbnaaDoor
open Go.RowKit

theorem sepAt_append (ts : List LT) (x : LT) (k : Nat) (h : k < ts.length) : sepAt (ts ++ [x]) k = sepAt ts k := by
  cases k with
  | zero => rfl
  | succ j => simp only [sepAt]; rw [List.getElem?_append_left (by omega), List.getElem?_append_left h]
theorem txtAt_append (ts : List LT) (x : LT) (k : Nat) (h : k < ts.length) : txtAt (ts ++ [x]) k = txtAt ts k := by
  unfold txtAt; rw [List.getElem?_append_left h]
theorem bareN_append (ts : List LT) (x : LT) : ∀ k, k ≤ ts.length → bareN (ts ++ [x]) k = bareN ts k
  | 0, _ => rfl
  | k + 1, h => by rw [bareN, bareN, bareN_append ts x k (by omega), sepAt_append ts x k h, txtAt_append ts x k h]
theorem bareP_snoc (ts : List LT) (x : LT) : bareP (ts ++ [x]) = bareP ts ++ sepAt (ts ++ [x]) ts.length ++ x.text.data.toList := by
  unfold bareP
  rw [List.length_append, List.length_singleton, bareN, bareN_append ts x _ (Nat.le_refl _)]
  congr 1
  simp [txtAt]
theorem sepAt_le (ts : List LT) (k : Nat) : (sepAt ts k).length ≤ 1 := by
  cases k with
  | zero => simp [sepAt]
  | succ j =>
    simp only [sepAt]
    split
    · split <;> simp
    · simp

structure Lined (k : Nat) (l : Lx.B) (ts : List Lx.Tok) : Prop where
  ok : ∀ t ∈ ts, Lx.tok t.text = some (t.kind, t.text)
  le : (bareP (ts.map LT.of)).length ≤ k
  last : ts ≠ [] → (bareP (ts.map LT.of)).length < k ∨ ∃ r t, ts = r ++ [t] ∧ Lx.tok (t.text ++ l) = some (t.kind, t.text)

theorem of_data (t : Lx.Tok) : (LT.of t).text.data.toList = t.text := by simp [LT.of]

theorem Lined.tok {k : Nat} {l : Lx.B} {ts : List Lx.Tok} (h : Lined k l ts) {kd : Nat} {t : Lx.B} (ht : Lx.tok l = some (kd, t)) : Lined (k + t.length) (l.drop t.length) (ts ++ [⟨kd, t, k⟩]) := by
  obtain ⟨hp, hpos, hle, _, _⟩ := Lx.tok_prefix ht
  have hl : t ++ l.drop t.length = l := by rw [← hp, List.length_take, Nat.min_eq_left hle, List.take_append_drop]
  have ht0 : Lx.tok (t ++ ([] ++ l.drop t.length)) = some (kd, t) := by rw [List.nil_append, hl]; exact ht
  have ht1 : Lx.tok t = some (kd, t) := by have := Lx.tok_stay ht0; rwa [List.append_nil] at this
  have hb : (bareP ((ts ++ [⟨kd, t, k⟩] : List Lx.Tok).map LT.of)).length ≤ k + t.length := by
    rw [List.map_append, List.map_singleton, bareP_snoc, List.length_append, List.length_append, of_data]
    show _ + _ + t.length ≤ _
    have h1 := sepAt_le (ts.map LT.of ++ [LT.of ⟨kd, t, k⟩]) (ts.map LT.of).length
    have h2 := h.le
    by_cases hn : ts = []
    · subst hn; simp [sepAt, bareP, bareN]
    · rcases h.last hn with h3 | ⟨r, x, rfl, hx⟩
      · omega
      · have hs : sepAt ((r ++ [x] : List Lx.Tok).map LT.of ++ [LT.of ⟨kd, t, k⟩]) ((r ++ [x] : List Lx.Tok).map LT.of).length = [] := by
          have hst : Lx.tok (x.text ++ t) = some (x.kind, x.text) := by
            refine Lx.tok_stay (r := l.drop t.length) ?_
            rw [hl]; exact hx
          have hq : apartB (LT.of x).kind (LT.of x).text (LT.of ⟨kd, t, k⟩).text = false := by
            unfold apartB
            rw [of_data, of_data]
            show (!rightR x.kind _ (Lx.tok (x.text ++ t))) = false
            rw [hst]
            simp [rightR, sameB, optK, optS, LT.of]
          simp only [List.map_append, List.map_singleton, List.length_append, List.length_map, List.length_singleton]
          simp only [sepAt]
          rw [List.getElem?_append_left (by simp), List.getElem?_append_right (by simp), List.getElem?_append_right (by simp)]
          simp [hq]
        rw [hs, List.length_nil]; omega
  refine ⟨fun y hy => ?_, hb, fun _ => .inr ⟨ts, _, rfl, ?_⟩⟩
  · rcases List.mem_append.1 hy with hy | hy
    · exact h.ok y hy
    · rw [List.mem_singleton] at hy; subst hy; exact ht1
  · show Lx.tok (t ++ _) = _
    rw [hl]; exact ht
theorem Lined.gap {k : Nat} {l : Lx.B} {ts : List Lx.Tok} (h : Lined k l ts) {g : Nat} (hg : 0 < g) (l' : Lx.B) : Lined (k + g) l' ts :=
  ⟨h.ok, by have := h.le; omega, fun _ => .inl (by have := h.le; omega)⟩

theorem scan_lined : ∀ (fuel k : Nat) (l : Lx.B) (ts : List Lx.Tok) (gs : List (Nat × Nat)) (ts' : List Lx.Tok) (gs' : List (Nat × Nat)), Lx.scan fuel k l ts gs = .ok ts' gs' → Lined k l ts → (∀ t ∈ ts', Lx.tok t.text = some (t.kind, t.text)) ∧ (bareP (ts'.map LT.of)).length ≤ k + l.length
  | 0, k, l, ts, gs, ts', gs', h, hi => by
    simp only [Lx.scan, Lx.Res.ok.injEq] at h
    obtain ⟨rfl, rfl⟩ := h
    exact ⟨hi.ok, by have := hi.le; omega⟩
  | fuel + 1, k, l, ts, gs, ts', gs', h, hi => by
    rw [Lx.scan] at h
    split at h
    · simp only [Lx.Res.ok.injEq] at h
      obtain ⟨rfl, rfl⟩ := h
      exact ⟨hi.ok, by have := hi.le; omega⟩
    · split at h
      · rename_i hg
        have := scan_lined fuel _ _ ts _ ts' gs' h (hi.gap hg _)
        have hgl := Lx.gap_le l
        refine ⟨this.1, ?_⟩
        have h2 := this.2
        rw [List.length_drop] at h2
        omega
      · split at h
        · cases h
        · rename_i kd t hq
          split at h
          · cases h
          · have := scan_lined fuel _ _ _ gs ts' gs' h (hi.tok hq)
            have hl := (Lx.tok_prefix hq).2.2.1
            refine ⟨this.1, ?_⟩
            have h2 := this.2
            rw [List.length_drop] at h2
            omega

theorem read_lined {l : Lx.B} {ts : List Lx.Tok} {gs : List (Nat × Nat)} (h : Lx.read l = .ok ts gs) : (∀ t ∈ ts, Lx.tok t.text = some (t.kind, t.text)) ∧ (bareP (ts.map LT.of)).length ≤ l.length ∧ l.length ≤ 2500 := by
  unfold Lx.read at h
  split at h
  · rename_i hc
    have := scan_lined _ _ _ _ _ _ _ h ⟨by simp, by simp [bareP, bareN], fun e => absurd rfl e⟩
    exact ⟨this.1, by have := this.2; omega, check_lt l hc⟩
  · cases h

/-- the bare text of what was read is written -/
theorem write_read {l : Lx.B} {ts : List Lx.Tok} {gs : List (Nat × Nat)} (h : Lx.read l = .ok ts gs) : writeP (ts.map LT.of) = (bareP (ts.map LT.of), 0) := by
  obtain ⟨h1, h2, h3⟩ := read_lined h
  have hs := (read_small l).2
  rw [h] at hs
  have hs' : ts.length ≤ 900 := hs
  unfold writeP
  have hall : (ts.map LT.of).all rightL = true := by
    rw [List.all_eq_true]
    intro x hx
    obtain ⟨t, ht, rfl⟩ := List.mem_map.1 hx
    unfold rightL rightB
    rw [of_data, h1 t ht]
    simp [rightR, sameB, optK, optS, LT.of]
  rw [if_neg (by simp; omega), hall, if_neg (by simp), if_neg (by omega)]
end Go.Proofs.YtkhgmoljhehbnaaDoor
