/- Layer 5, plainly: what each of its laws asks. -/
import Derived.Test.YthagelnimmfhbaaRg
namespace Rg

theorem missK_nil {l : List Pt} {s : Int} : ∀ {k : Nat}, missK l s k = [] ↔ ∀ i, i < k → how l s ((i : Int) - 200) = 0
  | 0 => by simp [missK]
  | k + 1 => by
    rw [missK, List.append_eq_nil_iff, missK_nil]
    constructor
    · rintro ⟨h1, h2⟩ i hi
      rcases Nat.lt_or_ge i k with h | h
      · exact h1 i h
      · have : i = k := by omega
        subst this
        by_cases hh : how l s ((i : Int) - 200) = 0
        · exact hh
        · rw [if_neg hh] at h2; cases h2
    · intro h
      exact ⟨fun i hi => h i (by omega), if_pos (h k (by omega))⟩

theorem mem_sizesK (l : List Pt) : ∀ (k n : Nat), n ∈ sizesK l k ↔ n < k ∧ right l n = true
  | 0, n => by simp [sizesK]
  | k + 1, n => by
    rw [sizesK, List.mem_append, mem_sizesK l k n]
    by_cases hr : right l k = true
    · rw [if_pos hr]
      constructor
      · rintro (⟨h1, h2⟩ | h)
        · exact ⟨by omega, h2⟩
        · simp at h; subst h; exact ⟨by omega, hr⟩
      · rintro ⟨h1, h2⟩
        rcases Nat.lt_or_ge n k with h | h
        · exact .inl ⟨h, h2⟩
        · right; simp; omega
    · rw [if_neg hr]
      constructor
      · rintro (⟨h1, h2⟩ | h)
        · exact ⟨by omega, h2⟩
        · simp at h
      · rintro ⟨h1, h2⟩
        rcases Nat.lt_or_ge n k with h | h
        · exact .inl ⟨h, h2⟩
        · have : n = k := by omega
          subst this; exact absurd h2 hr
theorem mem_sizes (l : List Pt) (n : Nat) : n ∈ sizes l ↔ n ≤ 100 ∧ right l n = true := by
  unfold sizes; rw [mem_sizesK]
  exact ⟨fun h => ⟨by omega, h.2⟩, fun h => ⟨by omega, h.2⟩⟩
theorem sizesK_len (l : List Pt) : ∀ k, (sizesK l k).length ≤ k
  | 0 => by simp [sizesK]
  | k + 1 => by
    have := sizesK_len l k
    rw [sizesK, List.length_append]
    split <;> simp <;> omega
theorem sizesK_lt (l : List Pt) (k : Nat) : ∀ n ∈ sizesK l k, n < k := fun n h => ((mem_sizesK l k n).1 h).1
theorem missK_len (l : List Pt) (s : Int) : ∀ k, (missK l s k).length ≤ k
  | 0 => by simp [missK]
  | k + 1 => by
    have := missK_len l s k
    rw [missK, List.length_append]
    split <;> simp <;> omega

/-- so many sizes are right, if all from one on are -/
theorem sizesK_many (l : List Pt) (n : Nat) : ∀ k, (∀ j, n ≤ j → j < k → right l j = true) → k - n ≤ (sizesK l k).length
  | 0, _ => by simp
  | k + 1, h => by
    have ih := sizesK_many l n k (fun j h1 h2 => h j h1 (by omega))
    rw [sizesK, List.length_append]
    rcases Nat.lt_or_ge k n with hk | hk
    · omega
    · rw [if_pos (h k hk (by omega))]
      simp; omega
/-- the last one of the sizes is below the greatest, if that one is not right -/
theorem last_below (S : List Nat) (hm : ∀ n ∈ S, n ≤ 100 ∧ n ≠ 100) : S = [] ∨ ∃ n, S[S.length - 1]? = some n ∧ n < 100 := by
  by_cases he : S = []
  · exact .inl he
  · right
    have hl : 0 < S.length := List.length_pos_iff.2 he
    refine ⟨S[S.length - 1], List.getElem?_eq_getElem (by omega), ?_⟩
    have := hm _ (List.getElem_mem (l := S) (n := S.length - 1) (by omega))
    omega
theorem sizes_last (l : List Pt) (h : right l (100 : Nat) = false) : sizes l = [] ∨ ∃ n, (sizes l)[(sizes l).length - 1]? = some n ∧ n < 100 :=
  last_below _ fun n hn => by
    have hm := (mem_sizes l n).1 hn
    refine ⟨hm.1, fun e => ?_⟩
    have h2 := hm.2
    rw [e, h] at h2
    cases h2

theorem headOr_nil {s : Nat} {a : Option (Nat × Int × Nat)} {M : List (Int × Nat)} (h : M.isEmpty = true) : headOr s a M = a := by
  cases M with
  | nil => rfl
  | cons _ _ => cases h
theorem headOr_cons {s : Nat} {a : Option (Nat × Int × Nat)} {M : List (Int × Nat)} (h : M.isEmpty = false) : ∃ c k, headOr s a M = some (s, c, k) := by
  cases M with
  | nil => cases h
  | cons x _ => exact ⟨x.1, x.2, rfl⟩
theorem firstK_none (l : List Pt) : ∀ (f s : Nat), (∀ j, s ≤ j → j < s + f → right l j = true) → firstK l f s = none
  | 0, _, _ => rfl
  | f + 1, s, h => (headOr_nil (h s (Nat.le_refl _) (by omega))).trans (firstK_none l f (s + 1) (fun j h1 h2 => h j (by omega) (by omega)))
theorem first_none (l : List Pt) (s : Nat) (h : ∀ j, s ≤ j → j ≤ 100 → right l j = true) : first l s = none :=
  firstK_none l _ s (fun j h1 h2 => h j h1 (by omega))
theorem first_some (l : List Pt) (s : Nat) (hs : s ≤ 100) (h : right l s = false) : ∃ c k, first l s = some (s, c, k) := by
  obtain ⟨c, k, e⟩ := headOr_cons (s := s) (a := firstK l (100 - s) (s + 1)) h
  refine ⟨c, k, ?_⟩
  unfold first
  rw [show 101 - s = (100 - s) + 1 by omega]
  exact e
theorem least_spec (l : List Pt) : (∀ n, least l = some n → n ≤ 100 ∧ (∀ j, n ≤ j → j ≤ 100 → right l j = true) ∧ (0 < n → right l (n - 1 : Nat) = false)) ∧ (least l = none → right l (100 : Nat) = false) := by
  have h := leastK_spec l 100 101 none (fun _ h => by cases h) (fun _ => rfl) (fun j h1 h2 => by omega) (by omega)
  unfold least
  exact h

/-- SPLIT -/
theorem many_swap (l m r : List Pt) (s c : Int) : many (l ++ m ++ r) s c = many (l ++ r ++ m) s c := by
  simp only [many_append]; omega
theorem many_one (p : Pt) (s c : Int) : many [p] s c = if p.has s c then 1 else 0 := by
  unfold many
  rw [List.countP_cons]
  simp
theorem has_iff (p : Pt) (s c : Int) : (p.has s c = true) ↔ (p.lo.val s ≤ c ∧ c ≤ p.hi.val s ∧ (c - p.lo.val s) % p.step = 0) := by
  unfold Pt.has; simp
theorem many_one' (p : Pt) (s c : Int) : many [p] s c = if p.lo.val s ≤ c ∧ c ≤ p.hi.val s ∧ (c - p.lo.val s) % p.step = 0 then 1 else 0 := by
  rw [many_one]
  by_cases h : p.has s c = true
  · rw [if_pos h, if_pos ((has_iff p s c).1 h)]
  · rw [if_neg h, if_neg (fun h' => h ((has_iff p s c).2 h'))]
/-- the two that stand for a part that begins with a number -/
def Pt.halfA (p : Pt) (ev : Bool) : Pt := if ev then { p with step := 2 * p.step } else { p with hi := p.lo }
def Pt.halfB (p : Pt) (ev : Bool) : Pt := if ev then { p with lo := ⟨p.lo.size, p.lo.n + p.step⟩, step := 2 * p.step } else { p with lo := ⟨p.lo.size, p.lo.n + p.step⟩ }
theorem many_half (p : Pt) (ev : Bool) (hs : 1 ≤ p.step) (hn : p.lo.size = false) (s c : Int) (hc : p.lo.val s ≤ p.hi.val s) : many [p.halfA ev, p.halfB ev] s c = many [p] s c := by
  rw [show [p.halfA ev, p.halfB ev] = [p.halfA ev] ++ [p.halfB ev] from rfl, many_append, many_one', many_one', many_one']
  have hv : ∀ n, (Bd.mk p.lo.size n).val s = n := fun n => by unfold Bd.val; rw [hn]; rfl
  have hv2 : p.lo.val s = p.lo.n := by unfold Bd.val; rw [hn]; rfl
  cases ev with
  | true =>
    simp only [Pt.halfA, Pt.halfB, if_true, hv]
    exact (has_twice hs).symm
  | false =>
    simp only [Pt.halfA, Pt.halfB, Bool.false_eq_true, if_false, hv]
    rw [hv2] at hc
    exact (has_head hs hc).symm
theorem many_split (l : List Pt) (i : Nat) (p : Pt) (hp : l[i]? = some p) (ev : Bool) (hs : 1 ≤ p.step) (hn : p.lo.size = false) (s : Int) (hc : p.lo.val s ≤ p.hi.val s) (c : Int) :
    many ((l.take i ++ l.drop (i + 1)) ++ [p.halfA ev, p.halfB ev]) s c = many l s c := by
  obtain ⟨hi, he⟩ := List.getElem?_eq_some_iff.1 hp
  have hl : l = l.take i ++ ([p] ++ l.drop (i + 1)) := by
    conv => lhs; rw [← List.take_append_drop i l, List.drop_eq_getElem_cons hi]
    rw [he]; rfl
  rw [many_append, many_half p ev hs hn s c hc]
  conv => rhs; rw [hl]
  simp only [many_append]; omega
theorem cells_ne (p : Pt) (s : Int) : p.cells s ≠ [] ↔ p.lo.val s ≤ p.hi.val s := by
  unfold Pt.cells
  rw [← List.length_pos_iff, run_len]
  unfold cnt
  split
  · rename_i h; exact ⟨fun _ => h, fun _ => Nat.succ_pos _⟩
  · rename_i h; exact ⟨fun h' => absurd h' (by omega), fun h' => absurd h' h⟩

theorem slim_len (l : List Pt) : (slim l).length ≤ l.length := List.length_filter_le _ _
theorem slim_ok {l : List Pt} (hv : ∀ p ∈ l, p.ok = true) : ∀ p ∈ slim l, p.ok = true := fun p hp => hv p (List.mem_filter.1 hp).1
theorem valid_iff (l : List Pt) : valid l = true ↔ l.length ≤ 12 ∧ ∀ p ∈ l, p.ok = true := by
  unfold valid; simp [List.all_eq_true]
theorem valid_turn {l : List Pt} (h : valid l = true) (k : Nat) : valid (l.drop k ++ l.take k) = true := by
  rw [valid_iff] at h ⊢
  refine ⟨?_, fun p hp => ?_⟩
  · have := h.1
    simp only [List.length_append, List.length_drop, List.length_take]; omega
  · rcases List.mem_append.1 hp with h' | h'
    · exact h.2 p (List.mem_of_mem_drop h')
    · exact h.2 p (List.mem_of_mem_take h')
theorem valid_slim {l : List Pt} (h : valid l = true) : valid (slim l) = true := by
  rw [valid_iff] at h ⊢
  exact ⟨Nat.le_trans (slim_len l) h.1, slim_ok h.2⟩
theorem right_nat {l m : List Pt} (h : ∀ (k : Nat), k ≤ 100 → ∀ c, many l k c = many m k c) (k : Nat) (hk : k ≤ 100) : right l k = right m k := by
  unfold right; rw [misses_congr (h k hk)]
theorem sizesK_congr' {l m : List Pt} : ∀ (k : Nat), (∀ j, j < k → right l (j : Nat) = right m (j : Nat)) → sizesK l k = sizesK m k
  | 0, _ => rfl
  | k + 1, h => by rw [sizesK, sizesK, sizesK_congr' k (fun j hj => h j (by omega)), h k (by omega)]
theorem leastK_congr' {l m : List Pt} : ∀ (k : Nat), (∀ j, j < k → right l (j : Nat) = right m (j : Nat)) → ∀ b, leastK l k b = leastK m k b
  | 0, _, _ => rfl
  | k + 1, h, b => by rw [leastK, leastK, h k (by omega), leastK_congr' k (fun j hj => h j (by omega))]
theorem sizes_slim {l : List Pt} (h : valid l = true) : sizes (slim l) = sizes l :=
  sizesK_congr' 101 fun j hj => right_nat (fun k hk c => many_slim ((valid_iff l).1 h).2 hk c) j (by omega)
theorem least_slim {l : List Pt} (h : valid l = true) : least (slim l) = least l :=
  leastK_congr' 101 (fun j hj => right_nat (fun k hk c => many_slim ((valid_iff l).1 h).2 hk c) j (by omega)) none
theorem least_turn (l : List Pt) (k : Nat) : least (l.drop k ++ l.take k) = least l :=
  leastK_congr' 101 (fun j hj => right_nat (fun s hk c => many_turn l k s c) j (by omega)) none
theorem misses_turn (l : List Pt) (k : Nat) (s : Int) : misses (l.drop k ++ l.take k) s = misses l s := misses_congr fun c => many_turn l k s c
theorem misses_slim {l : List Pt} (h : valid l = true) {s : Nat} (hs : s ≤ 100) : misses (slim l) s = misses l s := misses_congr fun c => many_slim ((valid_iff l).1 h).2 hs c

/-- no cell lies further out -/
theorem cells_range {p : Pt} (h : p.ok = true) {s : Int} (h0 : 0 ≤ s) (h1 : s ≤ 109) : ∀ c ∈ p.cells s, -100 ≤ c ∧ c ≤ 109 := by
  intro c hc
  have hm := (p.mem_cells h s c).1 hc
  rw [has_iff] at hm
  have h2 := (p.ok_iff).1 h
  have hl := Bd.val_range (b := p.lo) (by simp [Bd.ok]; omega) h0 h1
  have hh := Bd.val_range (b := p.hi) (by simp [Bd.ok]; omega) h0 h1
  omega
theorem cells_len {p : Pt} (h : p.ok = true) {s : Int} (h0 : 0 ≤ s) (h1 : s ≤ 109) : (p.cells s).length ≤ 210 := by
  unfold Pt.cells
  rw [run_len]
  have h2 := (p.ok_iff).1 h
  have hl := Bd.val_range (b := p.lo) (by simp [Bd.ok]; omega) h0 h1
  have hh := Bd.val_range (b := p.hi) (by simp [Bd.ok]; omega) h0 h1
  rcases Nat.lt_or_ge 210 (cnt (p.lo.val s) (p.hi.val s) p.step) with h3 | h3
  · exfalso
    have h4 := (cnt_lt h2.2.2.1 210).1 h3
    have : (210 : Int) * 1 ≤ 210 * p.step := Int.mul_le_mul_of_nonneg_left h2.2.2.1 (by omega)
    have h5 : p.lo.val s + ((210 : Nat) : Int) * p.step ≤ p.hi.val s := h4
    have h6 : ((210 : Nat) : Int) * p.step = 210 * p.step := rfl
    omega
  · exact h3

end Rg
