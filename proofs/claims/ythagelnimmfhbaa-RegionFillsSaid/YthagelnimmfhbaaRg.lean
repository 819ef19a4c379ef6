/- The plain functions of layer 5: parts, their cells with a size, misses, sizes, least; and what follows of them. It imports nothing of the program. -/
namespace Rg

/-- a bound: a number, or the size less a number -/
structure Bd where
  size : Bool
  n : Int
deriving DecidableEq, Repr
structure Pt where
  lo : Bd
  hi : Bd
  step : Int
deriving DecidableEq, Repr

def Bd.ok (b : Bd) : Bool := decide (0 ≤ b.n) && decide (b.n ≤ 100)
def Pt.ok (p : Pt) : Bool := p.lo.ok && p.hi.ok && (decide (1 ≤ p.step) && decide (p.step ≤ 9))
def valid (l : List Pt) : Bool := decide (l.length ≤ 12) && l.all Pt.ok

theorem Pt.ok_iff (p : Pt) : p.ok = true ↔ (0 ≤ p.lo.n ∧ p.lo.n ≤ 100) ∧ (0 ≤ p.hi.n ∧ p.hi.n ≤ 100) ∧ 1 ≤ p.step ∧ p.step ≤ 9 := by
  simp [Pt.ok, Bd.ok, and_assoc]

def Bd.val (b : Bd) (s : Int) : Int := if b.size then s - b.n else b.n
theorem Bd.val_range {b : Bd} (h : b.ok = true) {s : Int} (h0 : 0 ≤ s) (h1 : s ≤ 109) : -100 ≤ b.val s ∧ b.val s ≤ 109 := by
  simp [Bd.ok] at h
  unfold Bd.val
  split <;> omega

/-- how many cells there are from a number to a number, in steps -/
def cnt (a b st : Int) : Nat := if a ≤ b then ((b - a) / st).toNat + 1 else 0
/-- these cells -/
def run (a b st : Int) : List Int := (List.range (cnt a b st)).map fun i : Nat => a + (i : Int) * st
def Pt.cells (p : Pt) (s : Int) : List Int := run (p.lo.val s) (p.hi.val s) p.step
def Pt.has (p : Pt) (s c : Int) : Bool := decide (p.lo.val s ≤ c) && (decide (c ≤ p.hi.val s) && decide ((c - p.lo.val s) % p.step = 0))

theorem run_len (a b st : Int) : (run a b st).length = cnt a b st := by simp [run]
theorem run_get (a b st : Int) (i : Nat) (h : i < cnt a b st) : (run a b st)[i]? = some (a + (i : Int) * st) := by
  simp [run, h]
/-- a cell more is there as long as it is not above the end -/
theorem cnt_lt {a b st : Int} (hs : 1 ≤ st) (i : Nat) : i < cnt a b st ↔ a + (i : Int) * st ≤ b := by
  unfold cnt
  have hi : (0 : Int) ≤ (i : Int) * st := Int.mul_nonneg (by omega) (by omega)
  split
  · rename_i h
    have h1 : (i < ((b - a) / st).toNat + 1) ↔ ((i : Int) ≤ (b - a) / st) := by
      have : 0 ≤ (b - a) / st := Int.ediv_nonneg (by omega) (by omega)
      omega
    rw [h1, Int.le_ediv_iff_mul_le (by omega)]
    omega
  · constructor
    · intro h; omega
    · intro h; omega
theorem mem_run {a b st : Int} (hs : 1 ≤ st) (c : Int) : c ∈ run a b st ↔ a ≤ c ∧ c ≤ b ∧ (c - a) % st = 0 := by
  unfold run
  rw [List.mem_map]
  constructor
  · rintro ⟨i, hi, rfl⟩
    have h1 := (cnt_lt hs i).1 (List.mem_range.1 hi)
    have hi : (0 : Int) ≤ (i : Int) * st := Int.mul_nonneg (by omega) (by omega)
    refine ⟨by omega, h1, ?_⟩
    rw [show a + (i : Int) * st - a = (i : Int) * st by omega]
    exact Int.mul_emod_left _ _
  · rintro ⟨h1, h2, h3⟩
    have h0 : 0 ≤ (c - a) / st := Int.ediv_nonneg (by omega) (by omega)
    have hm : (c - a) / st * st = c - a := Int.ediv_mul_cancel (Int.dvd_of_emod_eq_zero h3)
    have hc : a + (((c - a) / st).toNat : Int) * st = c := by rw [Int.toNat_of_nonneg h0, hm]; omega
    exact ⟨((c - a) / st).toNat, List.mem_range.2 ((cnt_lt hs _).2 (by rw [hc]; exact h2)), hc⟩
theorem Pt.mem_cells {p : Pt} (h : p.ok = true) (s c : Int) : c ∈ p.cells s ↔ p.has s c = true := by
  have h1 := (p.ok_iff).1 h
  unfold Pt.cells Pt.has
  rw [mem_run h1.2.2.1]
  simp

/-- how many parts have a cell -/
def many (l : List Pt) (s c : Int) : Nat := l.countP fun p => p.has s c
/-- what is wrong with a cell: 1 missing, 2 twice, 3 outside; 0 nothing -/
def how (l : List Pt) (s c : Int) : Nat :=
  if 0 ≤ c ∧ c ≤ s - 1 then (if many l s c = 0 then 1 else if 1 < many l s c then 2 else 0) else if 0 < many l s c then 3 else 0
/-- the misses: cells and kinds -/
def missK (l : List Pt) (s : Int) : Nat → List (Int × Nat)
  | 0 => []
  | k + 1 => missK l s k ++ (if how l s ((k : Int) - 200) = 0 then [] else [((k : Int) - 200, how l s ((k : Int) - 200))])
def misses (l : List Pt) (s : Int) : List (Int × Nat) := missK l s 401
def right (l : List Pt) (s : Int) : Bool := (misses l s).isEmpty

theorem how_congr {l m : List Pt} {s : Int} (h : ∀ c, many l s c = many m s c) (c : Int) : how l s c = how m s c := by unfold how; rw [h c]
theorem missK_congr {l m : List Pt} {s : Int} (h : ∀ c, many l s c = many m s c) : ∀ k, missK l s k = missK m s k
  | 0 => rfl
  | k + 1 => by rw [missK, missK, missK_congr h k, how_congr h]
theorem misses_congr {l m : List Pt} {s : Int} (h : ∀ c, many l s c = many m s c) : misses l s = misses m s := missK_congr h 401
theorem many_append (l m : List Pt) (s c : Int) : many (l ++ m) s c = many l s c + many m s c := List.countP_append
/-- WHATEVER THE ORDER -/
theorem many_turn (l : List Pt) (k : Nat) (s c : Int) : many (l.drop k ++ l.take k) s c = many l s c := by
  rw [many_append, Nat.add_comm, ← many_append, List.take_append_drop]

/-- the sizes from one on that parts are right for -/
def sizesK (l : List Pt) : Nat → List Nat
  | 0 => []
  | k + 1 => sizesK l k ++ (if right l k then [k] else [])
def sizes (l : List Pt) : List Nat := sizesK l 101
/-- the first miss with the smallest size from one on: so many sizes are left -/
def headOr (s : Nat) (a : Option (Nat × Int × Nat)) : List (Int × Nat) → Option (Nat × Int × Nat)
  | [] => a
  | x :: _ => some (s, x.1, x.2)
def firstK (l : List Pt) : Nat → Nat → Option (Nat × Int × Nat)
  | 0, _ => none
  | f + 1, s => headOr s (firstK l f (s + 1)) (misses l s)
def first (l : List Pt) (s : Nat) : Option (Nat × Int × Nat) := firstK l (101 - s) s
/-- the smallest size that parts are right from on, looked for from above: those from k on are right -/
def leastK (l : List Pt) : Nat → Option Nat → Option Nat
  | 0, b => b
  | k + 1, b => if right l k then leastK l k (some k) else b
def least (l : List Pt) : Option Nat := leastK l 101 none
def slim (l : List Pt) : List Pt := l.filter fun p => (List.range 101).any fun s => !(p.cells s).isEmpty

theorem right_congr {l m : List Pt} (h : ∀ s c : Int, many l s c = many m s c) (s : Int) : right l s = right m s := by unfold right; rw [misses_congr (h s)]
theorem sizesK_congr {l m : List Pt} (h : ∀ k : Nat, right l k = right m k) : ∀ k, sizesK l k = sizesK m k
  | 0 => rfl
  | k + 1 => by rw [sizesK, sizesK, sizesK_congr h k, h k]
theorem leastK_congr {l m : List Pt} (h : ∀ k : Nat, right l k = right m k) : ∀ k b, leastK l k b = leastK m k b
  | 0, _ => rfl
  | k + 1, b => by rw [leastK, leastK, h k, leastK_congr h k]

/-- a part that is left out has no cell with any size up to MaxArray -/
theorem many_slim {l : List Pt} (hv : ∀ p ∈ l, p.ok = true) {s : Nat} (hs : s ≤ 100) (c : Int) : many (slim l) s c = many l s c := by
  unfold many slim
  rw [List.countP_filter]
  apply List.countP_congr
  intro p hp
  simp only [Bool.and_eq_true, and_iff_left_iff_imp]
  intro hh
  rw [List.any_eq_true]
  refine ⟨s, List.mem_range.2 (by omega), ?_⟩
  have hm := (Pt.mem_cells (hv p hp) s c).2 hh
  cases hc : p.cells s with
  | nil => rw [hc] at hm; cases hm
  | cons _ _ => rfl

/-- SPLIT: twice the step -/
theorem has_twice {a b st c : Int} (hs : 1 ≤ st) :
    (if a ≤ c ∧ c ≤ b ∧ (c - a) % st = 0 then 1 else 0 : Nat) = (if a ≤ c ∧ c ≤ b ∧ (c - a) % (2 * st) = 0 then 1 else 0) + (if a + st ≤ c ∧ c ≤ b ∧ (c - (a + st)) % (2 * st) = 0 then 1 else 0) := by
  by_cases h : a ≤ c ∧ c ≤ b ∧ (c - a) % st = 0
  · obtain ⟨h1, h2, h3⟩ := h
    obtain ⟨q, hq⟩ := Int.dvd_of_emod_eq_zero h3
    have hq0 : 0 ≤ q := by
      rcases Int.lt_or_le q 0 with h | h
      · have : st * q ≤ st * (-1) := Int.mul_le_mul_of_nonneg_left (by omega) (by omega)
        omega
      · exact h
    rw [if_pos ⟨h1, h2, h3⟩]
    rcases Int.emod_two_eq q with he | he
    · obtain ⟨r, rfl⟩ := Int.dvd_of_emod_eq_zero he
      have e1 : (c - a) % (2 * st) = 0 := by
        rw [hq, show st * (2 * r) = (2 * st) * r by rw [Int.mul_left_comm, Int.mul_assoc]]
        exact Int.mul_emod_right _ _
      have e2 : ¬ (a + st ≤ c ∧ c ≤ b ∧ (c - (a + st)) % (2 * st) = 0) := by
        rintro ⟨_, _, h⟩
        have h5 : c - (a + st) = (2 * st) * r + -st := by
          have : st * (2 * r) = (2 * st) * r := by rw [Int.mul_left_comm, Int.mul_assoc]
          omega
        rw [h5, Int.mul_add_emod_self_left] at h
        obtain ⟨t, ht⟩ := Int.dvd_of_emod_eq_zero h
        have h6 : st * (2 * t + 1) = 0 := by
          rw [Int.mul_add, Int.mul_one, Int.mul_left_comm]
          rw [Int.mul_assoc] at ht
          omega
        rcases Int.mul_eq_zero.1 h6 with h | h <;> omega
      rw [if_pos ⟨h1, h2, e1⟩, if_neg e2]
    · obtain ⟨r, hr⟩ : ∃ r, q = 2 * r + 1 := ⟨q / 2, by omega⟩
      subst hr
      have hx : st * (2 * r + 1) = (2 * st) * r + st := by rw [Int.mul_add, Int.mul_one, Int.mul_left_comm, Int.mul_assoc]
      have h0 : 0 ≤ (2 * st) * r := Int.mul_nonneg (by omega) (by omega)
      have e2 : (c - (a + st)) % (2 * st) = 0 := by
        rw [show c - (a + st) = (2 * st) * r by omega]
        exact Int.mul_emod_right _ _
      have e1 : ¬ (a ≤ c ∧ c ≤ b ∧ (c - a) % (2 * st) = 0) := by
        rintro ⟨_, _, h⟩
        rw [show c - a = (2 * st) * r + st by omega, Int.mul_add_emod_self_left] at h
        rw [Int.emod_eq_of_lt (by omega) (by omega)] at h
        omega
      rw [if_neg e1, if_pos ⟨by omega, h2, e2⟩]
  · rw [if_neg h]
    have e1 : ¬ (a ≤ c ∧ c ≤ b ∧ (c - a) % (2 * st) = 0) := by
      rintro ⟨h1, h2, h3⟩
      refine h ⟨h1, h2, ?_⟩
      obtain ⟨q, hq⟩ := Int.dvd_of_emod_eq_zero h3
      rw [hq, show 2 * st * q = st * (2 * q) by rw [Int.mul_left_comm, Int.mul_assoc]]
      exact Int.mul_emod_right _ _
    have e2 : ¬ (a + st ≤ c ∧ c ≤ b ∧ (c - (a + st)) % (2 * st) = 0) := by
      rintro ⟨h1, h2, h3⟩
      refine h ⟨by omega, h2, ?_⟩
      obtain ⟨q, hq⟩ := Int.dvd_of_emod_eq_zero h3
      rw [show c - a = st * (2 * q + 1) by rw [Int.mul_add, Int.mul_one, Int.mul_left_comm, ← Int.mul_assoc]; omega]
      exact Int.mul_emod_right _ _
    rw [if_neg e1, if_neg e2]

/-- SPLIT: the first cell, and the rest -/
theorem has_head {a b st c : Int} (hs : 1 ≤ st) (hab : a ≤ b) :
    (if a ≤ c ∧ c ≤ b ∧ (c - a) % st = 0 then 1 else 0 : Nat) = (if a ≤ c ∧ c ≤ a ∧ (c - a) % st = 0 then 1 else 0) + (if a + st ≤ c ∧ c ≤ b ∧ (c - (a + st)) % st = 0 then 1 else 0) := by
  have hm : (c - (a + st)) % st = (c - a) % st := by
    rw [show c - (a + st) = c - a - st by omega, Int.sub_emod_right]
  rw [hm]
  by_cases hc : c = a
  · subst hc
    have : (c - c) % st = 0 := by simp
    rw [if_pos ⟨Int.le_refl _, hab, this⟩, if_pos ⟨Int.le_refl _, Int.le_refl _, this⟩, if_neg (by omega)]
  · rw [if_neg (show ¬ (a ≤ c ∧ c ≤ a ∧ (c - a) % st = 0) by omega), Nat.zero_add]
    by_cases h : a ≤ c ∧ (c - a) % st = 0
    · obtain ⟨q, hq⟩ := Int.dvd_of_emod_eq_zero h.2
      have hq1 : 1 ≤ q := by
        rcases Int.lt_or_le 0 q with h' | h'
        · omega
        · have : st * q ≤ st * 0 := Int.mul_le_mul_of_nonneg_left h' (by omega)
          omega
      have : st * 1 ≤ st * q := Int.mul_le_mul_of_nonneg_left hq1 (by omega)
      by_cases hb : c ≤ b
      · rw [if_pos ⟨h.1, hb, h.2⟩, if_pos ⟨by omega, hb, h.2⟩]
      · rw [if_neg (by omega), if_neg (by omega)]
    · rw [if_neg (fun ⟨x, _, y⟩ => h ⟨x, y⟩), if_neg (fun ⟨x, _, y⟩ => h ⟨by omega, y⟩)]

/-- FROM BOTH ENDS -/
theorem cnt_ends (n m s st : Int) : cnt n (s - m) st = cnt m (s - n) st := by
  unfold cnt
  rw [show s - m - n = s - n - m by omega]
  by_cases h : n ≤ s - m
  · rw [if_pos h, if_pos (by omega)]
  · rw [if_neg h, if_neg (by omega)]
theorem cnt_more {n b st : Int} (hs : 1 ≤ st) (h : 0 < cnt n b st) : cnt n (b + st) st = cnt n b st + 1 := by
  unfold cnt at h ⊢
  split at h
  · rename_i hb
    rw [if_pos (by omega), if_pos hb, show b + st - n = (b - n) + 1 * st by omega, Int.add_mul_ediv_right _ _ (by omega)]
    have : 0 ≤ (b - n) / st := Int.ediv_nonneg (by omega) (by omega)
    omega
  · omega

/-- LEAST -/
theorem leastK_spec (l : List Pt) (T : Nat) : ∀ (k : Nat) (b : Option Nat), (∀ n, b = some n → n = k ∧ n ≤ T) → (b = none → k = T + 1) → (∀ j, k ≤ j → j ≤ T → right l j = true) → k ≤ T + 1 →
    (∀ n, leastK l k b = some n → n ≤ T ∧ (∀ j, n ≤ j → j ≤ T → right l j = true) ∧ (0 < n → right l (n - 1 : Nat) = false)) ∧ (leastK l k b = none → right l T = false) := by
  intro k
  induction k with
  | zero =>
    intro b h1 h2 h3 _
    cases b with
    | none => have := h2 rfl; omega
    | some n =>
      obtain ⟨h4, h5⟩ := h1 n rfl
      subst h4
      rw [leastK]
      exact ⟨fun n hn => by injection hn with hn; subst hn; exact ⟨h5, h3, fun h => absurd h (Nat.lt_irrefl _)⟩, fun h => by cases h⟩
  | succ k ih =>
    intro b h1 h2 h3 hk
    rw [leastK]
    cases hr : right l k with
    | true =>
      rw [if_pos rfl]
      refine ih (some k) (fun n hn => by injection hn with hn; omega) (fun h => by cases h) (fun j hj hj2 => ?_) (by omega)
      rcases Nat.lt_or_ge k j with h | h
      · exact h3 j h hj2
      · rw [show j = k by omega]; exact hr
    | false =>
      rw [if_neg (by simp)]
      refine ⟨fun n hn => ?_, fun hn => ?_⟩
      · obtain ⟨h4, h5⟩ := h1 n hn
        subst h4
        exact ⟨h5, h3, fun _ => hr⟩
      · have h4 := h2 hn
        rw [show T = k by omega]
        exact hr

end Rg
