/- Layer 5: the walk of the law RegionOnce (begun). -/
import Derived.Test.YthagelnimmfhbaaRx
import Derived.Deep.QuietTactic
import Derived.BigQuiet
namespace Rg
/-- how many cells of the first i parts, and of the first k cells of the next one, are a number -/
def cntIn (C : List Int) (c : Int) : Nat := C.countP fun x => x == c
theorem cntIn_snoc (C : List Int) (x c : Int) : cntIn (C ++ [x]) c = cntIn C c + if x = c then 1 else 0 := by
  unfold cntIn
  rw [List.countP_append, List.countP_cons]
  by_cases h : x = c <;> simp [h]
theorem run_inj {a st : Int} (hs : 1 ≤ st) {i j : Nat} (h : a + (i : Int) * st = a + (j : Int) * st) : i = j := by
  have h1 : (i : Int) * st = (j : Int) * st := by omega
  have := Int.eq_of_mul_eq_mul_right (show st ≠ 0 by omega) h1
  omega
theorem cntIn_run {a b st : Int} (hs : 1 ≤ st) (c : Int) : ∀ n, n ≤ cnt a b st → cntIn ((run a b st).take n) c = if ∃ i : Nat, i < n ∧ a + (i : Int) * st = c then 1 else 0
  | 0, _ => by simp [cntIn]
  | n + 1, h => by
    have hg := run_get a b st n (by omega)
    obtain ⟨hi, e⟩ := List.getElem?_eq_some_iff.1 hg
    rw [List.take_succ_eq_append_getElem hi, e, cntIn_snoc, cntIn_run hs c n (by omega)]
    by_cases h1 : ∃ i : Nat, i < n ∧ a + (i : Int) * st = c
    · rw [if_pos h1]
      obtain ⟨i, hi1, hi2⟩ := h1
      have hne : ¬ a + (n : Int) * st = c := fun e => by
        have := run_inj hs (hi2.trans e.symm)
        omega
      rw [if_neg hne, if_pos ⟨i, by omega, hi2⟩]
    · rw [if_neg h1]
      by_cases h2 : a + (n : Int) * st = c
      · rw [if_pos h2, if_pos ⟨n, by omega, h2⟩]
      · rw [if_neg h2, if_neg]
        rintro ⟨i, hi1, hi2⟩
        rcases Nat.lt_or_ge i n with h | h
        · exact h1 ⟨i, h, hi2⟩
        · exact h2 (by rw [← hi2, show i = n by omega])
/-- a part's cells have each of them once -/
theorem cntIn_cells {p : Pt} (hp : p.ok = true) (s c : Int) : cntIn (p.cells s) c = if p.has s c then 1 else 0 := by
  have h1 := (p.ok_iff).1 hp
  have hr := run_len (p.lo.val s) (p.hi.val s) p.step
  have h := cntIn_run (b := p.hi.val s) (a := p.lo.val s) h1.2.2.1 c (cnt (p.lo.val s) (p.hi.val s) p.step) (Nat.le_refl _)
  rw [List.take_of_length_le (by rw [hr]; exact Nat.le_refl _)] at h
  unfold Pt.cells
  rw [h]
  have hm := p.mem_cells hp s c
  unfold Pt.cells run at hm
  rw [List.mem_map] at hm
  by_cases hh : p.has s c = true
  · rw [if_pos hh]
    obtain ⟨i, hi, he⟩ := hm.2 hh
    rw [if_pos ⟨i, List.mem_range.1 hi, he⟩]
  · rw [if_neg hh, if_neg]
    rintro ⟨i, hi, he⟩
    exact hh (hm.1 ⟨i, List.mem_range.2 hi, he⟩)
/-- the counts behind the first i parts and n cells of the next one -/
def tally (l : List Pt) (s : Int) (i n : Nat) (c : Int) : Nat :=
  many (l.take i) s c + match l[i]? with
    | some p => cntIn ((p.cells s).take n) c
    | none => 0
theorem tally_zero (l : List Pt) (s : Int) (i : Nat) (c : Int) : tally l s i 0 c = many (l.take i) s c := by
  unfold tally
  split <;> simp [cntIn]
theorem tally_step {l : List Pt} {s : Int} {i n : Nat} {p : Pt} {x : Int} (hp : l[i]? = some p) (hx : (p.cells s)[n]? = some x) (c : Int) : tally l s i (n + 1) c = tally l s i n c + if x = c then 1 else 0 := by
  obtain ⟨hn, e⟩ := List.getElem?_eq_some_iff.1 hx
  unfold tally
  rw [hp]
  simp only
  rw [List.take_succ_eq_append_getElem hn, e, cntIn_snoc, Nat.add_assoc]
theorem tally_next {l : List Pt} {s : Int} {i : Nat} {p : Pt} (hp : l[i]? = some p) (ho : p.ok = true) (c : Int) : tally l s i (p.cells s).length c = tally l s (i + 1) 0 c := by
  rw [tally_zero]
  unfold tally
  rw [hp]
  simp only
  rw [List.take_length, cntIn_cells ho]
  obtain ⟨hi, e⟩ := List.getElem?_eq_some_iff.1 hp
  rw [List.take_succ_eq_append_getElem hi, e, many_append, many_one]
theorem tally_all (l : List Pt) (s : Int) (c : Int) : tally l s l.length 0 c = many l s c := by rw [tally_zero, List.take_length]

/-- a cell that some part has is found, and not behind it -/
theorem whoK_le {s c : Int} : ∀ {l : List Pt} {k j : Nat} {p : Pt}, l[j]? = some p → p.has s c = true → ∃ n, whoK s c l k = some n ∧ n ≤ k + j
  | q :: r, k, j, p, hp, hh => by
    rw [whoK]
    by_cases hq : q.has s c = true
    · exact ⟨k, if_pos hq, Nat.le_add_right _ _⟩
    · rw [if_neg hq]
      cases j with
      | zero => simp at hp; subst hp; exact absurd hh hq
      | succ j =>
        obtain ⟨n, h1, h2⟩ := whoK_le (k := k + 1) (show r[j]? = some p by simpa using hp) hh
        exact ⟨n, h1, by omega⟩
theorem who_le {s c : Int} {l : List Pt} {j : Nat} {p : Pt} (hp : l[j]? = some p) (hh : p.has s c = true) : ∃ n, who l s c = some n ∧ n ≤ j := by
  obtain ⟨n, h1, h2⟩ := whoK_le (k := 0) hp hh
  exact ⟨n, h1, by omega⟩
end Rg
