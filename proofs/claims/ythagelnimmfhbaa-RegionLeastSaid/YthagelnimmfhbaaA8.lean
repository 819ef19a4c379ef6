/- Layer 5, plainly: how often parts have each cell, as it is counted; the misses in any order, sorted. -/
import Derived.Test.YthagelnimmfhbaaRh
namespace Rg
def upd (f : Int → Option Int) (c v : Int) : Int → Option Int := fun x => if x = c then some v else f x
/-- counted so far: the cells below i -/
def cnt0 (i : Int) : Int → Option Int := fun c => if 0 ≤ c ∧ c < i then some 0 else none
/-- counted: some parts, and some cells of the next one -/
def cntd (l : List Pt) (s : Int) (cs : List Int) : Int → Option Int := fun c => if (0 ≤ c ∧ c < s) ∨ 0 < many l s c ∨ c ∈ cs then some ((many l s c + cs.count c : Nat) : Int) else none

theorem cnt0_zero : cnt0 0 = fun _ => none := by funext c; unfold cnt0; rw [if_neg (by omega)]
theorem cnt0_step (i : Int) (h : 0 ≤ i) : upd (cnt0 i) i 0 = cnt0 (i + 1) := by
  funext c
  unfold upd cnt0
  by_cases hc : c = i
  · rw [if_pos hc, if_pos (by omega)]
  · rw [if_neg hc]
    by_cases h2 : 0 ≤ c ∧ c < i
    · rw [if_pos h2, if_pos (by omega)]
    · rw [if_neg h2, if_neg (by omega)]
theorem cnt0_end (s : Int) : cnt0 s = cntd [] s [] := by
  funext c
  unfold cnt0 cntd
  by_cases h : 0 ≤ c ∧ c < s
  · rw [if_pos h, if_pos (.inl h)]; rfl
  · rw [if_neg h, if_neg]
    rintro (h2 | h2 | h2)
    · exact h h2
    · simp [many] at h2
    · cases h2
theorem cntd_getD (l : List Pt) (s : Int) (cs : List Int) (c : Int) : (cntd l s cs c).getD 0 = ((many l s c + cs.count c : Nat) : Int) := by
  unfold cntd
  split
  · rfl
  · rename_i h
    have h1 : many l s c = 0 := by have : ¬ 0 < many l s c := fun h2 => h (.inr (.inl h2)); omega
    have h2 : cs.count c = 0 := List.count_eq_zero.2 (fun h2 => h (.inr (.inr h2)))
    rw [h1, h2]; rfl
theorem cntd_step (l : List Pt) (s : Int) (cs : List Int) (c : Int) : upd (cntd l s cs) c ((cntd l s cs c).getD 0 + 1) = cntd l s (cs ++ [c]) := by
  rw [cntd_getD]
  funext x
  unfold upd
  by_cases hx : x = c
  · subst hx
    rw [if_pos rfl]
    unfold cntd
    rw [if_pos (.inr (.inr (by simp))), List.count_append]
    simp
    omega
  · rw [if_neg hx]
    unfold cntd
    have h1 : x ∈ cs ++ [c] ↔ x ∈ cs := by simp [hx]
    have h2 : (cs ++ [c]).count x = cs.count x := by
      rw [List.count_append, List.count_singleton]
      simp [Ne.symm hx]
    simp only [h1, h2]
theorem run_pairwise (a b st : Int) (hs : 1 ≤ st) : (run a b st).Pairwise (· < ·) := by
  unfold run
  rw [List.pairwise_map]
  refine List.Pairwise.imp ?_ List.pairwise_lt_range
  intro i j h
  have : (i : Int) * st < (j : Int) * st := Int.mul_lt_mul_of_pos_right (by omega) (by omega)
  omega
theorem count_cells {p : Pt} (hp : p.ok = true) (s c : Int) : (p.cells s).count c = if p.has s c then 1 else 0 := by
  have h1 := (p.ok_iff).1 hp
  have hnd : (p.cells s).Nodup := (run_pairwise _ _ _ h1.2.2.1).imp (fun h => Int.ne_of_lt h)
  by_cases h : p.has s c = true
  · rw [if_pos h]
    have hm := (Pt.mem_cells hp s c).2 h
    have h2 : 0 < (p.cells s).count c := List.count_pos_iff.2 hm
    have h3 := List.nodup_iff_count.1 hnd c
    omega
  · rw [if_neg h]
    exact List.count_eq_zero.2 (fun hm => h ((Pt.mem_cells hp s c).1 hm))
theorem cntd_end (l : List Pt) (p : Pt) (hp : p.ok = true) (s : Int) : cntd l s (p.cells s) = cntd (l ++ [p]) s [] := by
  funext c
  unfold cntd
  have h1 : many (l ++ [p]) s c = many l s c + (p.cells s).count c := by rw [many_append, count_cells hp, many_one]
  have h2 : c ∈ p.cells s ↔ 0 < (p.cells s).count c := List.count_pos_iff.symm
  rw [h1]
  have h3 : ((0 ≤ c ∧ c < s) ∨ 0 < many l s c ∨ c ∈ p.cells s) ↔ ((0 ≤ c ∧ c < s) ∨ 0 < many l s c + (p.cells s).count c ∨ c ∈ ([] : List Int)) := by
    rw [h2]
    constructor
    · rintro (h | h | h)
      · exact .inl h
      · exact .inr (.inl (by omega))
      · exact .inr (.inl (by omega))
    · rintro (h | h | h)
      · exact .inl h
      · by_cases h5 : 0 < many l s c
        · exact .inr (.inl h5)
        · exact .inr (.inr (by omega))
      · cases h
  by_cases h4 : (0 ≤ c ∧ c < s) ∨ 0 < many l s c ∨ c ∈ p.cells s
  · rw [if_pos h4, if_pos (h3.1 h4)]; rfl
  · rw [if_neg h4, if_neg (fun h => h4 (h3.2 h))]
theorem many_le (l : List Pt) (s c : Int) : many l s c ≤ l.length := List.countP_le_length
theorem cntd_nil {l : List Pt} {s c n : Int} (h : cntd l s [] c = some n) : n = many l s c ∧ ((0 ≤ c ∧ c < s) ∨ 0 < many l s c) := by
  unfold cntd at h
  split at h
  · rename_i h2
    injection h with h
    refine ⟨by rw [← h]; simp, ?_⟩
    rcases h2 with h2 | h2 | h2
    · exact .inl h2
    · exact .inr h2
    · cases h2
  · cases h
theorem cntd_some {l : List Pt} {s c : Int} (h : (0 ≤ c ∧ c < s) ∨ 0 < many l s c) : cntd l s [] c = some (many l s c : Nat) := by
  unfold cntd
  rw [if_pos (by rcases h with h | h; exact .inl h; exact .inr (.inl h))]
  simp

/-- what has a cell -/
theorem many_pos {l : List Pt} (hv : ∀ p ∈ l, p.ok = true) {s c : Int} (h0 : 0 ≤ s) (h1 : s ≤ 100) (h : 0 < many l s c) : -100 ≤ c ∧ c ≤ 100 := by
  unfold many at h
  rw [List.countP_pos_iff] at h
  obtain ⟨p, hp, hh⟩ := h
  have ho := (p.ok_iff).1 (hv p hp)
  have hlo : p.lo.ok = true := by simp [Bd.ok]; omega
  have hhi : p.hi.ok = true := by simp [Bd.ok]; omega
  have r1 : p.lo.val s ≥ -100 := (Bd.val_range hlo h0 (by omega)).1
  have r2 : p.hi.val s ≤ 100 := by
    unfold Bd.val
    simp [Bd.ok] at hhi
    split <;> omega
  have := (has_iff p s c).1 hh
  omega
/-- the kind of a cell that is counted -/
theorem how_kind (l : List Pt) (s c : Int) : how l s c = (if c < 0 ∨ s ≤ c then (if 0 < many l s c then 3 else 0) else if many l s c = 0 then 1 else if 1 < many l s c then 2 else 0) := by
  unfold how
  by_cases h : 0 ≤ c ∧ c ≤ s - 1
  · rw [if_pos h, if_neg (show ¬ (c < 0 ∨ s ≤ c) by omega)]
  · rw [if_neg h, if_pos (show c < 0 ∨ s ≤ c by omega)]
theorem how_zero {l : List Pt} {s c : Int} (h : ¬ ((0 ≤ c ∧ c < s) ∨ 0 < many l s c)) : how l s c = 0 := by
  rw [how_kind, if_pos (show c < 0 ∨ s ≤ c by omega), if_neg (show ¬ 0 < many l s c by omega)]

theorem mem_missK (l : List Pt) (s : Int) : ∀ (k : Nat) (c : Int) (t : Nat), (c, t) ∈ missK l s k ↔ (-200 ≤ c ∧ c < (k : Int) - 200) ∧ t = how l s c ∧ t ≠ 0
  | 0, c, t => by simp [missK]; omega
  | k + 1, c, t => by
    rw [missK, List.mem_append, mem_missK l s k c t]
    by_cases hh : how l s ((k : Int) - 200) = 0
    · rw [if_pos hh]
      constructor
      · rintro (h | h)
        · exact ⟨by omega, h.2⟩
        · cases h
      · rintro ⟨h1, h2, h3⟩
        refine .inl ⟨?_, h2, h3⟩
        have : c ≠ (k : Int) - 200 := fun e => by rw [e] at h2; omega
        omega
    · rw [if_neg hh]
      constructor
      · rintro (h | h)
        · exact ⟨by omega, h.2⟩
        · simp at h
          obtain ⟨rfl, rfl⟩ := h
          exact ⟨by omega, rfl, hh⟩
      · rintro ⟨h1, h2, h3⟩
        by_cases e : c = (k : Int) - 200
        · right; subst e; rw [h2]; simp
        · left; exact ⟨by omega, h2, h3⟩
/-- the cells of the misses ascend -/
theorem missK_pairwise (l : List Pt) (s : Int) : ∀ k : Nat, ((missK l s k).map (·.1)).Pairwise (· < ·)
  | 0 => List.Pairwise.nil
  | k + 1 => by
    rw [missK, List.map_append, List.pairwise_append]
    refine ⟨missK_pairwise l s k, ?_, ?_⟩
    · split <;> simp
    · intro a ha b hb
      obtain ⟨⟨c, t⟩, hx, rfl⟩ := List.mem_map.1 ha
      have := (mem_missK l s k c t).1 hx
      split at hb
      · cases hb
      · simp at hb
        simp only
        omega
/-- two ascending lists with the same elements are one -/
theorem eq_of_lt : ∀ {a b : List Int}, a.Pairwise (· < ·) → b.Pairwise (· < ·) → (∀ x, x ∈ a ↔ x ∈ b) → a = b
  | [], [], _, _, _ => rfl
  | [], y :: _, _, _, h => by have := (h y).2 List.mem_cons_self; cases this
  | x :: _, [], _, _, h => by have := (h x).1 List.mem_cons_self; cases this
  | x :: a, y :: b, ha, hb, h => by
    rw [List.pairwise_cons] at ha hb
    have hxy : x = y := by
      rcases List.mem_cons.1 ((h x).1 List.mem_cons_self) with e | e
      · exact e
      · rcases List.mem_cons.1 ((h y).2 List.mem_cons_self) with e2 | e2
        · exact e2.symm
        · have := hb.1 x e; have := ha.1 y e2; omega
    subst hxy
    congr 1
    refine eq_of_lt ha.2 hb.2 (fun z => ?_)
    constructor
    · intro hz
      rcases List.mem_cons.1 ((h z).1 (List.mem_cons_of_mem _ hz)) with e | e
      · subst e; have := ha.1 z hz; omega
      · exact e
    · intro hz
      rcases List.mem_cons.1 ((h z).2 (List.mem_cons_of_mem _ hz)) with e | e
      · subst e; have := hb.1 z hz; omega
      · exact e
/-- the cells of the misses, in their order -/
def missCells (l : List Pt) (s : Int) : List Int := (misses l s).map (·.1)
theorem misses_cells (l : List Pt) (s : Int) : misses l s = (missCells l s).map fun c => (c, how l s c) := by
  unfold missCells
  rw [List.map_map]
  conv => lhs; rw [← List.map_id (misses l s)]
  apply List.map_congr_left
  rintro ⟨c, t⟩ h
  have := (mem_missK l s 401 c t).1 h
  simp [this.2.1]
theorem missCells_mem (l : List Pt) (hv : ∀ p ∈ l, p.ok = true) (s : Int) (h0 : 0 ≤ s) (h1 : s ≤ 100) (c : Int) : c ∈ missCells l s ↔ how l s c ≠ 0 := by
  unfold missCells misses
  rw [List.mem_map]
  constructor
  · rintro ⟨⟨c', t⟩, h, rfl⟩
    have := (mem_missK l s 401 c' t).1 h
    simp only
    rw [← this.2.1]; exact this.2.2
  · intro h
    refine ⟨(c, how l s c), (mem_missK l s 401 c _).2 ⟨?_, rfl, h⟩, rfl⟩
    have : (0 ≤ c ∧ c < s) ∨ 0 < many l s c := Classical.byContradiction fun h2 => h (how_zero h2)
    rcases this with h2 | h2
    · omega
    · have := many_pos hv h0 h1 h2; omega
theorem missCells_lt (l : List Pt) (s : Int) : (missCells l s).Pairwise (· < ·) := missK_pairwise l s 401
end Rg
