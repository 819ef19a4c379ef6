/- Layer 6, plainly: the results of operations by their functions are those of the model. -/
import Derived.Test.YtacggbpgillbaaaGreatDoorTj
import Derived.Test.YtacggbpgillbaaaGreatDoorSn
namespace Ce
open Go.Proofs.YtacggbpgillbaaaGreatDoor
theorem hole_iff {v : V} (h : isValue v (-1) = true) : isHoleB v = decide (v.k = 0) := by
  unfold isHoleB
  by_cases hk : v.k = 0
  · unfold isValue at h
    rw [if_pos hk] at h
    have hn : v.n = 0 := by simpa using h
    simp [hk, hn]
  · simp [hk]
theorem any_hole {l : List V} (h : areValues l (-1) = true) : l.any isHoleB = l.any fun v => decide (v.k = 0) := by
  unfold areValues at h
  rw [List.all_eq_true] at h
  induction l with
  | nil => rfl
  | cons x r ih => rw [List.any_cons, List.any_cons, hole_iff (h x (.head _)), ih fun y hy => h y (.tail _ hy)]
theorem find_same (l : List V) : (l.find? fun v => v.k == 5) = l.find? fun v => decide (v.k = 5) := by
  congr 1
/-- an operation of one operand -/
theorem prim_one {s : List UInt8} {ks : List Int} {g : Int → Int → V} (hop : operands s = 1) (hk5 : ¬ (5 : Int) ∈ ks) (hg : ∀ x : V, isValue x (-1) = true → reckon s x x = if ks.any (fun y => x.k == y) then g x.n 0 else vbad 5) (x : V) (hv : areValues [x] (-1) = true) : prim s [x] = (resultV ks g [x], 0) := by
  have hv1 : isValue x (-1) = true := by simpa [areValues] using hv
  cases hh : [x].any fun v => decide (v.k = 0) with
  | true =>
    rw [prim_hole (by omega) (by rw [hop]; rfl) hv hh]
    unfold resultV
    rw [any_hole hv, hh]
    rfl
  | false =>
    have hnh : [x].any isHoleB = false := by rw [any_hole hv, hh]
    unfold resultV
    rw [hnh, if_neg (by decide)]
    by_cases h5 : x.k = 5
    · rw [prim_bad (v := x) (by omega) (by rw [hop]; rfl) hv hh (by simp [h5])]
      rw [if_neg, firstBad, find_same]
      · simp [h5]
      · simp only [List.headD_cons, Bool.and_eq_true, List.any_eq_true, beq_iff_eq]
        rintro ⟨⟨y, hy, e⟩, _⟩
        exact hk5 (by rw [← h5, e]; exact hy)
    · rw [prim_go (by omega) (by rw [hop]; rfl) hv hh (by simp [h5]), hop]
      simp only [List.headD_cons, List.all_cons, List.all_nil, beq_self_eq_true, Bool.and_true, List.length_singleton, Nat.lt_irrefl, if_false]
      rw [show ([x] : List V)[0]! = x from rfl, hg x hv1, firstBad, find_same]
      simp [h5]
/-- an operation of two operands -/
theorem prim_two {s : List UInt8} {ks : List Int} {g : Int → Int → V} (hop : operands s = 2) (hk5 : ¬ (5 : Int) ∈ ks) (hg : ∀ x y : V, isValue x (-1) = true → isValue y (-1) = true → reckon s x y = if ks.any (fun z => x.k == z) && y.k == x.k then g x.n y.n else vbad 5) (x y : V) (hv : areValues [x, y] (-1) = true) : prim s [x, y] = (resultV ks g [x, y], 0) := by
  have hv1 : isValue x (-1) = true ∧ isValue y (-1) = true := by simpa [areValues] using hv
  cases hh : [x, y].any fun v => decide (v.k = 0) with
  | true =>
    rw [prim_hole (by omega) (by rw [hop]; rfl) hv hh]
    unfold resultV
    rw [any_hole hv, hh]
    rfl
  | false =>
    have hnh : [x, y].any isHoleB = false := by rw [any_hole hv, hh]
    unfold resultV
    rw [hnh, if_neg (by decide)]
    by_cases h5 : x.k = 5
    · rw [prim_bad (v := x) (by omega) (by rw [hop]; rfl) hv hh (by simp [h5])]
      rw [if_neg, firstBad, find_same]
      · simp [h5]
      · simp only [List.headD_cons, Bool.and_eq_true, List.any_eq_true, beq_iff_eq]
        rintro ⟨⟨z, hz, e⟩, _⟩
        exact hk5 (by rw [← h5, e]; exact hz)
    · by_cases h6 : y.k = 5
      · rw [prim_bad (v := y) (by omega) (by rw [hop]; rfl) hv hh (by simp [h5, h6])]
        rw [if_neg, firstBad, find_same]
        · simp [h5, h6]
        · simp only [List.headD_cons, Bool.and_eq_true, List.any_eq_true, List.all_cons, List.all_nil, beq_iff_eq]
          rintro ⟨_, _, e, _⟩
          exact h5 (by rw [← e, h6])
      · rw [prim_go (by omega) (by rw [hop]; rfl) hv hh (by simp [h5, h6]), hop]
        simp only [List.headD_cons, List.all_cons, List.all_nil, beq_self_eq_true, Bool.and_true, Bool.true_and]
        rw [show ([x, y] : List V)[0]! = x from rfl, show ([x, y] : List V)[2 - 1]! = y from rfl, hg x y hv1.1 hv1.2, firstBad, find_same]
        simp [h5, h6]
theorem reck_add (x y : V) : reckon nAdd x y = if [1].any (fun z => x.k == z) && y.k == x.k then ranged (x.n + y.n) else vbad 5 := by
  unfold reckon
  rw [if_neg (by decide), if_neg (by decide)]
  by_cases h1 : x.k = 1
  · by_cases h2 : y.k = 1
    · simp [h1, h2, nAdd, nLt, nLe]
    · simp [h1, h2, Ne.symm h2]
  · simp [h1]
theorem reck_sub (x y : V) : reckon nSub x y = if [1].any (fun z => x.k == z) && y.k == x.k then ranged (x.n - y.n) else vbad 5 := by
  unfold reckon
  rw [if_neg (by decide), if_neg (by decide)]
  by_cases h1 : x.k = 1
  · by_cases h2 : y.k = 1
    · simp [h1, h2, nAdd, nLt, nLe, nSub]
    · simp [h1, h2, Ne.symm h2]
  · simp [h1]
theorem reck_mul (x y : V) : reckon nMul x y = if [1].any (fun z => x.k == z) && y.k == x.k then ranged (x.n * y.n) else vbad 5 := by
  unfold reckon
  rw [if_neg (by decide), if_neg (by decide)]
  by_cases h1 : x.k = 1
  · by_cases h2 : y.k = 1
    · simp [h1, h2, nAdd, nLt, nLe, nSub, nMul]
    · simp [h1, h2, Ne.symm h2]
  · simp [h1]
theorem reck_lt (x y : V) : reckon nLt x y = if [1].any (fun z => x.k == z) && y.k == x.k then vbool (decide (x.n < y.n)) else vbad 5 := by
  unfold reckon
  rw [if_neg (by decide), if_neg (by decide)]
  by_cases h1 : x.k = 1
  · by_cases h2 : y.k = 1
    · simp [h1, h2]
    · simp [h1, h2, Ne.symm h2]
  · simp [h1]
theorem reck_le (x y : V) : reckon nLe x y = if [1].any (fun z => x.k == z) && y.k == x.k then vbool (decide (x.n ≤ y.n)) else vbad 5 := by
  unfold reckon
  rw [if_neg (by decide), if_neg (by decide)]
  by_cases h1 : x.k = 1
  · by_cases h2 : y.k = 1
    · simp [h1, h2, nLe, nLt]
    · simp [h1, h2, Ne.symm h2]
  · simp [h1]
theorem reck_div (x y : V) : reckon nDiv x y = if [1].any (fun z => x.k == z) && y.k == x.k then (if y.n = 0 then vbad 1 else ranged (x.n.tdiv y.n)) else vbad 5 := by
  unfold reckon
  rw [if_neg (by decide), if_neg (by decide)]
  by_cases h1 : x.k = 1
  · by_cases h2 : y.k = 1
    · simp [h1, h2, nAdd, nLt, nLe, nSub, nMul, nDiv, nNeg, nMod]
    · simp [h1, h2, Ne.symm h2]
  · simp [h1]
theorem reck_mod (x y : V) : reckon nMod x y = if [1].any (fun z => x.k == z) && y.k == x.k then (if y.n = 0 then vbad 1 else ranged (x.n.tmod y.n)) else vbad 5 := by
  unfold reckon
  rw [if_neg (by decide), if_neg (by decide)]
  by_cases h1 : x.k = 1
  · by_cases h2 : y.k = 1
    · simp [h1, h2, nAdd, nLt, nLe, nSub, nMul, nNeg, nMod]
    · simp [h1, h2, Ne.symm h2]
  · simp [h1]
theorem reck_eq (x y : V) : reckon nEq x y = if [1, 2].any (fun z => x.k == z) && y.k == x.k then vbool (x.n == y.n) else vbad 5 := by
  unfold reckon
  rw [if_neg (by decide), if_pos rfl]
  by_cases h : x.k = y.k ∧ (x.k = 1 ∨ x.k = 2)
  · rw [if_pos h, if_pos (by obtain ⟨h1, h2⟩ := h; rcases h2 with h2 | h2 <;> simp [h2, ← h1])]
    by_cases e : x.n = y.n
    · simp [e]
    · rw [show (x.n == y.n) = false from beq_eq_false_iff_ne.2 e, decide_eq_false e]
  · rw [if_neg h, if_neg (by simp only [List.any_cons, List.any_nil, Bool.or_false, Bool.and_eq_true, Bool.or_eq_true, beq_iff_eq]; rintro ⟨h1, h2⟩; exact h ⟨h2.symm, h1⟩)]
theorem reck_neg (x : V) : reckon nNeg x x = if [1].any (fun z => x.k == z) then ranged (-x.n) else vbad 5 := by
  unfold reckon
  rw [if_neg (by decide), if_neg (by decide)]
  by_cases h1 : x.k = 1
  · simp [h1, nAdd, nLt, nLe, nSub, nMul, nNeg]
  · simp [h1]
theorem reck_not (x : V) : reckon nNot x x = if [2].any (fun z => x.k == z) then vbool (x.n == 0) else vbad 5 := by
  unfold reckon
  rw [if_pos rfl]
  by_cases h1 : x.k = 2
  · by_cases e : x.n = 0
    · simp [h1, e]
    · rw [show (x.n == 0) = false from beq_eq_false_iff_ne.2 e, decide_eq_false e]; simp [h1]
  · simp [h1]
end Ce
