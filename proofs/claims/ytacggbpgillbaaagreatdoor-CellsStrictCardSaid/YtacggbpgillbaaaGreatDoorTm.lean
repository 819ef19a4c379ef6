/- Layer 6, plainly: what is done to a right memory leaves a right memory; play without checks. It imports nothing of the program. -/
import Derived.Test.YtacggbpgillbaaaGreatDoorSa
namespace Ce
theorem isValue_mono {v : V} {a b : Int} (h : isValue v a = true) (h0 : 0 ≤ a) (hab : a ≤ b) : isValue v b = true := by
  unfold isValue at h ⊢
  split <;> rename_i h1
  · rwa [if_pos h1] at h
  rw [if_neg h1] at h
  split <;> rename_i h1
  · rwa [if_pos h1] at h
  rw [if_neg h1] at h
  split <;> rename_i h1
  · rwa [if_pos h1] at h
  rw [if_neg h1] at h
  split <;> rename_i h1
  · rwa [if_pos h1] at h
  rw [if_neg h1] at h
  split <;> rename_i h1
  · rw [if_pos h1] at h
    simp at h ⊢
    omega
  rwa [if_neg h1] at h
theorem isValue_free {v : V} {a : Int} (h : isValue v a = true) : isValue v (-1) = true := by
  unfold isValue at h ⊢
  split <;> rename_i h1
  · rwa [if_pos h1] at h
  rw [if_neg h1] at h
  split <;> rename_i h1
  · rwa [if_pos h1] at h
  rw [if_neg h1] at h
  split <;> rename_i h1
  · rwa [if_pos h1] at h
  rw [if_neg h1] at h
  split <;> rename_i h1
  · rwa [if_pos h1] at h
  rw [if_neg h1] at h
  split <;> rename_i h1
  · rw [if_pos h1] at h
    simp at h ⊢
    omega
  rwa [if_neg h1] at h
theorem areValues_mono {l : List V} {a b : Int} (h : areValues l a = true) (h0 : 0 ≤ a) (hab : a ≤ b) : areValues l b = true := by
  unfold areValues at *
  rw [List.all_eq_true] at *
  exact fun v hv => isValue_mono (h v hv) h0 hab
theorem stOk_mono {s : St} {a b : Int} (h : stOk a s = true) (h0 : 0 ≤ a) (hab : a ≤ b) : stOk b s = true := by
  unfold stOk at *
  rw [Bool.and_eq_true, Bool.and_eq_true] at *
  exact ⟨⟨h.1.1, areValues_mono h.1.2 h0 hab⟩, h.2⟩
theorem reads_app : ∀ (m n : Mem), reads (m ++ n) = reads m + reads n
  | [], n => by simp [reads]
  | s :: r, n => by simp only [List.cons_append, reads]; rw [reads_app r n]; omega
theorem reads_set : ∀ (m : Mem) (i : Nat) (s t : St), m[i]? = some s → reads (m.set i t) + s.wait.length = reads m + t.wait.length
  | [], i, s, t, h => by simp at h
  | x :: r, 0, s, t, h => by simp at h; subst h; simp only [List.set_cons_zero, reads]; omega
  | x :: r, i + 1, s, t, h => by
    have := reads_set r i s t (by simpa using h)
    simp only [List.set_cons_succ, reads]
    omega
theorem wait_le : ∀ (m : Mem) (i : Nat) (s : St), m[i]? = some s → s.wait.length ≤ reads m
  | [], i, s, h => by simp at h
  | x :: r, 0, s, h => by simp at h; subst h; simp only [reads]; omega
  | x :: r, i + 1, s, h => by have := wait_le r i s (by simpa using h); simp only [reads]; omega
structure Ok (m : Mem) : Prop where
  len : m.length ≤ 400
  each : ∀ s ∈ m, stOk m.length s = true
  wait : reads m ≤ 6000
theorem ok_iff (m : Mem) : memOk m = true ↔ Ok m := by
  unfold memOk
  rw [Bool.and_eq_true, Bool.and_eq_true, decide_eq_true_iff, decide_eq_true_iff, List.all_eq_true]
  exact ⟨fun h => ⟨h.1, h.2.1, h.2.2⟩, fun h => ⟨h.len, h.each, h.wait⟩⟩
theorem stAt_get {m : Mem} {n : Int} (h : n.toNat < m.length) : m[n.toNat]? = some (stAt m n) := by
  unfold stAt
  rw [List.getElem?_eq_getElem h, List.getD_eq_getElem?_getD, List.getElem?_eq_getElem h]
  rfl
theorem known_ref {m : Mem} {v : V} (h : known m v = true) (hk : v.k = 4) : 0 ≤ v.n ∧ v.n < m.length := by
  unfold known isValue at h
  rw [hk] at h
  simp at h
  omega
theorem known_val {m : Mem} {v : V} (h : known m v = true) : isValue v m.length = true ∧ v.k ≠ 0 := by
  unfold known at h
  simp at h
  exact ⟨h.1, h.2⟩
theorem cellAt_lt {l : List V} {c : Int} (h0 : 0 ≤ c) (h : c < l.length) : cellAt l c = some (l.getD c.toNat hole) := by
  unfold cellAt
  rw [if_pos h0, List.getD_eq_getElem?_getD, List.getElem?_eq_getElem (by omega)]
  rfl
theorem ok_alloc {m : Mem} (h : Ok m) (v : V) : Ok (alloc m v).1 := by
  unfold alloc
  split
  · exact h
  split
  · exact h
  split
  · exact h
  split
  · exact h
  rename_i h1 h2 h3 h4
  have hl := h.len
  refine ⟨by simp; omega, fun s hs => ?_, ?_⟩
  · simp only [List.length_append, List.length_singleton]
    rcases List.mem_append.1 hs with hs | hs
    · exact stOk_mono (h.each s hs) (by omega) (by omega)
    · simp at hs
      subst hs
      simp only [Bool.not_eq_true', Bool.not_eq_false] at h3
      unfold inn at h3
      simp at h3
      unfold stOk areValues
      rw [Bool.and_eq_true, Bool.and_eq_true, decide_eq_true_iff, List.all_eq_true]
      refine ⟨⟨by simp; omega, fun v hv => ?_⟩, rfl⟩
      rw [List.eq_of_mem_replicate hv]
      rfl
  · rw [reads_app]
    simp [reads]
    exact h.wait
theorem fits_at {m : Mem} {s i : V} (hs : known m s = true) (h : fits m s i = true) : s.k = 4 ∧ i.k = 1 ∧ 0 ≤ s.n ∧ s.n.toNat < m.length ∧ 0 ≤ i.n ∧ i.n < (stAt m s.n).cells.length := by
  unfold fits inn at h
  simp at h
  have := known_ref hs h.1.1
  omega
theorem ok_set {m : Mem} (h : Ok m) {i : Nat} {s t : St} (hs : m[i]? = some s) (ht : stOk m.length s = true → stOk m.length t = true) (hr : reads m + t.wait.length ≤ 6000 + s.wait.length) : Ok (m.set i t) := by
  have hr2 := reads_set m i s t hs
  refine ⟨by rw [List.length_set]; exact h.len, fun x hx => ?_, by omega⟩
  rw [List.length_set]
  rcases List.mem_or_eq_of_mem_set hx with hx | rfl
  · exact h.each x hx
  · exact ht (h.each s (List.mem_of_getElem? hs))
theorem rdOk_set {l : List V} {r : Rd} {c : Nat} {v : V} (h : rdOk l r = true) (hne : r.cell ≠ c) : rdOk (l.set c v) r = true := by
  unfold rdOk cellAt at *
  by_cases h0 : 0 ≤ r.cell
  · rw [if_pos h0] at h ⊢
    rw [List.getElem?_set_ne (by omega)]
    exact h
  · rw [if_neg h0] at h
    cases h
theorem ok_write {m : Mem} (h : Ok m) {s i v : V} (hs : known m s = true) (hv : known m v = true) : Ok (write m s i v).1 := by
  unfold write
  split
  · exact h
  split
  · exact h
  rename_i h1 h2
  obtain ⟨_, _, h3, h4, h5, h6⟩ := fits_at hs (by simpa using h1)
  have hg := stAt_get h4
  refine ok_set h hg (fun ho => ?_) ?_
  · unfold stOk at ho ⊢
    rw [Bool.and_eq_true, Bool.and_eq_true, decide_eq_true_iff] at ho ⊢
    obtain ⟨⟨o1, o2⟩, o3⟩ := ho
    refine ⟨⟨by rw [List.length_set]; exact o1, ?_⟩, ?_⟩
    · unfold areValues at o2 ⊢
      rw [List.all_eq_true] at o2 ⊢
      intro x hx
      rcases List.mem_or_eq_of_mem_set hx with hx | rfl
      · exact o2 x hx
      · exact (known_val hv).1
    · rw [List.all_eq_true] at o3 ⊢
      intro r hr
      rw [List.mem_filter] at hr
      refine rdOk_set (o3 r hr.1) ?_
      have := hr.2
      simp at this
      omega
  · have := List.length_filter_le (fun r : Rd => !decide (r.cell = i.n)) (stAt m s.n).wait
    have := h.wait
    dsimp only
    omega
theorem ok_read {m : Mem} (h : Ok m) {s i : V} {who : Int} (hs : known m s = true) : Ok (read m s i who).1 := by
  unfold read
  split
  · exact h
  split
  · exact h
  split
  · exact h
  split
  · exact h
  split
  · exact h
  split
  · exact h
  split
  · exact h
  rename_i h1 h2 h3 h4 h5 h6 h7
  obtain ⟨_, _, k3, k4, k5, k6⟩ := fits_at hs (by simpa using h5)
  have hg := stAt_get k4
  refine ok_set h hg (fun ho => ?_) ?_
  · unfold stOk at ho ⊢
    rw [Bool.and_eq_true, Bool.and_eq_true] at ho ⊢
    refine ⟨ho.1, ?_⟩
    rw [List.all_append, ho.2]
    simp only [List.all_cons, List.all_nil, Bool.and_true, Bool.true_and]
    unfold rdOk
    rw [cellAt_lt k5 k6]
    simpa using h6
  · simp only [List.length_append, List.length_singleton]
    omega
theorem ok_step {m : Mem} (h : Ok m) {o : Op} (ho : opOk m o = true) : Ok (step m o).1 := by
  unfold opOk at ho
  simp only [Bool.and_eq_true, Bool.or_eq_true, Bool.not_eq_true', Bool.or_eq_false_iff, decide_eq_false_iff_not] at ho
  obtain ⟨⟨h1, h2⟩, h3, h4⟩ := ho
  unfold step
  split
  · exact ok_alloc h _
  split
  · rename_i k1 k2
    refine ok_write h h2 ?_
    rcases h4 with h4 | h4
    · exact absurd k2 h4
    · exact h4
  split
  · exact ok_read h h2
  · exact h
/-- an operation that has an error leaves the memory -/
theorem step_err {m : Mem} {o : Op} (h : (step m o).2.2.2 ≠ 0) : (step m o).1 = m ∧ (step m o).2.2.1 = [] := by
  unfold step at *
  split
  · rename_i h1
    rw [if_pos h1] at h
    dsimp only at h ⊢
    refine ⟨?_, rfl⟩
    unfold alloc at *
    split
    · rfl
    split
    · rfl
    split
    · rfl
    split
    · rfl
    · rename_i a b c d
      rw [if_neg a, if_neg b, if_neg c, if_neg d] at h
      exact absurd rfl h
  rename_i h1
  rw [if_neg h1] at h
  split
  · rename_i h2
    rw [if_pos h2] at h
    dsimp only at h ⊢
    unfold write at *
    split
    · exact ⟨rfl, rfl⟩
    split
    · exact ⟨rfl, rfl⟩
    · rename_i a b
      rw [if_neg a, if_neg b] at h
      exact absurd rfl h
  rename_i h2
  rw [if_neg h2] at h
  split
  · rename_i h3
    rw [if_pos h3] at h
    dsimp only at h ⊢
    refine ⟨?_, rfl⟩
    unfold read at *
    split
    · rfl
    split
    · rfl
    split
    · rfl
    split
    · rfl
    split
    · rfl
    split
    · rfl
    split
    · rfl
    · rename_i a b c d e f g
      rw [if_neg a, if_neg b, if_neg c, if_neg d, if_neg e, if_neg f, if_neg g] at h
      exact absurd rfl h
  · exact ⟨rfl, rfl⟩
/-- the error of an operation on a right memory -/
def stepE (m : Mem) (o : Op) : Nat := if opOk m o then (step m o).2.2.2 else 2
theorem doo_ok {m : Mem} (h : Ok m) (o : Op) : (doo m o).2.2.2 = stepE m o ∧ (stepE m o = 0 → opOk m o = true ∧ doo m o = step m o) := by
  have hm := (ok_iff m).2 h
  unfold doo stepE
  rw [if_neg (by rw [hm]; decide)]
  cases ho : opOk m o with
  | false => simp
  | true =>
    simp only [Bool.not_true, Bool.false_eq_true, if_false, if_true]
    by_cases he : (step m o).2.2.2 = 0
    · rw [if_neg (by simp [he])]
      exact ⟨rfl, fun _ => ⟨trivial, rfl⟩⟩
    · rw [if_pos he]
      exact ⟨rfl, fun h => absurd h he⟩
end Ce
