/- Layer 6, plainly: new numbers of structures, what is met, the text of a picture as far as it is written. It imports nothing of the program. -/
import Derived.Test.YtacggbpgillbaaaGreatDoorTm
namespace Ce
theorem place_len : ∀ (met : List Int) (n : Int), ¬ n ∈ met → place n met = met.length
  | [], _, _ => rfl
  | x :: r, n, h => by
    rw [place, if_neg (fun e => h (by rw [e]; exact .head _)), place_len r n (fun hm => h (.tail _ hm))]
    rfl
theorem place_at : ∀ (met : List Int) (n : Int), n ∈ met → met[place n met]? = some n ∧ place n met < met.length
  | [], _, h => by cases h
  | x :: r, n, h => by
    rw [place]
    by_cases e : x = n
    · rw [if_pos e]; exact ⟨by simp [e], by simp⟩
    · rw [if_neg e]
      have hm : n ∈ r := by
        cases h with
        | head => exact absurd rfl e
        | tail _ h => exact h
      have := place_at r n hm
      exact ⟨by simpa using this.1, by simp; omega⟩
theorem place_le (met : List Int) (n : Int) : place n met ≤ met.length := by
  by_cases h : n ∈ met
  · exact Nat.le_of_lt (place_at met n h).2
  · rw [place_len met n h]; exact Nat.le_refl _
theorem place_eq_iff (met : List Int) (n : Int) : place n met = met.length ↔ ¬ n ∈ met :=
  ⟨fun h hm => by have := (place_at met n hm).2; omega, place_len met n⟩
/-- what is met of a structure's number -/
def meet (n : Int) (met : List Int) : List Int := if place n met = met.length then met ++ [n] else met
theorem meet_in {met : List Int} {n : Int} (h : n ∈ met) : meet n met = met := if_neg fun e => (place_eq_iff met n).1 e h
theorem meet_out {met : List Int} {n : Int} (h : ¬ n ∈ met) : meet n met = met ++ [n] := if_pos (place_len met n h)
theorem meet_nodup {met : List Int} (h : met.Nodup) (n : Int) : (meet n met).Nodup := by
  by_cases hm : n ∈ met
  · rwa [meet_in hm]
  · rw [meet_out hm]
    rw [List.nodup_append]
    exact ⟨h, by simp, fun a ha b hb => by simp at hb; subst hb; rintro rfl; exact hm ha⟩
theorem nodup_le : ∀ (l m : List Nat), l.Nodup → (∀ x ∈ l, x ∈ m) → l.length ≤ m.length
  | [], _, _, _ => by simp
  | x :: r, m, h, hs => by
    have hx := hs x (.head _)
    have h' := List.nodup_cons.1 h
    have := nodup_le r (m.erase x) h'.2 (fun y hy => (List.mem_erase_of_ne (fun e => h'.1 (by rw [← e]; exact hy))).2 (hs y (.tail _ hy)))
    rw [List.length_erase_of_mem hx] at this
    have hp := List.length_pos_of_mem hx
    simp only [List.length_cons]
    omega
/-- numbers of structures that there are -/
def Below (many : Nat) (met : List Int) : Prop := ∀ n ∈ met, 0 ≤ n ∧ n < many
theorem meet_below {met : List Int} {many : Nat} (h : Below many met) {n : Int} (h0 : 0 ≤ n) (h1 : n < many) : Below many (meet n met) := by
  unfold meet
  split
  · intro x hx
    rcases List.mem_append.1 hx with hx | hx
    · exact h x hx
    · simp at hx; subst hx; exact ⟨h0, h1⟩
  · exact h
theorem below_len {met : List Int} {many : Nat} (h : Below many met) (hd : met.Nodup) : met.length ≤ many := by
  have h1 : (met.map Int.toNat).Nodup := by
    rw [List.Nodup, List.pairwise_map]
    refine List.Pairwise.imp_of_mem ?_ hd
    intro a b ha hb hab e
    have := h a ha
    have := h b hb
    omega
  have h2 : ∀ x ∈ met.map Int.toNat, x ∈ List.range many := by
    intro x hx
    obtain ⟨y, hy, rfl⟩ := List.mem_map.1 hx
    have := h y hy
    rw [List.mem_range]
    omega
  have h3 : (met.map Int.toNat).length ≤ (List.range many).length := nodup_le _ _ h1 h2
  simpa using h3
end Ce
