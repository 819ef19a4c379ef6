/- The walk of the reference's Sign. -/
import Derived.Test.YtkhgmoljhehbnaaGreatDoorR3
namespace Go.Proofs.YtkhgmoljhehbnaaGreatDoor
open Go.RowKit

/-- the best sign so far -/
def bestOf (l : Lx.B) (k : Nat) : Lx.B := ((Lx.signs.take k).find? (Lx.hasPrefix l)).getD []

theorem find_take_succ {p : Lx.B → Bool} (k : Nat) (t : Lx.B) (ht : Lx.signs[k]? = some t) : (Lx.signs.take (k + 1)).find? p = ((Lx.signs.take k).find? p).or (if p t then some t else none) := by
  have hl : k < Lx.signs.length := (List.getElem?_eq_some_iff.1 ht).1
  have he : Lx.signs[k] = t := (List.getElem?_eq_some_iff.1 ht).2
  rw [List.take_succ_eq_append_getElem hl, he, List.find?_append]
  congr 1
  simp [List.find?_cons]
  cases p t <;> rfl

theorem signs_desc : ∀ (i j : Nat) (a b : Lx.B), i < j → Lx.signs[i]? = some a → Lx.signs[j]? = some b → b.length ≤ a.length := by
  have h : Lx.signs.Pairwise (fun a b => b.length ≤ a.length) := by decide
  intro i j a b hij ha hb
  obtain ⟨h1, rfl⟩ := List.getElem?_eq_some_iff.1 ha
  obtain ⟨h2, rfl⟩ := List.getElem?_eq_some_iff.1 hb
  exact List.pairwise_iff_getElem.1 h i j h1 h2 hij
theorem signs_pos : ∀ t ∈ Lx.signs, 0 < t.length := by decide

/-- what is known of the best one before a step -/
theorem best_step (l : Lx.B) (k : Nat) (t : Lx.B) (ht : Lx.signs[k]? = some t) :
    (bestOf l k ≠ [] ∧ t.length ≤ (bestOf l k).length ∧ bestOf l (k + 1) = bestOf l k) ∨
    (bestOf l k = [] ∧ bestOf l (k + 1) = if Lx.hasPrefix l t then t else []) := by
  unfold bestOf
  rw [find_take_succ k t ht]
  cases h : (Lx.signs.take k).find? (Lx.hasPrefix l) with
  | none => right; simp; cases Lx.hasPrefix l t <;> simp
  | some a =>
    left
    have hm := List.mem_of_find?_eq_some h
    obtain ⟨i, hi, he⟩ := List.getElem_of_mem hm
    simp at hi
    rw [List.getElem_take] at he
    refine ⟨?_, ?_, by simp⟩
    · have := signs_pos a (List.mem_of_mem_take hm)
      intro e; simp at e; subst e; simp at this
    · exact signs_desc i k a t (by omega) (by rw [List.getElem?_eq_getElem (by omega), he]) ht

theorem best_all (l : Lx.B) : bestOf l 26 = (Lx.signOf Lx.signs l).getD [] := by
  unfold bestOf Lx.signOf
  rw [List.take_of_length_le (by decide)]

theorem hasPrefix_short (l t : Lx.B) (h : l.length < t.length) : Lx.hasPrefix l t = false := by
  unfold Lx.hasPrefix
  rw [beq_eq_false_iff_ne]
  intro e
  have := congrArg List.length e
  rw [List.length_take] at this
  omega

theorem slice_eq (s : ByteArray) (a n : Nat) (t : Lx.B) (hn : n = t.length) : ((s.extract a (a + n)).toList == t) = Lx.hasPrefix (s.data.toList.drop a) t := by
  subst hn
  unfold Lx.hasPrefix
  rw [Lib.extract_toList, show a + t.length - a = t.length from by omega]

def signV (_s : ByteArray) (a : Nat) (b : Lx.B) : Value := .tuple #[.agg #[.int .u8 4, sv b, .int .i64 a], .int .i64 ((a + b.length : Nat) : Int), .bool (!(b == []))]

theorem signV_eq (s b : ByteArray) (a : Nat) : signV s a b.data.toList = .tuple #[.agg #[.int .u8 4, .string b, .int .i64 a], .int .i64 ((a : Int) + b.size), .bool (!b.toList.isEmpty)] := by
  unfold signV
  rw [sv_data, ← Lib.size_eq, Lib.toList_data, Int.natCast_add]
  congr 5
  cases b.data.toList <;> rfl

end Go.Proofs.YtkhgmoljhehbnaaGreatDoor
