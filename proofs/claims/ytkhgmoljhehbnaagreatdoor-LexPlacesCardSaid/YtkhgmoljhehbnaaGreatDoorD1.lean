/- Lines, plainly: a text cut at its line feeds, as a list is cut and as it is gone through byte by byte. -/
import Derived.Test.YtkhgmoljhehbnaaGreatDoorPure
import Derived.Lib.SplitLaws
namespace Lx
open Go

/-- the lines of a text, of the line that was begun and of what is left -/
def linesG : B → B → List B
  | cur, [] => [cur]
  | cur, c :: r => if c = 10 then cur :: linesG [] r else linesG (cur ++ [c]) r

def headL : List B → B
  | [] => []
  | h :: _ => h
def tailL : List B → List B
  | [] => []
  | _ :: t => t

theorem split_nil : Lib.split [] [10] = [[]] := by decide
theorem split_feed (r : B) : Lib.split (10 :: r) [10] = [] :: Lib.split r [10] := by
  unfold Lib.split
  rw [Lib.count_cons_eq, Nat.add_comm, Lib.splitK]
  have hix : Lib.index (10 :: r) [10] = ((0 : Nat) : Int) := by rw [Lib.index]; simp [List.isPrefixOf]
  rw [hix]
  simp
theorem split_miss (c : UInt8) (r : B) (hc : c ≠ 10) : Lib.split (c :: r) [10] = (c :: headL (Lib.split r [10])) :: tailL (Lib.split r [10]) := by
  unfold Lib.split
  rw [Lib.count_cons_ne c 10 r hc]
  have hp : ([10] : B).isPrefixOf (c :: r) = false := by simp [List.isPrefixOf, Ne.symm hc]
  have hix : Lib.index (c :: r) [10] = if Lib.index r [10] == -1 then -1 else Lib.index r [10] + 1 := by rw [Lib.index, hp]; simp
  by_cases hm : Lib.index r [10] = -1
  · rw [Lib.count_miss hm]
    rfl
  · have hge := Lib.index_ge r [10]
    obtain ⟨j, hj⟩ : ∃ j : Nat, Lib.index r [10] = j := ⟨(Lib.index r [10]).toNat, by omega⟩
    have hix' : Lib.index (c :: r) [10] = ((j + 1 : Nat) : Int) := by rw [hix, if_neg (fun e => hm (beq_iff_eq.1 e)), hj]; omega
    rw [Lib.count_hit (by simp) hj, Nat.add_comm, Lib.splitK, Lib.splitK, hix', hj]
    rw [if_neg (by simp; omega), if_neg (by simp)]
    simp only [Int.toNat_natCast, Nat.add_zero, List.take_succ_cons, List.length_singleton, List.drop_succ_cons, headL, tailL]

theorem linesG_split : ∀ (r cur : B), linesG cur r = (cur ++ headL (Lib.split r [10])) :: tailL (Lib.split r [10])
  | [], cur => by simp [linesG, split_nil, headL, tailL]
  | c :: r, cur => by
    unfold linesG
    by_cases hc : c = 10
    · subst hc
      rw [if_pos rfl, split_feed, linesG_split r []]
      simp only [headL, tailL, List.append_nil, List.nil_append]
      cases h : Lib.split r [10] with
      | nil => have := congrArg List.length (linesG_split r []); exact absurd h (by unfold Lib.split; cases Lib.count r [10] <;> unfold Lib.splitK <;> (try split) <;> simp)
      | cons a t => rfl
    · rw [if_neg hc, split_miss c r hc, linesG_split r]
      simp [headL, tailL]

theorem lines_split (r : B) : linesG [] r = Lib.split r [10] := by
  rw [linesG_split]
  cases h : Lib.split r [10] with
  | nil => exact absurd h (by unfold Lib.split; cases Lib.count r [10] <;> unfold Lib.splitK <;> (try split) <;> simp)
  | cons a t => simp [headL, tailL]

theorem linesG_pos : ∀ (r cur : B), linesG cur r ≠ []
  | [], _ => by simp [linesG]
  | c :: r, cur => by unfold linesG; split; simp; exact linesG_pos r _
theorem linesG_len : ∀ (r cur : B), (linesG cur r).length ≤ r.length + 1
  | [], _ => by simp [linesG]
  | c :: r, cur => by
    unfold linesG
    split
    · have := linesG_len r []; simp; omega
    · have := linesG_len r (cur ++ [c]); simp; omega
end Lx
