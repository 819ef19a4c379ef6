/- The walk of the reference's Number. -/
import Derived.Test.YtkhgmoljhehbnaaGreatDoorR2
namespace Go.Proofs.YtkhgmoljhehbnaaGreatDoor
open Go.RowKit

theorem val_take (l : Lx.B) (k : Nat) : Lx.val 0 (l.take k) ≤ Lx.val 0 l := by
  have h := Lx.val_ge (l.drop k) (Lx.val 0 (l.take k))
  have e : Lx.val (Lx.val 0 (l.take k)) (l.drop k) = Lx.val 0 l := by
    unfold Lx.val
    rw [← List.foldl_append, List.take_append_drop]
  omega
theorem val_succ (s : ByteArray) (k : Nat) (h : k < s.size) : Lx.val 0 (s.data.toList.take (k + 1)) = 10 * Lx.val 0 (s.data.toList.take k) + (s[k].toNat - 48) := by
  rw [List.take_succ_eq_append_getElem (by simpa using h), Lx.val_snoc]; rfl
theorem numOk_big {l : Lx.B} (h : 1000000000 < Lx.val 0 l) : Lx.numOk l = false := by
  unfold Lx.numOk
  rw [Lx.val_eq, show decide (Lx.val 0 l ≤ 1000000000) = false from by simp; omega, Bool.false_and]
theorem numOk_small {l : Lx.B} (h : Lx.val 0 l ≤ 1000000000) : Lx.numOk l = !(decide (1 < l.length) && decide (l.head? = some 48)) := by
  unfold Lx.numOk
  rw [Lx.val_eq, show decide (Lx.val 0 l ≤ 1000000000) = true from by simp; omega, Bool.true_and]

def numV (l : Lx.B) : Int := if Lx.numOk l then (Lx.val 0 l : Int) else -1

end Go.Proofs.YtkhgmoljhehbnaaGreatDoor
