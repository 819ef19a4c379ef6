/- Layer 5: the walk of the laws' known, if the program's functions give what they are to give. -/
import Derived.Test.YthagelnimmfhbaaRo
import Derived.Deep.DeepCutAuto
namespace Rg
theorem sizesK_of (l : List Pt) (f : Nat → Bool) : ∀ n : Nat, (∀ k : Nat, k < n → right l k = f k) → sizesK l n = (List.range n).filter f
  | 0, _ => rfl
  | n + 1, h => by
    rw [sizesK, sizesK_of l f n (fun k hk => h k (by omega)), List.range_succ, List.filter_append, h n (by omega)]
    congr 1
    cases hf : f n <;> simp [hf]
def leastF (f : Nat → Bool) : Nat → Option Nat → Option Nat
  | 0, b => b
  | k + 1, b => if f k then leastF f k (some k) else b
theorem leastK_of (l : List Pt) (f : Nat → Bool) : ∀ (n : Nat) (b : Option Nat), (∀ k : Nat, k < n → right l k = f k) → leastK l n b = leastF f n b
  | 0, _, _ => rfl
  | n + 1, b, h => by
    rw [leastK, leastF, h n (by omega), leastK_of l f n _ (fun k hk => h k (by omega))]
end Rg
namespace Go.Proofs.Ythagelnimmfhbaa
open Go.RowKit Go.El

def samp2 : List Rg.Pt := [⟨⟨false, 0⟩, ⟨true, 1⟩, 2⟩, ⟨⟨false, 1⟩, ⟨true, 0⟩, 1⟩]
def samp3 : List Rg.Pt := [⟨⟨false, 0⟩, ⟨true, 1⟩, 2⟩, one 1, one 3]
theorem v1 : Rg.valid samp = true := by decide +kernel
theorem v2 : Rg.valid samp2 = true := by decide +kernel
theorem v3 : Rg.valid samp3 = true := by decide +kernel
theorem r1 : ∀ k : Nat, k < 101 → Rg.right samp (k : Nat) = decide (2 ≤ k) := by decide +kernel
theorem r3 : ∀ k : Nat, k < 101 → Rg.right samp3 (k : Nat) = (k == 4 || k == 5) := by decide +kernel
theorem n1 : Rg.leastR samp = (2, 0) := by
  unfold Rg.leastR Rg.least
  rw [v1, Rg.leastK_of samp _ 101 none r1]
  decide +kernel
theorem n2' : Rg.sizesR samp = ((List.range 101).filter fun k => decide (2 ≤ k), 0) := by
  unfold Rg.sizesR Rg.sizes
  rw [v1, Rg.sizesK_of samp _ 101 r1]
  rfl
theorem n2 : (Rg.sizesR samp).1.length = 99 ∧ (Rg.sizesR samp).1[0]? = some 2 ∧ (Rg.sizesR samp).2 = 0 := by
  rw [n2']
  decide +kernel
theorem n3 : Rg.firstR samp 0 = ((0, 0, 3), 0) := by decide +kernel
theorem n4 : Rg.firstR samp 1 = ((1, 1, 3), 0) := by decide +kernel
theorem n5 : Rg.fillR samp 4 = ([0, 1, 2, 2], 0) := by decide +kernel
theorem n6 : Rg.missesR samp2 3 = ([(2, 2), (3, 3)], 0) := by decide +kernel
theorem n7 : Rg.sizesR samp3 = ([4, 5], 0) := by
  unfold Rg.sizesR Rg.sizes
  rw [v3, Rg.sizesK_of samp3 _ 101 r3]
  decide +kernel
theorem n8 : Rg.firstR samp 2 = ((0, 0, 0), 7) := by
  have h : Rg.first samp 2 = none := Rg.first_none samp 2 fun j h1 h2 => by rw [r1 j (by omega), decide_eq_true h1]
  unfold Rg.firstR
  rw [v1, show (2 : Int).toNat = 2 from rfl, h]
  rfl

end Go.Proofs.Ythagelnimmfhbaa
