/- Layer 5: what the program's functions are to give (contracts, as plain statements), and the walks of the laws' samples. -/
import Derived.Test.YthagelnimmfhbaaRn
namespace Rg
def inS (s : Int) : Bool := decide (0 ≤ s) && decide (s ≤ 100)
def optI : Option Nat → Int
  | none => -1
  | some n => n
def cellsR (p : Pt) (s : Int) : List Int × Nat := if p.ok then (if inS s then (p.cells s, 0) else ([], 3)) else ([], 2)
def missesR (l : List Pt) (s : Int) : List (Int × Nat) × Nat := if valid l then (if inS s then (misses l s, 0) else ([], 3)) else ([], 2)
def ofFirst : Option (Nat × Int × Nat) → (Int × Int × Nat) × Nat
  | none => ((0, 0, 0), 7)
  | some (s, c, k) => (((s : Int), c, k), 0)
def firstR (l : List Pt) (s : Int) : (Int × Int × Nat) × Nat := if valid l then (if inS s then ofFirst (first l s.toNat) else ((0, 0, 0), 3)) else ((0, 0, 0), 2)
def sizesR (l : List Pt) : List Nat × Nat := if valid l then (sizes l, 0) else ([], 2)
def ofOpt : Option Nat → Nat × Nat
  | none => (0, 7)
  | some n => (n, 0)
def leastR (l : List Pt) : Nat × Nat := if valid l then ofOpt (least l) else (0, 2)
def whoR (l : List Pt) (s c : Int) : Nat × Nat := if valid l then (if inS s && (decide (0 ≤ c) && decide (c < s)) then ofOpt (who l s c) else (0, 3)) else (0, 2)
def fill (l : List Pt) (s : Nat) : List Int := (List.range s).map fun i : Nat => optI (who l s i)
def fillR (l : List Pt) (s : Int) : List Int × Nat := if valid l then (if inS s then (fill l s.toNat, 0) else ([], 3)) else ([], 2)
def slimR (l : List Pt) : List Pt × Nat := if valid l then (slim l, 0) else ([], 2)
end Rg
namespace Go.Proofs.Ythagelnimmfhbaa
open Go.RowKit Go.El

def CellsC : Prop := ∀ (p : Rg.Pt) (s : Int) (w : World), Calls Try.prog 12 #[.agg (ptC p).toArray, .int .i64 s] w fun e w' =>
  (∃ B c, e = .returned (.tuple #[.slice B (Rg.cellsR p s).1.length c, .int .i64 ((Rg.cellsR p s).2 : Nat)]) ∧ OwnI w' w.heap.size B c (Rg.cellsR p s).1) ∧ Below w.heap.size w w'
def MissesC : Prop := ∀ (l : List Rg.Pt) (_ : l.length ≤ maxLen) (A : Option Addr) (cap : Nat) (s : Int) (w : World) (_ : PtE.Arg w A l), Calls Try.prog 18 #[.slice A l.length cap, .int .i64 s] w fun e w' =>
  (∃ B c, e = .returned (.tuple #[.slice B (Rg.missesR l s).1.length c, .int .i64 ((Rg.missesR l s).2 : Nat)]) ∧ OwnM w' w.heap.size B c (mv s (Rg.missesR l s).1)) ∧ Below w.heap.size w w'
def missV (m : Int × Int × Nat) : Value := .agg #[.int .i64 m.1, .int .i64 m.2.1, .int .u8 m.2.2]
def FirstC : Prop := ∀ (l : List Rg.Pt) (_ : l.length ≤ maxLen) (A : Option Addr) (cap : Nat) (s : Int) (w : World) (_ : PtE.Arg w A l), Calls Try.prog 19 #[.slice A l.length cap, .int .i64 s] w fun e w' =>
  e = .returned (.tuple #[missV (Rg.firstR l s).1, .int .i64 ((Rg.firstR l s).2 : Nat)]) ∧ Below w.heap.size w w'
def SizesC : Prop := ∀ (l : List Rg.Pt) (_ : l.length ≤ maxLen) (A : Option Addr) (cap : Nat) (w : World) (_ : PtE.Arg w A l), Calls Try.prog 24 #[.slice A l.length cap] w fun e w' =>
  (∃ B c, e = .returned (.tuple #[.slice B (Rg.sizesR l).1.length c, .int .i64 ((Rg.sizesR l).2 : Nat)]) ∧ OwnI w' w.heap.size B c (iv (Rg.sizesR l).1)) ∧ Below w.heap.size w w'
def LeastC : Prop := ∀ (l : List Rg.Pt) (_ : l.length ≤ maxLen) (A : Option Addr) (cap : Nat) (w : World) (_ : PtE.Arg w A l), Calls Try.prog 25 #[.slice A l.length cap] w fun e w' =>
  e = .returned (.tuple #[.int .i64 ((Rg.leastR l).1 : Nat), .int .i64 ((Rg.leastR l).2 : Nat)]) ∧ Below w.heap.size w w'
def WhoC : Prop := ∀ (l : List Rg.Pt) (_ : l.length ≤ maxLen) (A : Option Addr) (cap : Nat) (s c : Int) (w : World) (_ : PtE.Arg w A l), Calls Try.prog 30 #[.slice A l.length cap, .int .i64 s, .int .i64 c] w fun e w' =>
  e = .returned (.tuple #[.int .i64 ((Rg.whoR l s c).1 : Nat), .int .i64 ((Rg.whoR l s c).2 : Nat)]) ∧ Below w.heap.size w w'
def FillC : Prop := ∀ (l : List Rg.Pt) (_ : l.length ≤ maxLen) (A : Option Addr) (cap : Nat) (s : Int) (w : World) (_ : PtE.Arg w A l), Calls Try.prog 31 #[.slice A l.length cap, .int .i64 s] w fun e w' =>
  (∃ B c, e = .returned (.tuple #[.slice B (Rg.fillR l s).1.length c, .int .i64 ((Rg.fillR l s).2 : Nat)]) ∧ OwnI w' w.heap.size B c (Rg.fillR l s).1) ∧ Below w.heap.size w w'
def SlimC : Prop := ∀ (l : List Rg.Pt) (_ : l.length ≤ maxLen) (A : Option Addr) (cap : Nat) (w : World) (_ : PtE.Arg w A l), Calls Try.prog 26 #[.slice A l.length cap] w fun e w' =>
  (∃ B c, e = .returned (.tuple #[.slice B (Rg.slimR l).1.length c, .int .i64 ((Rg.slimR l).2 : Nat)]) ∧ OwnP w' w.heap.size B c (Rg.slimR l).1) ∧ Below w.heap.size w w'

def one (n : Int) : Rg.Pt := ⟨⟨false, n⟩, ⟨false, n⟩, 1⟩
theorem cell_any (n : Int) (w : World) : Calls Try.prog 40 #[.int .i64 n] w fun e w' => e = .returned (.agg #[.bool false, .int .i64 n, .bool false, .int .i64 n, .int .i64 1]) ∧ Below w.heap.size w w' := by
  go_enter Try.func40, Try.ntmps40
  go_wp2
  refine bodyPost_ret (v := .agg #[.bool false, .int .i64 n, .bool false, .int .i64 n, .int .i64 1]) (by simp [results, Try.results40, go_sem]) rfl ⟨rfl, ?_⟩
  exact (Below.refl _ _).alloc (Nat.le_refl _) _
def samp : List Rg.Pt := [one 0, one 1, ⟨⟨false, 2⟩, ⟨true, 1⟩, 1⟩]
set_option maxHeartbeats 1000000 in
theorem sample_any (w : World) : Calls Try.prog 39 #[] w fun e w' => (∃ g, e = .returned (.slice (some ⟨g, 0, none⟩) 3 3) ∧ PtE.Arg w' (some ⟨g, 0, none⟩) samp) ∧ Below w.heap.size w w' := by
  go_enter Try.func39, Try.ntmps39
  go_wp2_with fail
  refine (cell_any _ _).mono ?_
  rintro e w1 ⟨rfl, hb1⟩
  go_wp2_with fail
  refine (cell_any _ _).mono ?_
  rintro e w2 ⟨rfl, hb2⟩
  go_wp2
  go_ret
  exact ⟨⟨w2.heap.size, rfl, row_arg (K := PtE) rfl rfl⟩, (hb1.trans (hb2.mono hb1.size)).alloc (Nat.le_trans hb1.size hb2.size) _⟩

end Go.Proofs.Ythagelnimmfhbaa
