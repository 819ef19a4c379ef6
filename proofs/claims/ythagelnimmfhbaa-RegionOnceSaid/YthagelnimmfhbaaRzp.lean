/- Layer 5: the walk of the law RegionOnce: the counts. -/
import Derived.Test.YthagelnimmfhbaaRzo
import Derived.Deep.RegionWith
import Derived.Deep.DeepCutAuto
namespace Go.Proofs.Ythagelnimmfhbaa
open Go.RowKit Go.El

/-- the array of counts -/
structure Cnt (W : World) (G : Nat) (f : Int → Nat) : Prop where
  cell : ∀ j, j < 500 → W.cell? ⟨G, j, none⟩ = some (.int .i64 (f ((j : Int) - 200)))
  free : ∀ j, W.frozen? ⟨G, j, none⟩ = false
theorem Cnt.lt {W : World} {G : Nat} {f : Int → Nat} (h : Cnt W G f) : G < W.heap.size := lt_of_cell (h.cell 0 (by decide))
theorem Cnt.below {W W' : World} {G : Nat} {f : Int → Nat} (h : Cnt W G f) {B : Nat} (hb : Below B W W') (hG : G < B) : Cnt W' G f :=
  ⟨fun j hj => ((bcell hb).1 _ _ hG).trans (h.cell j hj), fun j => ((bcell hb).2 _ _ hG).trans (h.free j)⟩
theorem Cnt.set_ {W : World} {G : Nat} {f : Int → Nat} (h : Cnt W G f) {x : Int} {j : Nat} (hx : x + 200 = j) (hj : j < 500) {v : Int} (hv : v = (f x : Int) + 1) {g : Int → Nat} (hg : ∀ c, g c = f c + if x = c then 1 else 0) : Cnt (W.setCell ⟨G, j, none⟩ (.int .i64 v)) G g := by
  refine ⟨fun i hi => ?_, fun i => ?_⟩
  · by_cases e : i = j
    · subst e
      rw [World.cell?_setCell_same (h := h.cell i hi), hv, hg, show (i : Int) - 200 = x by omega, if_pos rfl]
      rfl
    · have hne : (⟨G, j, none⟩ : Addr) ≠ ⟨G, i, none⟩ := by intro e'; injection e' with _ e'; exact e e'.symm
      rw [World.cell?_setCell_other (h := hne), h.cell i hi, hg, if_neg (by omega)]
      rfl
  · have := h.free i
    rw [World.frozen?_setCell]
    exact this

theorem below_drewN {B : Nat} {w w' : World} (h : Below B w w') (n : Nat) : Below B w (w'.drewN n) := by
  induction n with
  | zero => exact h
  | succ n ih => exact ih.drew
theorem cell_drewN (w : World) (a : Addr) (n : Nat) : (w.drewN n).cell? a = w.cell? a := by
  induction n with
  | zero => rfl
  | succ n ih => exact ih
theorem frozen_drewN (w : World) (a : Addr) (n : Nat) : (w.drewN n).frozen? a = w.frozen? a := by
  induction n with
  | zero => rfl
  | succ n ih => exact ih
theorem heap_drewN (w : World) (n : Nat) : (w.drewN n).heap = w.heap := by
  induction n with
  | zero => rfl
  | succ n ih => exact ih
theorem grownBy_setCell1 (w : World) (b o : Nat) (v : Value) : w.grownBy (w.setCell ⟨b, o, none⟩ v) (some b) :=
  ⟨rfl, rfl, rfl, by simp [World.setCell], fun k _ hk => Below.heap_setCell _ _ _ k (fun e => hk (by rw [e]))⟩
theorem cntIn_le (C : List Int) (c : Int) : Rg.cntIn C c ≤ C.length := List.countP_le_length
theorem tally_le (l : List Rg.Pt) (s : Int) (i n : Nat) (c : Int) (m : Nat) (h : ∀ p, l[i]? = some p → (p.cells s).length ≤ m) : Rg.tally l s i n c ≤ l.length + m := by
  have h1 : Rg.many (l.take i) s c ≤ l.length := Nat.le_trans List.countP_le_length (by simp; omega)
  unfold Rg.tally
  cases hp : l[i]? with
  | none => simp only; omega
  | some p =>
    have h2 := cntIn_le ((p.cells s).take n) c
    have h3 := h p hp
    simp only [List.length_take] at h2 ⊢
    omega

theorem made500 : ∀ j, j < 500 → (madeCells (Value.int .i64 0).cells (500 * 1)).toList[j]? = some (.int .i64 0) := by
  intro j hj
  unfold madeCells
  simp [Value.cells, hj, Nat.mod_one]

theorem cnt_made {W : World} {base G : Nat} (h : W.ownsRow base 3 1 (.slice (some ⟨G, 0, none⟩) 500 500) 500 (madeCells (Value.int .i64 0).cells (500 * 1)).toList) : Cnt W G (fun _ => 0) := by
  refine ⟨fun j hj => ?_, fun j => ?_⟩
  · rw [World.ownsRow.cellAt h j (by omega), made500 j hj]
    rfl
  · rcases h.2 with ⟨hv, _⟩ | ⟨g, cap, cur, hv, _, hh, _⟩
    · cases hv
    · injection hv with h1 _ _
      injection h1 with h1
      injection h1 with h1 _ _
      subst h1
      exact frozen_of_row W G j cur _ hh

end Go.Proofs.Ythagelnimmfhbaa
