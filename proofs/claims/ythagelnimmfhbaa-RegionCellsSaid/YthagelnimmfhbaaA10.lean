/- Layer 5, the program: a row of misses, sorted in place. -/
import Derived.Test.YthagelnimmfhbaaA2
import Derived.Test.YthagelnimmfhbaaA8
import Derived.Test.YthagelnimmfhbaaRk
import Derived.Test.YthagelnimmfhbaaShelf
namespace Go.Proofs.Ythagelnimmfhbaa
open Go.RowKit Go.El Go.Sort

/-- the cells of a miss, by its cell alone -/
def mC (s : Int) (kd : Int → Nat) (c : Int) : List Value := [.int .i64 s, .int .i64 c, .int .u8 (kd c : Nat)]
def mL (s : Int) (kd : Int → Nat) (cs : List Int) : List (Int × Int × Nat) := cs.map fun c => (s, c, kd c)
theorem mL_len (s : Int) (kd : Int → Nat) (cs : List Int) : (mL s kd cs).length = cs.length := List.length_map _
theorem mL_row (s : Int) (kd : Int → Nat) (cs : List Int) (t : Nat) (ht : t < cs.length * 3) : (MissE.row (mL s kd cs))[t]? = some (flatK (mC s kd) 3 cs.toArray)[t]! := by
  rw [get_flatK _ _ _ _ (by simpa using ht)]
  have h1 : t / 3 < cs.length := by omega
  have hx : (mL s kd cs)[t / 3]? = some (s, cs[t / 3], kd cs[t / 3]) := by
    unfold mL
    rw [List.getElem?_map, List.getElem?_eq_getElem h1]
    rfl
  have := MissE.row_get (mL s kd cs) (t / 3) _ hx (t % 3) (Nat.mod_lt _ (by decide))
  rw [show t / 3 * MissE.k + t % 3 = t by show t / 3 * 3 + t % 3 = t; omega] at this
  rw [this]
  have h2 : cs.toArray[t / 3]! = cs[t / 3] := by rw [getElem!_pos _ _ (by simpa using h1)]; simp
  rw [h2]
  have h3 : t % 3 < 3 := Nat.mod_lt _ (by decide)
  match hm : t % 3, h3 with
  | 0, _ => rfl
  | 1, _ => rfl
  | 2, _ => rfl
theorem holds_of_own {W : World} {base g cap : Nat} {s : Int} {kd : Int → Nat} {cs : List Int} (h : OwnM W base (some ⟨g, 0, none⟩) cap (mL s kd cs)) : HoldsK (mC s kd) 3 W g 0 cs.toArray := by
  intro j hj
  have hj' : j < cs.length * 3 := by simpa using hj
  have hc := World.ownsRow.cellAt h j (by rw [mL_len]; exact hj')
  rw [mL_row s kd cs j hj'] at hc
  rw [Nat.zero_add]
  refine ⟨hc, ?_⟩
  rcases h.2 with ⟨hv, _⟩ | ⟨g', cap', cur, hv, _, hb, _⟩
  · cases hv
  · injection hv with hA _ _
    injection hA with hA
    injection hA with hg _
    subst hg
    exact frozen_of_row _ _ _ _ _ hb

theorem size_putCells (enc : Value → Value) (off : Nat) (d : Array Value) (c : Array Value) : (putCells enc off d c).size = c.size := by
  simp [putCells]
theorem sorted_own {W : World} {base g cap : Nat} {s : Int} {kd : Int → Nat} {cs : List Int} (h : OwnM W base (some ⟨g, 0, none⟩) cap (mL s kd cs)) (n : Nat) (ds : List Int) (os : Array Obj) (hl : ds.length = cs.length) :
    OwnM (Go.Proofs.sortWorldK (mC s kd) 3 W g 0 n ds.toArray os) base (some ⟨g, 0, none⟩) cap (mL s kd ds) ∧ W.grownBy (Go.Proofs.sortWorldK (mC s kd) 3 W g 0 n ds.toArray os) (some g) := by
  have hH := holds_of_own h
  have hlt := (h.lt g rfl).2
  have hH2 := Go.Proofs.holdsK_sortWorldK (mC s kd) 3 W g 0 n cs.toArray ds.toArray os hlt hH (by simpa using hl)
  have hz : W.heap.size ≤ (Go.Proofs.sortWorldK (mC s kd) 3 W g 0 n ds.toArray os).heap.size := by
    simp [Go.Proofs.sortWorldK, grow, putRowK, putRow, mapBlock]
  refine ⟨?_, rfl, rfl, rfl, hz, fun i hi hn => ?_⟩
  · rcases h.2 with ⟨hv, _⟩ | ⟨g', cap', cur, hv, hbase, hb, hc1, hc2, hc3, hc4⟩
    · cases hv
    · injection hv with hA hn hcap
      injection hA with hA
      injection hA with hg _
      subst hg hcap
      rw [mL_len] at hc1
      have hb2 : (Go.Proofs.sortWorldK (mC s kd) 3 W g 0 n ds.toArray os).heap[g]? = some (.cells (putCells id 0 (flatK (mC s kd) 3 ds.toArray) cur) 41 (0, 0)) := by
        unfold Go.Proofs.sortWorldK
        rw [heap_grow_old _ _ (by simp [putRowK, putRow, mapBlock]; exact hlt)]
        unfold putRowK putRow mapBlock
        simp only [heap_ahead, Array.getElem?_modify, if_true]
        rw [hb]
        rfl
      have hsz : (putCells id 0 (flatK (mC s kd) 3 ds.toArray) cur).size = cap * 3 := by rw [size_putCells]; exact hc3
      refine ⟨by rw [El.row_len], .inr ⟨g, cap, _, rfl, hbase, hb2, by rw [mL_len, hl]; exact hc1, hc2, hsz, ?_⟩⟩
      rw [mL_len]
      have hcap3 : ds.length * 3 ≤ cap * 3 := by rw [hl]; exact Nat.mul_le_mul_right _ hc1
      rw [show MissE.k = 3 from rfl]
      apply List.ext_getElem?
      intro t
      rcases Nat.lt_or_ge t (ds.length * 3) with ht | ht
      · rw [mL_row s kd ds t ht, List.getElem?_take_of_lt ht]
        have h3 := (hH2 t (by simpa using ht)).1
        rw [Nat.zero_add, cell_of_row _ _ _ _ _ _ hb2] at h3
        rw [Array.getElem?_toList]
        exact h3
      · rw [List.getElem?_eq_none (by rw [List.length_take]; omega), List.getElem?_eq_none (by rw [El.row_len, mL_len, show MissE.k = 3 from rfl]; exact ht)]
  · have hg : i ≠ g := fun e => hn (by rw [e])
    unfold Go.Proofs.sortWorldK
    rw [heap_grow_old _ _ (by simp [putRowK, putRow, mapBlock]; exact hi)]
    unfold putRowK putRow mapBlock
    simp only [heap_ahead, Array.getElem?_modify]
    rw [if_neg (Ne.symm hg)]

end Go.Proofs.Ythagelnimmfhbaa
