/- Layer 5, the program: rows of parts, stored into, cut. -/
import Derived.Test.YthagelnimmfhbaaA7
import Derived.Test.YthagelnimmfhbaaRk
import Derived.Lib.SlKept
import Derived.Laws.IdiomCopy
import Derived.Laws.OwnMore
namespace Go.Proofs.Ythagelnimmfhbaa
open Go.RowKit Go.El

instance ptInh : Inhabited Rg.Pt := ⟨⟨⟨false, 0⟩, ⟨false, 0⟩, 0⟩⟩

theorem row_set (x : Rg.Pt) : ∀ (L : List Rg.Pt) (i : Nat), i < L.length → PtE.row (L.set i x) = (((((PtE.row L).set (i * 5) (.bool x.lo.size)).set (i * 5 + 1) (.int .i64 x.lo.n)).set (i * 5 + 2) (.bool x.hi.size)).set (i * 5 + 3) (.int .i64 x.hi.n)).set (i * 5 + 4) (.int .i64 x.step)
  | [], i, h => by cases h
  | y :: r, 0, _ => rfl
  | y :: r, i + 1, h => by
    have ih := row_set x r i (by simpa using h)
    rw [List.set_cons_succ, El.row_cons, El.row_cons, ih]
    have e : (i + 1) * 5 = i * 5 + 1 + 1 + 1 + 1 + 1 := by omega
    rw [e]
    rfl
theorem own_put {W : World} {base g cap : Nat} {L : List Rg.Pt} (h : OwnP W base (some ⟨g, 0, none⟩) cap L) (i : Nat) (hi : i < L.length) (x : Rg.Pt) :
    OwnP (((((W.setCell ⟨g, i * 5, none⟩ (.bool x.lo.size)).setCell ⟨g, i * 5 + 1, none⟩ (.int .i64 x.lo.n)).setCell ⟨g, i * 5 + 2, none⟩ (.bool x.hi.size)).setCell ⟨g, i * 5 + 3, none⟩ (.int .i64 x.hi.n)).setCell ⟨g, i * 5 + 4, none⟩ (.int .i64 x.step)) base (some ⟨g, 0, none⟩) cap (L.set i x) := by
  have h1 := (World.ownsRow.stored h (i * 5) (.bool x.lo.size)).1
  have h2 := (World.ownsRow.stored h1 (i * 5 + 1) (.int .i64 x.lo.n)).1
  have h3 := (World.ownsRow.stored h2 (i * 5 + 2) (.bool x.hi.size)).1
  have h4 := (World.ownsRow.stored h3 (i * 5 + 3) (.int .i64 x.hi.n)).1
  have h5 := (World.ownsRow.stored h4 (i * 5 + 4) (.int .i64 x.step)).1
  show World.ownsRow _ _ _ 5 (.slice _ (L.set i x).length _) (L.set i x).length (PtE.row (L.set i x))
  rw [row_set x L i hi, List.length_set]
  exact h5
/-- cells of the row are stored into: what lies ahead stays -/
theorem own_setCells {e : TypeId} {size base g cap n : Nat} : ∀ (vs : List Value) (o : Nat) (W : World) (xs : List Value), W.ownsRow base e size (.slice (some ⟨g, 0, none⟩) n cap) n xs →
    ∃ xs', (W.setCells g o vs).ownsRow base e size (.slice (some ⟨g, 0, none⟩) n cap) n xs' ∧ (∀ t, t < o → xs'[t]? = xs[t]?)
  | [], _, _, xs, h => ⟨xs, h, fun _ _ => rfl⟩
  | v :: r, o, W, xs, h => by
    obtain ⟨xs', h1, h2⟩ := own_setCells r (o + 1) _ _ (World.ownsRow.stored h o v).1
    exact ⟨xs', h1, fun t ht => by rw [h2 t (by omega), List.getElem?_set_ne (by omega)]⟩
/-- the row is cut -/
theorem own_cut {e : TypeId} {size base g cap n i : Nat} {W : World} {xs : List Value} (h : W.ownsRow base e size (.slice (some ⟨g, 0, none⟩) n cap) n xs) (hi : i ≤ n) : W.ownsRow base e size (.slice (some ⟨g, 0, none⟩) i cap) i (xs.take (i * size)) := by
  have hm : i * size ≤ n * size := Nat.mul_le_mul_right _ hi
  refine ⟨by rw [List.length_take, h.1]; omega, ?_⟩
  rcases h.2 with ⟨hv, _⟩ | ⟨g', cap', cur, hv, hb, hh, hc1, hc2, hc3, hc4⟩
  · cases hv
  · injection hv with hA hn hcap
    injection hA with hA
    injection hA with hg _
    subst hg hcap
    exact .inr ⟨g, cap, cur, rfl, hb, hh, by omega, hc2, hc3, by rw [← hc4, List.take_take, Nat.min_eq_left hm]⟩
theorem row_take (L : List Rg.Pt) (i : Nat) (hi : i ≤ L.length) : (PtE.row L).take (i * 5) = PtE.row (L.take i) := by
  have h : PtE.row L = PtE.row (L.take i) ++ PtE.row (L.drop i) := by rw [← El.row_append, List.take_append_drop]
  have hl : (PtE.row (L.take i)).length = i * 5 := by rw [El.row_len, List.length_take, Nat.min_eq_left hi]; rfl
  rw [h, List.take_append_of_le_length (by omega), List.take_of_length_le (by omega)]

/-- clear of what is left of a row of parts -/
theorem run_clear_parts {W : World} {base g cap : Nat} {L : List Rg.Pt} (h : OwnP W base (some ⟨g, 0, none⟩) cap L) (i : Nat) (hi : i < L.length) :
    ∃ vs, ∀ (ty : TypeId) (c : Nat), (Builtin.clear_ #[31] ty #[.slice (some ⟨g, i * 5, none⟩) (L.length - i) c]).run Try.prog W = .ok (.tuple #[]) (W.setCells g (i * 5) vs) := by
  obtain ⟨m, hm⟩ : ∃ m, L.length - i = m + 1 := ⟨L.length - i - 1, by omega⟩
  refine ⟨(Builtin.zeroCells (Value.agg #[.bool false, .int .i64 0, .bool false, .int .i64 0, .int .i64 0]).cells (m + 1)).toList, fun ty c => ?_⟩
  have hlen : (Builtin.zeroCells (Value.agg #[.bool false, .int .i64 0, .bool false, .int .i64 0, .int .i64 0]).cells (m + 1)).toList.length = (m + 1) * 5 := by
    simp [Builtin.zeroCells, Value.cells]
  have hst := run_storeCells_cells (P := Try.prog) g (i * 5) (Builtin.zeroCells (Value.agg #[.bool false, .int .i64 0, .bool false, .int .i64 0, .int .i64 0]).cells (m + 1)).toList 0 W
    (fun j hj => by
      rw [hlen] at hj
      rw [Nat.add_zero, World.ownsRow.cellAt h (i * 5 + j) (by show _ < L.length * 5; omega)]
      rw [List.getElem?_eq_getElem (by rw [El.row_len]; show _ < L.length * 5; omega)]
      rfl)
    (fun j _ => World.ownsRow.frozenAt h _)
    (fun v hv => by
      simp only [Builtin.zeroCells, Value.cells, Array.mem_toList_iff] at hv
      obtain ⟨j, hj, rfl⟩ := Array.mem_iff_getElem.1 hv
      simp
      have h5 : j % 5 < 5 := Nat.mod_lt _ (by decide)
      match hq : j % 5, h5 with
      | 0, _ => rfl
      | 1, _ => rfl
      | 2, _ => rfl
      | 3, _ => rfl
      | 4, _ => rfl)
  rw [Nat.add_zero] at hst
  rw [hm]
  simp [Builtin.clear_, run_underlying Try.underlying31, hst]

end Go.Proofs.Ythagelnimmfhbaa
