/- Maps in a block of the call's own that are known entry by entry: look-ups, stores of new keys. It imports nothing of the program. -/
import Derived.Test.YtacggbpgillbaaaGreatDoorEl
import Derived.Maps.OwnOps
namespace Go.El
open Go.RowKit Go.MapKept Go.ChangeMaps

/-- a map in a block, known entry by entry -/
def MapIs (W : World) (d : TypeDesc) (b : Nat) (l : List (Value × Value)) : Prop :=
  ∃ es clock, W.heap[b]? = some (.map es clock) ∧ es.toList.map (fun e => (e.key, e.val)) = l ∧ ∀ e ∈ es.toList, IsKey d e.key
theorem MapIs.lt {W : World} {d : TypeDesc} {b : Nat} {l : List (Value × Value)} (h : MapIs W d b l) : b < W.heap.size := by
  obtain ⟨es, clock, hb, _⟩ := h
  exact (Array.getElem?_eq_some_iff.1 hb).1
theorem MapIs.made (W : World) (d : TypeDesc) : MapIs (W.alloc (.map #[] 0)) d W.heap.size [] := ⟨#[], 0, (heap_alloc W _).1, rfl, by simp⟩
theorem MapIs.below {W W' : World} {d : TypeDesc} {B b : Nat} {l : List (Value × Value)} (h : MapIs W d b l) (hb : Below B W W') (hlt : b < B) : MapIs W' d b l := by
  obtain ⟨es, clock, h1, h2⟩ := h
  exact ⟨es, clock, (hb.block b hlt).trans h1, h2⟩
theorem MapIs.stay {W : World} {d : TypeDesc} {b : Nat} {l : List (Value × Value)} (h : MapIs W d b l) : Stay (fun W => MapIs W d b l) W := fun _ hb => h.below hb h.lt
theorem MapIs.grown {W W' : World} {row : Option Nat} {d : TypeDesc} {b : Nat} {l : List (Value × Value)} (h : MapIs W d b l) (hg : W.grownBy W' row) (hne : some b ≠ row) : MapIs W' d b l := by
  have hlt := h.lt
  obtain ⟨es, clock, h1, h2⟩ := h
  exact ⟨es, clock, (hg.block b hlt hne).trans h1, h2⟩
theorem MapIs.cell {W : World} {d : TypeDesc} {b : Nat} {l : List (Value × Value)} (h : MapIs W d b l) {a : Addr} (ha : b ≠ a.block) (u : Value) : MapIs (W.setCell a u) d b l := by
  obtain ⟨es, clock, h1, h2⟩ := h
  exact ⟨es, clock, by rw [RowKit.Below.heap_setCell _ _ _ _ ha]; exact h1, h2⟩

variable {P : Program}
theorem run_lookup_none {W : World} {t k e : TypeId} {d : TypeDesc} {b : Nat} {l : List (Value × Value)} (h : MapIs W d b l) (ht : P.underlying t = some (.map k e)) (hk : P.underlying k = some d) {z : Value} (hz : (zeroValue e).run P W = .ok z W)
    {key : Value} (hkey : IsKey d key) (hno : ∀ p ∈ l, p.1 ≠ key) (ok : Bool) : (Instr.lookup t (.map (some b)) key ok).run P W = .ok (if ok then .tuple #[z, .bool false] else z) W := by
  obtain ⟨es, clock, hb, rfl, hks⟩ := h
  rcases findNow_spec hkey es.toList 0 hks with ⟨h1, _⟩ | ⟨j, x, _, h2, h3⟩
  · simp [Instr.lookup, run_underlying ht, MapKept.run_getObj_map hb, run_checkKey hk hkey, run_findKey hk h1, hz, Result.andThen]
  · exact absurd h3 (hno _ (List.mem_map.2 ⟨x, List.mem_of_getElem? h2, rfl⟩))
theorem run_lookup_some {W : World} {t k e : TypeId} {d : TypeDesc} {b : Nat} {l : List (Value × Value)} (h : MapIs W d b l) (ht : P.underlying t = some (.map k e)) (hk : P.underlying k = some d)
    {key v : Value} (hkey : IsKey d key) (hin : (key, v) ∈ l) (hone : ∀ p ∈ l, p.1 = key → p.2 = v) (ok : Bool) : (Instr.lookup t (.map (some b)) key ok).run P W = .ok (if ok then .tuple #[v, .bool true] else v) W := by
  obtain ⟨es, clock, hb, rfl, hks⟩ := h
  rcases findNow_spec hkey es.toList 0 hks with ⟨_, h2⟩ | ⟨j, x, h1, h2, h3⟩
  · obtain ⟨y, hy, e⟩ := List.mem_map.1 hin
    exact absurd (congrArg Prod.fst e) (h2 y hy)
  · have hv := hone _ (List.mem_map.2 ⟨x, List.mem_of_getElem? h2, rfl⟩) h3
    dsimp only at hv
    subst hv
    simp [Instr.lookup, run_underlying ht, MapKept.run_getObj_map hb, run_checkKey hk hkey, run_findKey hk h1, Result.andThen]
theorem run_update_new {W : World} {t k e : TypeId} {d : TypeDesc} {b : Nat} {l : List (Value × Value)} (h : MapIs W d b l) (ht : P.underlying t = some (.map k e)) (hk : P.underlying k = some d)
    {key v : Value} (hkey : IsKey d key) (hno : ∀ p ∈ l, p.1 ≠ key) : ∃ W', (Instr.mapUpdate t (.map (some b)) key v).run P W = .ok () W' ∧ MapIs W' d b (l ++ [(key, v)]) ∧ W.grownBy W' (some b) := by
  obtain ⟨es, clock, hb, rfl, hks⟩ := h
  rcases findNow_spec hkey es.toList 0 hks with ⟨h1, _⟩ | ⟨j, x, _, h2, h3⟩
  · refine ⟨setBlock W b (.map (es.push ⟨key, v, clock⟩) (clock + 1)), ?_, ⟨_, _, heap_setBlock_same hb _, by simp, ?_⟩, ⟨rfl, rfl, rfl, by simp [setBlock], fun i _ hi => heap_setBlock_other hb _ (fun e => hi (by rw [e]))⟩⟩
    · simp [Instr.mapUpdate, run_underlying ht, MapKept.run_getObj_map hb, run_checkKey hk hkey, run_findKey hk h1, MapKept.run_setObj_map _ hb, Result.andThen, setBlock]
    · intro x hx
      simp only [Array.toList_push, List.mem_append, List.mem_singleton] at hx
      rcases hx with hx | rfl
      · exact hks x hx
      · exact hkey
  · exact absurd h3 (hno _ (List.mem_map.2 ⟨x, List.mem_of_getElem? h2, rfl⟩))

/-- a store of a new key, at the operation -/
theorem wpList_update_new (w : World) {ops : Array Oper} {rest : List Oper} {o : Oper} {a : Act} {Q : Exit → Act → World → Prop} (hg : o.guard = none) (m x v : Operand) (t : TypeId) (hop : o.op = Op.mapUpdate t m x v)
    (k e : TypeId) (d : TypeDesc) (ht : P.underlying t = some (.map k e)) (hk : P.underlying k = some d) (b : Nat) (l : List (Value × Value)) (hm : a.eval m = .map (some b)) (hown : MapIs w d b l) (key val : Value) (hx : a.eval x = key) (hv : a.eval v = val) (hkey : IsKey d key) (hno : ∀ p ∈ l, p.1 ≠ key)
    (hK : ∀ w', MapIs w' d b (l ++ [(key, val)]) → w.grownBy w' (some b) → wpList P ops Q rest (a.put o.dst undef) w') : wpList P ops Q (o :: rest) a w := by
  refine wpList_plain hg fun K' hK' => ?_
  obtain ⟨w', hrun, r1, r2⟩ := run_update_new (P := P) (v := val) hown ht hk hkey hno
  unfold Oper.wp
  simp [execOp, hop, hm, hx, hv, hrun, Result.andThen]
  exact hK' _ _ (hK w' r1 r2)
theorem wp_update_new (w : World) {o : Oper} {a : Act} {KK : Act → World → Prop} {Q : Exit → Act → World → Prop} (m x v : Operand) (t : TypeId) (hop : o.op = Op.mapUpdate t m x v)
    (k e : TypeId) (d : TypeDesc) (ht : P.underlying t = some (.map k e)) (hk : P.underlying k = some d) (b : Nat) (l : List (Value × Value)) (hm : a.eval m = .map (some b)) (hown : MapIs w d b l) (key val : Value) (hx : a.eval x = key) (hv : a.eval v = val) (hkey : IsKey d key) (hno : ∀ p ∈ l, p.1 ≠ key)
    (hK : ∀ w', MapIs w' d b (l ++ [(key, val)]) → w.grownBy w' (some b) → KK (a.put o.dst undef) w') : Oper.wp P o a w KK Q := by
  obtain ⟨w', hrun, r1, r2⟩ := run_update_new (P := P) (v := val) hown ht hk hkey hno
  unfold Oper.wp
  simp [execOp, hop, hm, hx, hv, hrun, Result.andThen]
  exact hK w' r1 r2
theorem wpList_lookup_some (w : World) {ops : Array Oper} {rest : List Oper} {o : Oper} {a : Act} {Q : Exit → Act → World → Prop} (hg : o.guard = none) (m x : Operand) (t : TypeId) (ok : Bool) (hop : o.op = Op.lookup t m x ok)
    (k e : TypeId) (d : TypeDesc) (ht : P.underlying t = some (.map k e)) (hk : P.underlying k = some d) (b : Nat) (l : List (Value × Value)) (hm : a.eval m = .map (some b)) (hown : MapIs w d b l) (key v : Value) (hx : a.eval x = key) (hkey : IsKey d key) (hin : (key, v) ∈ l) (hone : ∀ p ∈ l, p.1 = key → p.2 = v)
    (hK : wpList P ops Q rest (a.put o.dst (if ok then .tuple #[v, .bool true] else v)) w) : wpList P ops Q (o :: rest) a w := by
  refine wpList_plain hg fun K' hK' => ?_
  have hrun := run_lookup_some (P := P) hown ht hk hkey hin hone ok
  unfold Oper.wp
  simp [execOp, hop, hm, hx, hrun, Result.andThen]
  exact hK' _ _ hK
theorem wpList_lookup_none (w : World) {ops : Array Oper} {rest : List Oper} {o : Oper} {a : Act} {Q : Exit → Act → World → Prop} (hg : o.guard = none) (m x : Operand) (t : TypeId) (ok : Bool) (hop : o.op = Op.lookup t m x ok)
    (k e : TypeId) (d : TypeDesc) (ht : P.underlying t = some (.map k e)) (hk : P.underlying k = some d) (z : Value) (hz : (zeroValue e).run P w = .ok z w) (b : Nat) (l : List (Value × Value)) (hm : a.eval m = .map (some b)) (hown : MapIs w d b l) (key : Value) (hx : a.eval x = key) (hkey : IsKey d key) (hno : ∀ p ∈ l, p.1 ≠ key)
    (hK : wpList P ops Q rest (a.put o.dst (if ok then .tuple #[z, .bool false] else z)) w) : wpList P ops Q (o :: rest) a w := by
  refine wpList_plain hg fun K' hK' => ?_
  have hrun := run_lookup_none (P := P) hown ht hk hz hkey hno ok
  unfold Oper.wp
  simp [execOp, hop, hm, hx, hrun, Result.andThen]
  exact hK' _ _ hK
end Go.El
