/- Rows of elements of one kind in memory, whatever the kind: what is read of them, rows of the call's own, appends. It imports nothing of the program. -/
import Derived.WalkKit
import Derived.Below
import Derived.OwnWalk
import Derived.Deep.AppendLies
import Derived.Laws.AppendOwn
import Derived.Laws.AppendOwnNone
import Derived.Lib.Hide
namespace Go
open Go.RowKit

/-- a kind of elements: their cells -/
structure El (α : Type) where
  cells : α → List Value
  k : Nat
  pos : 0 < k
  len : ∀ x, (cells x).length = k
  one : ∀ x, ∀ u ∈ cells x, u.oneCell' = true

namespace El
theorem add_at (b off j : Nat) : (⟨b, off, none⟩ : Addr).add j = ⟨b, off + j, none⟩ := by
  cases j <;> simp [Addr.add]
theorem bcell {B : Nat} {W w1 : World} (hb : Below B W w1) : (∀ b o, b < B → w1.cell? ⟨b, o, none⟩ = W.cell? ⟨b, o, none⟩) ∧ (∀ b o, b < B → w1.frozen? ⟨b, o, none⟩ = W.frozen? ⟨b, o, none⟩) :=
  ⟨fun b o h => hb.cell (p := ⟨b, o, none⟩) h, fun b o h => hb.frozen (p := ⟨b, o, none⟩) h⟩
theorem lt_of_cell {w : World} {b o : Nat} {v : Value} (h : w.cell? ⟨b, o, none⟩ = some v) : b < w.heap.size := World.block_lt_of_cell? w ⟨b, o, none⟩ h
theorem grown_of_below {a w : World} (h : Below a.heap.size a w) (row : Option Nat) : a.grownBy w row := ⟨h.os, h.tape, h.output, h.size, fun i hi _ => h.block i hi⟩
theorem below_of_grown {a w : World} {row : Option Nat} (h : a.grownBy w row) {B : Nat} (hB : B ≤ a.heap.size) (hr : ∀ k, row = some k → B ≤ k) : Below B a w := (Below.refl _ _).grown h hB hr

theorem frozen_of_row (w : World) (g j : Nat) (cs : Array Value) (t : TypeId) (h : w.heap[g]? = some (.cells cs t (0, 0))) : w.frozen? ⟨g, j, none⟩ = false := by
  simp [World.frozen?, h]

/-- what stays so whatever is made later -/
def Stay (F : World → Prop) (W : World) : Prop := ∀ W', Below W.heap.size W W' → F W'
theorem Stay.at_ {F : World → Prop} {W : World} (h : Stay F W) : F W := h W (Below.refl _ _)
theorem Stay.step {F : World → Prop} {W W2 : World} (h : Stay F W) (hb : Below W.heap.size W W2) : Stay F W2 := fun W' h' => h W' (hb.trans (h'.mono hb.size))
theorem Stay.alloc {F : World → Prop} {W : World} (h : Stay F W) (o : Obj) : Stay F (W.alloc o) := h.step ((Below.refl _ _).alloc (Nat.le_refl _) _)
theorem Stay.cell {W : World} {b o : Nat} {v : Value} (h : W.cell? ⟨b, o, none⟩ = some v) : Stay (fun W => W.cell? ⟨b, o, none⟩ = some v) W := fun _ hb =>
  ((bcell hb).1 _ _ (lt_of_cell h)).trans h
theorem Stay.and {F G : World → Prop} {W : World} (h : Stay F W) (g : Stay G W) : Stay (fun W => F W ∧ G W) W := fun W' hb => ⟨h W' hb, g W' hb⟩
theorem Stay.mono {F G : World → Prop} {W : World} (h : Stay F W) (g : ∀ W, F W → G W) : Stay G W := fun W' hb => g W' (h W' hb)

variable {α : Type} (K : El α)
def row (l : List α) : List Value := l.flatMap K.cells
theorem row_cons (x : α) (l : List α) : K.row (x :: l) = K.cells x ++ K.row l := by simp [row]
theorem row_append (l m : List α) : K.row (l ++ m) = K.row l ++ K.row m := by simp [row]
theorem row_nil : K.row [] = [] := rfl
theorem row_one (x : α) : K.row [x] = K.cells x := by simp [row]
theorem row_len (l : List α) : (K.row l).length = l.length * K.k := by
  induction l with
  | nil => simp [row]
  | cons x r ih => rw [row_cons, List.length_append, ih, K.len, List.length_cons, Nat.succ_mul, Nat.add_comm]
theorem row_get : ∀ (l : List α) (i : Nat) (x : α), l[i]? = some x → ∀ j, j < K.k → (K.row l)[i * K.k + j]? = (K.cells x)[j]?
  | [], i, t, h, _, _ => by simp at h
  | x :: r, 0, t, h, j, hj => by
    simp at h; subst h
    rw [row_cons, Nat.zero_mul, Nat.zero_add, List.getElem?_append_left (by rw [K.len]; exact hj)]
  | x :: r, i + 1, t, h, j, hj => by
    have h' : r[i]? = some t := by simpa using h
    have := row_get r i t h' j hj
    rw [row_cons, Nat.succ_mul, List.getElem?_append_right (by rw [K.len]; omega), K.len, show i * K.k + K.k + j - K.k = i * K.k + j by omega]
    exact this
theorem row_at : ∀ (l : List α) (n : Nat) (u : Value), (K.row l)[n]? = some u → ∃ i j x, l[i]? = some x ∧ (K.cells x)[j]? = some u ∧ n = i * K.k + j ∧ j < K.k
  | [], n, u, h => by simp [row] at h
  | x :: r, n, u, h => by
    rw [row_cons] at h
    rcases Nat.lt_or_ge n K.k with hn | hn
    · rw [List.getElem?_append_left (by rw [K.len]; exact hn)] at h
      exact ⟨0, n, x, rfl, h, by omega, hn⟩
    · rw [List.getElem?_append_right (by rw [K.len]; exact hn), K.len] at h
      obtain ⟨i, j, y, hy, hc, he, hj⟩ := row_at r (n - K.k) u h
      exact ⟨i + 1, j, y, by simpa using hy, hc, by rw [Nat.succ_mul]; omega, hj⟩
theorem row_mem (l : List α) : ∀ u ∈ K.row l, u.oneCell' = true := by
  intro u hu
  simp only [row, List.mem_flatMap] at hu
  obtain ⟨x, _, hx⟩ := hu
  exact K.one x u hx

/-- the cells of a list of elements, from a place of a block on -/
def In (w : World) (b o : Nat) (l : List α) : Prop := ∀ i x, l[i]? = some x → ∀ j u, (K.cells x)[j]? = some u → w.cell? ⟨b, o + i * K.k + j, none⟩ = some u
variable {K}
theorem In.lt {w : World} {b o : Nat} {l : List α} (h : K.In w b o l) (hne : l ≠ []) : b < w.heap.size := by
  obtain ⟨x, hx⟩ : ∃ x, l[0]? = some x := ⟨l[0]'(List.length_pos_iff.2 hne), List.getElem?_eq_getElem _⟩
  have hp := K.pos
  have hc : (K.cells x)[0]? = some ((K.cells x)[0]'(by rw [K.len]; exact hp)) := List.getElem?_eq_getElem _
  exact lt_of_cell (h 0 x hx 0 _ hc)
theorem In.below {w w' : World} {B b o : Nat} {l : List α} (h : K.In w b o l) (hb : Below B w w') (hlt : l ≠ [] → b < B) : K.In w' b o l := by
  intro i x hx j u hu
  have hne : l ≠ [] := by intro e; subst e; simp at hx
  rw [(bcell hb).1 _ _ (hlt hne)]
  exact h i x hx j u hu
theorem In.grown {w w' : World} {row : Option Nat} {b o : Nat} {l : List α} (h : K.In w b o l) (hg : w.grownBy w' row) (hne : some b ≠ row) : K.In w' b o l :=
  fun i x hx j u hu => hg.cell (h i x hx j u hu) hne
theorem In.take {w : World} {b o : Nat} {l : List α} (h : K.In w b o l) (n : Nat) : K.In w b o (l.take n) := by
  intro i x hx
  rw [List.getElem?_take] at hx
  split at hx
  · exact h i x hx
  · cases hx
theorem In.drop {w : World} {b o : Nat} {l : List α} (h : K.In w b o l) (n : Nat) : K.In w b (o + n * K.k) (l.drop n) := by
  intro i x hx j u hu
  rw [List.getElem?_drop] at hx
  have := h (n + i) x hx j u hu
  rw [Nat.add_mul] at this
  rw [show o + n * K.k + i * K.k + j = o + (n * K.k + i * K.k) + j by omega]
  exact this

/-- a list of elements as an argument -/
structure Arg (K : El α) (w : World) (A : Option Addr) (l : List α) : Prop where
  at_ : l ≠ [] → ∃ b o, A = some ⟨b, o, none⟩ ∧ K.In w b o l
theorem Arg.below {w w' : World} {A : Option Addr} {l : List α} (h : K.Arg w A l) (hb : Below w.heap.size w w') : K.Arg w' A l :=
  ⟨fun hne => by obtain ⟨b, o, h1, h2⟩ := h.at_ hne; exact ⟨b, o, h1, h2.below hb (fun h => h2.lt h)⟩⟩
theorem Arg.stay {w : World} {A : Option Addr} {l : List α} (h : K.Arg w A l) : Stay (fun W => K.Arg W A l) w := fun _ hb => h.below hb
theorem Arg.nil (w : World) (A : Option Addr) : K.Arg w A [] := ⟨fun h => absurd rfl h⟩
theorem Arg.take {w : World} {A : Option Addr} {l : List α} (h : K.Arg w A l) (n : Nat) : K.Arg w A (l.take n) :=
  ⟨fun hne => by
    obtain ⟨b, o, h1, h2⟩ := h.at_ (by intro e; subst e; simp at hne)
    exact ⟨b, o, h1, h2.take n⟩⟩
/-- what is left of a slice from a place on: its address bears an 'if' -/
theorem Arg.drop_if {w : World} {a : Addr} {l : List α} (h : K.Arg w (some a) l) {n cap j : Nat} (hj : j = n * K.k) (hc : l.length ≤ cap) : K.Arg w (if cap = n then some a else some (a.add j)) (l.drop n) :=
  ⟨fun hne => by
    have hn : n < l.length := by
      rcases Nat.lt_or_ge n l.length with h | h
      · exact h
      · exact absurd (List.drop_eq_nil_of_le h) hne
    obtain ⟨b, o, h1, h2⟩ := h.at_ (by intro e; subst e; simp at hn)
    injection h1 with h1
    subst h1 hj
    rw [if_neg (by omega), add_at]
    exact ⟨b, _, rfl, h2.drop n⟩⟩
theorem Arg.at_lt {w : World} {A : Option Addr} {l : List α} (h : K.Arg w A l) {k : Nat} (hk : k < l.length) : ∃ b o, A = some ⟨b, o, none⟩ ∧ K.In w b o l ∧ b < w.heap.size := by
  have hne : l ≠ [] := by intro e; subst e; simp at hk
  obtain ⟨b, o, h1, h2⟩ := h.at_ hne
  exact ⟨b, o, h1, h2, h2.lt hne⟩

/-- a list of elements that the call owns -/
abbrev Own (K : El α) (e : TypeId) (w : World) (base : Nat) (A : Option Addr) (cap : Nat) (l : List α) : Prop := w.ownsRow base e K.k (.slice A l.length cap) l.length (K.row l)
section
variable {e : TypeId} {w w' : World} {base cap : Nat} {A : Option Addr} {l : List α}
theorem Own.nil (K : El α) (e : TypeId) (w : World) (base : Nat) : K.Own e w base none 0 [] := World.ownsRow_nil w base _ _
theorem Own.made (K : El α) (e : TypeId) (w : World) {base : Nat} (h : base ≤ w.heap.size) : K.Own e (w.alloc (.cells #[] e)) base (some ⟨w.heap.size, 0, none⟩) 0 [] := by
  have h2 := World.ownsRow_made (base := base) (e := e) (size := K.k) w #[] 0 h (by simp [maxLen]) (by simp)
  simpa [Own, row] using h2
theorem Own.below (h : K.Own e w base A cap l) (hb : Below w.heap.size w w') : K.Own e w' base A cap l :=
  h.kept (grown_of_below hb none) (by
    rcases A with _ | a
    · left; rfl
    · right; simp [Value.ownBlock])
theorem Own.stay (h : K.Own e w base A cap l) : Stay (fun W => K.Own e W base A cap l) w := fun _ hb => h.below hb
theorem Own.base_ {base' : Nat} (h : K.Own e w base A cap l) (hle : base' ≤ base) : K.Own e w base' A cap l := by
  refine ⟨h.1, ?_⟩
  rcases h.2 with h0 | ⟨g, cap', cur, hv, hb, r⟩
  · exact .inl h0
  · exact .inr ⟨g, cap', cur, hv, Nat.le_trans hle hb, r⟩
theorem Own.le (h : K.Own e w base A cap l) : l.length ≤ cap ∧ (A = none → cap = 0) := by
  rcases h.2 with ⟨hv, h0⟩ | ⟨g, cap', cur, hv, _, _, hc, _⟩
  · injection hv with h1 h2 h3
    exact ⟨by omega, fun _ => h3⟩
  · injection hv with h1 h2 h3
    subst h3
    exact ⟨hc, fun h => by rw [h] at h1; cases h1⟩
theorem Own.in_ (h : K.Own e w base A cap l) (hne : l ≠ []) : ∃ g, A = some ⟨g, 0, none⟩ ∧ base ≤ g ∧ g < w.heap.size ∧ K.In w g 0 l := by
  have hl : 0 < l.length := List.length_pos_iff.2 hne
  obtain ⟨g, cap', hv, hg, _⟩ := h.form hl
  injection hv with hA hn hc
  subst hA hc
  refine ⟨g, rfl, hg, (h.lt g rfl).2, fun i x hx j u hu => ?_⟩
  have hi : i < l.length := by
    rcases Nat.lt_or_ge i l.length with h | h
    · exact h
    · rw [List.getElem?_eq_none h] at hx; cases hx
  have hj : j < K.k := by
    rcases Nat.lt_or_ge j K.k with h | h
    · exact h
    · rw [List.getElem?_eq_none (by rw [K.len]; exact h)] at hu; cases hu
  have hc := World.ownsRow.cellAt h (i * K.k + j) (by have : (i + 1) * K.k ≤ l.length * K.k := Nat.mul_le_mul_right _ hi; rw [Nat.succ_mul] at this; omega)
  rw [Nat.zero_add, hc, K.row_get l i x hx j hj]
  exact hu
theorem Own.arg (h : K.Own e w base A cap l) : K.Arg w A l := ⟨fun hne => by
  obtain ⟨g, hA, _, _, hin⟩ := h.in_ hne
  exact ⟨g, 0, hA, hin⟩⟩
theorem Own.grown_below {w0 : World} {B : Nat} (h : K.Own e w base A cap l) (hb : Below B w0 w) (hB : B ≤ w.heap.size) (hle : B ≤ base) (hg : w.grownBy w' (Value.slice A l.length cap).ownBlock) : Below B w0 w' :=
  hb.grown hg hB (fun j hj => Nat.le_trans hle (h.lt j hj).1)
end

/-- elements that were just laid -/
theorem in_of_row {w : World} {g : Nat} {l : List α} (h : ∀ j u, (K.row l)[j]? = some u → w.cell? ⟨g, j, none⟩ = some u) : K.In w g 0 l := by
  intro i x hx j u hu
  have hj : j < K.k := by
    rcases Nat.lt_or_ge j K.k with h | h
    · exact h
    · rw [List.getElem?_eq_none (by rw [K.len]; exact h)] at hu; cases hu
  rw [Nat.zero_add]
  exact h _ _ (by rw [K.row_get l i x hx j hj]; exact hu)
theorem row_arg {W : World} {t : TypeId} {cs : Array Value} {l : List α} {g : Nat} (hg : g = W.heap.size) (h : cs.toList = K.row l) : K.Arg (W.alloc (.cells cs t)) (some ⟨g, 0, none⟩) l := by
  subst hg
  exact ⟨fun _ => ⟨_, 0, rfl, in_of_row fun j u hj => by rw [cell_of_row _ _ j _ _ _ (heap_alloc_new W _), ← Array.getElem?_toList, h]; exact hj⟩⟩

theorem own_own_ne {w : World} {base base2 : Nat} {e e2 : TypeId} {size n size2 n2 : Nat} {v v2 : Value} {xs xs2 : List Value} (h : w.ownsRow base e size v n xs) (h2 : w.ownsRow base2 e2 size2 v2 n2 xs2) (hne : e ≠ e2) : v.ownBlock = none ∨ v.ownBlock ≠ v2.ownBlock := by
  rcases h2.2 with ⟨rfl, _⟩ | ⟨g, cap, cur, rfl, _, hh, _⟩
  · rcases hv : v.ownBlock with _ | x
    · left; rfl
    · right; simp [Value.ownBlock]
  · right
    rcases h.2 with ⟨rfl, _⟩ | ⟨g', cap', cur', rfl, _, hh', _⟩
    · simp [Value.ownBlock]
    · intro he
      have : g' = g := by simpa [Value.ownBlock] using he
      subst this
      rw [hh] at hh'
      injection hh' with hh'
      injection hh' with _ ht
      exact hne ht.symm

variable {P : Program}
/-- append of a list of elements to a row of the call's own, at the operation -/
theorem wpList_append_el (K : El α) (w : World) {ops : Array Oper} {rest : List Oper} {o : Oper} {a : Act} {Q : Exit → Act → World → Prop} (hgd : o.guard = none) (x y : Operand) (t e : TypeId)
    (ho : o.op = .call { callee := .builtin .append, args := #[x, y], argTypes := #[t, t] }) (ht : P.underlying t = some (.slice e)) {z : Value} {bytes : Nat} (hi : (P.info? e).map (fun i => (i.zero, i.size, i.bytes)) = some (some z, K.k, bytes)) (hz : z.cells.size = K.k)
    (base : Nat) (A : Option Addr) (cap : Nat) (l m : List α) (b off c : Nat)
    (hx : a.eval x = .slice A l.length cap) (hy : a.eval y = .slice (some ⟨b, off, none⟩) m.length c) (hown : K.Own e w base A cap l) (hm : K.In w b off m) (h1 : l.length + m.length ≤ maxLen) (h2 : (l.length + m.length) * bytes ≤ 140737488355328) (hbase : base ≤ w.heap.size)
    (h : ∀ A' cap' w', K.Own e w' base A' cap' (l ++ m) → w.grownBy w' (Value.slice A l.length cap).ownBlock → wpList P ops Q rest (a.put o.dst (.slice A' (l.length + m.length) cap')) w') : wpList P ops Q (o :: rest) a w := by
  obtain ⟨i0, hi0, hz0, hz1, hz2⟩ := info_parts hi
  refine wpList_append_own w hgd x y t ho base e i0 z K.k bytes ht hi0 hz0 hz1 hz2 hz K.pos _ l.length (K.row l) hx hown ⟨b, off, none⟩ m.length c (K.row m) hy (K.row_len m) ?_ (K.row_mem m) h1 h2 hbase ?_
  · intro j u hj
    obtain ⟨i, j', y, hy, hc, rfl, hj'⟩ := K.row_at m j u hj
    rw [add_at, ← Nat.add_assoc]
    exact hm i y hy j' u hc
  · intro v' w' h2 h3 _
    have hf : ∃ A' cap', v' = .slice A' (l.length + m.length) cap' := by
      rcases h2.2 with ⟨hv, h0⟩ | ⟨g, cap', cur, hv, _⟩
      · exact ⟨none, 0, by rw [hv, h0]⟩
      · exact ⟨_, _, hv⟩
    obtain ⟨A', cap', rfl⟩ := hf
    exact h A' cap' w' (by unfold Own; rw [row_append, List.length_append]; exact h2) h3
/-- append of one element -/
theorem wpList_append_one (K : El α) (w : World) {ops : Array Oper} {rest : List Oper} {o : Oper} {a : Act} {Q : Exit → Act → World → Prop} (hgd : o.guard = none) (x y : Operand) (t e : TypeId)
    (ho : o.op = .call { callee := .builtin .append, args := #[x, y], argTypes := #[t, t] }) (ht : P.underlying t = some (.slice e)) {z : Value} {bytes : Nat} (hi : (P.info? e).map (fun i => (i.zero, i.size, i.bytes)) = some (some z, K.k, bytes)) (hz : z.cells.size = K.k)
    (base : Nat) (A : Option Addr) (cap : Nat) (l : List α) (m : α) (b : Nat)
    (hx : a.eval x = .slice A l.length cap) (hy : a.eval y = .slice (some ⟨b, 0, none⟩) 1 1) (hown : K.Own e w base A cap l) (hm : ∀ j u, (K.cells m)[j]? = some u → w.cell? ⟨b, j, none⟩ = some u) (h1 : l.length ≤ 10000000) (h2 : (l.length + 1) * bytes ≤ 140737488355328) (hbase : base ≤ w.heap.size)
    (h : ∀ A' cap' w', K.Own e w' base A' cap' (l ++ [m]) → w.grownBy w' (Value.slice A l.length cap).ownBlock → wpList P ops Q rest (a.put o.dst (.slice A' (l.length + 1) cap')) w') : wpList P ops Q (o :: rest) a w := by
  refine wpList_append_el K w hgd x y t e ho ht hi hz base A cap l [m] b 0 1 hx hy hown (fun i y hy j u hu => ?_) (by simp only [maxLen, List.length_singleton]; omega) h2 hbase h
  match i, hy with
  | 0, hy =>
    simp at hy; subst hy
    rw [Nat.zero_mul, Nat.add_zero, Nat.zero_add]
    exact hm j u hu
/-- append of a list of elements, wherever it lies, as one step of a region that draws -/
theorem step_append_any (K : El α) (w : World) {ops : Array Oper} {o : Oper} {a : Act} {KK : Act → World → Prop} {Q : Exit → Act → World → Prop} {E : Prop} (hgd : o.guard = none) (x y : Operand) (t e : TypeId)
    (ho : o.op = .call { callee := .builtin .append, args := #[x, y], argTypes := #[t, t] }) (ht : P.underlying t = some (.slice e)) {z : Value} {bytes : Nat} (hi : (P.info? e).map (fun i => (i.zero, i.size, i.bytes)) = some (some z, K.k, bytes)) (hz : z.cells.size = K.k)
    (base : Nat) (A : Option Addr) (cap n : Nat) (l m : List α) (ao : Option Addr) (c N : Nat)
    (hx : a.eval x = .slice A N cap) (hN : N = l.length) (hy : a.eval y = .slice ao n c) (hn : n = m.length) (hnone : ao = none → n = 0 ∧ c = 0) (hown : K.Own e w base A cap l) (hm : K.Arg w ao m) (h1 : l.length + m.length ≤ maxLen) (h2 : (l.length + m.length) * bytes ≤ 140737488355328) (hbase : base ≤ w.heap.size)
    (h : ∀ A' cap' w', K.Own e w' base A' cap' (l ++ m) → w.grownBy w' (Value.slice A l.length cap).ownBlock → KK (a.put o.dst (.slice A' (N + n) cap')) w') :
    if Region.wanted o (yielded ops a.tmps) = true then Oper.wp P o a w KK Q else E := by
  have hw : Region.wanted o (yielded ops a.tmps) = true := by simp [Region.wanted, hgd]
  rw [if_pos hw]
  obtain ⟨i0, hi0, hz0, hz1, hz2⟩ := info_parts hi
  subst hN
  have fin : ∀ (ad : Addr), a.eval y = .slice (some ad) n c → (∀ j u, (K.row m)[j]? = some u → w.cell? (ad.add j) = some u) → Oper.wp P o a w KK Q := fun ad hy hc => by
    refine wp_append_own w x y t ho base e i0 z K.k bytes ht hi0 hz0 hz1 hz2 hz K.pos _ l.length (K.row l) hx hown ad n c (K.row m) hy (by rw [K.row_len, hn]) hc (K.row_mem m) (by rw [hn]; exact h1) (by rw [hn]; exact h2) hbase ?_
    intro v' w' h2 h3 _
    have hf : ∃ A' cap', v' = .slice A' (l.length + n) cap' := by
      rcases h2.2 with ⟨hv, h0⟩ | ⟨g, cap', cur, hv, _⟩
      · exact ⟨none, 0, by rw [hv, h0]⟩
      · exact ⟨_, _, hv⟩
    obtain ⟨A', cap', rfl⟩ := hf
    refine h A' cap' w' ?_ h3
    unfold Own
    rw [row_append, List.length_append, ← hn]
    exact h2
  cases ao with
  | none =>
    obtain ⟨rfl, rfl⟩ := hnone rfl
    have hm0 : m = [] := List.length_eq_zero_iff.1 hn.symm
    subst hm0
    have hrun := run_append_owned_none (P := P) (w := w) base t o.type e i0 K.k ht hi0 _ l.length (K.row l) hown
    unfold Oper.wp
    simp [execOp, ho, resolve, invoke, builtin, hx, hy, hrun, Result.andThen]
    have := h A cap w (by rw [List.append_nil]; exact hown) (World.grownBy.refl _ _)
    exact this
  | some ad =>
    by_cases hme : m = []
    · subst hme
      exact fin ad hy (fun j u hj => by simp [row] at hj)
    · obtain ⟨b, off, hA, hin⟩ := hm.at_ hme
      injection hA with hA
      subst hA
      exact fin _ hy (fun j u hj => by
        obtain ⟨i, j', y, hy, hc, rfl, hj'⟩ := K.row_at m j u hj
        rw [add_at, ← Nat.add_assoc]
        exact hin i y hy j' u hc)
end El
end Go
