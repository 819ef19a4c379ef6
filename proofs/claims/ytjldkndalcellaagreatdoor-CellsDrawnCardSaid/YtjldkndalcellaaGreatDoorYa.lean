/- Rows of elements of one kind in memory, whatever the kind: what is read of them, rows of the call's own, appends. It imports nothing of the program. The plain functions of layer 6: values, operations, memories and what is done to them, pictures, streams, texts. It imports nothing of the program. Layer 6, plainly: what is done to a right memory leaves a right memory; play without checks. It imports nothing of the program. Layer 6, plainly: new numbers of structures, what is met, the text of a picture as far as it is written. It imports nothing of the program. -/
import Derived.WalkKit
import Derived.Below
import Derived.OwnWalk
import Derived.Deep.AppendLies
import Derived.Laws.AppendOwn
import Derived.Laws.AppendOwnNone
import Derived.Lib.Hide
namespace Go
open Go.RowKit

/-- a kind of elements: their cells -/
structure El (α : Type) where
  cells : α → List Value
  k : Nat
  pos : 0 < k
  len : ∀ x, (cells x).length = k
  one : ∀ x, ∀ u ∈ cells x, u.oneCell' = true

namespace El
theorem add_at (b off j : Nat) : (⟨b, off, none⟩ : Addr).add j = ⟨b, off + j, none⟩ := by
  cases j <;> simp [Addr.add]
theorem bcell {B : Nat} {W w1 : World} (hb : Below B W w1) : (∀ b o, b < B → w1.cell? ⟨b, o, none⟩ = W.cell? ⟨b, o, none⟩) ∧ (∀ b o, b < B → w1.frozen? ⟨b, o, none⟩ = W.frozen? ⟨b, o, none⟩) :=
  ⟨fun b o h => hb.cell (p := ⟨b, o, none⟩) h, fun b o h => hb.frozen (p := ⟨b, o, none⟩) h⟩
theorem lt_of_cell {w : World} {b o : Nat} {v : Value} (h : w.cell? ⟨b, o, none⟩ = some v) : b < w.heap.size := World.block_lt_of_cell? w ⟨b, o, none⟩ h
theorem grown_of_below {a w : World} (h : Below a.heap.size a w) (row : Option Nat) : a.grownBy w row := ⟨h.os, h.tape, h.output, h.size, fun i hi _ => h.block i hi⟩
theorem below_of_grown {a w : World} {row : Option Nat} (h : a.grownBy w row) {B : Nat} (hB : B ≤ a.heap.size) (hr : ∀ k, row = some k → B ≤ k) : Below B a w := (Below.refl _ _).grown h hB hr

theorem frozen_of_row (w : World) (g j : Nat) (cs : Array Value) (t : TypeId) (h : w.heap[g]? = some (.cells cs t (0, 0))) : w.frozen? ⟨g, j, none⟩ = false := by
  simp [World.frozen?, h]

/-- what stays so whatever is made later -/
def Stay (F : World → Prop) (W : World) : Prop := ∀ W', Below W.heap.size W W' → F W'
theorem Stay.at_ {F : World → Prop} {W : World} (h : Stay F W) : F W := h W (Below.refl _ _)
theorem Stay.step {F : World → Prop} {W W2 : World} (h : Stay F W) (hb : Below W.heap.size W W2) : Stay F W2 := fun W' h' => h W' (hb.trans (h'.mono hb.size))
theorem Stay.alloc {F : World → Prop} {W : World} (h : Stay F W) (o : Obj) : Stay F (W.alloc o) := h.step ((Below.refl _ _).alloc (Nat.le_refl _) _)
theorem Stay.cell {W : World} {b o : Nat} {v : Value} (h : W.cell? ⟨b, o, none⟩ = some v) : Stay (fun W => W.cell? ⟨b, o, none⟩ = some v) W := fun _ hb =>
  ((bcell hb).1 _ _ (lt_of_cell h)).trans h
theorem Stay.and {F G : World → Prop} {W : World} (h : Stay F W) (g : Stay G W) : Stay (fun W => F W ∧ G W) W := fun W' hb => ⟨h W' hb, g W' hb⟩
theorem Stay.mono {F G : World → Prop} {W : World} (h : Stay F W) (g : ∀ W, F W → G W) : Stay G W := fun W' hb => g W' (h W' hb)

variable {α : Type} (K : El α)
def row (l : List α) : List Value := l.flatMap K.cells
theorem row_cons (x : α) (l : List α) : K.row (x :: l) = K.cells x ++ K.row l := by simp [row]
theorem row_append (l m : List α) : K.row (l ++ m) = K.row l ++ K.row m := by simp [row]
theorem row_nil : K.row [] = [] := rfl
theorem row_one (x : α) : K.row [x] = K.cells x := by simp [row]
theorem row_len (l : List α) : (K.row l).length = l.length * K.k := by
  induction l with
  | nil => simp [row]
  | cons x r ih => rw [row_cons, List.length_append, ih, K.len, List.length_cons, Nat.succ_mul, Nat.add_comm]
theorem row_get : ∀ (l : List α) (i : Nat) (x : α), l[i]? = some x → ∀ j, j < K.k → (K.row l)[i * K.k + j]? = (K.cells x)[j]?
  | [], i, t, h, _, _ => by simp at h
  | x :: r, 0, t, h, j, hj => by
    simp at h; subst h
    rw [row_cons, Nat.zero_mul, Nat.zero_add, List.getElem?_append_left (by rw [K.len]; exact hj)]
  | x :: r, i + 1, t, h, j, hj => by
    have h' : r[i]? = some t := by simpa using h
    have := row_get r i t h' j hj
    rw [row_cons, Nat.succ_mul, List.getElem?_append_right (by rw [K.len]; omega), K.len, show i * K.k + K.k + j - K.k = i * K.k + j by omega]
    exact this
theorem row_at : ∀ (l : List α) (n : Nat) (u : Value), (K.row l)[n]? = some u → ∃ i j x, l[i]? = some x ∧ (K.cells x)[j]? = some u ∧ n = i * K.k + j ∧ j < K.k
  | [], n, u, h => by simp [row] at h
  | x :: r, n, u, h => by
    rw [row_cons] at h
    rcases Nat.lt_or_ge n K.k with hn | hn
    · rw [List.getElem?_append_left (by rw [K.len]; exact hn)] at h
      exact ⟨0, n, x, rfl, h, by omega, hn⟩
    · rw [List.getElem?_append_right (by rw [K.len]; exact hn), K.len] at h
      obtain ⟨i, j, y, hy, hc, he, hj⟩ := row_at r (n - K.k) u h
      exact ⟨i + 1, j, y, by simpa using hy, hc, by rw [Nat.succ_mul]; omega, hj⟩
theorem row_mem (l : List α) : ∀ u ∈ K.row l, u.oneCell' = true := by
  intro u hu
  simp only [row, List.mem_flatMap] at hu
  obtain ⟨x, _, hx⟩ := hu
  exact K.one x u hx

/-- the cells of a list of elements, from a place of a block on -/
def In (w : World) (b o : Nat) (l : List α) : Prop := ∀ i x, l[i]? = some x → ∀ j u, (K.cells x)[j]? = some u → w.cell? ⟨b, o + i * K.k + j, none⟩ = some u
variable {K}
theorem In.lt {w : World} {b o : Nat} {l : List α} (h : K.In w b o l) (hne : l ≠ []) : b < w.heap.size := by
  obtain ⟨x, hx⟩ : ∃ x, l[0]? = some x := ⟨l[0]'(List.length_pos_iff.2 hne), List.getElem?_eq_getElem _⟩
  have hp := K.pos
  have hc : (K.cells x)[0]? = some ((K.cells x)[0]'(by rw [K.len]; exact hp)) := List.getElem?_eq_getElem _
  exact lt_of_cell (h 0 x hx 0 _ hc)
theorem In.below {w w' : World} {B b o : Nat} {l : List α} (h : K.In w b o l) (hb : Below B w w') (hlt : l ≠ [] → b < B) : K.In w' b o l := by
  intro i x hx j u hu
  have hne : l ≠ [] := by intro e; subst e; simp at hx
  rw [(bcell hb).1 _ _ (hlt hne)]
  exact h i x hx j u hu
theorem In.grown {w w' : World} {row : Option Nat} {b o : Nat} {l : List α} (h : K.In w b o l) (hg : w.grownBy w' row) (hne : some b ≠ row) : K.In w' b o l :=
  fun i x hx j u hu => hg.cell (h i x hx j u hu) hne
theorem In.take {w : World} {b o : Nat} {l : List α} (h : K.In w b o l) (n : Nat) : K.In w b o (l.take n) := by
  intro i x hx
  rw [List.getElem?_take] at hx
  split at hx
  · exact h i x hx
  · cases hx
theorem In.drop {w : World} {b o : Nat} {l : List α} (h : K.In w b o l) (n : Nat) : K.In w b (o + n * K.k) (l.drop n) := by
  intro i x hx j u hu
  rw [List.getElem?_drop] at hx
  have := h (n + i) x hx j u hu
  rw [Nat.add_mul] at this
  rw [show o + n * K.k + i * K.k + j = o + (n * K.k + i * K.k) + j by omega]
  exact this

/-- a list of elements as an argument -/
structure Arg (K : El α) (w : World) (A : Option Addr) (l : List α) : Prop where
  at_ : l ≠ [] → ∃ b o, A = some ⟨b, o, none⟩ ∧ K.In w b o l
theorem Arg.below {w w' : World} {A : Option Addr} {l : List α} (h : K.Arg w A l) (hb : Below w.heap.size w w') : K.Arg w' A l :=
  ⟨fun hne => by obtain ⟨b, o, h1, h2⟩ := h.at_ hne; exact ⟨b, o, h1, h2.below hb (fun h => h2.lt h)⟩⟩
theorem Arg.stay {w : World} {A : Option Addr} {l : List α} (h : K.Arg w A l) : Stay (fun W => K.Arg W A l) w := fun _ hb => h.below hb
theorem Arg.nil (w : World) (A : Option Addr) : K.Arg w A [] := ⟨fun h => absurd rfl h⟩
theorem Arg.take {w : World} {A : Option Addr} {l : List α} (h : K.Arg w A l) (n : Nat) : K.Arg w A (l.take n) :=
  ⟨fun hne => by
    obtain ⟨b, o, h1, h2⟩ := h.at_ (by intro e; subst e; simp at hne)
    exact ⟨b, o, h1, h2.take n⟩⟩
/-- what is left of a slice from a place on: its address bears an 'if' -/
theorem Arg.drop_if {w : World} {a : Addr} {l : List α} (h : K.Arg w (some a) l) {n cap j : Nat} (hj : j = n * K.k) (hc : l.length ≤ cap) : K.Arg w (if cap = n then some a else some (a.add j)) (l.drop n) :=
  ⟨fun hne => by
    have hn : n < l.length := by
      rcases Nat.lt_or_ge n l.length with h | h
      · exact h
      · exact absurd (List.drop_eq_nil_of_le h) hne
    obtain ⟨b, o, h1, h2⟩ := h.at_ (by intro e; subst e; simp at hn)
    injection h1 with h1
    subst h1 hj
    rw [if_neg (by omega), add_at]
    exact ⟨b, _, rfl, h2.drop n⟩⟩
theorem Arg.at_lt {w : World} {A : Option Addr} {l : List α} (h : K.Arg w A l) {k : Nat} (hk : k < l.length) : ∃ b o, A = some ⟨b, o, none⟩ ∧ K.In w b o l ∧ b < w.heap.size := by
  have hne : l ≠ [] := by intro e; subst e; simp at hk
  obtain ⟨b, o, h1, h2⟩ := h.at_ hne
  exact ⟨b, o, h1, h2, h2.lt hne⟩

/-- a list of elements that the call owns -/
abbrev Own (K : El α) (e : TypeId) (w : World) (base : Nat) (A : Option Addr) (cap : Nat) (l : List α) : Prop := w.ownsRow base e K.k (.slice A l.length cap) l.length (K.row l)
section
variable {e : TypeId} {w w' : World} {base cap : Nat} {A : Option Addr} {l : List α}
theorem Own.nil (K : El α) (e : TypeId) (w : World) (base : Nat) : K.Own e w base none 0 [] := World.ownsRow_nil w base _ _
theorem Own.made (K : El α) (e : TypeId) (w : World) {base : Nat} (h : base ≤ w.heap.size) : K.Own e (w.alloc (.cells #[] e)) base (some ⟨w.heap.size, 0, none⟩) 0 [] := by
  have h2 := World.ownsRow_made (base := base) (e := e) (size := K.k) w #[] 0 h (by simp [maxLen]) (by simp)
  simpa [Own, row] using h2
theorem Own.below (h : K.Own e w base A cap l) (hb : Below w.heap.size w w') : K.Own e w' base A cap l :=
  h.kept (grown_of_below hb none) (by
    rcases A with _ | a
    · left; rfl
    · right; simp [Value.ownBlock])
theorem Own.stay (h : K.Own e w base A cap l) : Stay (fun W => K.Own e W base A cap l) w := fun _ hb => h.below hb
theorem Own.base_ {base' : Nat} (h : K.Own e w base A cap l) (hle : base' ≤ base) : K.Own e w base' A cap l := by
  refine ⟨h.1, ?_⟩
  rcases h.2 with h0 | ⟨g, cap', cur, hv, hb, r⟩
  · exact .inl h0
  · exact .inr ⟨g, cap', cur, hv, Nat.le_trans hle hb, r⟩
theorem Own.le (h : K.Own e w base A cap l) : l.length ≤ cap ∧ (A = none → cap = 0) := by
  rcases h.2 with ⟨hv, h0⟩ | ⟨g, cap', cur, hv, _, _, hc, _⟩
  · injection hv with h1 h2 h3
    exact ⟨by omega, fun _ => h3⟩
  · injection hv with h1 h2 h3
    subst h3
    exact ⟨hc, fun h => by rw [h] at h1; cases h1⟩
theorem Own.in_ (h : K.Own e w base A cap l) (hne : l ≠ []) : ∃ g, A = some ⟨g, 0, none⟩ ∧ base ≤ g ∧ g < w.heap.size ∧ K.In w g 0 l := by
  have hl : 0 < l.length := List.length_pos_iff.2 hne
  obtain ⟨g, cap', hv, hg, _⟩ := h.form hl
  injection hv with hA hn hc
  subst hA hc
  refine ⟨g, rfl, hg, (h.lt g rfl).2, fun i x hx j u hu => ?_⟩
  have hi : i < l.length := by
    rcases Nat.lt_or_ge i l.length with h | h
    · exact h
    · rw [List.getElem?_eq_none h] at hx; cases hx
  have hj : j < K.k := by
    rcases Nat.lt_or_ge j K.k with h | h
    · exact h
    · rw [List.getElem?_eq_none (by rw [K.len]; exact h)] at hu; cases hu
  have hc := World.ownsRow.cellAt h (i * K.k + j) (by have : (i + 1) * K.k ≤ l.length * K.k := Nat.mul_le_mul_right _ hi; rw [Nat.succ_mul] at this; omega)
  rw [Nat.zero_add, hc, K.row_get l i x hx j hj]
  exact hu
theorem Own.arg (h : K.Own e w base A cap l) : K.Arg w A l := ⟨fun hne => by
  obtain ⟨g, hA, _, _, hin⟩ := h.in_ hne
  exact ⟨g, 0, hA, hin⟩⟩
theorem Own.grown_below {w0 : World} {B : Nat} (h : K.Own e w base A cap l) (hb : Below B w0 w) (hB : B ≤ w.heap.size) (hle : B ≤ base) (hg : w.grownBy w' (Value.slice A l.length cap).ownBlock) : Below B w0 w' :=
  hb.grown hg hB (fun j hj => Nat.le_trans hle (h.lt j hj).1)
end

/-- elements that were just laid -/
theorem in_of_row {w : World} {g : Nat} {l : List α} (h : ∀ j u, (K.row l)[j]? = some u → w.cell? ⟨g, j, none⟩ = some u) : K.In w g 0 l := by
  intro i x hx j u hu
  have hj : j < K.k := by
    rcases Nat.lt_or_ge j K.k with h | h
    · exact h
    · rw [List.getElem?_eq_none (by rw [K.len]; exact h)] at hu; cases hu
  rw [Nat.zero_add]
  exact h _ _ (by rw [K.row_get l i x hx j hj]; exact hu)
theorem row_arg {W : World} {t : TypeId} {cs : Array Value} {l : List α} {g : Nat} (hg : g = W.heap.size) (h : cs.toList = K.row l) : K.Arg (W.alloc (.cells cs t)) (some ⟨g, 0, none⟩) l := by
  subst hg
  exact ⟨fun _ => ⟨_, 0, rfl, in_of_row fun j u hj => by rw [cell_of_row _ _ j _ _ _ (heap_alloc_new W _), ← Array.getElem?_toList, h]; exact hj⟩⟩

theorem own_own_ne {w : World} {base base2 : Nat} {e e2 : TypeId} {size n size2 n2 : Nat} {v v2 : Value} {xs xs2 : List Value} (h : w.ownsRow base e size v n xs) (h2 : w.ownsRow base2 e2 size2 v2 n2 xs2) (hne : e ≠ e2) : v.ownBlock = none ∨ v.ownBlock ≠ v2.ownBlock := by
  rcases h2.2 with ⟨rfl, _⟩ | ⟨g, cap, cur, rfl, _, hh, _⟩
  · rcases hv : v.ownBlock with _ | x
    · left; rfl
    · right; simp [Value.ownBlock]
  · right
    rcases h.2 with ⟨rfl, _⟩ | ⟨g', cap', cur', rfl, _, hh', _⟩
    · simp [Value.ownBlock]
    · intro he
      have : g' = g := by simpa [Value.ownBlock] using he
      subst this
      rw [hh] at hh'
      injection hh' with hh'
      injection hh' with _ ht
      exact hne ht.symm

variable {P : Program}
/-- append of a list of elements to a row of the call's own, at the operation -/
theorem wpList_append_el (K : El α) (w : World) {ops : Array Oper} {rest : List Oper} {o : Oper} {a : Act} {Q : Exit → Act → World → Prop} (hgd : o.guard = none) (x y : Operand) (t e : TypeId)
    (ho : o.op = .call { callee := .builtin .append, args := #[x, y], argTypes := #[t, t] }) (ht : P.underlying t = some (.slice e)) {z : Value} {bytes : Nat} (hi : (P.info? e).map (fun i => (i.zero, i.size, i.bytes)) = some (some z, K.k, bytes)) (hz : z.cells.size = K.k)
    (base : Nat) (A : Option Addr) (cap : Nat) (l m : List α) (b off c : Nat)
    (hx : a.eval x = .slice A l.length cap) (hy : a.eval y = .slice (some ⟨b, off, none⟩) m.length c) (hown : K.Own e w base A cap l) (hm : K.In w b off m) (h1 : l.length + m.length ≤ maxLen) (h2 : (l.length + m.length) * bytes ≤ 140737488355328) (hbase : base ≤ w.heap.size)
    (h : ∀ A' cap' w', K.Own e w' base A' cap' (l ++ m) → w.grownBy w' (Value.slice A l.length cap).ownBlock → wpList P ops Q rest (a.put o.dst (.slice A' (l.length + m.length) cap')) w') : wpList P ops Q (o :: rest) a w := by
  obtain ⟨i0, hi0, hz0, hz1, hz2⟩ := info_parts hi
  refine wpList_append_own w hgd x y t ho base e i0 z K.k bytes ht hi0 hz0 hz1 hz2 hz K.pos _ l.length (K.row l) hx hown ⟨b, off, none⟩ m.length c (K.row m) hy (K.row_len m) ?_ (K.row_mem m) h1 h2 hbase ?_
  · intro j u hj
    obtain ⟨i, j', y, hy, hc, rfl, hj'⟩ := K.row_at m j u hj
    rw [add_at, ← Nat.add_assoc]
    exact hm i y hy j' u hc
  · intro v' w' h2 h3 _
    have hf : ∃ A' cap', v' = .slice A' (l.length + m.length) cap' := by
      rcases h2.2 with ⟨hv, h0⟩ | ⟨g, cap', cur, hv, _⟩
      · exact ⟨none, 0, by rw [hv, h0]⟩
      · exact ⟨_, _, hv⟩
    obtain ⟨A', cap', rfl⟩ := hf
    exact h A' cap' w' (by unfold Own; rw [row_append, List.length_append]; exact h2) h3
/-- append of one element -/
theorem wpList_append_one (K : El α) (w : World) {ops : Array Oper} {rest : List Oper} {o : Oper} {a : Act} {Q : Exit → Act → World → Prop} (hgd : o.guard = none) (x y : Operand) (t e : TypeId)
    (ho : o.op = .call { callee := .builtin .append, args := #[x, y], argTypes := #[t, t] }) (ht : P.underlying t = some (.slice e)) {z : Value} {bytes : Nat} (hi : (P.info? e).map (fun i => (i.zero, i.size, i.bytes)) = some (some z, K.k, bytes)) (hz : z.cells.size = K.k)
    (base : Nat) (A : Option Addr) (cap : Nat) (l : List α) (m : α) (b : Nat)
    (hx : a.eval x = .slice A l.length cap) (hy : a.eval y = .slice (some ⟨b, 0, none⟩) 1 1) (hown : K.Own e w base A cap l) (hm : ∀ j u, (K.cells m)[j]? = some u → w.cell? ⟨b, j, none⟩ = some u) (h1 : l.length ≤ 10000000) (h2 : (l.length + 1) * bytes ≤ 140737488355328) (hbase : base ≤ w.heap.size)
    (h : ∀ A' cap' w', K.Own e w' base A' cap' (l ++ [m]) → w.grownBy w' (Value.slice A l.length cap).ownBlock → wpList P ops Q rest (a.put o.dst (.slice A' (l.length + 1) cap')) w') : wpList P ops Q (o :: rest) a w := by
  refine wpList_append_el K w hgd x y t e ho ht hi hz base A cap l [m] b 0 1 hx hy hown (fun i y hy j u hu => ?_) (by simp only [maxLen, List.length_singleton]; omega) h2 hbase h
  match i, hy with
  | 0, hy =>
    simp at hy; subst hy
    rw [Nat.zero_mul, Nat.add_zero, Nat.zero_add]
    exact hm j u hu
/-- append of a list of elements, wherever it lies, as one step of a region that draws -/
theorem step_append_any (K : El α) (w : World) {ops : Array Oper} {o : Oper} {a : Act} {KK : Act → World → Prop} {Q : Exit → Act → World → Prop} {E : Prop} (hgd : o.guard = none) (x y : Operand) (t e : TypeId)
    (ho : o.op = .call { callee := .builtin .append, args := #[x, y], argTypes := #[t, t] }) (ht : P.underlying t = some (.slice e)) {z : Value} {bytes : Nat} (hi : (P.info? e).map (fun i => (i.zero, i.size, i.bytes)) = some (some z, K.k, bytes)) (hz : z.cells.size = K.k)
    (base : Nat) (A : Option Addr) (cap n : Nat) (l m : List α) (ao : Option Addr) (c N : Nat)
    (hx : a.eval x = .slice A N cap) (hN : N = l.length) (hy : a.eval y = .slice ao n c) (hn : n = m.length) (hnone : ao = none → n = 0 ∧ c = 0) (hown : K.Own e w base A cap l) (hm : K.Arg w ao m) (h1 : l.length + m.length ≤ maxLen) (h2 : (l.length + m.length) * bytes ≤ 140737488355328) (hbase : base ≤ w.heap.size)
    (h : ∀ A' cap' w', K.Own e w' base A' cap' (l ++ m) → w.grownBy w' (Value.slice A l.length cap).ownBlock → KK (a.put o.dst (.slice A' (N + n) cap')) w') :
    if Region.wanted o (yielded ops a.tmps) = true then Oper.wp P o a w KK Q else E := by
  have hw : Region.wanted o (yielded ops a.tmps) = true := by simp [Region.wanted, hgd]
  rw [if_pos hw]
  obtain ⟨i0, hi0, hz0, hz1, hz2⟩ := info_parts hi
  subst hN
  have fin : ∀ (ad : Addr), a.eval y = .slice (some ad) n c → (∀ j u, (K.row m)[j]? = some u → w.cell? (ad.add j) = some u) → Oper.wp P o a w KK Q := fun ad hy hc => by
    refine wp_append_own w x y t ho base e i0 z K.k bytes ht hi0 hz0 hz1 hz2 hz K.pos _ l.length (K.row l) hx hown ad n c (K.row m) hy (by rw [K.row_len, hn]) hc (K.row_mem m) (by rw [hn]; exact h1) (by rw [hn]; exact h2) hbase ?_
    intro v' w' h2 h3 _
    have hf : ∃ A' cap', v' = .slice A' (l.length + n) cap' := by
      rcases h2.2 with ⟨hv, h0⟩ | ⟨g, cap', cur, hv, _⟩
      · exact ⟨none, 0, by rw [hv, h0]⟩
      · exact ⟨_, _, hv⟩
    obtain ⟨A', cap', rfl⟩ := hf
    refine h A' cap' w' ?_ h3
    unfold Own
    rw [row_append, List.length_append, ← hn]
    exact h2
  cases ao with
  | none =>
    obtain ⟨rfl, rfl⟩ := hnone rfl
    have hm0 : m = [] := List.length_eq_zero_iff.1 hn.symm
    subst hm0
    have hrun := run_append_owned_none (P := P) (w := w) base t o.type e i0 K.k ht hi0 _ l.length (K.row l) hown
    unfold Oper.wp
    simp [execOp, ho, resolve, invoke, builtin, hx, hy, hrun, Result.andThen]
    have := h A cap w (by rw [List.append_nil]; exact hown) (World.grownBy.refl _ _)
    exact this
  | some ad =>
    by_cases hme : m = []
    · subst hme
      exact fin ad hy (fun j u hj => by simp [row] at hj)
    · obtain ⟨b, off, hA, hin⟩ := hm.at_ hme
      injection hA with hA
      subst hA
      exact fin _ hy (fun j u hj => by
        obtain ⟨i, j', y, hy, hc, rfl, hj'⟩ := K.row_at m j u hj
        rw [add_at, ← Nat.add_assoc]
        exact hin i y hy j' u hc)
end El
end Go

namespace Ce

structure V where
  k : Int
  n : Int
deriving DecidableEq, Repr
instance vInh : Inhabited V := ⟨⟨0, 0⟩⟩
def hole : V := ⟨0, 0⟩
def vint (n : Int) : V := ⟨1, n⟩
def vbool (b : Bool) : V := ⟨2, if b then 1 else 0⟩
def vnil : V := ⟨3, 0⟩
def vref (n : Int) : V := ⟨4, n⟩
def vbad (n : Int) : V := ⟨5, n⟩
def inn (n lo hi : Int) : Bool := decide (lo ≤ n) && decide (n ≤ hi)
/-- is a value, of a memory with so many structures -/
def isValue (v : V) (many : Int) : Bool :=
  if v.k = 0 then decide (v.n = 0)
  else if v.k = 1 then inn v.n (-1000000000) 1000000000
  else if v.k = 2 then decide (v.n = 0) || decide (v.n = 1)
  else if v.k = 3 then decide (v.n = 0)
  else if v.k = 4 then decide (0 ≤ v.n) && (decide (many < 0) || decide (v.n < many))
  else if v.k = 5 then inn v.n 1 5
  else false
def areValues (l : List V) (many : Int) : Bool := l.all fun v => isValue v many

/-! names: their bytes -/
def nAdd : List UInt8 := [97, 100, 100]
def nSub : List UInt8 := [115, 117, 98]
def nMul : List UInt8 := [109, 117, 108]
def nDiv : List UInt8 := [100, 105, 118]
def nMod : List UInt8 := [109, 111, 100]
def nNeg : List UInt8 := [110, 101, 103]
def nLt : List UInt8 := [108, 116]
def nLe : List UInt8 := [108, 101]
def nEq : List UInt8 := [101, 113]
def nNot : List UInt8 := [110, 111, 116]
def names : List (List UInt8) := [nAdd, nSub, nMul, nDiv, nMod, nNeg, nLt, nLe, nEq, nNot]
def operands (s : List UInt8) : Nat := if names.contains s then (if s = nNeg ∨ s = nNot then 1 else 2) else 0
def ranged (n : Int) : V := if inn n (-1000000000) 1000000000 then vint n else vbad 2
def reckon (s : List UInt8) (a b : V) : V :=
  if s = nNot then (if a.k = 2 then vbool (decide (a.n = 0)) else vbad 5)
  else if s = nEq then (if a.k = b.k ∧ (a.k = 1 ∨ a.k = 2) then vbool (decide (a.n = b.n)) else vbad 5)
  else if ¬ (a.k = b.k ∧ a.k = 1) then vbad 5
  else if s = nLt then vbool (decide (a.n < b.n))
  else if s = nLe then vbool (decide (a.n ≤ b.n))
  else if s = nAdd then ranged (a.n + b.n)
  else if s = nSub then ranged (a.n - b.n)
  else if s = nMul then ranged (a.n * b.n)
  else if s = nNeg then ranged (- a.n)
  else if b.n = 0 then vbad 1
  else if s = nMod then ranged (a.n.tmod b.n)
  else ranged (a.n.tdiv b.n)
def prim (s : List UInt8) (l : List V) : V × Nat :=
  if operands s = 0 then (hole, 10)
  else if l.length ≠ operands s then (hole, 2)
  else if !areValues l (-1) then (hole, 4)
  else if l.any fun v => decide (v.k = 0) then (hole, 0)
  else match l.find? fun v => decide (v.k = 5) with
    | some v => (v, 0)
    | none => (reckon s l[0]! l[operands s - 1]!, 0)

structure Rd where
  cell : Int
  who : Int
deriving DecidableEq, Repr
instance rInh : Inhabited Rd := ⟨⟨0, 0⟩⟩
structure St where
  cells : List V
  wait : List Rd
deriving DecidableEq, Repr
instance sInh : Inhabited St := ⟨⟨[], []⟩⟩
abbrev Mem := List St
structure Td where
  who : Int
  v : V
deriving DecidableEq, Repr

/-- the cell of a number, if there is one -/
def cellAt (l : List V) (c : Int) : Option V := if 0 ≤ c then l[c.toNat]? else none
def rdOk (l : List V) (r : Rd) : Bool := match cellAt l r.cell with
  | some v => decide (v.k = 0)
  | none => false
def stOk (n : Int) (s : St) : Bool := (decide (s.cells.length ≤ 100) && areValues s.cells n) && s.wait.all (rdOk s.cells)
def reads : Mem → Nat
  | [] => 0
  | s :: r => s.wait.length + reads r
def memOk (m : Mem) : Bool := decide (m.length ≤ 400) && (m.all (stOk m.length) && decide (reads m ≤ 6000))
def check (m : Mem) : Nat := if memOk m then 0 else 4

def known (m : Mem) (v : V) : Bool := isValue v m.length && !decide (v.k = 0)
/-- a structure, by its number -/
def stAt (m : Mem) (n : Int) : St := m.getD n.toNat ⟨[], []⟩
def fits (m : Mem) (s i : V) : Bool := (decide (s.k = 4) && decide (i.k = 1)) && inn i.n 0 ((stAt m s.n).cells.length - 1)
def alloc (m : Mem) (size : V) : Mem × V × Nat :=
  if size.k = 5 then (m, size, 0)
  else if size.k ≠ 1 then (m, vbad 5, 0)
  else if !inn size.n 0 100 then (m, vbad 4, 0)
  else if m.length = 400 then (m, hole, 5)
  else (m ++ [⟨List.replicate size.n.toNat hole, []⟩], vref m.length, 0)
def write (m : Mem) (s i v : V) : Mem × List Td × Nat :=
  if !fits m s i then (m, [], 0)
  else if ((stAt m s.n).cells.getD i.n.toNat hole).k ≠ 0 then (m, [], 6)
  else (m.set s.n.toNat ⟨(stAt m s.n).cells.set i.n.toNat v, (stAt m s.n).wait.filter fun r => !decide (r.cell = i.n)⟩, ((stAt m s.n).wait.filter fun r => decide (r.cell = i.n)).map fun r => ⟨r.who, v⟩, 0)
def read (m : Mem) (s i : V) (who : Int) : Mem × V × Nat :=
  if s.k = 5 then (m, s, 0)
  else if i.k = 5 then (m, i, 0)
  else if s.k = 3 then (m, vbad 3, 0)
  else if s.k ≠ 4 ∨ i.k ≠ 1 then (m, vbad 5, 0)
  else if !fits m s i then (m, vbad 3, 0)
  else if ((stAt m s.n).cells.getD i.n.toNat hole).k ≠ 0 then (m, (stAt m s.n).cells.getD i.n.toNat hole, 0)
  else if 6000 ≤ reads m then (m, hole, 5)
  else (m.set s.n.toNat ⟨(stAt m s.n).cells, (stAt m s.n).wait ++ [⟨i.n, who⟩]⟩, hole, 0)
def size (m : Mem) (s : V) : V := if s.k = 5 then s else if s.k = 4 then vint (stAt m s.n).cells.length else vbad 5

structure Op where
  kind : Int
  v : V
  i : V
  x : V
  who : Int
deriving DecidableEq, Repr
def opOk (m : Mem) (o : Op) : Bool := (inn o.kind 1 4 && known m o.v) && ((!(decide (o.kind = 2) || decide (o.kind = 3)) || known m o.i) && (!decide (o.kind = 2) || known m o.x))
/-- what is done to a right memory by a right operation: the memory, what it gives, who is told, the error -/
def step (m : Mem) (o : Op) : Mem × V × List Td × Nat :=
  if o.kind = 1 then ((alloc m o.v).1, (alloc m o.v).2.1, [], (alloc m o.v).2.2)
  else if o.kind = 2 then ((write m o.v o.i o.x).1, vnil, (write m o.v o.i o.x).2.1, (write m o.v o.i o.x).2.2)
  else if o.kind = 3 then ((read m o.v o.i o.who).1, (read m o.v o.i o.who).2.1, [], (read m o.v o.i o.who).2.2)
  else (m, size m o.v, [], 0)
def doo (m : Mem) (o : Op) : Mem × V × List Td × Nat :=
  if !memOk m then ([], hole, [], 4)
  else if !opOk m o then ([], hole, [], 2)
  else if (step m o).2.2.2 ≠ 0 then ([], hole, [], (step m o).2.2.2)
  else step m o
def playK : Mem → List Op → List V → List Td → Nat → Mem × List V × List Td × Nat × Nat
  | m, [], g, t, i => (m, g, t, i, 0)
  | m, o :: r, g, t, i => if (doo m o).2.2.2 ≠ 0 then (m, g, t, i, (doo m o).2.2.2) else playK (doo m o).1 r (g ++ [(doo m o).2.1]) (t ++ (doo m o).2.2.1) (i + 1)
def play (m : Mem) (l : List Op) : Mem × List V × List Td × Nat × Nat := if memOk m then playK m l [] [] 0 else ([], [], [], 0, 4)

structure Pic where
  vals : List V
  cells : List (List V)
deriving DecidableEq, Repr
/-- the place of a number, or behind the last -/
def place (n : Int) : List Int → Nat
  | [] => 0
  | x :: r => if x = n then 0 else place n r + 1
/-- values with new numbers, and what is met -/
def renum : List V → List Int → List V × List Int
  | [], met => ([], met)
  | v :: r, met =>
    if v.k ≠ 4 then (v :: (renum r met).1, (renum r met).2)
    else ((⟨v.k, place v.n met⟩ : V) :: (renum r (if place v.n met = met.length then met ++ [v.n] else met)).1, (renum r (if place v.n met = met.length then met ++ [v.n] else met)).2)
/-- the structures from the i-th that is met on, as long as there are such -/
def drawK (m : Mem) : Nat → Nat → List Int → List (List V)
  | 0, _, _ => []
  | f + 1, i, met => match met[i]? with
    | none => []
    | some n => (renum (stAt m n).cells met).1 :: drawK m f (i + 1) (renum (stAt m n).cells met).2
def drawn (m : Mem) (l : List V) : Pic := ⟨(renum l []).1, drawK m m.length 0 (renum l []).2⟩
def draw (m : Mem) (l : List V) : Pic × Nat :=
  if !memOk m then (⟨[], []⟩, 4)
  else if !(decide (l.length ≤ 100) && areValues l m.length) then (⟨[], []⟩, 2)
  else (drawn m l, 0)
def memory (p : Pic) : Mem := p.cells.map fun l => ⟨l, []⟩
def isPic (p : Pic) : Bool := (memOk (memory p) && (decide (p.vals.length ≤ 100) && areValues p.vals p.cells.length)) && decide (drawn (memory p) p.vals = p)
def memoryR (p : Pic) : Mem × Nat := if isPic p then (memory p, 0) else ([], 4)

end Ce

namespace Ce
theorem isValue_mono {v : V} {a b : Int} (h : isValue v a = true) (h0 : 0 ≤ a) (hab : a ≤ b) : isValue v b = true := by
  unfold isValue at h ⊢
  split <;> rename_i h1
  · rwa [if_pos h1] at h
  rw [if_neg h1] at h
  split <;> rename_i h1
  · rwa [if_pos h1] at h
  rw [if_neg h1] at h
  split <;> rename_i h1
  · rwa [if_pos h1] at h
  rw [if_neg h1] at h
  split <;> rename_i h1
  · rwa [if_pos h1] at h
  rw [if_neg h1] at h
  split <;> rename_i h1
  · rw [if_pos h1] at h
    simp at h ⊢
    omega
  rwa [if_neg h1] at h
theorem isValue_free {v : V} {a : Int} (h : isValue v a = true) : isValue v (-1) = true := by
  unfold isValue at h ⊢
  split <;> rename_i h1
  · rwa [if_pos h1] at h
  rw [if_neg h1] at h
  split <;> rename_i h1
  · rwa [if_pos h1] at h
  rw [if_neg h1] at h
  split <;> rename_i h1
  · rwa [if_pos h1] at h
  rw [if_neg h1] at h
  split <;> rename_i h1
  · rwa [if_pos h1] at h
  rw [if_neg h1] at h
  split <;> rename_i h1
  · rw [if_pos h1] at h
    simp at h ⊢
    omega
  rwa [if_neg h1] at h
theorem areValues_mono {l : List V} {a b : Int} (h : areValues l a = true) (h0 : 0 ≤ a) (hab : a ≤ b) : areValues l b = true := by
  unfold areValues at *
  rw [List.all_eq_true] at *
  exact fun v hv => isValue_mono (h v hv) h0 hab
theorem stOk_mono {s : St} {a b : Int} (h : stOk a s = true) (h0 : 0 ≤ a) (hab : a ≤ b) : stOk b s = true := by
  unfold stOk at *
  rw [Bool.and_eq_true, Bool.and_eq_true] at *
  exact ⟨⟨h.1.1, areValues_mono h.1.2 h0 hab⟩, h.2⟩
theorem reads_app : ∀ (m n : Mem), reads (m ++ n) = reads m + reads n
  | [], n => by simp [reads]
  | s :: r, n => by simp only [List.cons_append, reads]; rw [reads_app r n]; omega
theorem reads_set : ∀ (m : Mem) (i : Nat) (s t : St), m[i]? = some s → reads (m.set i t) + s.wait.length = reads m + t.wait.length
  | [], i, s, t, h => by simp at h
  | x :: r, 0, s, t, h => by simp at h; subst h; simp only [List.set_cons_zero, reads]; omega
  | x :: r, i + 1, s, t, h => by
    have := reads_set r i s t (by simpa using h)
    simp only [List.set_cons_succ, reads]
    omega
theorem wait_le : ∀ (m : Mem) (i : Nat) (s : St), m[i]? = some s → s.wait.length ≤ reads m
  | [], i, s, h => by simp at h
  | x :: r, 0, s, h => by simp at h; subst h; simp only [reads]; omega
  | x :: r, i + 1, s, h => by have := wait_le r i s (by simpa using h); simp only [reads]; omega
structure Ok (m : Mem) : Prop where
  len : m.length ≤ 400
  each : ∀ s ∈ m, stOk m.length s = true
  wait : reads m ≤ 6000
theorem ok_iff (m : Mem) : memOk m = true ↔ Ok m := by
  unfold memOk
  rw [Bool.and_eq_true, Bool.and_eq_true, decide_eq_true_iff, decide_eq_true_iff, List.all_eq_true]
  exact ⟨fun h => ⟨h.1, h.2.1, h.2.2⟩, fun h => ⟨h.len, h.each, h.wait⟩⟩
theorem stAt_get {m : Mem} {n : Int} (h : n.toNat < m.length) : m[n.toNat]? = some (stAt m n) := by
  unfold stAt
  rw [List.getElem?_eq_getElem h, List.getD_eq_getElem?_getD, List.getElem?_eq_getElem h]
  rfl
theorem known_ref {m : Mem} {v : V} (h : known m v = true) (hk : v.k = 4) : 0 ≤ v.n ∧ v.n < m.length := by
  unfold known isValue at h
  rw [hk] at h
  simp at h
  omega
theorem known_val {m : Mem} {v : V} (h : known m v = true) : isValue v m.length = true ∧ v.k ≠ 0 := by
  unfold known at h
  simp at h
  exact ⟨h.1, h.2⟩
theorem cellAt_lt {l : List V} {c : Int} (h0 : 0 ≤ c) (h : c < l.length) : cellAt l c = some (l.getD c.toNat hole) := by
  unfold cellAt
  rw [if_pos h0, List.getD_eq_getElem?_getD, List.getElem?_eq_getElem (by omega)]
  rfl
theorem ok_alloc {m : Mem} (h : Ok m) (v : V) : Ok (alloc m v).1 := by
  unfold alloc
  split
  · exact h
  split
  · exact h
  split
  · exact h
  split
  · exact h
  rename_i h1 h2 h3 h4
  have hl := h.len
  refine ⟨by simp; omega, fun s hs => ?_, ?_⟩
  · simp only [List.length_append, List.length_singleton]
    rcases List.mem_append.1 hs with hs | hs
    · exact stOk_mono (h.each s hs) (by omega) (by omega)
    · simp at hs
      subst hs
      simp only [Bool.not_eq_true', Bool.not_eq_false] at h3
      unfold inn at h3
      simp at h3
      unfold stOk areValues
      rw [Bool.and_eq_true, Bool.and_eq_true, decide_eq_true_iff, List.all_eq_true]
      refine ⟨⟨by simp; omega, fun v hv => ?_⟩, rfl⟩
      rw [List.eq_of_mem_replicate hv]
      rfl
  · rw [reads_app]
    simp [reads]
    exact h.wait
theorem fits_at {m : Mem} {s i : V} (hs : known m s = true) (h : fits m s i = true) : s.k = 4 ∧ i.k = 1 ∧ 0 ≤ s.n ∧ s.n.toNat < m.length ∧ 0 ≤ i.n ∧ i.n < (stAt m s.n).cells.length := by
  unfold fits inn at h
  simp at h
  have := known_ref hs h.1.1
  omega
theorem ok_set {m : Mem} (h : Ok m) {i : Nat} {s t : St} (hs : m[i]? = some s) (ht : stOk m.length s = true → stOk m.length t = true) (hr : reads m + t.wait.length ≤ 6000 + s.wait.length) : Ok (m.set i t) := by
  have hr2 := reads_set m i s t hs
  refine ⟨by rw [List.length_set]; exact h.len, fun x hx => ?_, by omega⟩
  rw [List.length_set]
  rcases List.mem_or_eq_of_mem_set hx with hx | rfl
  · exact h.each x hx
  · exact ht (h.each s (List.mem_of_getElem? hs))
theorem rdOk_set {l : List V} {r : Rd} {c : Nat} {v : V} (h : rdOk l r = true) (hne : r.cell ≠ c) : rdOk (l.set c v) r = true := by
  unfold rdOk cellAt at *
  by_cases h0 : 0 ≤ r.cell
  · rw [if_pos h0] at h ⊢
    rw [List.getElem?_set_ne (by omega)]
    exact h
  · rw [if_neg h0] at h
    cases h
theorem ok_write {m : Mem} (h : Ok m) {s i v : V} (hs : known m s = true) (hv : known m v = true) : Ok (write m s i v).1 := by
  unfold write
  split
  · exact h
  split
  · exact h
  rename_i h1 h2
  obtain ⟨_, _, h3, h4, h5, h6⟩ := fits_at hs (by simpa using h1)
  have hg := stAt_get h4
  refine ok_set h hg (fun ho => ?_) ?_
  · unfold stOk at ho ⊢
    rw [Bool.and_eq_true, Bool.and_eq_true, decide_eq_true_iff] at ho ⊢
    obtain ⟨⟨o1, o2⟩, o3⟩ := ho
    refine ⟨⟨by rw [List.length_set]; exact o1, ?_⟩, ?_⟩
    · unfold areValues at o2 ⊢
      rw [List.all_eq_true] at o2 ⊢
      intro x hx
      rcases List.mem_or_eq_of_mem_set hx with hx | rfl
      · exact o2 x hx
      · exact (known_val hv).1
    · rw [List.all_eq_true] at o3 ⊢
      intro r hr
      rw [List.mem_filter] at hr
      refine rdOk_set (o3 r hr.1) ?_
      have := hr.2
      simp at this
      omega
  · have := List.length_filter_le (fun r : Rd => !decide (r.cell = i.n)) (stAt m s.n).wait
    have := h.wait
    dsimp only
    omega
theorem ok_read {m : Mem} (h : Ok m) {s i : V} {who : Int} (hs : known m s = true) : Ok (read m s i who).1 := by
  unfold read
  split
  · exact h
  split
  · exact h
  split
  · exact h
  split
  · exact h
  split
  · exact h
  split
  · exact h
  split
  · exact h
  rename_i h1 h2 h3 h4 h5 h6 h7
  obtain ⟨_, _, k3, k4, k5, k6⟩ := fits_at hs (by simpa using h5)
  have hg := stAt_get k4
  refine ok_set h hg (fun ho => ?_) ?_
  · unfold stOk at ho ⊢
    rw [Bool.and_eq_true, Bool.and_eq_true] at ho ⊢
    refine ⟨ho.1, ?_⟩
    rw [List.all_append, ho.2]
    simp only [List.all_cons, List.all_nil, Bool.and_true, Bool.true_and]
    unfold rdOk
    rw [cellAt_lt k5 k6]
    simpa using h6
  · simp only [List.length_append, List.length_singleton]
    omega
theorem ok_step {m : Mem} (h : Ok m) {o : Op} (ho : opOk m o = true) : Ok (step m o).1 := by
  unfold opOk at ho
  simp only [Bool.and_eq_true, Bool.or_eq_true, Bool.not_eq_true', Bool.or_eq_false_iff, decide_eq_false_iff_not] at ho
  obtain ⟨⟨h1, h2⟩, h3, h4⟩ := ho
  unfold step
  split
  · exact ok_alloc h _
  split
  · rename_i k1 k2
    refine ok_write h h2 ?_
    rcases h4 with h4 | h4
    · exact absurd k2 h4
    · exact h4
  split
  · exact ok_read h h2
  · exact h
/-- an operation that has an error leaves the memory -/
theorem step_err {m : Mem} {o : Op} (h : (step m o).2.2.2 ≠ 0) : (step m o).1 = m ∧ (step m o).2.2.1 = [] := by
  unfold step at *
  split
  · rename_i h1
    rw [if_pos h1] at h
    dsimp only at h ⊢
    refine ⟨?_, rfl⟩
    unfold alloc at *
    split
    · rfl
    split
    · rfl
    split
    · rfl
    split
    · rfl
    · rename_i a b c d
      rw [if_neg a, if_neg b, if_neg c, if_neg d] at h
      exact absurd rfl h
  rename_i h1
  rw [if_neg h1] at h
  split
  · rename_i h2
    rw [if_pos h2] at h
    dsimp only at h ⊢
    unfold write at *
    split
    · exact ⟨rfl, rfl⟩
    split
    · exact ⟨rfl, rfl⟩
    · rename_i a b
      rw [if_neg a, if_neg b] at h
      exact absurd rfl h
  rename_i h2
  rw [if_neg h2] at h
  split
  · rename_i h3
    rw [if_pos h3] at h
    dsimp only at h ⊢
    refine ⟨?_, rfl⟩
    unfold read at *
    split
    · rfl
    split
    · rfl
    split
    · rfl
    split
    · rfl
    split
    · rfl
    split
    · rfl
    split
    · rfl
    · rename_i a b c d e f g
      rw [if_neg a, if_neg b, if_neg c, if_neg d, if_neg e, if_neg f, if_neg g] at h
      exact absurd rfl h
  · exact ⟨rfl, rfl⟩
/-- the error of an operation on a right memory -/
def stepE (m : Mem) (o : Op) : Nat := if opOk m o then (step m o).2.2.2 else 2
theorem doo_ok {m : Mem} (h : Ok m) (o : Op) : (doo m o).2.2.2 = stepE m o ∧ (stepE m o = 0 → opOk m o = true ∧ doo m o = step m o) := by
  have hm := (ok_iff m).2 h
  unfold doo stepE
  rw [if_neg (by rw [hm]; decide)]
  cases ho : opOk m o with
  | false => simp
  | true =>
    simp only [Bool.not_true, Bool.false_eq_true, if_false, if_true]
    by_cases he : (step m o).2.2.2 = 0
    · rw [if_neg (by simp [he])]
      exact ⟨rfl, fun _ => ⟨trivial, rfl⟩⟩
    · rw [if_pos he]
      exact ⟨rfl, fun h => absurd h he⟩
end Ce

namespace Ce
theorem place_len : ∀ (met : List Int) (n : Int), ¬ n ∈ met → place n met = met.length
  | [], _, _ => rfl
  | x :: r, n, h => by
    rw [place, if_neg (fun e => h (by rw [e]; exact .head _)), place_len r n (fun hm => h (.tail _ hm))]
    rfl
theorem place_at : ∀ (met : List Int) (n : Int), n ∈ met → met[place n met]? = some n ∧ place n met < met.length
  | [], _, h => by cases h
  | x :: r, n, h => by
    rw [place]
    by_cases e : x = n
    · rw [if_pos e]; exact ⟨by simp [e], by simp⟩
    · rw [if_neg e]
      have hm : n ∈ r := by
        cases h with
        | head => exact absurd rfl e
        | tail _ h => exact h
      have := place_at r n hm
      exact ⟨by simpa using this.1, by simp; omega⟩
theorem place_le (met : List Int) (n : Int) : place n met ≤ met.length := by
  by_cases h : n ∈ met
  · exact Nat.le_of_lt (place_at met n h).2
  · rw [place_len met n h]; exact Nat.le_refl _
theorem place_eq_iff (met : List Int) (n : Int) : place n met = met.length ↔ ¬ n ∈ met :=
  ⟨fun h hm => by have := (place_at met n hm).2; omega, place_len met n⟩
/-- what is met of a structure's number -/
def meet (n : Int) (met : List Int) : List Int := if place n met = met.length then met ++ [n] else met
theorem meet_in {met : List Int} {n : Int} (h : n ∈ met) : meet n met = met := if_neg fun e => (place_eq_iff met n).1 e h
theorem meet_out {met : List Int} {n : Int} (h : ¬ n ∈ met) : meet n met = met ++ [n] := if_pos (place_len met n h)
theorem meet_nodup {met : List Int} (h : met.Nodup) (n : Int) : (meet n met).Nodup := by
  by_cases hm : n ∈ met
  · rwa [meet_in hm]
  · rw [meet_out hm]
    rw [List.nodup_append]
    exact ⟨h, by simp, fun a ha b hb => by simp at hb; subst hb; rintro rfl; exact hm ha⟩
theorem nodup_le : ∀ (l m : List Nat), l.Nodup → (∀ x ∈ l, x ∈ m) → l.length ≤ m.length
  | [], _, _, _ => by simp
  | x :: r, m, h, hs => by
    have hx := hs x (.head _)
    have h' := List.nodup_cons.1 h
    have := nodup_le r (m.erase x) h'.2 (fun y hy => (List.mem_erase_of_ne (fun e => h'.1 (by rw [← e]; exact hy))).2 (hs y (.tail _ hy)))
    rw [List.length_erase_of_mem hx] at this
    have hp := List.length_pos_of_mem hx
    simp only [List.length_cons]
    omega
/-- numbers of structures that there are -/
def Below (many : Nat) (met : List Int) : Prop := ∀ n ∈ met, 0 ≤ n ∧ n < many
theorem meet_below {met : List Int} {many : Nat} (h : Below many met) {n : Int} (h0 : 0 ≤ n) (h1 : n < many) : Below many (meet n met) := by
  unfold meet
  split
  · intro x hx
    rcases List.mem_append.1 hx with hx | hx
    · exact h x hx
    · simp at hx; subst hx; exact ⟨h0, h1⟩
  · exact h
theorem below_len {met : List Int} {many : Nat} (h : Below many met) (hd : met.Nodup) : met.length ≤ many := by
  have h1 : (met.map Int.toNat).Nodup := by
    rw [List.Nodup, List.pairwise_map]
    refine List.Pairwise.imp_of_mem ?_ hd
    intro a b ha hb hab e
    have := h a ha
    have := h b hb
    omega
  have h2 : ∀ x ∈ met.map Int.toNat, x ∈ List.range many := by
    intro x hx
    obtain ⟨y, hy, rfl⟩ := List.mem_map.1 hx
    have := h y hy
    rw [List.mem_range]
    omega
  have h3 : (met.map Int.toNat).length ≤ (List.range many).length := nodup_le _ _ h1 h2
  simpa using h3
end Ce
