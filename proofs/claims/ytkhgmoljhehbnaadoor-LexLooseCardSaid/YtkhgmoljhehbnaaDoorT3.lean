/- Rows of tokens that a call owns; the walk of replace. -/
import Derived.Test.YtkhgmoljhehbnaaDoorT2
namespace Go.Proofs.YtkhgmoljhehbnaaDoor
open Go.RowKit

def ltCells (x : LT) : List Value := [.int .u8 x.kind, .string x.text, .int .i64 x.at_]
def ltRow (l : List LT) : List Value := l.flatMap ltCells
theorem ltRow_cons (x : LT) (l : List LT) : ltRow (x :: l) = ltCells x ++ ltRow l := by simp [ltRow]
theorem ltRow_append (l m : List LT) : ltRow (l ++ m) = ltRow l ++ ltRow m := by simp [ltRow]
theorem ltRow_len (l : List LT) : (ltRow l).length = l.length * 3 := by
  induction l with
  | nil => rfl
  | cons x r ih => rw [ltRow_cons, List.length_append, ih, List.length_cons]; simp only [ltCells, List.length_cons, List.length_nil]; omega
theorem ltRow_of (ts : List Lx.Tok) : ltRow (ts.map LT.of) = tokRow ts := by
  induction ts with
  | nil => rfl
  | cons t r ih => rw [List.map_cons, ltRow_cons, ih]; rfl
theorem ltRow_get : ∀ (ts : List LT) (i : Nat) (x : LT), ts[i]? = some x → (ltRow ts)[i * 3]? = some (.int .u8 x.kind) ∧ (ltRow ts)[i * 3 + 1]? = some (.string x.text) ∧ (ltRow ts)[i * 3 + 2]? = some (.int .i64 x.at_)
  | [], i, t, h => by simp at h
  | x :: r, 0, t, h => by simp at h; subst h; simp [ltRow, ltCells]
  | x :: r, i + 1, t, h => by
    have h' : r[i]? = some t := by simpa using h
    obtain ⟨h0, h1, h2⟩ := ltRow_get r i t h'
    have hl : (ltCells x).length = 3 := rfl
    rw [ltRow_cons]
    refine ⟨?_, ?_, ?_⟩
    · rw [List.getElem?_append_right (by rw [hl]; omega), hl, show (i + 1) * 3 - 3 = i * 3 by omega]; exact h0
    · rw [List.getElem?_append_right (by rw [hl]; omega), hl, show (i + 1) * 3 + 1 - 3 = i * 3 + 1 by omega]; exact h1
    · rw [List.getElem?_append_right (by rw [hl]; omega), hl, show (i + 1) * 3 + 2 - 3 = i * 3 + 2 by omega]; exact h2
theorem ltRow_at : ∀ (ts : List LT) (j : Nat) (u : Value), (ltRow ts)[j]? = some u → ∃ i x, ts[i]? = some x ∧ (j = i * 3 ∧ u = .int .u8 x.kind ∨ j = i * 3 + 1 ∧ u = .string x.text ∨ j = i * 3 + 2 ∧ u = .int .i64 x.at_)
  | [], j, u, h => by simp [ltRow] at h
  | x :: r, j, u, h => by
    rw [ltRow_cons] at h
    match j, h with
    | 0, h => exact ⟨0, x, rfl, .inl ⟨rfl, by simpa [ltCells] using h.symm⟩⟩
    | 1, h => exact ⟨0, x, rfl, .inr (.inl ⟨rfl, by simpa [ltCells] using h.symm⟩)⟩
    | 2, h => exact ⟨0, x, rfl, .inr (.inr ⟨rfl, by simpa [ltCells] using h.symm⟩)⟩
    | j + 3, h =>
      have hl : (ltCells x).length = 3 := rfl
      rw [List.getElem?_append_right (by rw [hl]; omega), hl, Nat.add_sub_cancel] at h
      obtain ⟨i, y, hy, hc⟩ := ltRow_at r j u h
      refine ⟨i + 1, y, by simpa using hy, ?_⟩
      rcases hc with ⟨rfl, hu⟩ | ⟨rfl, hu⟩ | ⟨rfl, hu⟩
      · exact .inl ⟨by omega, hu⟩
      · exact .inr (.inl ⟨by omega, hu⟩)
      · exact .inr (.inr ⟨by omega, hu⟩)
theorem add_eq (b off j : Nat) : (⟨b, off, none⟩ : Addr).add j = ⟨b, off + j, none⟩ := by
  cases j <;> simp [Addr.add]
theorem ltRow_one (l : List LT) : ∀ u ∈ ltRow l, u.oneCell' = true := by
  intro u hu
  simp only [ltRow, List.mem_flatMap, ltCells] at hu
  obtain ⟨x, _, hx⟩ := hu
  simp at hx
  rcases hx with rfl | rfl | rfl <;> rfl

abbrev OwnLT (w : World) (base : Nat) (A : Option Addr) (cap : Nat) (l : List LT) : Prop := w.ownsRow base 47 3 (.slice A l.length cap) l.length (ltRow l)
theorem OwnLT.of {w : World} {base : Nat} {A : Option Addr} {cap : Nat} {ts : List Lx.Tok} (h : OwnToks w base A cap ts) : OwnLT w base A cap (ts.map LT.of) := by
  unfold OwnLT; rw [List.length_map, ltRow_of]; exact h
theorem OwnLT.nil (w : World) (base : Nat) : OwnLT w base none 0 [] := World.ownsRow_nil w base _ _
theorem OwnLT.below {w w' : World} {base : Nat} {A : Option Addr} {cap : Nat} {ts : List LT} (h : OwnLT w base A cap ts) (hb : Below w.heap.size w w') : OwnLT w' base A cap ts :=
  h.kept (grown_of_below hb none) (by
    rcases A with _ | a
    · left; rfl
    · right; simp [Value.ownBlock])
theorem OwnLT.le {w : World} {base : Nat} {A : Option Addr} {cap : Nat} {ts : List LT} (h : OwnLT w base A cap ts) : ts.length ≤ cap ∧ (A = none → cap = 0) := by
  rcases h.2 with ⟨hv, h0⟩ | ⟨g, cap', cur, hv, _, _, hc, _⟩
  · injection hv with h1 h2 h3
    exact ⟨by omega, fun _ => h3⟩
  · injection hv with h1 h2 h3
    subst h3
    exact ⟨hc, fun h => by rw [h] at h1; cases h1⟩
theorem OwnLT.arg {w : World} {B : Nat} {A : Option Addr} {cap : Nat} {ts : List LT} (h : OwnLT w B A cap ts) : Arg w A ts := ⟨fun hne => by
  have hl : 0 < ts.length := List.length_pos_iff.2 hne
  obtain ⟨g, cap', hv, hg, _⟩ := h.form hl
  injection hv with hA hn hc
  subst hA hc
  refine ⟨g, 0, rfl, fun i x hx => ?_⟩
  have hi : i < ts.length := by
    rcases Nat.lt_or_ge i ts.length with h | h
    · exact h
    · rw [List.getElem?_eq_none h] at hx; cases hx
  obtain ⟨h0, h1, h2⟩ := ltRow_get ts i x hx
  have hc := fun j (hj : j < ts.length * 3) => World.ownsRow.cellAt h j hj
  exact ⟨by rw [Nat.zero_add, hc _ (by omega)]; exact h0, by rw [Nat.zero_add, hc _ (by omega)]; exact h1, by rw [Nat.zero_add, hc _ (by omega)]; exact h2⟩⟩

/-- append of a list of tokens, at the operation -/
theorem wpList_append_lt (w : World) {ops : Array Oper} {rest : List Oper} {o : Oper} {a : Act} {Q : Exit → Act → World → Prop} (hgd : o.guard = none) (x y : Operand)
    (ho : o.op = .call { callee := .builtin .append, args := #[x, y], argTypes := #[31, 31] }) (base : Nat) (A : Option Addr) (cap : Nat) (l m : List LT) (blk off c : Nat)
    (hx : a.eval x = .slice A l.length cap) (hy : a.eval y = .slice (some ⟨blk, off, none⟩) m.length c) (hown : OwnLT w base A cap l) (hm : ToksIn w blk off m) (hts : l.length + m.length ≤ 1000000) (hbase : base ≤ w.heap.size)
    (h : ∀ A' cap' w', OwnLT w' base A' cap' (l ++ m) → w.grownBy w' (Value.slice A l.length cap).ownBlock → wpList Tryd.prog ops Q rest (a.put o.dst (.slice A' (l ++ m).length cap')) w') : wpList Tryd.prog ops Q (o :: rest) a w := by
  obtain ⟨i0, hi0, hz0, hz1, hz2⟩ := info_parts lex_info
  refine wpList_append_own w hgd x y 31 ho base 47 i0 _ 3 32 Tryd.underlying31 hi0 hz0 hz1 hz2 rfl (by decide) _ l.length (ltRow l) hx hown ⟨blk, off, none⟩ m.length c (ltRow m) hy (ltRow_len m) ?_ (ltRow_one m) (by simp only [maxLen]; omega) (by omega) hbase ?_
  · intro j u hj
    obtain ⟨i, z, hz, hc⟩ := ltRow_at m j u hj
    obtain ⟨h0, h1, h2⟩ := hm i z hz
    rcases hc with ⟨rfl, rfl⟩ | ⟨rfl, rfl⟩ | ⟨rfl, rfl⟩
    · rw [add_eq]; exact h0
    · rw [add_eq, ← Nat.add_assoc]; exact h1
    · rw [add_eq, ← Nat.add_assoc]; exact h2
  · intro v' w' h2 h3 _
    have hf : ∃ A' cap', v' = .slice A' (l.length + m.length) cap' := by
      rcases h2.2 with ⟨hv, h0⟩ | ⟨g, cap', cur, hv, _⟩
      · exact ⟨none, 0, by rw [hv, h0]⟩
      · exact ⟨_, _, hv⟩
    obtain ⟨A', cap', rfl⟩ := hf
    have := h A' cap' w' (by unfold OwnLT; rw [ltRow_append, List.length_append]; exact h2) h3
    rwa [List.length_append] at this

/-- replace, plainly -/
def replP (from_ to_ : List LT) : Nat → List LT → List LT → Nat → List LT × Nat
  | 0, _, all, n => (all, n)
  | f + 1, l, all, n =>
    if 0 < l.length ∧ all.length ≤ 900 then
      if beginsP l from_ then replP from_ to_ f (l.drop from_.length) (all ++ to_) (n + 1) else replP from_ to_ f (l.drop 1) (all ++ l.take 1) n
    else (all, n)

end Go.Proofs.YtkhgmoljhehbnaaDoor
