/- The walk of the reference's Read. -/
import Derived.Test.YtkhgmoljhehbnaaGreatDoorR5
import Derived.Test.YtkhgmoljhehbnaaGreatDoorW10
import Derived.Deep.AppendLies
import Derived.Laws.OwnMore
import Derived.Maps.AppendAt
import Derived.Deep.DeepMust
namespace Go.Proofs.YtkhgmoljhehbnaaGreatDoor
open Go.RowKit

/-- a token's cells -/
def tokCells (t : Lx.Tok) : List Value := [.int .u8 t.kind, sv t.text, .int .i64 t.at_]
def tokRow (ts : List Lx.Tok) : List Value := ts.flatMap tokCells
theorem tokRow_len (ts : List Lx.Tok) : (tokRow ts).length = ts.length * 3 := by
  induction ts with
  | nil => rfl
  | cons t r ih => simp only [tokRow, List.flatMap_cons, List.length_append, List.length_cons] at ih ⊢; rw [ih]; simp [tokCells]; omega
theorem tokRow_snoc (ts : List Lx.Tok) (t : Lx.Tok) : tokRow (ts ++ [t]) = tokRow ts ++ tokCells t := by simp [tokRow]

theorem lex_info : (Tryz.prog.info? 44).map (fun i => (i.zero, i.size, i.bytes)) = some (some (.agg #[.int .u8 0, .string ⟨#[]⟩, .int .i64 0]), 3, 32) := by kernel_rfl

/-- a list of tokens of the call's own -/
abbrev OwnToks (w : World) (base : Nat) (A : Option Addr) (cap : Nat) (ts : List Lx.Tok) : Prop := w.ownsRow base 44 3 (.slice A ts.length cap) ts.length (tokRow ts)

theorem ownToks_empty (w : World) (base : Nat) (h : base ≤ w.heap.size) : OwnToks (w.alloc (.cells #[] 44)) base (some ⟨w.heap.size, 0, none⟩) 0 [] := by
  have := World.ownsRow_made (base := base) (e := 44) (size := 3) w #[] 0 h (by simp [maxLen]) (by simp)
  simpa [OwnToks, tokRow] using this

/-- how Read ends -/
def RdIs (w : World) (base : Nat) (R : Lx.Res) (e : Ending) : Prop := ∃ A cap, e = .returned (.tuple #[.slice A R.ts.length cap, .int .i64 R.at_, .int .i64 R.e]) ∧ OwnToks w base A cap R.ts

/-- where the loop of Read stands -/
def RdAt (s : ByteArray) (R : Lx.Res) (k : Nat) (ts : List Lx.Tok) : Prop := ∃ fuel gs, (s.data.toList.drop k).length ≤ fuel ∧ Lx.gap (s.data.toList.drop k) = 0 ∧ Lx.scan fuel k (s.data.toList.drop k) ts gs = R
def RdMid (s : ByteArray) (R : Lx.Res) (k : Nat) (ts : List Lx.Tok) : Prop := ∃ fuel gs, (s.data.toList.drop k).length ≤ fuel ∧ Lx.scan fuel k (s.data.toList.drop k) ts gs = R

theorem RdMid.go {s : ByteArray} {R : Lx.Res} {k : Nat} {ts : List Lx.Tok} (h : RdMid s R k ts) : RdAt s R (k + Lx.gap (s.data.toList.drop k)) ts := by
  obtain ⟨fuel, gs, hf, he⟩ := h
  obtain ⟨f2, g2, hf2, he2⟩ := Lx.scan_gap fuel k _ ts gs hf
  have hd : s.data.toList.drop (k + Lx.gap (s.data.toList.drop k)) = (s.data.toList.drop k).drop (Lx.gap (s.data.toList.drop k)) := by rw [List.drop_drop]
  refine ⟨f2, g2, by rw [hd]; exact hf2, by rw [hd]; exact Lx.gap_gap _, ?_⟩
  rw [hd, ← he2]; exact he
theorem RdAt.none_ {s : ByteArray} {R : Lx.Res} {k : Nat} {ts : List Lx.Tok} (h : RdAt s R k ts) (hk : k < s.size) (ht : Lx.tok (s.data.toList.drop k) = none) : R = .bad k 4 := by
  obtain ⟨fuel, gs, hf, hg, he⟩ := h
  rw [← he]; exact Lx.scan_none fuel k _ ts gs hf (by rw [drop_at s k hk]; simp) hg ht
theorem RdAt.full {s : ByteArray} {R : Lx.Res} {k : Nat} {ts : List Lx.Tok} (h : RdAt s R k ts) (hk : k < s.size) {x : Nat × Lx.B} (ht : Lx.tok (s.data.toList.drop k) = some x) (h9 : ts.length = 900) : R = .bad k 5 := by
  obtain ⟨fuel, gs, hf, hg, he⟩ := h
  rw [← he]; exact Lx.scan_full fuel k _ ts gs hf (by rw [drop_at s k hk]; simp) hg ht h9
theorem RdAt.tok {s : ByteArray} {R : Lx.Res} {k : Nat} {ts : List Lx.Tok} (h : RdAt s R k ts) (hk : k < s.size) {kd : Nat} {t : Lx.B} (ht : Lx.tok (s.data.toList.drop k) = some (kd, t)) (h9 : ts.length ≠ 900) :
    RdMid s R (k + t.length) (ts ++ [⟨kd, t, k⟩]) ∧ 0 < t.length ∧ k + t.length ≤ s.size := by
  obtain ⟨fuel, gs, hf, hg, he⟩ := h
  obtain ⟨hp1, hp2, hp3, _, _⟩ := Lx.tok_prefix ht
  obtain ⟨f2, hf2, he2⟩ := Lx.scan_tok fuel k _ ts gs hf (by rw [drop_at s k hk]; simp) hg ht hp2 h9
  rw [List.drop_drop] at hf2 he2
  refine ⟨⟨f2, gs, hf2, by rw [← he2]; exact he⟩, hp2, ?_⟩
  rw [List.length_drop, ← Lib.size_eq] at hp3
  omega
theorem RdAt.stop {s : ByteArray} {R : Lx.Res} {k : Nat} {ts : List Lx.Tok} (h : RdAt s R k ts) (hk : s.size ≤ k) : ∃ gs, R = .ok ts gs := by
  obtain ⟨fuel, gs, hf, hg, he⟩ := h
  rw [List.drop_eq_nil_of_le (by rw [← Lib.size_eq]; exact hk), Lx.scan_end] at he
  exact ⟨gs, he.symm⟩
theorem RdMid.start (s : ByteArray) (h : (Lx.check s.data.toList).2 = 0) : RdMid s (Lx.read s.data.toList) 0 [] :=
  ⟨s.data.toList.length, [], by simp, by unfold Lx.read; rw [if_pos h]; simp⟩
theorem read_bad (s : ByteArray) (h : (Lx.check s.data.toList).2 ≠ 0) : Lx.read s.data.toList = .bad (Lx.check s.data.toList).1 (Lx.check s.data.toList).2 := by unfold Lx.read; rw [if_neg h]

theorem ownToks_below {w w' : World} {base : Nat} {A : Option Addr} {cap : Nat} {ts : List Lx.Tok} (h : OwnToks w base A cap ts) (hb : Below w.heap.size w w') : OwnToks w' base A cap ts :=
  h.kept (grown_of_below hb none) (by
    rcases A with _ | a
    · left; rfl
    · right; simp [Value.ownBlock])

/-- append of one token, at the operation -/
theorem wpList_append_tok (w : World) {ops : Array Oper} {rest : List Oper} {o : Oper} {a : Act} {Q : Exit → Act → World → Prop} (hgd : o.guard = none) (x y : Operand)
    (ho : o.op = .call { callee := .builtin .append, args := #[x, y], argTypes := #[35, 35] }) (base : Nat) (A : Option Addr) (cap : Nat) (ts : List Lx.Tok) (b kd : Nat) (t : ByteArray) (k : Nat)
    (hx : a.eval x = .slice A ts.length cap) (hy : a.eval y = .slice (some ⟨b, 0, none⟩) 1 1) (hown : OwnToks w base A cap ts) (hl : LexAt w b kd t k) (hts : ts.length ≤ 10000000) (hbase : base ≤ w.heap.size)
    (h : ∀ A' cap' w', OwnToks w' base A' cap' (ts ++ [⟨kd, t.data.toList, k⟩]) → w.grownBy w' (Value.slice A ts.length cap).ownBlock → wpList Tryz.prog ops Q rest (a.put o.dst (.slice A' (ts.length + 1) cap')) w') : wpList Tryz.prog ops Q (o :: rest) a w := by
  obtain ⟨i0, hi0, hz0, hz1, hz2⟩ := info_parts lex_info
  refine wpList_append_own w hgd x y 35 ho base 44 i0 _ 3 32 Tryz.underlying35 hi0 hz0 hz1 hz2 rfl (by decide) _ ts.length (tokRow ts) hx hown ⟨b, 0, none⟩ 1 1 [.int .u8 kd, .string t, .int .i64 k] hy rfl ?_ ?_ (by simp only [maxLen]; omega) (by omega) hbase ?_
  · obtain ⟨l0, l1, l2⟩ := hl
    intro j u hj
    match j, hj with
    | 0, hj => simp at hj; subst hj; simpa [Addr.add] using l0
    | 1, hj => simp at hj; subst hj; simpa [Addr.add] using l1
    | 2, hj => simp at hj; subst hj; simpa [Addr.add] using l2
  · intro u hu; simp at hu; rcases hu with rfl | rfl | rfl <;> rfl
  · intro v' w' h2 h3 _
    obtain ⟨g, cap', hv, _, _⟩ := h2.form (by omega)
    subst hv
    refine h _ cap' w' ?_ h3
    unfold OwnToks
    rw [tokRow_snoc, List.length_append, List.length_singleton]
    have : tokCells ⟨kd, t.data.toList, k⟩ = [.int .u8 kd, .string t, .int .i64 k] := by simp only [tokCells, sv_data]
    rw [this]
    exact h2

end Go.Proofs.YtkhgmoljhehbnaaGreatDoor
