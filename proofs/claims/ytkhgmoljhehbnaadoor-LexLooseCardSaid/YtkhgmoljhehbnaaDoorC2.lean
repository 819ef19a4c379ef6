/- What a reader is in memory, and the append of a token or a gap to it. -/
import Derived.Test.YtkhgmoljhehbnaaDoorC1
namespace Go.Proofs.YtkhgmoljhehbnaaDoor
open Go.RowKit

def Blk (w : World) (g : Nat) (t : TypeId) (cs : Array Value) : Prop := w.heap[g]? = some (.cells cs t (0, 0))
section
variable {w w' : World} {g : Nat} {t : TypeId} {cs : Array Value}
theorem Blk.lt (h : Blk w g t cs) : g < w.heap.size := by
  rcases Nat.lt_or_ge g w.heap.size with hlt | hge
  · exact hlt
  · unfold Blk at h; rw [Array.getElem?_eq_none hge] at h; cases h
theorem Blk.cell (h : Blk w g t cs) (i : Nat) : w.cell? ⟨g, i, none⟩ = cs[i]? := cell_of_row w g i cs t (0, 0) h
theorem Blk.frozen (h : Blk w g t cs) (i : Nat) : w.frozen? ⟨g, i, none⟩ = false := by
  unfold Blk at h
  simp [World.frozen?, h]
theorem Blk.new (w : World) (t : TypeId) (cs : Array Value) : Blk (w.alloc (.cells cs t)) w.heap.size t cs := heap_alloc_new w _
theorem Blk.alloc (h : Blk w g t cs) (o : Obj) : Blk (w.alloc o) g t cs := (Below.heap_alloc w o g h.lt).trans h
theorem Blk.set_ (h : Blk w g t cs) (i : Nat) (u : Value) : Blk (w.setCell ⟨g, i, none⟩ u) g t (cs.setIfInBounds i u) := by
  unfold Blk at h ⊢
  simp [World.setCell, Array.getElem?_modify, h]
theorem Blk.below {B : Nat} (h : Blk w g t cs) (hb : Below B w w') (hg : g < B) : Blk w' g t cs := (hb.block g hg).trans h
theorem Blk.grown {row : Option Nat} (h : Blk w g t cs) (hb : w.grownBy w' row) (hg : some g ≠ row) : Blk w' g t cs := (hb.block g h.lt hg).trans h
theorem own_blk_ne {base : Nat} {e : TypeId} {size n : Nat} {v : Value} {xs : List Value} (h : w.ownsRow base e size v n xs) (hg : Blk w g t cs) (hne : e ≠ t) : v.ownBlock ≠ some g := by
  rcases h.2 with ⟨rfl, _⟩ | ⟨g', cap, cur, rfl, _, hh, _⟩
  · simp [Value.ownBlock]
  · intro he
    have : g' = g := by simpa [Value.ownBlock] using he
    subst this
    unfold Blk at hg
    rw [hg] at hh
    injection hh with hh
    injection hh with _ ht
    exact hne ht.symm
theorem own_own_ne {base base2 : Nat} {e e2 : TypeId} {size n size2 n2 : Nat} {v v2 : Value} {xs xs2 : List Value} (h : w.ownsRow base e size v n xs) (h2 : w.ownsRow base2 e2 size2 v2 n2 xs2) (hne : e ≠ e2) : v.ownBlock = none ∨ v.ownBlock ≠ v2.ownBlock := by
  rcases h2.2 with ⟨rfl, _⟩ | ⟨g, cap, cur, rfl, _, hh, _⟩
  · rcases hv : v.ownBlock with _ | x
    · left; rfl
    · right; simp [Value.ownBlock]
  · right
    exact own_blk_ne h (t := e2) (cs := cur) hh hne
end

/-- a gap's cells -/
def gapCells (g : Nat × Nat) : List Value := [.int .i64 g.1, .int .i64 g.2]
def gapRow (gs : List (Nat × Nat)) : List Value := gs.flatMap gapCells
theorem gapRow_snoc (gs : List (Nat × Nat)) (g : Nat × Nat) : gapRow (gs ++ [g]) = gapRow gs ++ gapCells g := by simp [gapRow]
theorem str_info : (Tryd.prog.info? 45).map (fun i => (i.zero, i.size, i.bytes)) = some (some (.agg #[.int .i64 0, .int .i64 0]), 2, 16) := by kernel_rfl
abbrev OwnGaps (w : World) (base : Nat) (A : Option Addr) (cap : Nat) (gs : List (Nat × Nat)) : Prop := w.ownsRow base 45 2 (.slice A gs.length cap) gs.length (gapRow gs)

/-- append of one gap, at the operation -/
theorem wpList_append_gap (w : World) {ops : Array Oper} {rest : List Oper} {o : Oper} {a : Act} {Q : Exit → Act → World → Prop} (hgd : o.guard = none) (x y : Operand)
    (ho : o.op = .call { callee := .builtin .append, args := #[x, y], argTypes := #[39, 39] }) (base : Nat) (A : Option Addr) (cap : Nat) (gs : List (Nat × Nat)) (b i j : Nat)
    (hx : a.eval x = .slice A gs.length cap) (hy : a.eval y = .slice (some ⟨b, 0, none⟩) 1 1) (hown : OwnGaps w base A cap gs) (h0 : w.cell? ⟨b, 0, none⟩ = some (.int .i64 i)) (h1 : w.cell? ⟨b, 1, none⟩ = some (.int .i64 j)) (hts : gs.length ≤ 10000000) (hbase : base ≤ w.heap.size)
    (h : ∀ A' cap' w', OwnGaps w' base A' cap' (gs ++ [(i, j)]) → w.grownBy w' (Value.slice A gs.length cap).ownBlock → wpList Tryd.prog ops Q rest (a.put o.dst (.slice A' (gs.length + 1) cap')) w') : wpList Tryd.prog ops Q (o :: rest) a w := by
  obtain ⟨i0, hi0, hz0, hz1, hz2⟩ := info_parts str_info
  refine wpList_append_own w hgd x y 39 ho base 45 i0 _ 2 16 Tryd.underlying39 hi0 hz0 hz1 hz2 rfl (by decide) _ gs.length (gapRow gs) hx hown ⟨b, 0, none⟩ 1 1 [.int .i64 i, .int .i64 j] hy rfl ?_ ?_ (by simp only [maxLen]; omega) (by omega) hbase ?_
  · intro k u hk
    match k, hk with
    | 0, hk => simp at hk; subst hk; simpa [Addr.add] using h0
    | 1, hk => simp at hk; subst hk; simpa [Addr.add] using h1
  · intro u hu; simp at hu; rcases hu with rfl | rfl <;> rfl
  · intro v' w' h2 h3 _
    obtain ⟨g, cap', hv, _, _⟩ := h2.form (by omega)
    subst hv
    refine h _ cap' w' ?_ h3
    unfold OwnGaps
    rw [gapRow_snoc, List.length_append, List.length_singleton]
    exact h2

/-- append of one token inside of a region that draws its order -/
theorem step_append_tok {w : World} {ops : Array Oper} {o : Oper} {a : Act} {K : Act → World → Prop} {Q : Exit → Act → World → Prop} {E : Prop} (hgd : o.guard = none) (x y : Operand)
    (ho : o.op = .call { callee := .builtin .append, args := #[x, y], argTypes := #[31, 31] }) (base : Nat) (A : Option Addr) (cap : Nat) (ts : List Lx.Tok) (b kd : Nat) (t : ByteArray) (k : Nat)
    (hx : a.eval x = .slice A ts.length cap) (hy : a.eval y = .slice (some ⟨b, 0, none⟩) 1 1) (hown : OwnToks w base A cap ts) (hl : LexAt w b kd t k) (hts : ts.length ≤ 10000000) (hbase : base ≤ w.heap.size)
    (h : ∀ A' cap' w', OwnToks w' base A' cap' (ts ++ [⟨kd, t.data.toList, k⟩]) → w.grownBy w' (Value.slice A ts.length cap).ownBlock → K (a.put o.dst (.slice A' (ts.length + 1) cap')) w') :
    if Region.wanted o (yielded ops a.tmps) = true then Oper.wp Tryd.prog o a w K Q else E := by
  have hw : Region.wanted o (yielded ops a.tmps) = true := by simp [Region.wanted, hgd]
  rw [if_pos hw]
  obtain ⟨i0, hi0, hz0, hz1, hz2⟩ := info_parts lex_info
  refine wp_append_own w x y 31 ho base 47 i0 _ 3 32 Tryd.underlying31 hi0 hz0 hz1 hz2 rfl (by decide) _ ts.length (tokRow ts) hx hown ⟨b, 0, none⟩ 1 1 [.int .u8 kd, .string t, .int .i64 k] hy rfl ?_ ?_ (by simp only [maxLen]; omega) (by omega) hbase ?_
  · obtain ⟨l0, l1, l2⟩ := hl
    intro j u hj
    match j, hj with
    | 0, hj => simp at hj; subst hj; simpa [Addr.add] using l0
    | 1, hj => simp at hj; subst hj; simpa [Addr.add] using l1
    | 2, hj => simp at hj; subst hj; simpa [Addr.add] using l2
  · intro u hu; simp at hu; rcases hu with rfl | rfl | rfl <;> rfl
  · intro v' w' h2 h3 _
    obtain ⟨g, cap', hv, _, _⟩ := h2.form (by omega)
    subst hv
    refine h _ cap' w' ?_ h3
    unfold OwnToks
    rw [tokRow_snoc, List.length_append, List.length_singleton]
    have : tokCells ⟨kd, t.data.toList, k⟩ = [.int .u8 kd, .string t, .int .i64 k] := by simp only [tokCells, sv_data]
    rw [this]
    exact h2

/-- a reader in memory -/
structure Rdr (w : World) (base b : Nat) (A : Option Addr) (cap : Nat) (ts : List Lx.Tok) (G : Option Addr) (gcap : Nat) (gs : List (Nat × Nat)) (bm bs : Nat) (s : ByteArray) : Prop where
  blk : Blk w b 81 #[.slice A ts.length cap, .slice G gs.length gcap, .map (some bm), .slice (some ⟨bs, 0, none⟩) 26 26, .string s]
  toks : OwnToks w base A cap ts
  gaps : OwnGaps w base G gcap gs
  voc : Voc w bm bs
  lb : b < base
  lm : bm < base
  ls : bs < base
  nm : b ≠ bm
  ns : b ≠ bs
  ub : base ≤ w.heap.size
section
variable {w w' : World} {base b : Nat} {A : Option Addr} {cap : Nat} {ts : List Lx.Tok} {G : Option Addr} {gcap : Nat} {gs : List (Nat × Nat)} {bm bs : Nat} {s : ByteArray}
theorem Rdr.below (h : Rdr w base b A cap ts G gcap gs bm bs s) (hb : Below w.heap.size w w') : Rdr w' base b A cap ts G gcap gs bm bs s :=
  ⟨h.blk.below hb h.blk.lt, ownToks_below h.toks hb, h.gaps.kept (grown_of_below hb none) (by rcases G with _ | a; · left; rfl
                                                                                              · right; simp [Value.ownBlock]), h.voc.below hb, h.lb, h.lm, h.ls, h.nm, h.ns, Nat.le_trans h.ub hb.size⟩
theorem Rdr.alloc (h : Rdr w base b A cap ts G gcap gs bm bs s) (o : Obj) : Rdr (w.alloc o) base b A cap ts G gcap gs bm bs s := h.below ((Below.refl _ _).alloc (Nat.le_refl _) o)
/-- behind the append of a gap and the store of the new slice -/
theorem Rdr.gap (h : Rdr w base b A cap ts G gcap gs bm bs s) {g : Nat × Nat} {G' : Option Addr} {gcap' : Nat} (ho : OwnGaps w' base G' gcap' (gs ++ [g])) (hg : w.grownBy w' (Value.slice G gs.length gcap).ownBlock) :
    Rdr (w'.setCell ⟨b, 1, none⟩ (.slice G' (gs.length + 1) gcap')) base b A cap ts G' gcap' (gs ++ [g]) bm bs s := by
  have hrow : ∀ k, (Value.slice G gs.length gcap).ownBlock = some k → base ≤ k := fun k hk => (h.gaps.lt k hk).1
  have hb0 : some b ≠ (Value.slice G gs.length gcap).ownBlock := fun e => by have := hrow b e.symm; have := h.lb; omega
  have hm0 : some bm ≠ (Value.slice G gs.length gcap).ownBlock := fun e => by have := hrow bm e.symm; have := h.lm; omega
  have hs0 : some bs ≠ (Value.slice G gs.length gcap).ownBlock := fun e => by have := hrow bs e.symm; have := h.ls; omega
  have hset := grownBy_setCell1 w' b 1 (.slice G' (gs.length + 1) gcap')
  refine ⟨?_, ?_, ?_, ?_, h.lb, h.lm, h.ls, h.nm, h.ns, ?_⟩
  · have := (h.blk.grown hg hb0).set_ 1 (.slice G' (gs.length + 1) gcap')
    simpa using this
  · exact ownsRow_setCell_below (h.toks.kept hg (own_own_ne h.toks h.gaps (by decide))) h.lb _
  · have := ownsRow_setCell_below ho (a := ⟨b, 1, none⟩) h.lb (.slice G' (gs.length + 1) gcap')
    simpa [OwnGaps] using this
  · exact (h.voc.grown hg hm0 hs0).grown hset (by have := h.nm; simp; omega) (by have := h.ns; simp; omega)
  · exact Nat.le_trans h.ub (Nat.le_trans hg.size hset.size)
/-- behind the append of a token and the store of the new slice -/
theorem Rdr.tok (h : Rdr w base b A cap ts G gcap gs bm bs s) {t : Lx.Tok} {A' : Option Addr} {cap' : Nat} (ho : OwnToks w' base A' cap' (ts ++ [t])) (hg : w.grownBy w' (Value.slice A ts.length cap).ownBlock) :
    Rdr (w'.setCell ⟨b, 0, none⟩ (.slice A' (ts.length + 1) cap')) base b A' cap' (ts ++ [t]) G gcap gs bm bs s := by
  have hrow : ∀ k, (Value.slice A ts.length cap).ownBlock = some k → base ≤ k := fun k hk => (h.toks.lt k hk).1
  have hb0 : some b ≠ (Value.slice A ts.length cap).ownBlock := fun e => by have := hrow b e.symm; have := h.lb; omega
  have hm0 : some bm ≠ (Value.slice A ts.length cap).ownBlock := fun e => by have := hrow bm e.symm; have := h.lm; omega
  have hs0 : some bs ≠ (Value.slice A ts.length cap).ownBlock := fun e => by have := hrow bs e.symm; have := h.ls; omega
  have hset := grownBy_setCell1 w' b 0 (.slice A' (ts.length + 1) cap')
  refine ⟨?_, ?_, ?_, ?_, h.lb, h.lm, h.ls, h.nm, h.ns, ?_⟩
  · have := (h.blk.grown hg hb0).set_ 0 (.slice A' (ts.length + 1) cap')
    simpa using this
  · have := ownsRow_setCell_below ho (a := ⟨b, 0, none⟩) h.lb (.slice A' (ts.length + 1) cap')
    simpa [OwnToks] using this
  · exact ownsRow_setCell_below (h.gaps.kept hg (own_own_ne h.gaps h.toks (by decide))) h.lb _
  · exact (h.voc.grown hg hm0 hs0).grown hset (by have := h.nm; simp; omega) (by have := h.ns; simp; omega)
  · exact Nat.le_trans h.ub (Nat.le_trans hg.size hset.size)
theorem Rdr.frG (h : Rdr w base b A cap ts G gcap gs bm bs s) (hg : w.grownBy w' (Value.slice G gs.length gcap).ownBlock) (i : Nat) : w'.frozen? ⟨b, i, none⟩ = false :=
  (h.blk.grown hg (fun e => by have := (h.gaps.lt b e.symm).1; have := h.lb; omega)).frozen i
theorem Rdr.frT (h : Rdr w base b A cap ts G gcap gs bm bs s) (hg : w.grownBy w' (Value.slice A ts.length cap).ownBlock) (i : Nat) : w'.frozen? ⟨b, i, none⟩ = false :=
  (h.blk.grown hg (fun e => by have := (h.toks.lt b e.symm).1; have := h.lb; omega)).frozen i
theorem Rdr.clG (h : Rdr w base b A cap ts G gcap gs bm bs s) (hg : w.grownBy w' (Value.slice G gs.length gcap).ownBlock) : w'.cell? ⟨b, 1, none⟩ = some (.slice G gs.length gcap) :=
  (h.blk.grown hg (fun e => by have := (h.gaps.lt b e.symm).1; have := h.lb; omega)).cell 1
theorem Rdr.clT (h : Rdr w base b A cap ts G gcap gs bm bs s) (hg : w.grownBy w' (Value.slice A ts.length cap).ownBlock) : w'.cell? ⟨b, 0, none⟩ = some (.slice A ts.length cap) :=
  (h.blk.grown hg (fun e => by have := (h.toks.lt b e.symm).1; have := h.lb; omega)).cell 0
theorem Rdr.blG (h : Rdr w base b A cap ts G gcap gs bm bs s) {w0 : World} (hb : Below b w0 w) (hg : w.grownBy w' (Value.slice G gs.length gcap).ownBlock) : Below b w0 w' :=
  hb.grown hg (Nat.le_of_lt h.blk.lt) (fun j hj => by have := (h.gaps.lt j hj).1; have := h.lb; omega)
theorem Rdr.blT (h : Rdr w base b A cap ts G gcap gs bm bs s) {w0 : World} (hb : Below b w0 w) (hg : w.grownBy w' (Value.slice A ts.length cap).ownBlock) : Below b w0 w' :=
  hb.grown hg (Nat.le_of_lt h.blk.lt) (fun j hj => by have := (h.toks.lt j hj).1; have := h.lb; omega)
end

/-- one step, plainly -/
def stepP (s : ByteArray) (k : Nat) (ts : List Lx.Tok) (gs : List (Nat × Nat)) : Nat × Nat × List Lx.Tok × List (Nat × Nat) :=
  if 0 < Lx.gap (s.data.toList.drop k) then (k + Lx.gap (s.data.toList.drop k), 0, ts, gs ++ [(k, k + Lx.gap (s.data.toList.drop k))])
  else match Lx.tok (s.data.toList.drop k) with
    | none => (k, 4, ts, gs)
    | some (kd, t) => if ts.length = 900 then (k, 5, ts, gs) else (k + t.length, 0, ts ++ [⟨kd, t, k⟩], gs)

end Go.Proofs.YtkhgmoljhehbnaaDoor
