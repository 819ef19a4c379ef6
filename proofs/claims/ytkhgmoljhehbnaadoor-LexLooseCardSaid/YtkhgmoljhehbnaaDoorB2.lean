/- The walk of (vocabulary).bare. -/
import Derived.Test.YtkhgmoljhehbnaaDoorB1
namespace Go.Proofs.YtkhgmoljhehbnaaDoor
open Go.RowKit

/-- a token of a list in memory -/
structure LT where
  kind : Nat
  text : ByteArray
  at_ : Int

/-- a list of tokens in memory -/
def ToksIn (w : World) (blk off : Nat) (ts : List LT) : Prop := ∀ i x, ts[i]? = some x → w.cell? ⟨blk, off + i * 3, none⟩ = some (.int .u8 x.kind) ∧ w.cell? ⟨blk, off + i * 3 + 1, none⟩ = some (.string x.text) ∧ w.cell? ⟨blk, off + i * 3 + 2, none⟩ = some (.int .i64 x.at_)
theorem ToksIn.below {w w' : World} {B blk off : Nat} {ts : List LT} (h : ToksIn w blk off ts) (hb : Below B w w') (hlt : ts ≠ [] → blk < B) : ToksIn w' blk off ts := by
  intro i x hx
  have hB := hlt (by intro e; subst e; simp at hx)
  obtain ⟨h0, h1, h2⟩ := h i x hx
  exact ⟨((bcell hb).1 _ _ hB).trans h0, ((bcell hb).1 _ _ hB).trans h1, ((bcell hb).1 _ _ hB).trans h2⟩
theorem ToksIn.lt {w : World} {blk off : Nat} {ts : List LT} (h : ToksIn w blk off ts) (hne : ts ≠ []) : blk < w.heap.size := by
  obtain ⟨x, r, rfl⟩ := List.exists_cons_of_ne_nil hne
  exact lt_of_cell (h 0 x rfl).1

def sepAt (ts : List LT) : Nat → Lx.B
  | 0 => []
  | j + 1 => match ts[j]?, ts[j + 1]? with
    | some x, some y => if apartB x.kind x.text y.text then [32] else []
    | _, _ => []
def txtAt (ts : List LT) (k : Nat) : Lx.B := match ts[k]? with | some x => x.text.data.toList | none => []
/-- the bytes behind k tokens -/
def bareN (ts : List LT) : Nat → Lx.B
  | 0 => []
  | k + 1 => bareN ts k ++ sepAt ts k ++ txtAt ts k
theorem bareN_mono (ts : List LT) (k : Nat) : (bareN ts k).length ≤ (bareN ts (k + 1)).length := by simp [bareN]
theorem bareN_le (ts : List LT) (n : Nat) : ∀ k, k ≤ n → (bareN ts k).length ≤ (bareN ts n).length := by
  induction n with
  | zero => intro k hk; rw [Nat.le_zero.1 hk]; exact Nat.le_refl _
  | succ n ih =>
    intro k hk
    rcases Nat.lt_or_ge k (n + 1) with h | h
    · exact Nat.le_trans (ih k (by omega)) (bareN_mono ts n)
    · rw [show k = n + 1 by omega]; exact Nat.le_refl _
def bareP (ts : List LT) : Lx.B := bareN ts ts.length

theorem apart_ex (ka kb : Nat) (ta tb : ByteArray) (aa ab : Int) (hs : ta.size + tb.size ≤ 281474976710656) (bm bs : Nat) (w : World) (hv : Voc w bm bs) (he : Env w) :
    Calls Tryd.prog 57 #[.agg #[.map (some bm), .slice (some ⟨bs, 0, none⟩) 26 26], .agg #[.int .u8 ka, .string ta, .int .i64 aa], .agg #[.int .u8 kb, .string tb, .int .i64 ab]] w fun e w' => e = .returned (.bool (apartB ka ta tb)) ∧ Below w.heap.size w w' :=
  apart_any ka kb ta tb aa ab hs bm bs w hv he

theorem BldF.below {B b : Nat} {bs : List Value} {W W' : World} (h : BldF B b bs W) (hb : Below W.heap.size W W') : BldF B b bs W' := by
  have key : ∀ p, Lib.BuilderAtF 104 5 B b p bs W → Lib.BuilderAtF 104 5 B b p bs W' := by
    intro p h
    have hlt := h.lt
    obtain ⟨hB, v, hc, hown, hne⟩ := h
    exact ⟨hB, v, (hb.block b hlt).trans hc, hown.kept (grown_of_below hb none) (by cases hv : v.ownBlock <;> simp), hne⟩
  exact h.imp (key _) (key _)
theorem BldF.alloc {B b : Nat} {bs : List Value} {W : World} (h : BldF B b bs W) (o : Obj) : BldF B b bs (W.alloc o) := h.below ((Below.refl _ _).alloc (Nat.le_refl _) o)
theorem BldF.drew {B b : Nat} {bs : List Value} {W : World} (h : BldF B b bs W) : BldF B b bs W.drew := h
theorem BldF.lt {B b : Nat} {bs : List Value} {W : World} (h : BldF B b bs W) : b < W.heap.size := h.elim (fun h => h.lt) (fun h => h.lt)
theorem BldF.le {B b : Nat} {bs : List Value} {W : World} (h : BldF B b bs W) : B ≤ b := h.elim (fun h => h.1) (fun h => h.1)
theorem BldF.new (w : World) : BldF w.heap.size w.heap.size [] (w.alloc (.cells #[.pointer none, .slice none 0 0] 104)) :=
  .inl ⟨Nat.le_refl _, .slice none 0 0, heap_alloc_new w _, ⟨by simp, .inl ⟨rfl, rfl⟩⟩, by simp [Value.ownBlock]⟩

end Go.Proofs.YtkhgmoljhehbnaaDoor
