/- Layer 6: what is kept where boxes of memories and pictures alone are written. -/
import Derived.Test.YtjldkndalcellaaGreatDoorWf
namespace Go.Proofs.YtjldkndalcellaaGreatDoor
open Go.RowKit Go.El

/-- all blocks are kept but those of boxes of memories and pictures -/
def KeepsB (w w' : World) : Prop := ∀ T, T ≠ 24 → T ≠ 37 → KeepsT T w w'
theorem KeepsB.refl (w : World) : KeepsB w w := fun T _ _ => KeepsT.refl T w
theorem KeepsB.trans {a b c : World} (h : KeepsB a b) (k : KeepsB b c) : KeepsB a c := fun T h1 h2 => (h T h1 h2).trans (k T h1 h2)
theorem KeepsB.below {w w' : World} (h : Below w.heap.size w w') : KeepsB w w' := fun _ _ _ => KeepsT.below h
theorem KeepsB.own {α : Type} {K : El α} {T : TypeId} {w w' : World} {base cap : Nat} {A : Option Addr} {l : List α} (h : KeepsB w w') (ho : K.Own T w base A cap l) (h1 : T ≠ 24) (h2 : T ≠ 37) : K.Own T w' base A cap l := Own.keepsT ho (h T h1 h2)
theorem KeepsB.set {w : World} {g j : Nat} {t : TypeId} {cs : Array Value} {v : Value} (h : Blk w g t cs) (ht : t = 24 ∨ t = 37) : KeepsB w (w.setCell ⟨g, j, none⟩ v) := fun T h1 h2 => KeepsT.set (a := ⟨g, j, none⟩) (fun c f e => by
  have e' : w.heap[g]? = some (.cells c T f) := e
  rw [show w.heap[g]? = _ from h] at e'
  injection e' with e'
  injection e' with _ e2
  subst e2
  rcases ht with ht | ht
  · exact h1 ht
  · exact h2 ht)
theorem MO.keepsB {W W' : World} {base : Nat} {B : Option Addr} {c : Nat} {hs : List (Sl × Sl)} {m : Ce.Mem} (h : MO W base B c hs m) (hk : KeepsB W W') : MO W' base B c hs m :=
  ⟨h.len, hk.own h.own (by decide) (by decide), fun i x s h1 h2 => let y := h.each i x s h1 h2; ⟨y.n1, hk.own y.o1 (by decide) (by decide), y.n2, hk.own y.o2 (by decide) (by decide)⟩, h.apart⟩
theorem LO.keepsB {W W' : World} {base : Nat} {B : Option Addr} {c : Nat} {hs : List Sl} {m : List (List Ce.V)} (h : LO W base B c hs m) (hk : KeepsB W W') : LO W' base B c hs m :=
  ⟨h.len, hk.own h.own (by decide) (by decide), fun i x s h1 h2 => let y := h.each i x s h1 h2; ⟨y.1, hk.own y.2 (by decide) (by decide)⟩⟩
theorem Blk.ne {W : World} {g g' : Nat} {t t' : TypeId} {cs cs' : Array Value} (h : Blk W g t cs) (h' : Blk W g' t' cs') (ht : t ≠ t') : g ≠ g' := fun e => by
  subst e
  rw [Blk, show W.heap[g]? = _ from h] at h'
  injection h' with h'
  injection h' with _ e
  exact ht e
theorem Blk.other {W : World} {g g' j : Nat} {t : TypeId} {cs : Array Value} {v : Value} (h : Blk W g t cs) (hne : g ≠ g') : Blk (W.setCell ⟨g', j, none⟩ v) g t cs := h.kept (grownBy_setCell1 W g' j v) (fun e => by injection e with e; exact hne e)
end Go.Proofs.YtjldkndalcellaaGreatDoor
