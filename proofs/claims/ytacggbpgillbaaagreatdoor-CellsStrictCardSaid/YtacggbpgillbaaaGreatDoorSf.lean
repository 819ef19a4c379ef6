/- Layer 6: a memory that the call owns, each row a block of its own. -/
import Derived.Test.YtacggbpgillbaaaGreatDoorSd
import Derived.Test.YtacggbpgillbaaaGreatDoorSe
import Derived.RangeFuncBox
namespace Go.El
open Go.RowKit
variable {α : Type} {K : El α} {e : TypeId} {W W' : World} {base cap : Nat} {A : Option Addr} {l : List α}
theorem Own.low (h : K.Own e W base A cap l) {row : Option Nat} (hg : W.grownBy W' row) (hr : ∀ k, row = some k → k < base) : K.Own e W' base A cap l := by
  refine h.kept hg ?_
  by_cases hv : (Value.slice A l.length cap).ownBlock = none
  · exact .inl hv
  · right
    intro he
    cases row with
    | none => exact hv he
    | some k => exact absurd (hr k rfl) (Nat.not_lt.2 (h.lt k he).1)
theorem Own.block {a : Addr} (h : K.Own e W base A cap l) (hA : A = some a) : base ≤ a.block ∧ a.block < W.heap.size := by
  subst hA
  exact h.lt a.block (by simp [Value.ownBlock])
end Go.El
namespace Go.Proofs.YtacggbpgillbaaaGreatDoor
open Go.RowKit Go.El

theorem st_info : (Tryz.prog.info? 83).map (fun i => (i.zero, i.size, i.bytes)) = some (some (.agg #[.slice none 0 0, .slice none 0 0]), 2, 48) := by kernel_rfl
theorem rd_info : (Tryz.prog.info? 122).map (fun i => (i.zero, i.size, i.bytes)) = some (some (.agg #[.int .i64 0, .int .i64 0]), 2, 16) := by kernel_rfl

/-- a structure of a memory, at its place, and what is said of nil -/
theorem MemAt.at4 {W : World} {A : Option Addr} {m : Ce.Mem} (h : MemAt W A m) {i : Nat} {s : Ce.St} (hs : m[i]? = some s) :
    ∃ b o A1 c1 A2 c2, A = some ⟨b, o, none⟩ ∧ b < W.heap.size ∧ W.cell? ⟨b, o + i * 2, none⟩ = some (.slice A1 s.cells.length c1) ∧ W.cell? ⟨b, o + i * 2 + 1, none⟩ = some (.slice A2 s.wait.length c2) ∧ SlAt ValE W ⟨A1, s.cells.length, c1⟩ s.cells ∧ SlAt RdE W ⟨A2, s.wait.length, c2⟩ s.wait := by
  obtain ⟨b, o, ⟨A1, n1, c1⟩, ⟨A2, n2, c2⟩, h1, h2, h3, h4, h5, h6⟩ := h.at_ hs
  have e1 := h5.n
  have e2 := h6.n
  dsimp only at e1 e2
  subst e1 e2
  exact ⟨b, o, A1, c1, A2, c2, h1, h2, h3, h4, h5, h6⟩
theorem SlAt_stay {α : Type} {K : El α} {W : World} {h : Sl} {l : List α} (s : SlAt K W h l) : Stay (fun V => SlAt K V h l) W := fun _ hb => s.below hb
/-- two structures share no row -/
def Apart (h h' : Sl × Sl) : Prop := (∀ a b, h.1.A = some a → h'.1.A = some b → a.block ≠ b.block) ∧ (∀ a b, h.2.A = some a → h'.2.A = some b → a.block ≠ b.block)
/-- a structure whose rows the call owns -/
structure HOwn (W : World) (base : Nat) (h : Sl × Sl) (s : Ce.St) : Prop where
  n1 : h.1.n = s.cells.length
  o1 : ValE.Own 26 W base h.1.A h.1.c s.cells
  n2 : h.2.n = s.wait.length
  o2 : RdE.Own 122 W base h.2.A h.2.c s.wait
theorem HOwn.at_ {W : World} {base : Nat} {h : Sl × Sl} {s : Ce.St} (x : HOwn W base h s) : SlAt ValE W h.1 s.cells ∧ SlAt RdE W h.2 s.wait :=
  ⟨⟨x.n1, Own.arg x.o1, (Own.le x.o1).2, by rw [x.n1]; exact (Own.le x.o1).1⟩, ⟨x.n2, Own.arg x.o2, (Own.le x.o2).2, by rw [x.n2]; exact (Own.le x.o2).1⟩⟩
/-- a memory that the call owns -/
structure MO (W : World) (base : Nat) (B : Option Addr) (c : Nat) (hs : List (Sl × Sl)) (m : Ce.Mem) : Prop where
  len : hs.length = m.length
  own : StE.Own 83 W base B c hs
  each : ∀ (i : Nat) (h : Sl × Sl) (s : Ce.St), hs[i]? = some h → m[i]? = some s → HOwn W base h s
  apart : ∀ (i j : Nat) (h h' : Sl × Sl), i < j → hs[i]? = some h → hs[j]? = some h' → Apart h h'
theorem MO.below {W W' : World} {base : Nat} {B : Option Addr} {c : Nat} {hs : List (Sl × Sl)} {m : Ce.Mem} (h : MO W base B c hs m) (hb : Below W.heap.size W W') : MO W' base B c hs m :=
  ⟨h.len, Own.below h.own hb, fun i x s h1 h2 => let y := h.each i x s h1 h2; ⟨y.n1, Own.below y.o1 hb, y.n2, Own.below y.o2 hb⟩, h.apart⟩
theorem MO.low {W W' : World} {base : Nat} {B : Option Addr} {c : Nat} {hs : List (Sl × Sl)} {m : Ce.Mem} (h : MO W base B c hs m) {row : Option Nat} (hg : W.grownBy W' row) (hr : ∀ k, row = some k → k < base) : MO W' base B c hs m :=
  ⟨h.len, Own.low h.own hg hr, fun i x s h1 h2 => let y := h.each i x s h1 h2; ⟨y.n1, Own.low y.o1 hg hr, y.n2, Own.low y.o2 hg hr⟩, h.apart⟩
theorem MO.at_ {W : World} {base : Nat} {B : Option Addr} {c : Nat} {hs : List (Sl × Sl)} {m : Ce.Mem} (h : MO W base B c hs m) : MemAt W B m :=
  ⟨hs, h.len, Own.arg h.own, fun i x s h1 h2 => (h.each i x s h1 h2).at_⟩
theorem MO.nil (W : World) (base : Nat) : MO W base none 0 [] [] := ⟨rfl, Own.nil StE 83 W base, fun i x s h1 _ => by simp at h1, fun i j x y _ h1 _ => by simp at h1⟩
/-- one structure more -/
theorem MO.snoc {W W1 W2 : World} {base : Nat} {B B' : Option Addr} {c c' : Nat} {hs : List (Sl × Sl)} {m : Ce.Mem} {x : Sl × Sl} {s : Ce.St} (h : MO W base B c hs m) (hle : base ≤ W.heap.size) (hb : Below W.heap.size W W1) (hx : HOwn W1 W.heap.size x s)
    (hown : StE.Own 83 W2 base B' c' (hs ++ [x])) (hg : W1.grownBy W2 (Value.slice B hs.length c).ownBlock) : MO W2 base B' c' (hs ++ [x]) (m ++ [s]) := by
  have h1 := h.below hb
  have hk : ∀ {b : Nat} {y : Sl × Sl} {t : Ce.St}, HOwn W1 b y t → HOwn W2 b y t := fun {b y t} z =>
    ⟨z.n1, z.o1.kept hg (own_own_ne z.o1 h1.own (by decide)), z.n2, z.o2.kept hg (own_own_ne z.o2 h1.own (by decide))⟩
  refine ⟨by simp [h.len], hown, fun i y t e1 e2 => ?_, fun i j y z hij e1 e2 => ?_⟩
  · by_cases hi : i < hs.length
    · rw [List.getElem?_append_left hi] at e1
      rw [List.getElem?_append_left (by rw [← h.len]; exact hi)] at e2
      exact hk (h1.each i y t e1 e2)
    · have hi' : i = hs.length := by
        have := (List.getElem?_eq_some_iff.1 e1).1
        simp at this
        omega
      subst hi'
      rw [List.getElem?_append_right (Nat.le_refl _), Nat.sub_self] at e1
      rw [h.len, List.getElem?_append_right (Nat.le_refl _), Nat.sub_self] at e2
      injection e1 with e1
      injection e2 with e2
      subst e1 e2
      have q := hk hx
      exact ⟨q.n1, Own.base_ q.o1 hle, q.n2, Own.base_ q.o2 hle⟩
  · have hj := (List.getElem?_eq_some_iff.1 e2).1
    simp at hj
    rw [List.getElem?_append_left (by omega)] at e1
    by_cases hj2 : j < hs.length
    · rw [List.getElem?_append_left hj2] at e2
      exact h.apart i j y z hij e1 e2
    · have hj' : j = hs.length := by omega
      subst hj'
      rw [List.getElem?_append_right (Nat.le_refl _), Nat.sub_self] at e2
      injection e2 with e2
      subst e2
      have hi : i < m.length := by rw [← h.len]; exact hij
      have q := h.each i y m[i] e1 (List.getElem?_eq_getElem hi)
      exact ⟨fun a b ha hb => by have u := Own.block q.o1 ha; have v := Own.block hx.o1 hb; omega, fun a b ha hb => by have u := Own.block q.o2 ha; have v := Own.block hx.o2 hb; omega⟩

end Go.Proofs.YtacggbpgillbaaaGreatDoor
