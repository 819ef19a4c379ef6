/- Layer 6: values, reads, structures, memories and pictures in memory. -/
import Derived.Test.YtacggbpgillbaaaGreatDoorProg
import Derived.Test.YtacggbpgillbaaaGreatDoorSa
import Derived.Test.YtacggbpgillbaaaGreatDoorEl
import Derived.WalkSpells
import Derived.WalkLawsBesides
import Derived.WalkSmall
import Derived.Shelf.Abstract
import Derived.BigQuiet
import Derived.Deep.QuietTactic
import Derived.Deep.RegionWith
import Derived.Deep.RegionHeld3
import Derived.LoopTactic
namespace Go.El
open Go.RowKit
/-- a slice, as it stands in a cell -/
structure Sl where
  A : Option Addr
  n : Nat
  c : Nat
def Sl.val (h : Sl) : Value := .slice h.A h.n h.c
/-- a slice that reads as a list -/
structure SlAt {α : Type} (K : El α) (W : World) (h : Sl) (l : List α) : Prop where
  n : h.n = l.length
  arg : K.Arg W h.A l
  none_ : h.A = none → h.c = 0
  le : h.n ≤ h.c
theorem SlAt.below {α : Type} {K : El α} {W W' : World} {h : Sl} {l : List α} (s : SlAt K W h l) (hb : Below W.heap.size W W') : SlAt K W' h l := ⟨s.n, s.arg.below hb, s.none_, s.le⟩
theorem SlAt.of_own {α : Type} {K : El α} {e : TypeId} {W : World} {base cap : Nat} {A : Option Addr} {l : List α} (h : K.Own e W base A cap l) : SlAt K W ⟨A, l.length, cap⟩ l := ⟨rfl, Own.arg h, h.le.2, h.le.1⟩
end Go.El
namespace Go.Proofs.YtacggbpgillbaaaGreatDoor
open Go.RowKit Go.El

def vC (v : Ce.V) : List Value := [.int .u8 v.k, .int .i64 v.n]
def ValE : El Ce.V := { cells := vC, k := 2, pos := by decide, len := fun _ => rfl, one := fun x u hu => by simp [vC] at hu; rcases hu with rfl | rfl <;> rfl }
def rdC (r : Ce.Rd) : List Value := [.int .i64 r.cell, .int .i64 r.who]
def RdE : El Ce.Rd := { cells := rdC, k := 2, pos := by decide, len := fun _ => rfl, one := fun x u hu => by simp [rdC] at hu; rcases hu with rfl | rfl <;> rfl }
def tdC (r : Ce.Td) : List Value := [.int .i64 r.who, .int .u8 r.v.k, .int .i64 r.v.n]
def TdE : El Ce.Td := { cells := tdC, k := 3, pos := by decide, len := fun _ => rfl, one := fun x u hu => by simp [tdC] at hu; rcases hu with rfl | rfl | rfl <;> rfl }
def IntE : El Int := { cells := fun n => [.int .i64 n], k := 1, pos := by decide, len := fun _ => rfl, one := fun x u hu => by simp at hu; subst hu; rfl }
def StE : El (Sl × Sl) := { cells := fun h => [h.1.val, h.2.val], k := 2, pos := by decide, len := fun _ => rfl, one := fun x u hu => by simp at hu; rcases hu with rfl | rfl <;> rfl }
def SlE : El Sl := { cells := fun h => [h.val], k := 1, pos := by decide, len := fun _ => rfl, one := fun x u hu => by simp at hu; subst hu; rfl }
def opC (o : Ce.Op) : List Value := [.int .u8 o.kind, .int .u8 o.v.k, .int .i64 o.v.n, .int .u8 o.i.k, .int .i64 o.i.n, .int .u8 o.x.k, .int .i64 o.x.n, .int .i64 o.who]
def OpE : El Ce.Op := { cells := opC, k := 8, pos := by decide, len := fun _ => rfl, one := fun x u hu => by simp [opC] at hu; rcases hu with rfl | rfl | rfl | rfl | rfl | rfl | rfl | rfl <;> rfl }

/-- a memory, read -/
def MemAt (W : World) (A : Option Addr) (m : Ce.Mem) : Prop := ∃ hs : List (Sl × Sl), hs.length = m.length ∧ StE.Arg W A hs ∧ ∀ (i : Nat) (h : Sl × Sl) (s : Ce.St), hs[i]? = some h → m[i]? = some s → SlAt ValE W h.1 s.cells ∧ SlAt RdE W h.2 s.wait
theorem MemAt.below {W W' : World} {A : Option Addr} {m : Ce.Mem} (h : MemAt W A m) (hb : Below W.heap.size W W') : MemAt W' A m := by
  obtain ⟨hs, h1, h2, h3⟩ := h
  exact ⟨hs, h1, h2.below hb, fun i x s hx hs => ⟨(h3 i x s hx hs).1.below hb, (h3 i x s hx hs).2.below hb⟩⟩
theorem MemAt.stay {W : World} {A : Option Addr} {m : Ce.Mem} (h : MemAt W A m) : Stay (fun W => MemAt W A m) W := fun _ hb => h.below hb
/-- lists of values, read -/
def LsAt (W : World) (A : Option Addr) (l : List (List Ce.V)) : Prop := ∃ hs : List Sl, hs.length = l.length ∧ SlE.Arg W A hs ∧ ∀ (i : Nat) (h : Sl) (s : List Ce.V), hs[i]? = some h → l[i]? = some s → SlAt ValE W h s
theorem LsAt.below {W W' : World} {A : Option Addr} {m : List (List Ce.V)} (h : LsAt W A m) (hb : Below W.heap.size W W') : LsAt W' A m := by
  obtain ⟨hs, h1, h2, h3⟩ := h
  exact ⟨hs, h1, h2.below hb, fun i x s hx hs => (h3 i x s hx hs).below hb⟩
/-- the cells of a structure's handle, at its place -/
theorem MemAt.at_ {W : World} {A : Option Addr} {m : Ce.Mem} (h : MemAt W A m) {i : Nat} {s : Ce.St} (hs : m[i]? = some s) :
    ∃ b o h1 h2, A = some ⟨b, o, none⟩ ∧ b < W.heap.size ∧ W.cell? ⟨b, o + i * 2, none⟩ = some (Sl.val h1) ∧ W.cell? ⟨b, o + i * 2 + 1, none⟩ = some (Sl.val h2) ∧ SlAt ValE W h1 s.cells ∧ SlAt RdE W h2 s.wait := by
  obtain ⟨hh, e1, e2, e3⟩ := h
  have hi : i < hh.length := by rw [e1]; exact (List.getElem?_eq_some_iff.1 hs).1
  have hx : hh[i]? = some hh[i] := List.getElem?_eq_getElem hi
  obtain ⟨b, o, hA, hin, hb⟩ := e2.at_lt hi
  obtain ⟨k1, k2⟩ := e3 i _ s hx hs
  exact ⟨b, o, _, _, hA, hb, hin i _ hx 0 _ rfl, hin i _ hx 1 _ rfl, k1, k2⟩
theorem ValE.at2 {w : World} {b o : Nat} {l : List Ce.V} (h : ValE.In w b o l) {k : Nat} {p : Ce.V} (hp : l[k]? = some p) :
    w.cell? ⟨b, o + k * 2, none⟩ = some (.int .u8 p.k) ∧ w.cell? ⟨b, o + k * 2 + 1, none⟩ = some (.int .i64 p.n) := ⟨h k p hp 0 _ rfl, h k p hp 1 _ rfl⟩
theorem RdE.at2 {w : World} {b o : Nat} {l : List Ce.Rd} (h : RdE.In w b o l) {k : Nat} {p : Ce.Rd} (hp : l[k]? = some p) :
    w.cell? ⟨b, o + k * 2, none⟩ = some (.int .i64 p.cell) ∧ w.cell? ⟨b, o + k * 2 + 1, none⟩ = some (.int .i64 p.who) := ⟨h k p hp 0 _ rfl, h k p hp 1 _ rfl⟩

end Go.Proofs.YtacggbpgillbaaaGreatDoor
