/- Layer 6: values, reads, structures, memories and pictures in memory. Layer 6: the walks of the reference's In, IsValue, makers of values, SameValues, Values, areValues. Layer 6: copies that the call owns. -/
import Derived.Test.YtjldkndalcellaaGreatDoorProg
import Derived.Test.YtjldkndalcellaaGreatDoorYa
import Derived.WalkSpells
import Derived.WalkLawsBesides
import Derived.WalkSmall
import Derived.Shelf.Abstract
import Derived.BigQuiet
import Derived.Deep.QuietTactic
import Derived.Deep.RegionWith
import Derived.Deep.RegionHeld3
import Derived.LoopTactic
namespace Go.El
open Go.RowKit
/-- a slice, as it stands in a cell -/
structure Sl where
  A : Option Addr
  n : Nat
  c : Nat
def Sl.val (h : Sl) : Value := .slice h.A h.n h.c
/-- a slice that reads as a list -/
structure SlAt {α : Type} (K : El α) (W : World) (h : Sl) (l : List α) : Prop where
  n : h.n = l.length
  arg : K.Arg W h.A l
  none_ : h.A = none → h.c = 0
  le : h.n ≤ h.c
theorem SlAt.below {α : Type} {K : El α} {W W' : World} {h : Sl} {l : List α} (s : SlAt K W h l) (hb : Below W.heap.size W W') : SlAt K W' h l := ⟨s.n, s.arg.below hb, s.none_, s.le⟩
theorem SlAt.of_own {α : Type} {K : El α} {e : TypeId} {W : World} {base cap : Nat} {A : Option Addr} {l : List α} (h : K.Own e W base A cap l) : SlAt K W ⟨A, l.length, cap⟩ l := ⟨rfl, Own.arg h, h.le.2, h.le.1⟩
end Go.El
namespace Go.Proofs.YtjldkndalcellaaGreatDoor
open Go.RowKit Go.El

def vC (v : Ce.V) : List Value := [.int .u8 v.k, .int .i64 v.n]
def ValE : El Ce.V := { cells := vC, k := 2, pos := by decide, len := fun _ => rfl, one := fun x u hu => by simp [vC] at hu; rcases hu with rfl | rfl <;> rfl }
def rdC (r : Ce.Rd) : List Value := [.int .i64 r.cell, .int .i64 r.who]
def RdE : El Ce.Rd := { cells := rdC, k := 2, pos := by decide, len := fun _ => rfl, one := fun x u hu => by simp [rdC] at hu; rcases hu with rfl | rfl <;> rfl }
def tdC (r : Ce.Td) : List Value := [.int .i64 r.who, .int .u8 r.v.k, .int .i64 r.v.n]
def TdE : El Ce.Td := { cells := tdC, k := 3, pos := by decide, len := fun _ => rfl, one := fun x u hu => by simp [tdC] at hu; rcases hu with rfl | rfl | rfl <;> rfl }
def IntE : El Int := { cells := fun n => [.int .i64 n], k := 1, pos := by decide, len := fun _ => rfl, one := fun x u hu => by simp at hu; subst hu; rfl }
def StE : El (Sl × Sl) := { cells := fun h => [h.1.val, h.2.val], k := 2, pos := by decide, len := fun _ => rfl, one := fun x u hu => by simp at hu; rcases hu with rfl | rfl <;> rfl }
def SlE : El Sl := { cells := fun h => [h.val], k := 1, pos := by decide, len := fun _ => rfl, one := fun x u hu => by simp at hu; subst hu; rfl }
def opC (o : Ce.Op) : List Value := [.int .u8 o.kind, .int .u8 o.v.k, .int .i64 o.v.n, .int .u8 o.i.k, .int .i64 o.i.n, .int .u8 o.x.k, .int .i64 o.x.n, .int .i64 o.who]
def OpE : El Ce.Op := { cells := opC, k := 8, pos := by decide, len := fun _ => rfl, one := fun x u hu => by simp [opC] at hu; rcases hu with rfl | rfl | rfl | rfl | rfl | rfl | rfl | rfl <;> rfl }

/-- a memory, read -/
def MemAt (W : World) (A : Option Addr) (m : Ce.Mem) : Prop := ∃ hs : List (Sl × Sl), hs.length = m.length ∧ StE.Arg W A hs ∧ ∀ (i : Nat) (h : Sl × Sl) (s : Ce.St), hs[i]? = some h → m[i]? = some s → SlAt ValE W h.1 s.cells ∧ SlAt RdE W h.2 s.wait
theorem MemAt.below {W W' : World} {A : Option Addr} {m : Ce.Mem} (h : MemAt W A m) (hb : Below W.heap.size W W') : MemAt W' A m := by
  obtain ⟨hs, h1, h2, h3⟩ := h
  exact ⟨hs, h1, h2.below hb, fun i x s hx hs => ⟨(h3 i x s hx hs).1.below hb, (h3 i x s hx hs).2.below hb⟩⟩
theorem MemAt.stay {W : World} {A : Option Addr} {m : Ce.Mem} (h : MemAt W A m) : Stay (fun W => MemAt W A m) W := fun _ hb => h.below hb
/-- lists of values, read -/
def LsAt (W : World) (A : Option Addr) (l : List (List Ce.V)) : Prop := ∃ hs : List Sl, hs.length = l.length ∧ SlE.Arg W A hs ∧ ∀ (i : Nat) (h : Sl) (s : List Ce.V), hs[i]? = some h → l[i]? = some s → SlAt ValE W h s
theorem LsAt.below {W W' : World} {A : Option Addr} {m : List (List Ce.V)} (h : LsAt W A m) (hb : Below W.heap.size W W') : LsAt W' A m := by
  obtain ⟨hs, h1, h2, h3⟩ := h
  exact ⟨hs, h1, h2.below hb, fun i x s hx hs => (h3 i x s hx hs).below hb⟩
/-- the cells of a structure's handle, at its place -/
theorem MemAt.at_ {W : World} {A : Option Addr} {m : Ce.Mem} (h : MemAt W A m) {i : Nat} {s : Ce.St} (hs : m[i]? = some s) :
    ∃ b o h1 h2, A = some ⟨b, o, none⟩ ∧ b < W.heap.size ∧ W.cell? ⟨b, o + i * 2, none⟩ = some (Sl.val h1) ∧ W.cell? ⟨b, o + i * 2 + 1, none⟩ = some (Sl.val h2) ∧ SlAt ValE W h1 s.cells ∧ SlAt RdE W h2 s.wait := by
  obtain ⟨hh, e1, e2, e3⟩ := h
  have hi : i < hh.length := by rw [e1]; exact (List.getElem?_eq_some_iff.1 hs).1
  have hx : hh[i]? = some hh[i] := List.getElem?_eq_getElem hi
  obtain ⟨b, o, hA, hin, hb⟩ := e2.at_lt hi
  obtain ⟨k1, k2⟩ := e3 i _ s hx hs
  exact ⟨b, o, _, _, hA, hb, hin i _ hx 0 _ rfl, hin i _ hx 1 _ rfl, k1, k2⟩
theorem ValE.at2 {w : World} {b o : Nat} {l : List Ce.V} (h : ValE.In w b o l) {k : Nat} {p : Ce.V} (hp : l[k]? = some p) :
    w.cell? ⟨b, o + k * 2, none⟩ = some (.int .u8 p.k) ∧ w.cell? ⟨b, o + k * 2 + 1, none⟩ = some (.int .i64 p.n) := ⟨h k p hp 0 _ rfl, h k p hp 1 _ rfl⟩
theorem RdE.at2 {w : World} {b o : Nat} {l : List Ce.Rd} (h : RdE.In w b o l) {k : Nat} {p : Ce.Rd} (hp : l[k]? = some p) :
    w.cell? ⟨b, o + k * 2, none⟩ = some (.int .i64 p.cell) ∧ w.cell? ⟨b, o + k * 2 + 1, none⟩ = some (.int .i64 p.who) := ⟨h k p hp 0 _ rfl, h k p hp 1 _ rfl⟩

end Go.Proofs.YtjldkndalcellaaGreatDoor

namespace Go.Proofs.YtjldkndalcellaaGreatDoor
open Go.RowKit Go.El

theorem in6_any (n lo hi : Int) (w : World) : Calls Tryz.prog 34 #[.int .i64 n, .int .i64 lo, .int .i64 hi] w fun e w' => e = .returned (.bool (Ce.inn n lo hi)) ∧ w = w' := by
  unfold Ce.inn
  by_cases h1 : lo ≤ n
  · by_cases h2 : n ≤ hi
    · rw [decide_eq_true h1, decide_eq_true h2]
      go_enter Tryz.func34, Tryz.ntmps34
      go_wp2
      go_ret
      exact ⟨rfl, rfl⟩
    · rw [decide_eq_false h2, Bool.and_false]
      go_enter Tryz.func34, Tryz.ntmps34
      go_wp2
      go_ret
      exact ⟨rfl, rfl⟩
  · rw [decide_eq_false h1, Bool.false_and]
    go_enter Tryz.func34, Tryz.ntmps34
    go_wp2
    go_ret
    exact ⟨rfl, rfl⟩

set_option maxHeartbeats 1000000 in
theorem isValue_any (v : Ce.V) (many : Int) (w : World) : Calls Tryz.prog 76 #[.agg #[.int .u8 v.k, .int .i64 v.n], .int .i64 many] w fun e w' => e = .returned (.bool (Ce.isValue v many)) ∧ Below w.heap.size w w' := by
  obtain ⟨k, n⟩ := v
  have hin := fun lo hi W => in6_any n lo hi W
  have HIN := Lib.hid hin
  clear hin
  unfold Ce.isValue
  dsimp only
  by_cases h0 : k = 0
  · subst h0
    rw [if_pos rfl]
    by_cases hn : n = 0
    · subst hn
      go_enter Tryz.func76, Tryz.ntmps76
      go_wp2
      go_ret
      exact ⟨rfl, (Below.refl _ _).alloc (Nat.le_refl _) _⟩
    · rw [decide_eq_false hn]
      have hn' : (n == 0) = false := beq_eq_false_iff_ne.2 hn
      go_enter Tryz.func76, Tryz.ntmps76
      go_wp2
      go_ret
      exact ⟨rfl, (Below.refl _ _).alloc (Nat.le_refl _) _⟩
  rw [if_neg h0]
  by_cases h1 : k = 1
  · subst h1
    rw [if_pos rfl]
    clear h0
    go_enter Tryz.func76, Tryz.ntmps76
    go_wp2_with fail
    refine (HIN.out _ _ _).mono ?_
    rintro e w1 ⟨rfl, rfl⟩
    go_wp2
    go_ret
    exact ⟨rfl, (Below.refl _ _).alloc (Nat.le_refl _) _⟩
  rw [if_neg h1]
  by_cases h2 : k = 2
  · subst h2
    rw [if_pos rfl]
    clear h0 h1
    by_cases hn : n = 0
    · subst hn
      go_enter Tryz.func76, Tryz.ntmps76
      go_wp2
      go_ret
      exact ⟨rfl, (Below.refl _ _).alloc (Nat.le_refl _) _⟩
    · have hn' : (n == 0) = false := beq_eq_false_iff_ne.2 hn
      rw [decide_eq_false hn, Bool.false_or]
      by_cases hm : n = 1
      · subst hm
        go_enter Tryz.func76, Tryz.ntmps76
        go_wp2
        go_ret
        exact ⟨rfl, (Below.refl _ _).alloc (Nat.le_refl _) _⟩
      · have hm' : (n == 1) = false := beq_eq_false_iff_ne.2 hm
        rw [decide_eq_false hm]
        go_enter Tryz.func76, Tryz.ntmps76
        go_wp2
        go_ret
        exact ⟨rfl, (Below.refl _ _).alloc (Nat.le_refl _) _⟩
  rw [if_neg h2]
  by_cases h3 : k = 3
  · subst h3
    rw [if_pos rfl]
    clear h0 h1 h2
    by_cases hn : n = 0
    · subst hn
      go_enter Tryz.func76, Tryz.ntmps76
      go_wp2
      go_ret
      exact ⟨rfl, (Below.refl _ _).alloc (Nat.le_refl _) _⟩
    · rw [decide_eq_false hn]
      have hn' : (n == 0) = false := beq_eq_false_iff_ne.2 hn
      go_enter Tryz.func76, Tryz.ntmps76
      go_wp2
      go_ret
      exact ⟨rfl, (Below.refl _ _).alloc (Nat.le_refl _) _⟩
  rw [if_neg h3]
  by_cases h4 : k = 4
  · subst h4
    rw [if_pos rfl]
    clear h0 h1 h2 h3
    by_cases hn : 0 ≤ n
    · rw [decide_eq_true hn, Bool.true_and]
      by_cases hm : many < 0
      · rw [decide_eq_true hm, Bool.true_or]
        go_enter Tryz.func76, Tryz.ntmps76
        go_wp2
        go_ret
        exact ⟨rfl, (Below.refl _ _).alloc (Nat.le_refl _) _⟩
      · rw [decide_eq_false hm, Bool.false_or]
        by_cases hl : n < many
        · rw [decide_eq_true hl]
          go_enter Tryz.func76, Tryz.ntmps76
          go_wp2
          go_ret
          exact ⟨rfl, (Below.refl _ _).alloc (Nat.le_refl _) _⟩
        · rw [decide_eq_false hl]
          go_enter Tryz.func76, Tryz.ntmps76
          go_wp2
          go_ret
          exact ⟨rfl, (Below.refl _ _).alloc (Nat.le_refl _) _⟩
    · rw [decide_eq_false hn, Bool.false_and]
      go_enter Tryz.func76, Tryz.ntmps76
      go_wp2
      go_ret
      exact ⟨rfl, (Below.refl _ _).alloc (Nat.le_refl _) _⟩
  rw [if_neg h4]
  by_cases h5 : k = 5
  · subst h5
    rw [if_pos rfl]
    clear h0 h1 h2 h3 h4
    go_enter Tryz.func76, Tryz.ntmps76
    go_wp2_with fail
    refine (HIN.out _ _ _).mono ?_
    rintro e w1 ⟨rfl, rfl⟩
    go_wp2
    go_ret
    exact ⟨rfl, (Below.refl _ _).alloc (Nat.le_refl _) _⟩
  rw [if_neg h5]
  have g0 : (k == 0) = false := beq_eq_false_iff_ne.2 h0
  have g1 : (k == 1) = false := beq_eq_false_iff_ne.2 h1
  have g2 : (k == 2) = false := beq_eq_false_iff_ne.2 h2
  have g3 : (k == 3) = false := beq_eq_false_iff_ne.2 h3
  have g4 : (k == 4) = false := beq_eq_false_iff_ne.2 h4
  have g5 : (k == 5) = false := beq_eq_false_iff_ne.2 h5
  clear h0 h1 h2 h3 h4 h5
  go_enter Tryz.func76, Tryz.ntmps76
  go_wp2
  go_ret
  exact ⟨rfl, (Below.refl _ _).alloc (Nat.le_refl _) _⟩

set_option maxRecDepth 100000 in
set_option maxHeartbeats 1000000 in
/-- two lists of values are compared -/
theorem sameValues_any (a b : List Ce.V) (hla : a.length ≤ maxLen) (A C : Option Addr) (cap1 cap2 : Nat) (w : World) (h1 : ValE.Arg w A a) (h2 : ValE.Arg w C b) :
    Calls Tryz.prog 25 #[.slice A a.length cap1, .slice C b.length cap2] w fun e w' => e = .returned (.bool (decide (a = b))) ∧ Below w.heap.size w w' := by
  have hm : (a.length : Int) ≤ 9223372036854775807 := by unfold maxLen at hla; omega
  by_cases hl : a.length = b.length
  · have H1 := Lib.hid h1
    have H2 := Lib.hid h2
    have HL := Lib.hid hl
    generalize hn : b.length = n
    have hna : a.length = n := by omega
    have HN := Lib.hid hn
    have HNA := Lib.hid hna
    rw [hna] at hm
    generalize hR : decide (a = b) = R
    have HR := Lib.hid hR
    rw [hna]
    clear h1 h2 hl hn hna hR
    go_enter Tryz.func25, Tryz.ntmps25
    go_wp2_with fail
    go_loopw [5] (fun i wr => ∃ k : Nat, k ≤ n ∧ i = .int .i64 k ∧ Hid (a.take k = b.take k) ∧ Below w.heap.size w wr) (fun i _ => n - (intOf i).toNat)
    case atStart => exact ⟨0, Nat.zero_le _, rfl, Lib.hid rfl, Below.refl _ _⟩
    case round =>
      obtain ⟨k, hk, rfl, HK, hbw⟩ := hrel
      by_cases hlt : k < n
      · have hlt' : (k : Int) < n := by omega
        obtain ⟨b1, o1, rfl, hin1, hz1⟩ := H1.out.at_lt (by rw [HNA.out]; exact hlt)
        obtain ⟨b2, o2, rfl, hin2, hz2⟩ := H2.out.at_lt (by rw [HN.out]; exact hlt)
        obtain ⟨x, hx⟩ : ∃ x, a[k]? = some x := ⟨_, List.getElem?_eq_getElem (by rw [HNA.out]; exact hlt)⟩
        obtain ⟨y, hy⟩ : ∃ y, b[k]? = some y := ⟨_, List.getElem?_eq_getElem (by rw [HN.out]; exact hlt)⟩
        obtain ⟨x0, x1⟩ := ValE.at2 (hin1.below hbw (fun _ => hz1)) hx
        obtain ⟨y0, y1⟩ := ValE.at2 (hin2.below hbw (fun _ => hz2)) hy
        have hne : Hid (x ≠ y → R = false) := Lib.hid fun hf => by
          rw [← HR.out]
          exact decide_eq_false fun e => hf (by rw [e, hy] at hx; exact (Option.some.inj hx).symm)
        have heq : Hid (x = y → a.take (k + 1) = b.take (k + 1)) := Lib.hid fun hf => by
          rw [List.take_add_one, List.take_add_one, HK.out, hx, hy, hf]
        clear hx hy hin1 hin2
        obtain ⟨xk, xn⟩ := x
        obtain ⟨yk, yn⟩ := y
        dsimp only at x0 x1 y0 y1
        by_cases hkk : xk = yk
        · subst hkk
          by_cases hnn : xn = yn
          · subst hnn
            have HK1 := Lib.hid (heq.out rfl)
            clear heq hne HK
            go_wp2_with fail
            go_region
            go_wp2_with fail
            go_roundw
            case rel => exact ⟨k + 1, by omega, by go_num, HK1, hbw.drew⟩
            case measure => simp [intOf]; omega
          · have hnn' : (xn == yn) = false := beq_eq_false_iff_ne.2 hnn
            have HK1 := Lib.hid (hne.out (by simp [hnn]))
            clear heq hne HK hnn
            go_wp2_with fail
            go_region
            go_wp2_with fail
            go_ret
            exact ⟨by rw [HK1.out]; rfl, hbw.drew⟩
        · have hkk' : (xk == yk) = false := beq_eq_false_iff_ne.2 hkk
          have HK1 := Lib.hid (hne.out (by simp [hkk]))
          clear heq hne HK hkk
          go_wp2_with fail
          go_region
          go_wp2_with fail
          go_ret
          exact ⟨by rw [HK1.out]; rfl, hbw.drew⟩
      · have hlt' : ¬ (k : Int) < n := by omega
        have HE : Hid (R = true) := Lib.hid (by
          rw [← HR.out]
          refine decide_eq_true ?_
          have e := HK.out
          rwa [List.take_of_length_le (by rw [HNA.out]; omega), List.take_of_length_le (by rw [HN.out]; omega)] at e)
        go_wp2
        go_ret
        exact ⟨by rw [HE.out]; rfl, hbw⟩
  · rw [decide_eq_false (fun e => hl (by rw [e]))]
    have hl' : ((a.length : Int) == b.length) = false := beq_eq_false_iff_ne.2 (by omega)
    generalize a.length = n at hl'
    generalize b.length = m at hl'
    clear h1 h2 hl hm
    go_enter Tryz.func25, Tryz.ntmps25
    go_wp2
    go_ret
    exact ⟨rfl, Below.refl _ _⟩
end Go.Proofs.YtjldkndalcellaaGreatDoor

namespace Go.Proofs.YtjldkndalcellaaGreatDoor
open Go.RowKit Go.El
theorem val_info : (Tryz.prog.info? 57).map (fun i => (i.zero, i.size, i.bytes)) = some (some (.agg #[.int .u8 0, .int .i64 0]), 2, 16) := by kernel_rfl
theorem op_info : (Tryz.prog.info? 75).map (fun i => (i.zero, i.size, i.bytes)) = some (some (.agg #[.int .u8 0, .int .u8 0, .int .i64 0, .int .u8 0, .int .i64 0, .int .u8 0, .int .i64 0, .int .i64 0]), 8, 64) := by kernel_rfl

def valuesIs (l : List Ce.V) (w w' : World) (e : Ending) : Prop := ∃ A c, e = .returned (.slice A l.length c) ∧ ValE.Own 57 w' w.heap.size A c l
set_option maxHeartbeats 1000000 in
theorem values_at (l : List Ce.V) (hn : l.length ≤ 100000) (blk off cap : Nat) (w : World) (ht : ValE.In w blk off l) :
    Calls Tryz.prog 18 #[.slice (some ⟨blk, off, none⟩) l.length cap] w fun e w' => valuesIs l w w' e ∧ Below w.heap.size w w' := by
  have HT : Hid (ValE.In (w.alloc (.cells #[] 57)) blk off l) := ht.below ((Below.refl _ _).alloc (Nat.le_refl _) _) (fun h => ht.lt h)
  have HO := Lib.hid (Own.made ValE 57 w (Nat.le_refl w.heap.size))
  clear ht
  go_enter Tryz.func18, Tryz.ntmps18
  go_wp2_with (at_builtin; refine wpList_append_el ValE _ rfl _ _ 34 57 rfl Tryz.underlying34 val_info rfl w.heap.size (some ⟨w.heap.size, 0, none⟩) 0 [] l blk off cap rfl rfl HO.out HT.out (by simp only [maxLen, List.length_nil]; omega) (by simp; omega) (by simp) ?_; intro A' cap' w2 hown2 hgrow2)
  go_ret
  refine ⟨⟨A', cap', by simp, by simpa using hown2⟩, ?_⟩
  exact ((Below.refl _ _).alloc (Nat.le_refl _) _).grown hgrow2 (by simp) (fun j hj => (HO.out.lt j hj).1)
set_option maxHeartbeats 1000000 in
theorem values_nil (w : World) : Calls Tryz.prog 18 #[.slice none 0 0] w fun e w' => valuesIs [] w w' e ∧ Below w.heap.size w w' := by
  have HO := Lib.hid (Own.made ValE 57 w (Nat.le_refl w.heap.size))
  obtain ⟨i0, hi0, hz0, hz1, hz2⟩ := info_parts val_info
  go_enter Tryz.func18, Tryz.ntmps18
  go_wp2_with (at_builtin; refine wpList_append_own_none rfl _ _ 34 rfl w.heap.size 57 i0 2 Tryz.underlying34 hi0 _ 0 [] rfl HO.out rfl ?_)
  go_ret
  exact ⟨⟨_, _, rfl, HO.out⟩, (Below.refl _ _).alloc (Nat.le_refl _) _⟩
set_option maxHeartbeats 1000000 in
theorem values_empty (a : Addr) (cap : Nat) (w : World) : Calls Tryz.prog 18 #[.slice (some a) 0 cap] w fun e w' => valuesIs [] w w' e ∧ Below w.heap.size w w' := by
  have HO := Lib.hid (Own.made ValE 57 w (Nat.le_refl w.heap.size))
  obtain ⟨i0, hi0, hz0, hz1, hz2⟩ := info_parts val_info
  go_enter Tryz.func18, Tryz.ntmps18
  go_wp2_with (at_builtin; refine wpList_append_own _ rfl _ _ 34 rfl w.heap.size 57 i0 _ 2 16 Tryz.underlying34 hi0 hz0 hz1 hz2 rfl (by decide) _ 0 [] rfl HO.out a 0 cap [] rfl rfl (fun j u h => by simp at h) (fun u h => by simp at h) (by simp [maxLen]) (by simp) (by simp) ?_; intro v' w2 hown2 hgrow2 _)
  go_ret
  have hf : ∃ A' cap', v' = .slice A' 0 cap' := by
    rcases hown2.2 with ⟨hv, h0⟩ | ⟨g, cap', cur, hv, _⟩
    · exact ⟨none, 0, hv⟩
    · exact ⟨_, _, hv⟩
  obtain ⟨A', cap', rfl⟩ := hf
  refine ⟨⟨A', cap', rfl, hown2⟩, ?_⟩
  exact ((Below.refl _ _).alloc (Nat.le_refl _) _).grown hgrow2 (by simp) (fun j hj => (HO.out.lt j hj).1)
theorem values_any (l : List Ce.V) (hn : l.length ≤ 100000) (A : Option Addr) (cap : Nat) (hA : A = none → cap = 0) (w : World) (ht : ValE.Arg w A l) :
    Calls Tryz.prog 18 #[.slice A l.length cap] w fun e w' => valuesIs l w w' e ∧ Below w.heap.size w w' := by
  by_cases hne : l = []
  · subst hne
    cases A with
    | none => rw [hA rfl]; exact values_nil w
    | some a => exact values_empty a cap w
  · obtain ⟨b1, o1, rfl, i1⟩ := ht.at_ hne
    exact values_at l hn b1 o1 cap w i1

def opsIs (l : List Ce.Op) (w w' : World) (e : Ending) : Prop := ∃ A c, e = .returned (.slice A l.length c) ∧ OpE.Own 75 w' w.heap.size A c l
end Go.Proofs.YtjldkndalcellaaGreatDoor
