/- Layer 6, the program: the functions of the operations. Layer 6, the program: the map of operations. Layer 6, the program: operations. Layer 6, the program: slices.Index, slices.Contains at bytes; the result of an operation. -/
import Derived.Test.YtjldkndalcellaaGreatDoorYg
import Derived.Test.YtjldkndalcellaaGreatDoorYf
import Derived.Deep.DeepMust
import Derived.Deep.DeepCutAuto
import Derived.Deep.RegionLaw
namespace Go.Proofs.YtjldkndalcellaaGreatDoor
open Go.RowKit Go.El
/-- a function that gives the result of an operation -/
def GivesIs (F : Nat) (g : Int → Int → Ce.V) : Prop := ∀ (a b : Int) (w : World), -1000000000 ≤ a → a ≤ 1000000000 → -1000000000 ≤ b → b ≤ 1000000000 →
  Calls Tryz.prog F #[.int .i64 a, .int .i64 b] w fun e w' => e = .returned (.agg #[.int .u8 (g a b).k, .int .i64 (g a b).n]) ∧ Below w.heap.size w w'

set_option maxHeartbeats 1000000 in
theorem g_eq : GivesIs 89 fun a b => Ce.vbool (a == b) := by
  intro a b w a1 a2 b1 b2
  have HB : Hid (Below w.heap.size w (w.alloc (.cells #[.int .u8 0, .int .i64 0] 57))) := Lib.hid ((Below.refl _ _).alloc (Nat.le_refl _) _)
  have HZ := Lib.hid (Blk.new w 57 #[.int .u8 0, .int .i64 0])
  have hc := fun W => boolean_any (a == b) W
  dsimp only
  have HC := Lib.hid hc
  clear hc
  go_enter Tryz.func89, Tryz.ntmps89
  go_wp2_with fail
  refine (HC.out _).mono ?_
  rintro e w1 ⟨rfl, hb1⟩
  have HZ1 := Lib.hid (HZ.out.below hb1)
  have HB1 := Lib.hid (HB.out.trans (hb1.mono HB.out.size))
  have z0 := HZ1.out.cell 0
  have z1 := HZ1.out.cell 1
  have zf0 := HZ1.out.frozen 0
  have zf1 := HZ1.out.frozen 1
  dsimp at z0 z1
  clear hb1
  go_wp2
  refine bodyPost_ret (results_cell_row rfl _ _ w.heap.size 57 #[.int .u8 2, .int .i64 (Ce.vbool (a == b)).n] (0, 0) _ rfl ((HZ1.out.set_ 0 _).set_ 1 _) Tryz.underlying57 rfl val_size) rfl ?_
  exact ⟨rfl, (HB1.out.setCell (by simp) _).setCell (by simp) _⟩

set_option maxHeartbeats 1000000 in
theorem g_neg : GivesIs 91 fun a _ => Ce.ranged (-a) := by
  intro a b w a1 a2 b1 b2
  have HB : Hid (Below w.heap.size w (w.alloc (.cells #[.int .u8 0, .int .i64 0] 57))) := Lib.hid ((Below.refl _ _).alloc (Nat.le_refl _) _)
  have HZ := Lib.hid (Blk.new w 57 #[.int .u8 0, .int .i64 0])
  have hc := fun W => integer_any (-a) W
  dsimp only
  generalize Ce.ranged (-a) = V at *
  have HC := Lib.hid hc
  clear hc
  go_enter Tryz.func91, Tryz.ntmps91
  go_wp2_with fail
  refine (HC.out _).mono ?_
  rintro e w1 ⟨rfl, hb1⟩
  have HZ1 := Lib.hid (HZ.out.below hb1)
  have HB1 := Lib.hid (HB.out.trans (hb1.mono HB.out.size))
  have z0 := HZ1.out.cell 0
  have z1 := HZ1.out.cell 1
  have zf0 := HZ1.out.frozen 0
  have zf1 := HZ1.out.frozen 1
  dsimp at z0 z1
  clear hb1
  go_wp2
  refine bodyPost_ret (results_cell_row rfl _ _ w.heap.size 57 #[.int .u8 V.k, .int .i64 V.n] (0, 0) _ rfl ((HZ1.out.set_ 0 _).set_ 1 _) Tryz.underlying57 rfl val_size) rfl ?_
  exact ⟨rfl, (HB1.out.setCell (by simp) _).setCell (by simp) _⟩

set_option maxHeartbeats 1000000 in
theorem g_not : GivesIs 92 fun a _ => Ce.vbool (a == 0) := by
  intro a b w a1 a2 b1 b2
  have HB : Hid (Below w.heap.size w (w.alloc (.cells #[.int .u8 0, .int .i64 0] 57))) := Lib.hid ((Below.refl _ _).alloc (Nat.le_refl _) _)
  have HZ := Lib.hid (Blk.new w 57 #[.int .u8 0, .int .i64 0])
  have hc := fun W => boolean_any (a == 0) W
  dsimp only
  have HC := Lib.hid hc
  clear hc
  go_enter Tryz.func92, Tryz.ntmps92
  go_wp2_with fail
  refine (HC.out _).mono ?_
  rintro e w1 ⟨rfl, hb1⟩
  have HZ1 := Lib.hid (HZ.out.below hb1)
  have HB1 := Lib.hid (HB.out.trans (hb1.mono HB.out.size))
  have z0 := HZ1.out.cell 0
  have z1 := HZ1.out.cell 1
  have zf0 := HZ1.out.frozen 0
  have zf1 := HZ1.out.frozen 1
  dsimp at z0 z1
  clear hb1
  go_wp2
  refine bodyPost_ret (results_cell_row rfl _ _ w.heap.size 57 #[.int .u8 2, .int .i64 (Ce.vbool (a == 0)).n] (0, 0) _ rfl ((HZ1.out.set_ 0 _).set_ 1 _) Tryz.underlying57 rfl val_size) rfl ?_
  exact ⟨rfl, (HB1.out.setCell (by simp) _).setCell (by simp) _⟩

set_option maxHeartbeats 1000000 in
theorem g_add : GivesIs 94 fun a b => Ce.ranged (a + b) := by
  intro a b w a1 a2 b1 b2
  have HB : Hid (Below w.heap.size w (w.alloc (.cells #[.int .u8 0, .int .i64 0] 57))) := Lib.hid ((Below.refl _ _).alloc (Nat.le_refl _) _)
  have HZ := Lib.hid (Blk.new w 57 #[.int .u8 0, .int .i64 0])
  have hc := fun W => integer_any (a + b) W
  dsimp only
  generalize Ce.ranged (a + b) = V at *
  have HC := Lib.hid hc
  clear hc
  go_enter Tryz.func94, Tryz.ntmps94
  go_wp2_with fail
  refine (HC.out _).mono ?_
  rintro e w1 ⟨rfl, hb1⟩
  have HZ1 := Lib.hid (HZ.out.below hb1)
  have HB1 := Lib.hid (HB.out.trans (hb1.mono HB.out.size))
  have z0 := HZ1.out.cell 0
  have z1 := HZ1.out.cell 1
  have zf0 := HZ1.out.frozen 0
  have zf1 := HZ1.out.frozen 1
  dsimp at z0 z1
  clear hb1
  go_wp2
  refine bodyPost_ret (results_cell_row rfl _ _ w.heap.size 57 #[.int .u8 V.k, .int .i64 V.n] (0, 0) _ rfl ((HZ1.out.set_ 0 _).set_ 1 _) Tryz.underlying57 rfl val_size) rfl ?_
  exact ⟨rfl, (HB1.out.setCell (by simp) _).setCell (by simp) _⟩

set_option maxHeartbeats 1000000 in
theorem g_sub : GivesIs 95 fun a b => Ce.ranged (a - b) := by
  intro a b w a1 a2 b1 b2
  have HB : Hid (Below w.heap.size w (w.alloc (.cells #[.int .u8 0, .int .i64 0] 57))) := Lib.hid ((Below.refl _ _).alloc (Nat.le_refl _) _)
  have HZ := Lib.hid (Blk.new w 57 #[.int .u8 0, .int .i64 0])
  have hc := fun W => integer_any (a - b) W
  dsimp only
  generalize Ce.ranged (a - b) = V at *
  have HC := Lib.hid hc
  clear hc
  go_enter Tryz.func95, Tryz.ntmps95
  go_wp2_with fail
  refine (HC.out _).mono ?_
  rintro e w1 ⟨rfl, hb1⟩
  have HZ1 := Lib.hid (HZ.out.below hb1)
  have HB1 := Lib.hid (HB.out.trans (hb1.mono HB.out.size))
  have z0 := HZ1.out.cell 0
  have z1 := HZ1.out.cell 1
  have zf0 := HZ1.out.frozen 0
  have zf1 := HZ1.out.frozen 1
  dsimp at z0 z1
  clear hb1
  go_wp2
  refine bodyPost_ret (results_cell_row rfl _ _ w.heap.size 57 #[.int .u8 V.k, .int .i64 V.n] (0, 0) _ rfl ((HZ1.out.set_ 0 _).set_ 1 _) Tryz.underlying57 rfl val_size) rfl ?_
  exact ⟨rfl, (HB1.out.setCell (by simp) _).setCell (by simp) _⟩

set_option maxHeartbeats 1000000 in
theorem g_mul : GivesIs 96 fun a b => Ce.ranged (a * b) := by
  intro a b w a1 a2 b1 b2
  have HB : Hid (Below w.heap.size w (w.alloc (.cells #[.int .u8 0, .int .i64 0] 57))) := Lib.hid ((Below.refl _ _).alloc (Nat.le_refl _) _)
  have HZ := Lib.hid (Blk.new w 57 #[.int .u8 0, .int .i64 0])
  have m1 := mul_le1 a1 a2 b1 b2
  have m2 := mul_le2 a1 a2 b1 b2
  have hq : IntKind.i64.wrap (a * b) = a * b := by rw [IntKind.wrap_i64]; omega
  have hc := fun W => integer_any (a * b) W
  dsimp only
  generalize Ce.ranged (a * b) = V at *
  have HC := Lib.hid hc
  clear hc
  go_enter Tryz.func96, Tryz.ntmps96
  go_wp2_with fail
  refine (HC.out _).mono ?_
  rintro e w1 ⟨rfl, hb1⟩
  have HZ1 := Lib.hid (HZ.out.below hb1)
  have HB1 := Lib.hid (HB.out.trans (hb1.mono HB.out.size))
  have z0 := HZ1.out.cell 0
  have z1 := HZ1.out.cell 1
  have zf0 := HZ1.out.frozen 0
  have zf1 := HZ1.out.frozen 1
  dsimp at z0 z1
  clear hb1
  go_wp2
  refine bodyPost_ret (results_cell_row rfl _ _ w.heap.size 57 #[.int .u8 V.k, .int .i64 V.n] (0, 0) _ rfl ((HZ1.out.set_ 0 _).set_ 1 _) Tryz.underlying57 rfl val_size) rfl ?_
  exact ⟨rfl, (HB1.out.setCell (by simp) _).setCell (by simp) _⟩

set_option maxHeartbeats 1000000 in
theorem g_lt : GivesIs 97 fun a b => Ce.vbool (decide (a < b)) := by
  intro a b w a1 a2 b1 b2
  have HB : Hid (Below w.heap.size w (w.alloc (.cells #[.int .u8 0, .int .i64 0] 57))) := Lib.hid ((Below.refl _ _).alloc (Nat.le_refl _) _)
  have HZ := Lib.hid (Blk.new w 57 #[.int .u8 0, .int .i64 0])
  have hc := fun W => boolean_any (decide (a < b)) W
  dsimp only
  have HC := Lib.hid hc
  clear hc
  go_enter Tryz.func97, Tryz.ntmps97
  go_wp2_with fail
  refine (HC.out _).mono ?_
  rintro e w1 ⟨rfl, hb1⟩
  have HZ1 := Lib.hid (HZ.out.below hb1)
  have HB1 := Lib.hid (HB.out.trans (hb1.mono HB.out.size))
  have z0 := HZ1.out.cell 0
  have z1 := HZ1.out.cell 1
  have zf0 := HZ1.out.frozen 0
  have zf1 := HZ1.out.frozen 1
  dsimp at z0 z1
  clear hb1
  go_wp2
  refine bodyPost_ret (results_cell_row rfl _ _ w.heap.size 57 #[.int .u8 2, .int .i64 (Ce.vbool (decide (a < b))).n] (0, 0) _ rfl ((HZ1.out.set_ 0 _).set_ 1 _) Tryz.underlying57 rfl val_size) rfl ?_
  exact ⟨rfl, (HB1.out.setCell (by simp) _).setCell (by simp) _⟩

set_option maxHeartbeats 1000000 in
theorem g_le : GivesIs 98 fun a b => Ce.vbool (decide (a ≤ b)) := by
  intro a b w a1 a2 b1 b2
  have HB : Hid (Below w.heap.size w (w.alloc (.cells #[.int .u8 0, .int .i64 0] 57))) := Lib.hid ((Below.refl _ _).alloc (Nat.le_refl _) _)
  have HZ := Lib.hid (Blk.new w 57 #[.int .u8 0, .int .i64 0])
  have hc := fun W => boolean_any (decide (a ≤ b)) W
  dsimp only
  have HC := Lib.hid hc
  clear hc
  go_enter Tryz.func98, Tryz.ntmps98
  go_wp2_with fail
  refine (HC.out _).mono ?_
  rintro e w1 ⟨rfl, hb1⟩
  have HZ1 := Lib.hid (HZ.out.below hb1)
  have HB1 := Lib.hid (HB.out.trans (hb1.mono HB.out.size))
  have z0 := HZ1.out.cell 0
  have z1 := HZ1.out.cell 1
  have zf0 := HZ1.out.frozen 0
  have zf1 := HZ1.out.frozen 1
  dsimp at z0 z1
  clear hb1
  go_wp2
  refine bodyPost_ret (results_cell_row rfl _ _ w.heap.size 57 #[.int .u8 2, .int .i64 (Ce.vbool (decide (a ≤ b))).n] (0, 0) _ rfl ((HZ1.out.set_ 0 _).set_ 1 _) Tryz.underlying57 rfl val_size) rfl ?_
  exact ⟨rfl, (HB1.out.setCell (by simp) _).setCell (by simp) _⟩

set_option maxHeartbeats 1000000 in
theorem g_div : GivesIs 99 fun a b => if b = 0 then Ce.vbad 1 else Ce.ranged (a.tdiv b) := by
  intro a b w a1 a2 b1 b2
  have HB : Hid (Below w.heap.size w (w.alloc (.cells #[.int .u8 0, .int .i64 0] 57))) := Lib.hid ((Below.refl _ _).alloc (Nat.le_refl _) _)
  have HZ := Lib.hid (Blk.new w 57 #[.int .u8 0, .int .i64 0])
  dsimp only
  by_cases hz : b = 0
  · subst hz
    rw [if_pos rfl]
    have HC := Lib.hid (fun W => bad_any 1 W)
    go_enter Tryz.func99, Tryz.ntmps99
    go_wp2_with fail
    refine (HC.out _).mono ?_
    rintro e w1 ⟨rfl, hb1⟩
    have HZ1 := Lib.hid (HZ.out.below hb1)
    have HB1 := Lib.hid (HB.out.trans (hb1.mono HB.out.size))
    have z0 := HZ1.out.cell 0
    have z1 := HZ1.out.cell 1
    have zf0 := HZ1.out.frozen 0
    have zf1 := HZ1.out.frozen 1
    dsimp at z0 z1
    clear hb1
    go_wp2
    refine bodyPost_ret (results_cell_row rfl _ _ w.heap.size 57 #[.int .u8 5, .int .i64 1] (0, 0) _ rfl ((HZ1.out.set_ 0 _).set_ 1 _) Tryz.underlying57 rfl val_size) rfl ?_
    exact ⟨rfl, (HB1.out.setCell (by simp) _).setCell (by simp) _⟩
  · rw [if_neg hz]
    have hz' : (b == 0) = false := beq_eq_false_iff_ne.2 hz
    have hd := tdiv_le (b := b) a1 a2
    have hq : IntKind.i64.wrap (a.tdiv b) = a.tdiv b := by rw [IntKind.wrap_i64]; omega
    have hc := fun W => integer_any (a.tdiv b) W
    generalize Ce.ranged (a.tdiv b) = V at *
    have HC := Lib.hid hc
    clear hc
    go_enter Tryz.func99, Tryz.ntmps99
    go_wp2_with fail
    refine (HC.out _).mono ?_
    rintro e w1 ⟨rfl, hb1⟩
    have HZ1 := Lib.hid (HZ.out.below hb1)
    have HB1 := Lib.hid (HB.out.trans (hb1.mono HB.out.size))
    have z0 := HZ1.out.cell 0
    have z1 := HZ1.out.cell 1
    have zf0 := HZ1.out.frozen 0
    have zf1 := HZ1.out.frozen 1
    dsimp at z0 z1
    clear hb1
    go_wp2
    refine bodyPost_ret (results_cell_row rfl _ _ w.heap.size 57 #[.int .u8 V.k, .int .i64 V.n] (0, 0) _ rfl ((HZ1.out.set_ 0 _).set_ 1 _) Tryz.underlying57 rfl val_size) rfl ?_
    exact ⟨rfl, (HB1.out.setCell (by simp) _).setCell (by simp) _⟩

set_option maxHeartbeats 1000000 in
theorem g_mod : GivesIs 101 fun a b => if b = 0 then Ce.vbad 1 else Ce.ranged (a.tmod b) := by
  intro a b w a1 a2 b1 b2
  have HB : Hid (Below w.heap.size w (w.alloc (.cells #[.int .u8 0, .int .i64 0] 57))) := Lib.hid ((Below.refl _ _).alloc (Nat.le_refl _) _)
  have HZ := Lib.hid (Blk.new w 57 #[.int .u8 0, .int .i64 0])
  dsimp only
  by_cases hz : b = 0
  · subst hz
    rw [if_pos rfl]
    have HC := Lib.hid (fun W => bad_any 1 W)
    go_enter Tryz.func101, Tryz.ntmps101
    go_wp2_with fail
    refine (HC.out _).mono ?_
    rintro e w1 ⟨rfl, hb1⟩
    have HZ1 := Lib.hid (HZ.out.below hb1)
    have HB1 := Lib.hid (HB.out.trans (hb1.mono HB.out.size))
    have z0 := HZ1.out.cell 0
    have z1 := HZ1.out.cell 1
    have zf0 := HZ1.out.frozen 0
    have zf1 := HZ1.out.frozen 1
    dsimp at z0 z1
    clear hb1
    go_wp2
    refine bodyPost_ret (results_cell_row rfl _ _ w.heap.size 57 #[.int .u8 5, .int .i64 1] (0, 0) _ rfl ((HZ1.out.set_ 0 _).set_ 1 _) Tryz.underlying57 rfl val_size) rfl ?_
    exact ⟨rfl, (HB1.out.setCell (by simp) _).setCell (by simp) _⟩
  · rw [if_neg hz]
    have hz' : (b == 0) = false := beq_eq_false_iff_ne.2 hz
    have hd := tmod_le (b := b) a1 a2
    have hq : IntKind.i64.wrap (a.tmod b) = a.tmod b := by rw [IntKind.wrap_i64]; omega
    have hc := fun W => integer_any (a.tmod b) W
    generalize Ce.ranged (a.tmod b) = V at *
    have HC := Lib.hid hc
    clear hc
    go_enter Tryz.func101, Tryz.ntmps101
    go_wp2_with fail
    refine (HC.out _).mono ?_
    rintro e w1 ⟨rfl, hb1⟩
    have HZ1 := Lib.hid (HZ.out.below hb1)
    have HB1 := Lib.hid (HB.out.trans (hb1.mono HB.out.size))
    have z0 := HZ1.out.cell 0
    have z1 := HZ1.out.cell 1
    have zf0 := HZ1.out.frozen 0
    have zf1 := HZ1.out.frozen 1
    dsimp at z0 z1
    clear hb1
    go_wp2
    refine bodyPost_ret (results_cell_row rfl _ _ w.heap.size 57 #[.int .u8 V.k, .int .i64 V.n] (0, 0) _ rfl ((HZ1.out.set_ 0 _).set_ 1 _) Tryz.underlying57 rfl val_size) rfl ?_
    exact ⟨rfl, (HB1.out.setCell (by simp) _).setCell (by simp) _⟩
end Go.Proofs.YtjldkndalcellaaGreatDoor

namespace Go.El
open Go.RowKit Go.MapKept Go.ChangeMaps
/-- an entry of a map's literal, at the operation -/
theorem wpList_insert_new {P : Program} (w : World) {ops : Array Oper} {rest : List Oper} {o : Oper} {a : Act} {Q : Exit → Act → World → Prop} (hg : o.guard = none) (m x v : Operand) (t : TypeId) (hop : o.op = Op.insert t m x v)
    (k e : TypeId) (d : TypeDesc) (ht : P.underlying t = some (.map k e)) (hk : P.underlying k = some d) (b : Nat) (l : List (Value × Value)) (hm : a.eval m = .map (some b)) (hown : MapIs w d b l) (key val : Value) (hx : a.eval x = key) (hv : a.eval v = val) (hkey : IsKey d key) (hno : ∀ p ∈ l, p.1 ≠ key)
    (hK : ∀ w', MapIs w' d b (l ++ [(key, val)]) → w.grownBy w' (some b) → wpList P ops Q rest (a.put o.dst undef) w') : wpList P ops Q (o :: rest) a w := by
  refine wpList_plain hg fun K' hK' => ?_
  obtain ⟨w', hrun, r1, r2⟩ := run_update_new (P := P) (v := val) hown ht hk hkey hno
  unfold Oper.wp
  simp [execOp, hop, hm, hx, hv, hrun, Result.andThen]
  exact hK' _ _ (hK w' r1 r2)
end Go.El
namespace Go.Proofs.YtjldkndalcellaaGreatDoor
open Go.RowKit Go.El

def U8E : El Int := { cells := fun n => [.int .u8 n], k := 1, pos := by decide, len := fun _ => rfl, one := fun x u hu => by simp at hu; subst hu; rfl }
/-- an operation: its name, its operands, its kinds, its function -/
structure Spec where
  name : List UInt8
  n : Int
  kinds : List Int
  fn : Nat
def Spec.key (s : Spec) : Value := .string ⟨s.name.toArray⟩
def EntryIs (W : World) (p : Value × Value) (s : Spec) : Prop := ∃ g, p = (s.key, .agg #[.int .i64 s.n, .slice (some ⟨g, 0, none⟩) s.kinds.length s.kinds.length, .func (.func s.fn) #[] #[]]) ∧ U8E.In W g 0 s.kinds ∧ g < W.heap.size
theorem EntryIs.below {W W' : World} {p : Value × Value} {s : Spec} {B : Nat} (h : EntryIs W p s) (hb : Below B W W') (hB : ∀ g, p = (s.key, .agg #[.int .i64 s.n, .slice (some ⟨g, 0, none⟩) s.kinds.length s.kinds.length, .func (.func s.fn) #[] #[]]) → g < B) (hz : W.heap.size ≤ W'.heap.size) : EntryIs W' p s := by
  obtain ⟨g, h1, h2, h3⟩ := h
  exact ⟨g, h1, h2.below hb (fun _ => hB g h1), by omega⟩
theorem EntryIs.later {W W' : World} {p : Value × Value} {s : Spec} (h : EntryIs W p s) (hb : Below W.heap.size W W') : EntryIs W' p s := by
  obtain ⟨g, h1, h2, h3⟩ := h
  exact ⟨g, h1, h2.below hb (fun _ => h3), Nat.lt_of_lt_of_le h3 hb.size⟩
/-- what a block of cells is, no map can be -/
theorem EntryIs.grown {W W' : World} {p : Value × Value} {s : Spec} {b : Nat} (h : EntryIs W p s) (hg : W.grownBy W' (some b)) (hb : ∃ es c, W.heap[b]? = some (.map es c)) (hk : s.kinds ≠ []) : EntryIs W' p s := by
  obtain ⟨g, h1, h2, h3⟩ := h
  obtain ⟨es, c, hb⟩ := hb
  refine ⟨g, h1, h2.grown hg ?_, Nat.lt_of_lt_of_le h3 hg.size⟩
  intro e
  obtain rfl : g = b := by simpa using e
  obtain ⟨x, r, hx⟩ := List.exists_cons_of_ne_nil hk
  have hc := h2 0 x (by rw [hx]; rfl) 0 (.int .u8 x) rfl
  simp [World.cell?, hb] at hc
def EntriesIs (W : World) : List (Value × Value) → List Spec → Prop
  | [], [] => True
  | p :: L, s :: S => EntryIs W p s ∧ EntriesIs W L S
  | _, _ => False
theorem EntriesIs.map {W W' : World} : ∀ {L : List (Value × Value)} {S : List Spec}, EntriesIs W L S → (∀ p s, s ∈ S → EntryIs W p s → EntryIs W' p s) → EntriesIs W' L S
  | [], [], _, _ => trivial
  | p :: _, s :: _, h, f => ⟨f p s (.head _) h.1, EntriesIs.map h.2 fun p s hs => f p s (.tail _ hs)⟩
  | [], _ :: _, h, _ => h.elim
  | _ :: _, [], h, _ => h.elim
theorem EntriesIs.snoc {W : World} {p : Value × Value} {s : Spec} (hp : EntryIs W p s) : ∀ {L : List (Value × Value)} {S : List Spec}, EntriesIs W L S → EntriesIs W (L ++ [p]) (S ++ [s])
  | [], [], _ => ⟨hp, trivial⟩
  | _ :: _, _ :: _, h => ⟨h.1, EntriesIs.snoc hp h.2⟩
  | [], _ :: _, h => h.elim
  | _ :: _, [], h => h.elim
theorem EntriesIs.key {W : World} {p : Value × Value} : ∀ {L : List (Value × Value)} {S : List Spec}, EntriesIs W L S → p ∈ L → ∃ s ∈ S, EntryIs W p s
  | x :: L, s :: S, h, hp => by
    cases hp with
    | head => exact ⟨s, .head _, h.1⟩
    | tail _ hp => obtain ⟨t, ht, h2⟩ := EntriesIs.key h.2 hp; exact ⟨t, .tail _ ht, h2⟩
  | [], _, _, hp => by cases hp
  | _ :: _, [], h, _ => h.elim
theorem EntriesIs.at_ {W : World} {s : Spec} : ∀ {L : List (Value × Value)} {S : List Spec}, EntriesIs W L S → s ∈ S → ∃ p ∈ L, EntryIs W p s
  | x :: L, t :: S, h, hp => by
    cases hp with
    | head => exact ⟨x, .head _, h.1⟩
    | tail _ hp => obtain ⟨t, ht, h2⟩ := EntriesIs.at_ h.2 hp; exact ⟨t, .tail _ ht, h2⟩
  | _, [], _, hp => by cases hp
  | [], _ :: _, h, _ => h.elim
theorem EntryIs.key {W : World} {p : Value × Value} {s : Spec} (h : EntryIs W p s) : p.1 = s.key := by
  obtain ⟨g, rfl, _⟩ := h
  rfl
theorem key_inj {s t : Spec} : s.key = t.key ↔ s.name = t.name := by
  unfold Spec.key
  constructor
  · intro h
    injection h with h
    injection h with h
    simpa using h
  · intro h; rw [h]
/-- a map of operations -/
structure OpsAt (W : World) (b : Nat) (S : List Spec) : Prop where
  ex : ∃ L, MapIs W .string b L ∧ EntriesIs W L S
  kinds : ∀ s ∈ S, s.kinds ≠ []
  one : (S.map Spec.name).Nodup
theorem OpsAt.lt {W : World} {b : Nat} {S : List Spec} (h : OpsAt W b S) : b < W.heap.size := by
  obtain ⟨L, h1, _⟩ := h.ex
  exact h1.lt
theorem OpsAt.below {W W' : World} {b : Nat} {S : List Spec} (h : OpsAt W b S) (hb : Below W.heap.size W W') : OpsAt W' b S := by
  obtain ⟨⟨L, h1, h2⟩, h3, h4⟩ := h
  exact ⟨⟨L, h1.below hb h1.lt, h2.map fun p s _ h => h.later hb⟩, h3, h4⟩
theorem OpsAt.stay {W : World} {b : Nat} {S : List Spec} (h : OpsAt W b S) : Stay (fun W => OpsAt W b S) W := fun _ hb => h.below hb
theorem OpsAt.isMap {W : World} {b : Nat} {S : List Spec} (h : OpsAt W b S) : ∃ es c, W.heap[b]? = some (.map es c) := by
  obtain ⟨L, ⟨es, c, h1, _⟩, _⟩ := h.ex
  exact ⟨es, c, h1⟩
theorem OpsAt.nil (W : World) : OpsAt (W.alloc (.map #[] 0)) W.heap.size [] := ⟨⟨[], MapIs.made W _, trivial⟩, by simp, by simp⟩
/-- one more: what is needed of the store, and what it leaves -/
theorem OpsAt.snoc {W W' : World} {b : Nat} {S : List Spec} {s : Spec} {L : List (Value × Value)} {g : Nat} (h2 : EntriesIs W L S) (hk : ∀ s ∈ S, s.kinds ≠ []) (h1 : (S.map Spec.name).Nodup) (hs : s.kinds ≠ []) (hn : ∀ t ∈ S, t.name ≠ s.name)
    (hg : U8E.In W g 0 s.kinds) (hgl : g < W.heap.size) (hm : ∃ es c, W.heap[b]? = some (.map es c))
    (hown : MapIs W' .string b (L ++ [(s.key, .agg #[.int .i64 s.n, .slice (some ⟨g, 0, none⟩) s.kinds.length s.kinds.length, .func (.func s.fn) #[] #[]])])) (hgr : W.grownBy W' (some b)) : OpsAt W' b (S ++ [s]) := by
  have he : EntryIs W (s.key, .agg #[.int .i64 s.n, .slice (some ⟨g, 0, none⟩) s.kinds.length s.kinds.length, .func (.func s.fn) #[] #[]]) s := ⟨g, rfl, hg, hgl⟩
  refine ⟨⟨_, hown, EntriesIs.snoc (he.grown hgr hm hs) (h2.map fun p t ht h => h.grown hgr hm (hk t ht))⟩, ?_, ?_⟩
  · intro t ht
    rcases List.mem_append.1 ht with ht | ht
    · exact hk t ht
    · simp at ht; subst ht; exact hs
  · rw [List.map_append, List.nodup_append]
    refine ⟨h1, by simp, ?_⟩
    intro a ha b hb
    simp at hb
    subst hb
    obtain ⟨t, ht, rfl⟩ := List.mem_map.1 ha
    exact hn t ht
theorem OpsAt.fresh {W : World} {S : List Spec} {s : Spec} {L : List (Value × Value)} (h2 : EntriesIs W L S) (hn : ∀ t ∈ S, t.name ≠ s.name) : ∀ p ∈ L, p.1 ≠ s.key := by
  intro p hp e
  obtain ⟨t, ht, he⟩ := h2.key hp
  rw [he.key, key_inj] at e
  exact hn t ht e
end Go.Proofs.YtjldkndalcellaaGreatDoor

namespace Go.Proofs.YtjldkndalcellaaGreatDoor
open Go.RowKit Go.El
def sp_eq : Spec := ⟨[101, 113], 2, [1, 2], 89⟩
def sp_neg : Spec := ⟨[110, 101, 103], 1, [1], 91⟩
def sp_not : Spec := ⟨[110, 111, 116], 1, [2], 92⟩
def sp_add : Spec := ⟨[97, 100, 100], 2, [1], 94⟩
def sp_sub : Spec := ⟨[115, 117, 98], 2, [1], 95⟩
def sp_mul : Spec := ⟨[109, 117, 108], 2, [1], 96⟩
def sp_lt : Spec := ⟨[108, 116], 2, [1], 97⟩
def sp_le : Spec := ⟨[108, 101], 2, [1], 98⟩
def sp_div : Spec := ⟨[100, 105, 118], 2, [1], 99⟩
def sp_mod : Spec := ⟨[109, 111, 100], 2, [1], 101⟩
def specs : List Spec := [sp_eq, sp_neg, sp_not, sp_add, sp_sub, sp_mul, sp_lt, sp_le, sp_div, sp_mod]

theorem u8_in {W : World} {t : TypeId} {cs : Array Value} {l : List Int} {g : Nat} (hg : g = W.heap.size) (h : cs.toList = U8E.row l) : U8E.In (W.alloc (.cells cs t)) g 0 l := by
  subst hg
  exact in_of_row fun j u hj => by rw [cell_of_row _ _ j _ _ _ (heap_alloc_new W _), ← Array.getElem?_toList, h]; exact hj
set_option maxRecDepth 100000 in
set_option maxHeartbeats 1000000 in
/-- the store of one more operation of whole numbers -/
theorem ofIntegers_any (bs : List UInt8) (F : Nat) (S : List Spec) (b mb : Nat) (w : World) (hbox : w.cell? ⟨mb, 0, none⟩ = some (.map (some b))) (h : OpsAt w b S) (hn : ∀ t ∈ S, t.name ≠ bs) :
    Calls Tryz.prog 93 #[.string ⟨bs.toArray⟩, .func (.func F) #[] #[], .pointer (some ⟨mb, 0, none⟩)] w fun e w' => e = .returned (.tuple #[]) ∧ OpsAt w' b (S ++ [⟨bs, 2, [1], F⟩]) ∧ w.grownBy w' (some b) := by
  have hA : Below w.heap.size w (w.alloc (.cells #[.int .u8 1] 5)) := (Below.refl _ _).alloc (Nat.le_refl _) _
  obtain ⟨⟨L, h1, h2⟩, h3, h4⟩ := h.below hA
  have HM := Lib.hid h1
  have HFR := Lib.hid (OpsAt.fresh (s := ⟨bs, 2, [1], F⟩) h2 hn)
  have HSN : Hid (∀ W', MapIs W' .string b (L ++ [(Spec.key ⟨bs, 2, [1], F⟩, .agg #[.int .i64 2, .slice (some ⟨w.heap.size, 0, none⟩) 1 1, .func (.func F) #[] #[]])]) → (w.alloc (.cells #[.int .u8 1] 5)).grownBy W' (some b) → OpsAt W' b (S ++ [⟨bs, 2, [1], F⟩])) := Lib.hid fun W' hown hgr =>
    OpsAt.snoc h2 h3 h4 (by simp) hn (u8_in rfl rfl) (by simp) (by obtain ⟨es, c, hh, _⟩ := h1; exact ⟨es, c, hh⟩) hown hgr
  clear h h1 h2 h3 h4 hn hA
  go_enter Tryz.func93, Tryz.ntmps93
  go_wp2_with (at_mapUpdate; refine wpList_update_new _ rfl _ _ _ 105 rfl 9 103 .string Tryz.underlying105 Tryz.underlying9 b L rfl HM.out _ _ rfl rfl trivial HFR.out ?_; intro w1 hown1 hgr1)
  go_end0
  exact ⟨rfl, HSN.out w1 hown1 hgr1, (World.grownBy_alloc w _ _).trans hgr1⟩

set_option maxRecDepth 100000 in
/-- an entry of the literal: its run, and what it leaves -/
theorem lit_step {w : World} {b : Nat} {S : List Spec} (s : Spec) {cs : Array Value} (h : OpsAt w b S) (hn : ∀ t ∈ S, t.name ≠ s.name) (hc : cs.toList = U8E.row s.kinds) (hk : s.kinds ≠ []) :
    ∃ W', (Instr.mapUpdate 105 (.map (some b)) s.key (.agg #[.int .i64 s.n, .slice (some ⟨w.heap.size, 0, none⟩) s.kinds.length s.kinds.length, .func (.func s.fn) #[] #[]])).run Tryz.prog (w.alloc (.cells cs 5)) = .ok () W' ∧ OpsAt W' b (S ++ [s]) ∧ w.grownBy W' (some b) := by
  have hA : Below w.heap.size w (w.alloc (.cells cs 5)) := (Below.refl _ _).alloc (Nat.le_refl _) _
  obtain ⟨⟨L, h1, h2⟩, h3, h4⟩ := h.below hA
  obtain ⟨W', r1, r2, r3⟩ := run_update_new (P := Tryz.prog) (v := .agg #[.int .i64 s.n, .slice (some ⟨w.heap.size, 0, none⟩) s.kinds.length s.kinds.length, .func (.func s.fn) #[] #[]]) h1 Tryz.underlying105 Tryz.underlying9 (key := s.key) trivial (OpsAt.fresh h2 hn)
  exact ⟨W', r1, OpsAt.snoc h2 h3 h4 hk hn (u8_in rfl hc) (by simp) (by obtain ⟨es, c, hh, _⟩ := h1; exact ⟨es, c, hh⟩) r2 r3, (World.grownBy_alloc w _ _).trans r3⟩
set_option maxRecDepth 100000 in
set_option maxHeartbeats 4000000 in
theorem operations_any (w : World) : Calls Tryz.prog 63 #[] w fun e w' => (∃ b, e = .returned (.map (some b)) ∧ OpsAt w' b specs) ∧ Below w.heap.size w w' := by
  have hmm := @run_makeMap Tryz.prog
  have HO0 := Lib.hid (OpsAt.nil w)
  have HB0 : Hid (Below w.heap.size w (w.alloc (.map #[] 0))) := Lib.hid ((Below.refl _ _).alloc (Nat.le_refl _) _)
  obtain ⟨w1, hrun0, ho, hg⟩ := lit_step sp_eq (cs := #[.int .u8 1, .int .u8 2]) HO0.out (by decide) rfl (by decide)
  have hr0 : (Instr.mapUpdate 105 (.map (some w.heap.size)) (.string ⟨#[101, 113]⟩) (.agg #[.int .i64 2, .slice (some ⟨w.heap.size + 1, 0, none⟩) 2 2, .func (.func 89) #[] #[]])).run Tryz.prog ((w.alloc (.map #[] 0)).alloc (.cells #[.int .u8 1, .int .u8 2] 5)) = .ok () w1 := by have := hrun0; simp only [World.size_alloc] at this; exact this
  have HO1 := Lib.hid ho
  have HB1 := Lib.hid (HB0.out.trans (below_of_grown hg HB0.out.size (fun k hk => by cases hk; exact Nat.le_refl _)))
  clear hrun0 ho hg HO0 HB0
  obtain ⟨w2, hrun1, ho, hg⟩ := lit_step sp_neg (cs := #[.int .u8 1]) HO1.out (by decide) rfl (by decide)
  have hr1 : (Instr.mapUpdate 105 (.map (some w.heap.size)) (.string ⟨#[110, 101, 103]⟩) (.agg #[.int .i64 1, .slice (some ⟨w1.heap.size, 0, none⟩) 1 1, .func (.func 91) #[] #[]])).run Tryz.prog (w1.alloc (.cells #[.int .u8 1] 5)) = .ok () w2 := hrun1
  have HO2 := Lib.hid ho
  have HB2 := Lib.hid (HB1.out.trans (below_of_grown hg HB1.out.size (fun k hk => by cases hk; exact Nat.le_refl _)))
  clear hrun1 ho hg HO1 HB1
  obtain ⟨w3, hrun2, ho, hg⟩ := lit_step sp_not (cs := #[.int .u8 2]) HO2.out (by decide) rfl (by decide)
  have hr2 : (Instr.mapUpdate 105 (.map (some w.heap.size)) (.string ⟨#[110, 111, 116]⟩) (.agg #[.int .i64 1, .slice (some ⟨w2.heap.size, 0, none⟩) 1 1, .func (.func 92) #[] #[]])).run Tryz.prog (w2.alloc (.cells #[.int .u8 2] 5)) = .ok () w3 := hrun2
  have HO3 := Lib.hid ho
  have HB3 := Lib.hid (HB2.out.trans (below_of_grown hg HB2.out.size (fun k hk => by cases hk; exact Nat.le_refl _)))
  clear hrun2 ho hg HO2 HB2
  go_enter Tryz.func63, Tryz.ntmps63
  go_wp2_with fail
  clear hr0 hr1 hr2 hmm
  have SB := Lib.hid (box1 (W := w3) (v := .map (some w.heap.size)) (t := 105)).at_
  have hba : Below w3.heap.size w3 (w3.alloc (.cells #[.map (some w.heap.size)] 105)) := (Below.refl _ _).alloc (Nat.le_refl _) _
  have HNE : Hid (some w3.heap.size ≠ some w.heap.size) := Lib.hid (fun e => by have := HO3.out.lt; injection e with e; omega)
  have HOa := Lib.hid (HO3.out.below hba)
  have HBa := Lib.hid (HB3.out.trans (hba.mono HB3.out.size))
  clear hba HO3 HB3
  refine (ofIntegers_any [97, 100, 100] 94 _ w.heap.size w3.heap.size _ SB.out HOa.out (by decide)).mono ?_
  rintro e w4 ⟨rfl, ho, hg⟩
  have HO4 := Lib.hid ho
  have HB4 := Lib.hid (HBa.out.trans (below_of_grown hg HBa.out.size (fun k hk => by cases hk; exact Nat.le_refl _)))
  have SB := Lib.hid (hg.cell SB.out HNE.out)
  clear ho hg HOa HBa
  go_wp2_with fail
  refine (ofIntegers_any [115, 117, 98] 95 _ w.heap.size w3.heap.size _ SB.out HO4.out (by decide)).mono ?_
  rintro e w5 ⟨rfl, ho, hg⟩
  have HO5 := Lib.hid ho
  have HB5 := Lib.hid (HB4.out.trans (below_of_grown hg HB4.out.size (fun k hk => by cases hk; exact Nat.le_refl _)))
  have SB := Lib.hid (hg.cell SB.out HNE.out)
  clear ho hg HO4 HB4
  go_wp2_with fail
  refine (ofIntegers_any [109, 117, 108] 96 _ w.heap.size w3.heap.size _ SB.out HO5.out (by decide)).mono ?_
  rintro e w6 ⟨rfl, ho, hg⟩
  have HO6 := Lib.hid ho
  have HB6 := Lib.hid (HB5.out.trans (below_of_grown hg HB5.out.size (fun k hk => by cases hk; exact Nat.le_refl _)))
  have SB := Lib.hid (hg.cell SB.out HNE.out)
  clear ho hg HO5 HB5
  go_wp2_with fail
  refine (ofIntegers_any [108, 116] 97 _ w.heap.size w3.heap.size _ SB.out HO6.out (by decide)).mono ?_
  rintro e w7 ⟨rfl, ho, hg⟩
  have HO7 := Lib.hid ho
  have HB7 := Lib.hid (HB6.out.trans (below_of_grown hg HB6.out.size (fun k hk => by cases hk; exact Nat.le_refl _)))
  have SB := Lib.hid (hg.cell SB.out HNE.out)
  clear ho hg HO6 HB6
  go_wp2_with fail
  refine (ofIntegers_any [108, 101] 98 _ w.heap.size w3.heap.size _ SB.out HO7.out (by decide)).mono ?_
  rintro e w8 ⟨rfl, ho, hg⟩
  have HO8 := Lib.hid ho
  have HB8 := Lib.hid (HB7.out.trans (below_of_grown hg HB7.out.size (fun k hk => by cases hk; exact Nat.le_refl _)))
  have SB := Lib.hid (hg.cell SB.out HNE.out)
  clear ho hg HO7 HB7
  go_wp2_with fail
  refine (ofIntegers_any [100, 105, 118] 99 _ w.heap.size w3.heap.size _ SB.out HO8.out (by decide)).mono ?_
  rintro e w9 ⟨rfl, ho, hg⟩
  have HO9 := Lib.hid ho
  have HB9 := Lib.hid (HB8.out.trans (below_of_grown hg HB8.out.size (fun k hk => by cases hk; exact Nat.le_refl _)))
  have SB := Lib.hid (hg.cell SB.out HNE.out)
  clear ho hg HO8 HB8
  go_wp2_with fail
  refine (ofIntegers_any [109, 111, 100] 101 _ w.heap.size w3.heap.size _ SB.out HO9.out (by decide)).mono ?_
  rintro e w10 ⟨rfl, ho, hg⟩
  have HO10 := Lib.hid ho
  have HB10 := Lib.hid (HB9.out.trans (below_of_grown hg HB9.out.size (fun k hk => by cases hk; exact Nat.le_refl _)))
  have SB := Lib.hid (hg.cell SB.out HNE.out)
  clear ho hg HO9 HB9
  have sb := SB.out
  go_wp2
  go_ret
  exact ⟨⟨_, rfl, HO10.out⟩, HB10.out⟩
end Go.Proofs.YtjldkndalcellaaGreatDoor

namespace Go.Proofs.YtjldkndalcellaaGreatDoor
open Go.RowKit Go.El

theorem U8E.at1 {w : World} {b o : Nat} {l : List Int} (h : U8E.In w b o l) {k : Nat} {p : Int} (hp : l[k]? = some p) : w.cell? ⟨b, o + k * 1, none⟩ = some (.int .u8 p) := h k p hp 0 _ rfl
set_option maxRecDepth 100000 in
set_option maxHeartbeats 1000000 in
theorem u8_index (l : List Int) (hl : l.length ≤ 1000000) (A : Option Addr) (cap : Nat) (v : Int) (w : World) (h : U8E.Arg w A l) :
    Calls Tryz.prog 124 #[.slice A l.length cap, .int .u8 v] w fun e w' => e = .returned (.int .i64 (optV (Ce.idxK (fun x => v == x) l 0))) ∧ Below w.heap.size w w' := by
  have H := Lib.hid h
  clear h
  have HAT := Lib.hid (fun k x (hx : l[k]? = some x) => Ce.idxK_at (p := fun x => v == x) hx)
  have h00 : Ce.idxK (fun x => v == x) (l.drop 0) 0 = Ce.idxK (fun x => v == x) l 0 := rfl
  have HEND : Hid (∀ k, l.length ≤ k → Ce.idxK (fun x => v == x) (l.drop k) k = none) := Lib.hid fun k hk => by rw [List.drop_eq_nil_of_le hk]; rfl
  generalize Ce.idxK (fun x => v == x) l 0 = R at *
  have H00 := Lib.hid h00
  clear h00
  go_enter Tryz.func124, Tryz.ntmps124
  go_wp2_with fail
  go_loopw [5, 8] (fun _ i wr => ∃ k : Nat, k ≤ l.length ∧ i = .int .i64 k ∧ Hid (Ce.idxK (fun x => v == x) (l.drop k) k = R) ∧ Below w.heap.size w wr) (fun _ i _ => l.length - (intOf i).toNat)
  case atStart => exact ⟨0, Nat.zero_le _, rfl, H00, Below.refl _ _⟩
  case round =>
    obtain ⟨k, hk, rfl, HK, hbw⟩ := hrel
    have hzw := hbw.size
    by_cases hlt : k < l.length
    · have hlt' : (k : Int) < l.length := by omega
      obtain ⟨b, o, rfl, hin, hbl⟩ := H.out.at_lt hlt
      obtain ⟨x, hx⟩ : ∃ x, l[k]? = some x := ⟨_, List.getElem?_eq_getElem hlt⟩
      have hcell := U8E.at1 (hin.below hbw (fun _ => hbl)) hx
      simp only [Nat.mul_one] at hcell
      have HS := Lib.hid (HAT.out k x hx)
      clear hx hin
      by_cases hvx : v = x
      · subst hvx
        go_wp2
        go_ret
        refine ⟨?_, hbw⟩
        rw [← HK.out, HS.out]
        simp [optV]
      · have hvx' : (v == x) = false := beq_eq_false_iff_ne.2 hvx
        have HV := Lib.hid hvx'
        go_wp2
        go_roundw
        case rel => exact ⟨k + 1, by omega, by go_num, Lib.hid (by rw [← HK.out, HS.out, HV.out]; rfl), hbw⟩
        case measure => simp [intOf]; omega
    · have hlt' : ¬ (k : Int) < l.length := by omega
      have hT : R = none := by rw [← HK.out, HEND.out k (by omega)]
      subst hT
      go_wp2
      go_ret
      exact ⟨rfl, hbw⟩
theorem u8_contains (l : List Int) (hl : l.length ≤ 1000000) (A : Option Addr) (cap : Nat) (v : Int) (w : World) (h : U8E.Arg w A l) :
    Calls Tryz.prog 105 #[.slice A l.length cap, .int .u8 v] w fun e w' => e = .returned (.bool (l.any fun x => v == x)) ∧ Below w.heap.size w w' := by
  have hc := u8_index l hl A cap v w h
  rw [← Ce.idxK_any (fun x => v == x) l 0]
  cases hR : Ce.idxK (fun x => v == x) l 0 with
  | none =>
    rw [hR] at hc
    clear h hR
    have HC : Hid _ := Lib.hid hc
    clear hc
    go_enter Tryz.func105, Tryz.ntmps105
    go_wp2_with fail
    refine HC.out.mono ?_
    rintro e w1 ⟨rfl, hb1⟩
    unfold optV
    go_wp2
    go_ret
    exact ⟨rfl, hb1⟩
  | some n =>
    rw [hR] at hc
    clear h hR
    have HC : Hid _ := Lib.hid hc
    clear hc
    have hn : 0 ≤ (n : Int) := by omega
    go_enter Tryz.func105, Tryz.ntmps105
    go_wp2_with fail
    refine HC.out.mono ?_
    rintro e w1 ⟨rfl, hb1⟩
    unfold optV
    go_wp2
    go_ret
    exact ⟨rfl, hb1⟩

theorem ofKind_any (v : Ce.V) (k0 : Int) (g : Nat) (w : World) (hg : w.cell? ⟨g, 0, none⟩ = some (.int .u8 k0)) :
    Calls Tryz.prog 104 #[.agg #[.int .u8 v.k, .int .i64 v.n], .pointer (some ⟨g, 0, none⟩)] w fun e w' => e = .returned (.bool (v.k == k0)) ∧ Below w.heap.size w w' := by
  have HB : Hid (Below w.heap.size w (w.alloc (.cells #[.int .u8 v.k, .int .i64 v.n] 57))) := Lib.hid ((Below.refl _ _).alloc (Nat.le_refl _) _)
  have x0 := (Stay.cell hg).alloc (.cells #[.int .u8 v.k, .int .i64 v.n] 57) _ (Below.refl _ _)
  obtain ⟨k, n⟩ := v
  dsimp only at *
  clear hg
  generalize hq : (k == k0) = q
  cases q with
  | true =>
    obtain rfl : k = k0 := by simpa using hq
    clear hq
    go_enter Tryz.func104, Tryz.ntmps104
    go_wp2
    go_ret
    exact ⟨by simp, HB.out⟩
  | false =>
    go_enter Tryz.func104, Tryz.ntmps104
    go_wp2
    go_ret
    exact ⟨rfl, HB.out⟩
end Go.Proofs.YtjldkndalcellaaGreatDoor
