/- Layer 6, the program: the functions of the operations. -/
import Derived.Test.YtacggbpgillbaaaGreatDoorTe
namespace Go.Proofs.YtacggbpgillbaaaGreatDoor
open Go.RowKit Go.El
/-- a function that gives the result of an operation -/
def GivesIs (F : Nat) (g : Int → Int → Ce.V) : Prop := ∀ (a b : Int) (w : World), -1000000000 ≤ a → a ≤ 1000000000 → -1000000000 ≤ b → b ≤ 1000000000 →
  Calls Tryz.prog F #[.int .i64 a, .int .i64 b] w fun e w' => e = .returned (.agg #[.int .u8 (g a b).k, .int .i64 (g a b).n]) ∧ Below w.heap.size w w'

set_option maxHeartbeats 1000000 in
theorem g_eq : GivesIs 107 fun a b => Ce.vbool (a == b) := by
  intro a b w a1 a2 b1 b2
  have HB : Hid (Below w.heap.size w (w.alloc (.cells #[.int .u8 0, .int .i64 0] 26))) := Lib.hid ((Below.refl _ _).alloc (Nat.le_refl _) _)
  have HZ := Lib.hid (Blk.new w 26 #[.int .u8 0, .int .i64 0])
  have hc := fun W => boolean_any (a == b) W
  dsimp only
  have HC := Lib.hid hc
  clear hc
  go_enter Tryz.func107, Tryz.ntmps107
  go_wp2_with fail
  refine (HC.out _).mono ?_
  rintro e w1 ⟨rfl, hb1⟩
  have HZ1 := Lib.hid (HZ.out.below hb1)
  have HB1 := Lib.hid (HB.out.trans (hb1.mono HB.out.size))
  have z0 := HZ1.out.cell 0
  have z1 := HZ1.out.cell 1
  have zf0 := HZ1.out.frozen 0
  have zf1 := HZ1.out.frozen 1
  dsimp at z0 z1
  clear hb1
  go_wp2
  refine bodyPost_ret (results_cell_row rfl _ _ w.heap.size 26 #[.int .u8 2, .int .i64 (Ce.vbool (a == b)).n] (0, 0) _ rfl ((HZ1.out.set_ 0 _).set_ 1 _) Tryz.underlying26 rfl val_size) rfl ?_
  exact ⟨rfl, (HB1.out.setCell (by simp) _).setCell (by simp) _⟩

set_option maxHeartbeats 1000000 in
theorem g_neg : GivesIs 109 fun a _ => Ce.ranged (-a) := by
  intro a b w a1 a2 b1 b2
  have HB : Hid (Below w.heap.size w (w.alloc (.cells #[.int .u8 0, .int .i64 0] 26))) := Lib.hid ((Below.refl _ _).alloc (Nat.le_refl _) _)
  have HZ := Lib.hid (Blk.new w 26 #[.int .u8 0, .int .i64 0])
  have hc := fun W => integer_any (-a) W
  dsimp only
  generalize Ce.ranged (-a) = V at *
  have HC := Lib.hid hc
  clear hc
  go_enter Tryz.func109, Tryz.ntmps109
  go_wp2_with fail
  refine (HC.out _).mono ?_
  rintro e w1 ⟨rfl, hb1⟩
  have HZ1 := Lib.hid (HZ.out.below hb1)
  have HB1 := Lib.hid (HB.out.trans (hb1.mono HB.out.size))
  have z0 := HZ1.out.cell 0
  have z1 := HZ1.out.cell 1
  have zf0 := HZ1.out.frozen 0
  have zf1 := HZ1.out.frozen 1
  dsimp at z0 z1
  clear hb1
  go_wp2
  refine bodyPost_ret (results_cell_row rfl _ _ w.heap.size 26 #[.int .u8 V.k, .int .i64 V.n] (0, 0) _ rfl ((HZ1.out.set_ 0 _).set_ 1 _) Tryz.underlying26 rfl val_size) rfl ?_
  exact ⟨rfl, (HB1.out.setCell (by simp) _).setCell (by simp) _⟩

set_option maxHeartbeats 1000000 in
theorem g_not : GivesIs 111 fun a _ => Ce.vbool (a == 0) := by
  intro a b w a1 a2 b1 b2
  have HB : Hid (Below w.heap.size w (w.alloc (.cells #[.int .u8 0, .int .i64 0] 26))) := Lib.hid ((Below.refl _ _).alloc (Nat.le_refl _) _)
  have HZ := Lib.hid (Blk.new w 26 #[.int .u8 0, .int .i64 0])
  have hc := fun W => boolean_any (a == 0) W
  dsimp only
  have HC := Lib.hid hc
  clear hc
  go_enter Tryz.func111, Tryz.ntmps111
  go_wp2_with fail
  refine (HC.out _).mono ?_
  rintro e w1 ⟨rfl, hb1⟩
  have HZ1 := Lib.hid (HZ.out.below hb1)
  have HB1 := Lib.hid (HB.out.trans (hb1.mono HB.out.size))
  have z0 := HZ1.out.cell 0
  have z1 := HZ1.out.cell 1
  have zf0 := HZ1.out.frozen 0
  have zf1 := HZ1.out.frozen 1
  dsimp at z0 z1
  clear hb1
  go_wp2
  refine bodyPost_ret (results_cell_row rfl _ _ w.heap.size 26 #[.int .u8 2, .int .i64 (Ce.vbool (a == 0)).n] (0, 0) _ rfl ((HZ1.out.set_ 0 _).set_ 1 _) Tryz.underlying26 rfl val_size) rfl ?_
  exact ⟨rfl, (HB1.out.setCell (by simp) _).setCell (by simp) _⟩

set_option maxHeartbeats 1000000 in
theorem g_add : GivesIs 113 fun a b => Ce.ranged (a + b) := by
  intro a b w a1 a2 b1 b2
  have HB : Hid (Below w.heap.size w (w.alloc (.cells #[.int .u8 0, .int .i64 0] 26))) := Lib.hid ((Below.refl _ _).alloc (Nat.le_refl _) _)
  have HZ := Lib.hid (Blk.new w 26 #[.int .u8 0, .int .i64 0])
  have hc := fun W => integer_any (a + b) W
  dsimp only
  generalize Ce.ranged (a + b) = V at *
  have HC := Lib.hid hc
  clear hc
  go_enter Tryz.func113, Tryz.ntmps113
  go_wp2_with fail
  refine (HC.out _).mono ?_
  rintro e w1 ⟨rfl, hb1⟩
  have HZ1 := Lib.hid (HZ.out.below hb1)
  have HB1 := Lib.hid (HB.out.trans (hb1.mono HB.out.size))
  have z0 := HZ1.out.cell 0
  have z1 := HZ1.out.cell 1
  have zf0 := HZ1.out.frozen 0
  have zf1 := HZ1.out.frozen 1
  dsimp at z0 z1
  clear hb1
  go_wp2
  refine bodyPost_ret (results_cell_row rfl _ _ w.heap.size 26 #[.int .u8 V.k, .int .i64 V.n] (0, 0) _ rfl ((HZ1.out.set_ 0 _).set_ 1 _) Tryz.underlying26 rfl val_size) rfl ?_
  exact ⟨rfl, (HB1.out.setCell (by simp) _).setCell (by simp) _⟩

set_option maxHeartbeats 1000000 in
theorem g_sub : GivesIs 114 fun a b => Ce.ranged (a - b) := by
  intro a b w a1 a2 b1 b2
  have HB : Hid (Below w.heap.size w (w.alloc (.cells #[.int .u8 0, .int .i64 0] 26))) := Lib.hid ((Below.refl _ _).alloc (Nat.le_refl _) _)
  have HZ := Lib.hid (Blk.new w 26 #[.int .u8 0, .int .i64 0])
  have hc := fun W => integer_any (a - b) W
  dsimp only
  generalize Ce.ranged (a - b) = V at *
  have HC := Lib.hid hc
  clear hc
  go_enter Tryz.func114, Tryz.ntmps114
  go_wp2_with fail
  refine (HC.out _).mono ?_
  rintro e w1 ⟨rfl, hb1⟩
  have HZ1 := Lib.hid (HZ.out.below hb1)
  have HB1 := Lib.hid (HB.out.trans (hb1.mono HB.out.size))
  have z0 := HZ1.out.cell 0
  have z1 := HZ1.out.cell 1
  have zf0 := HZ1.out.frozen 0
  have zf1 := HZ1.out.frozen 1
  dsimp at z0 z1
  clear hb1
  go_wp2
  refine bodyPost_ret (results_cell_row rfl _ _ w.heap.size 26 #[.int .u8 V.k, .int .i64 V.n] (0, 0) _ rfl ((HZ1.out.set_ 0 _).set_ 1 _) Tryz.underlying26 rfl val_size) rfl ?_
  exact ⟨rfl, (HB1.out.setCell (by simp) _).setCell (by simp) _⟩

set_option maxHeartbeats 1000000 in
theorem g_mul : GivesIs 115 fun a b => Ce.ranged (a * b) := by
  intro a b w a1 a2 b1 b2
  have HB : Hid (Below w.heap.size w (w.alloc (.cells #[.int .u8 0, .int .i64 0] 26))) := Lib.hid ((Below.refl _ _).alloc (Nat.le_refl _) _)
  have HZ := Lib.hid (Blk.new w 26 #[.int .u8 0, .int .i64 0])
  have m1 := mul_le1 a1 a2 b1 b2
  have m2 := mul_le2 a1 a2 b1 b2
  have hq : IntKind.i64.wrap (a * b) = a * b := by rw [IntKind.wrap_i64]; omega
  have hc := fun W => integer_any (a * b) W
  dsimp only
  generalize Ce.ranged (a * b) = V at *
  have HC := Lib.hid hc
  clear hc
  go_enter Tryz.func115, Tryz.ntmps115
  go_wp2_with fail
  refine (HC.out _).mono ?_
  rintro e w1 ⟨rfl, hb1⟩
  have HZ1 := Lib.hid (HZ.out.below hb1)
  have HB1 := Lib.hid (HB.out.trans (hb1.mono HB.out.size))
  have z0 := HZ1.out.cell 0
  have z1 := HZ1.out.cell 1
  have zf0 := HZ1.out.frozen 0
  have zf1 := HZ1.out.frozen 1
  dsimp at z0 z1
  clear hb1
  go_wp2
  refine bodyPost_ret (results_cell_row rfl _ _ w.heap.size 26 #[.int .u8 V.k, .int .i64 V.n] (0, 0) _ rfl ((HZ1.out.set_ 0 _).set_ 1 _) Tryz.underlying26 rfl val_size) rfl ?_
  exact ⟨rfl, (HB1.out.setCell (by simp) _).setCell (by simp) _⟩

set_option maxHeartbeats 1000000 in
theorem g_lt : GivesIs 116 fun a b => Ce.vbool (decide (a < b)) := by
  intro a b w a1 a2 b1 b2
  have HB : Hid (Below w.heap.size w (w.alloc (.cells #[.int .u8 0, .int .i64 0] 26))) := Lib.hid ((Below.refl _ _).alloc (Nat.le_refl _) _)
  have HZ := Lib.hid (Blk.new w 26 #[.int .u8 0, .int .i64 0])
  have hc := fun W => boolean_any (decide (a < b)) W
  dsimp only
  have HC := Lib.hid hc
  clear hc
  go_enter Tryz.func116, Tryz.ntmps116
  go_wp2_with fail
  refine (HC.out _).mono ?_
  rintro e w1 ⟨rfl, hb1⟩
  have HZ1 := Lib.hid (HZ.out.below hb1)
  have HB1 := Lib.hid (HB.out.trans (hb1.mono HB.out.size))
  have z0 := HZ1.out.cell 0
  have z1 := HZ1.out.cell 1
  have zf0 := HZ1.out.frozen 0
  have zf1 := HZ1.out.frozen 1
  dsimp at z0 z1
  clear hb1
  go_wp2
  refine bodyPost_ret (results_cell_row rfl _ _ w.heap.size 26 #[.int .u8 2, .int .i64 (Ce.vbool (decide (a < b))).n] (0, 0) _ rfl ((HZ1.out.set_ 0 _).set_ 1 _) Tryz.underlying26 rfl val_size) rfl ?_
  exact ⟨rfl, (HB1.out.setCell (by simp) _).setCell (by simp) _⟩

set_option maxHeartbeats 1000000 in
theorem g_le : GivesIs 117 fun a b => Ce.vbool (decide (a ≤ b)) := by
  intro a b w a1 a2 b1 b2
  have HB : Hid (Below w.heap.size w (w.alloc (.cells #[.int .u8 0, .int .i64 0] 26))) := Lib.hid ((Below.refl _ _).alloc (Nat.le_refl _) _)
  have HZ := Lib.hid (Blk.new w 26 #[.int .u8 0, .int .i64 0])
  have hc := fun W => boolean_any (decide (a ≤ b)) W
  dsimp only
  have HC := Lib.hid hc
  clear hc
  go_enter Tryz.func117, Tryz.ntmps117
  go_wp2_with fail
  refine (HC.out _).mono ?_
  rintro e w1 ⟨rfl, hb1⟩
  have HZ1 := Lib.hid (HZ.out.below hb1)
  have HB1 := Lib.hid (HB.out.trans (hb1.mono HB.out.size))
  have z0 := HZ1.out.cell 0
  have z1 := HZ1.out.cell 1
  have zf0 := HZ1.out.frozen 0
  have zf1 := HZ1.out.frozen 1
  dsimp at z0 z1
  clear hb1
  go_wp2
  refine bodyPost_ret (results_cell_row rfl _ _ w.heap.size 26 #[.int .u8 2, .int .i64 (Ce.vbool (decide (a ≤ b))).n] (0, 0) _ rfl ((HZ1.out.set_ 0 _).set_ 1 _) Tryz.underlying26 rfl val_size) rfl ?_
  exact ⟨rfl, (HB1.out.setCell (by simp) _).setCell (by simp) _⟩

set_option maxHeartbeats 1000000 in
theorem g_div : GivesIs 118 fun a b => if b = 0 then Ce.vbad 1 else Ce.ranged (a.tdiv b) := by
  intro a b w a1 a2 b1 b2
  have HB : Hid (Below w.heap.size w (w.alloc (.cells #[.int .u8 0, .int .i64 0] 26))) := Lib.hid ((Below.refl _ _).alloc (Nat.le_refl _) _)
  have HZ := Lib.hid (Blk.new w 26 #[.int .u8 0, .int .i64 0])
  dsimp only
  by_cases hz : b = 0
  · subst hz
    rw [if_pos rfl]
    have HC := Lib.hid (fun W => bad_any 1 W)
    go_enter Tryz.func118, Tryz.ntmps118
    go_wp2_with fail
    refine (HC.out _).mono ?_
    rintro e w1 ⟨rfl, hb1⟩
    have HZ1 := Lib.hid (HZ.out.below hb1)
    have HB1 := Lib.hid (HB.out.trans (hb1.mono HB.out.size))
    have z0 := HZ1.out.cell 0
    have z1 := HZ1.out.cell 1
    have zf0 := HZ1.out.frozen 0
    have zf1 := HZ1.out.frozen 1
    dsimp at z0 z1
    clear hb1
    go_wp2
    refine bodyPost_ret (results_cell_row rfl _ _ w.heap.size 26 #[.int .u8 5, .int .i64 1] (0, 0) _ rfl ((HZ1.out.set_ 0 _).set_ 1 _) Tryz.underlying26 rfl val_size) rfl ?_
    exact ⟨rfl, (HB1.out.setCell (by simp) _).setCell (by simp) _⟩
  · rw [if_neg hz]
    have hz' : (b == 0) = false := beq_eq_false_iff_ne.2 hz
    have hd := tdiv_le (b := b) a1 a2
    have hq : IntKind.i64.wrap (a.tdiv b) = a.tdiv b := by rw [IntKind.wrap_i64]; omega
    have hc := fun W => integer_any (a.tdiv b) W
    generalize Ce.ranged (a.tdiv b) = V at *
    have HC := Lib.hid hc
    clear hc
    go_enter Tryz.func118, Tryz.ntmps118
    go_wp2_with fail
    refine (HC.out _).mono ?_
    rintro e w1 ⟨rfl, hb1⟩
    have HZ1 := Lib.hid (HZ.out.below hb1)
    have HB1 := Lib.hid (HB.out.trans (hb1.mono HB.out.size))
    have z0 := HZ1.out.cell 0
    have z1 := HZ1.out.cell 1
    have zf0 := HZ1.out.frozen 0
    have zf1 := HZ1.out.frozen 1
    dsimp at z0 z1
    clear hb1
    go_wp2
    refine bodyPost_ret (results_cell_row rfl _ _ w.heap.size 26 #[.int .u8 V.k, .int .i64 V.n] (0, 0) _ rfl ((HZ1.out.set_ 0 _).set_ 1 _) Tryz.underlying26 rfl val_size) rfl ?_
    exact ⟨rfl, (HB1.out.setCell (by simp) _).setCell (by simp) _⟩

set_option maxHeartbeats 1000000 in
theorem g_mod : GivesIs 120 fun a b => if b = 0 then Ce.vbad 1 else Ce.ranged (a.tmod b) := by
  intro a b w a1 a2 b1 b2
  have HB : Hid (Below w.heap.size w (w.alloc (.cells #[.int .u8 0, .int .i64 0] 26))) := Lib.hid ((Below.refl _ _).alloc (Nat.le_refl _) _)
  have HZ := Lib.hid (Blk.new w 26 #[.int .u8 0, .int .i64 0])
  dsimp only
  by_cases hz : b = 0
  · subst hz
    rw [if_pos rfl]
    have HC := Lib.hid (fun W => bad_any 1 W)
    go_enter Tryz.func120, Tryz.ntmps120
    go_wp2_with fail
    refine (HC.out _).mono ?_
    rintro e w1 ⟨rfl, hb1⟩
    have HZ1 := Lib.hid (HZ.out.below hb1)
    have HB1 := Lib.hid (HB.out.trans (hb1.mono HB.out.size))
    have z0 := HZ1.out.cell 0
    have z1 := HZ1.out.cell 1
    have zf0 := HZ1.out.frozen 0
    have zf1 := HZ1.out.frozen 1
    dsimp at z0 z1
    clear hb1
    go_wp2
    refine bodyPost_ret (results_cell_row rfl _ _ w.heap.size 26 #[.int .u8 5, .int .i64 1] (0, 0) _ rfl ((HZ1.out.set_ 0 _).set_ 1 _) Tryz.underlying26 rfl val_size) rfl ?_
    exact ⟨rfl, (HB1.out.setCell (by simp) _).setCell (by simp) _⟩
  · rw [if_neg hz]
    have hz' : (b == 0) = false := beq_eq_false_iff_ne.2 hz
    have hd := tmod_le (b := b) a1 a2
    have hq : IntKind.i64.wrap (a.tmod b) = a.tmod b := by rw [IntKind.wrap_i64]; omega
    have hc := fun W => integer_any (a.tmod b) W
    generalize Ce.ranged (a.tmod b) = V at *
    have HC := Lib.hid hc
    clear hc
    go_enter Tryz.func120, Tryz.ntmps120
    go_wp2_with fail
    refine (HC.out _).mono ?_
    rintro e w1 ⟨rfl, hb1⟩
    have HZ1 := Lib.hid (HZ.out.below hb1)
    have HB1 := Lib.hid (HB.out.trans (hb1.mono HB.out.size))
    have z0 := HZ1.out.cell 0
    have z1 := HZ1.out.cell 1
    have zf0 := HZ1.out.frozen 0
    have zf1 := HZ1.out.frozen 1
    dsimp at z0 z1
    clear hb1
    go_wp2
    refine bodyPost_ret (results_cell_row rfl _ _ w.heap.size 26 #[.int .u8 V.k, .int .i64 V.n] (0, 0) _ rfl ((HZ1.out.set_ 0 _).set_ 1 _) Tryz.underlying26 rfl val_size) rfl ?_
    exact ⟨rfl, (HB1.out.setCell (by simp) _).setCell (by simp) _⟩
end Go.Proofs.YtacggbpgillbaaaGreatDoor
