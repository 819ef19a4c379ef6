/- Layer 6, the program: isInteger, isValue, isHole, isBad, makers of values. -/
import Derived.Test.YtacggbpgillbaaaGreatDoorSj
import Derived.Test.YtacggbpgillbaaaGreatDoorTm
namespace Go.Proofs.YtacggbpgillbaaaGreatDoor
open Go.RowKit Go.El

theorem isInteger_any (n : Int) (w : World) : Calls Tryz.prog 96 #[.int .i64 n] w fun e w' => e = .returned (.bool (Ce.inn n (-1000000000) 1000000000)) ∧ w = w' := by
  unfold Ce.inn
  by_cases h1 : -1000000000 ≤ n
  · by_cases h2 : n ≤ 1000000000
    · rw [decide_eq_true h1, decide_eq_true h2]
      go_enter Tryz.func96, Tryz.ntmps96
      go_wp2
      go_ret
      exact ⟨rfl, rfl⟩
    · rw [decide_eq_false h2, Bool.and_false]
      go_enter Tryz.func96, Tryz.ntmps96
      go_wp2
      go_ret
      exact ⟨rfl, rfl⟩
  · rw [decide_eq_false h1, Bool.false_and]
    go_enter Tryz.func96, Tryz.ntmps96
    go_wp2
    go_ret
    exact ⟨rfl, rfl⟩

set_option maxHeartbeats 1000000 in
theorem cIsValue_any (v : Ce.V) (w : World) : Calls Tryz.prog 72 #[.agg #[.int .u8 v.k, .int .i64 v.n]] w fun e w' => e = .returned (.bool (Ce.isValue v (-1))) ∧ Below w.heap.size w w' := by
  obtain ⟨k, n⟩ := v
  have hin := fun W => isInteger_any n W
  have HIN := Lib.hid hin
  clear hin
  unfold Ce.isValue
  dsimp only
  by_cases h0 : k = 0
  · subst h0
    rw [if_pos rfl]
    by_cases hn : n = 0
    · subst hn
      go_enter Tryz.func72, Tryz.ntmps72
      go_wp2
      go_ret
      exact ⟨rfl, (Below.refl _ _).alloc (Nat.le_refl _) _⟩
    · rw [decide_eq_false hn]
      have hn' : (n == 0) = false := beq_eq_false_iff_ne.2 hn
      go_enter Tryz.func72, Tryz.ntmps72
      go_wp2
      go_ret
      exact ⟨rfl, (Below.refl _ _).alloc (Nat.le_refl _) _⟩
  rw [if_neg h0]
  by_cases h1 : k = 1
  · subst h1
    rw [if_pos rfl]
    clear h0
    go_enter Tryz.func72, Tryz.ntmps72
    go_wp2_with fail
    refine (HIN.out _).mono ?_
    rintro e w1 ⟨rfl, rfl⟩
    go_wp2
    go_ret
    exact ⟨rfl, (Below.refl _ _).alloc (Nat.le_refl _) _⟩
  rw [if_neg h1]
  by_cases h2 : k = 2
  · subst h2
    rw [if_pos rfl]
    clear h0 h1
    by_cases hn : n = 0
    · subst hn
      go_enter Tryz.func72, Tryz.ntmps72
      go_wp2
      go_ret
      exact ⟨rfl, (Below.refl _ _).alloc (Nat.le_refl _) _⟩
    · have hn' : (n == 0) = false := beq_eq_false_iff_ne.2 hn
      rw [decide_eq_false hn, Bool.false_or]
      by_cases hm : n = 1
      · subst hm
        go_enter Tryz.func72, Tryz.ntmps72
        go_wp2
        go_ret
        exact ⟨rfl, (Below.refl _ _).alloc (Nat.le_refl _) _⟩
      · have hm' : (n == 1) = false := beq_eq_false_iff_ne.2 hm
        rw [decide_eq_false hm]
        go_enter Tryz.func72, Tryz.ntmps72
        go_wp2
        go_ret
        exact ⟨rfl, (Below.refl _ _).alloc (Nat.le_refl _) _⟩
  rw [if_neg h2]
  by_cases h3 : k = 3
  · subst h3
    rw [if_pos rfl]
    clear h0 h1 h2
    by_cases hn : n = 0
    · subst hn
      go_enter Tryz.func72, Tryz.ntmps72
      go_wp2
      go_ret
      exact ⟨rfl, (Below.refl _ _).alloc (Nat.le_refl _) _⟩
    · rw [decide_eq_false hn]
      have hn' : (n == 0) = false := beq_eq_false_iff_ne.2 hn
      go_enter Tryz.func72, Tryz.ntmps72
      go_wp2
      go_ret
      exact ⟨rfl, (Below.refl _ _).alloc (Nat.le_refl _) _⟩
  rw [if_neg h3]
  by_cases h4 : k = 4
  · subst h4
    rw [if_pos rfl]
    clear h0 h1 h2 h3
    by_cases hn : 0 ≤ n
    · rw [decide_eq_true hn, Bool.true_and, show (decide ((-1 : Int) < 0) || decide (n < -1)) = true from rfl]
      go_enter Tryz.func72, Tryz.ntmps72
      go_wp2
      go_ret
      exact ⟨rfl, (Below.refl _ _).alloc (Nat.le_refl _) _⟩
    · rw [decide_eq_false hn, Bool.false_and]
      go_enter Tryz.func72, Tryz.ntmps72
      go_wp2
      go_ret
      exact ⟨rfl, (Below.refl _ _).alloc (Nat.le_refl _) _⟩
  rw [if_neg h4]
  by_cases h5 : k = 5
  · subst h5
    rw [if_pos rfl]
    clear h0 h1 h2 h3 h4
    unfold Ce.inn
    by_cases hn : 1 ≤ n
    · rw [decide_eq_true hn, Bool.true_and]
      by_cases hl : n ≤ 5
      · rw [decide_eq_true hl]
        go_enter Tryz.func72, Tryz.ntmps72
        go_wp2
        go_ret
        exact ⟨rfl, (Below.refl _ _).alloc (Nat.le_refl _) _⟩
      · rw [decide_eq_false hl]
        go_enter Tryz.func72, Tryz.ntmps72
        go_wp2
        go_ret
        exact ⟨rfl, (Below.refl _ _).alloc (Nat.le_refl _) _⟩
    · rw [decide_eq_false hn, Bool.false_and]
      go_enter Tryz.func72, Tryz.ntmps72
      go_wp2
      go_ret
      exact ⟨rfl, (Below.refl _ _).alloc (Nat.le_refl _) _⟩
  rw [if_neg h5]
  have g0 : (k == 0) = false := beq_eq_false_iff_ne.2 h0
  have g1 : (k == 1) = false := beq_eq_false_iff_ne.2 h1
  have g2 : (k == 2) = false := beq_eq_false_iff_ne.2 h2
  have g3 : (k == 3) = false := beq_eq_false_iff_ne.2 h3
  have g4 : (k == 4) = false := beq_eq_false_iff_ne.2 h4
  have g5 : (k == 5) = false := beq_eq_false_iff_ne.2 h5
  clear h0 h1 h2 h3 h4 h5
  go_enter Tryz.func72, Tryz.ntmps72
  go_wp2
  go_ret
  exact ⟨rfl, (Below.refl _ _).alloc (Nat.le_refl _) _⟩

/-- a value that is a hole -/
def isHoleB (v : Ce.V) : Bool := v.k == 0 && v.n == 0
set_option maxHeartbeats 1000000 in
theorem isHole_any (v : Ce.V) (w : World) : Calls Tryz.prog 77 #[.agg #[.int .u8 v.k, .int .i64 v.n]] w fun e w' => e = .returned (.bool (isHoleB v)) ∧ Below w.heap.size w w' := by
  obtain ⟨k, n⟩ := v
  unfold isHoleB
  dsimp only
  by_cases h0 : k = 0
  · subst h0
    by_cases hn : n = 0
    · subst hn
      go_enter Tryz.func77, Tryz.ntmps77
      go_wp2
      go_ret
      exact ⟨rfl, (Below.refl _ _).alloc (Nat.le_refl _) _⟩
    · have hn' : (n == 0) = false := beq_eq_false_iff_ne.2 hn
      rw [hn']
      go_enter Tryz.func77, Tryz.ntmps77
      go_wp2
      go_ret
      exact ⟨rfl, (Below.refl _ _).alloc (Nat.le_refl _) _⟩
  · have h0' : (k == 0) = false := beq_eq_false_iff_ne.2 h0
    rw [h0']
    clear h0
    go_enter Tryz.func77, Tryz.ntmps77
    go_wp2
    go_ret
    exact ⟨rfl, (Below.refl _ _).alloc (Nat.le_refl _) _⟩
theorem isBad_any (v : Ce.V) (w : World) : Calls Tryz.prog 153 #[.agg #[.int .u8 v.k, .int .i64 v.n]] w fun e w' => e = .returned (.bool (v.k == 5)) ∧ Below w.heap.size w w' := by
  obtain ⟨k, n⟩ := v
  dsimp only
  generalize hq : (k == 5) = q
  have HQ := Lib.hid hq
  clear hq
  cases q with
  | true =>
    obtain rfl : k = 5 := by simpa using HQ.out
    go_enter Tryz.func153, Tryz.ntmps153
    go_wp2
    go_ret
    exact ⟨rfl, (Below.refl _ _).alloc (Nat.le_refl _) _⟩
  | false =>
    have h := HQ.out
    go_enter Tryz.func153, Tryz.ntmps153
    go_wp2
    go_ret
    exact ⟨rfl, (Below.refl _ _).alloc (Nat.le_refl _) _⟩

theorem bad_any (n : Int) (w : World) : Calls Tryz.prog 119 #[.int .i64 n] w fun e w' => e = .returned (.agg #[.int .u8 5, .int .i64 n]) ∧ Below w.heap.size w w' := by
  go_enter Tryz.func119, Tryz.ntmps119
  go_wp2
  refine bodyPost_ret (results_cell_row rfl _ _ w.heap.size 26 #[.int .u8 5, .int .i64 n] (0, 0) _ rfl (heap_alloc_new w _) Tryz.underlying26 rfl val_size) rfl ?_
  exact ⟨rfl, (Below.refl _ _).alloc (Nat.le_refl _) _⟩
theorem ref_any (n : Int) (w : World) : Calls Tryz.prog 146 #[.int .i64 n] w fun e w' => e = .returned (.agg #[.int .u8 4, .int .i64 n]) ∧ Below w.heap.size w w' := by
  go_enter Tryz.func146, Tryz.ntmps146
  go_wp2
  refine bodyPost_ret (results_cell_row rfl _ _ w.heap.size 26 #[.int .u8 4, .int .i64 n] (0, 0) _ rfl (heap_alloc_new w _) Tryz.underlying26 rfl val_size) rfl ?_
  exact ⟨rfl, (Below.refl _ _).alloc (Nat.le_refl _) _⟩
theorem empty_any (w : World) : Calls Tryz.prog 97 #[] w fun e w' => e = .returned (.agg #[.int .u8 3, .int .i64 0]) ∧ Below w.heap.size w w' := by
  go_enter Tryz.func97, Tryz.ntmps97
  go_wp2
  refine bodyPost_ret (results_cell_row rfl _ _ w.heap.size 26 #[.int .u8 3, .int .i64 0] (0, 0) _ rfl (heap_alloc_new w _) Tryz.underlying26 rfl val_size) rfl ?_
  exact ⟨rfl, (Below.refl _ _).alloc (Nat.le_refl _) _⟩
theorem boolean_any (b : Bool) (w : World) : Calls Tryz.prog 108 #[.bool b] w fun e w' => e = .returned (.agg #[.int .u8 2, .int .i64 (Ce.vbool b).n]) ∧ Below w.heap.size w w' := by
  cases b with
  | true =>
    go_enter Tryz.func108, Tryz.ntmps108
    go_wp2
    refine bodyPost_ret (results_cell_row rfl _ _ w.heap.size 26 #[.int .u8 2, .int .i64 1] (0, 0) _ rfl (heap_alloc_new w _) Tryz.underlying26 rfl val_size) rfl ?_
    exact ⟨rfl, (Below.refl _ _).alloc (Nat.le_refl _) _⟩
  | false =>
    go_enter Tryz.func108, Tryz.ntmps108
    go_wp2
    refine bodyPost_ret (results_cell_row rfl _ _ w.heap.size 26 #[.int .u8 2, .int .i64 0] (0, 0) _ rfl (heap_alloc_new w _) Tryz.underlying26 rfl val_size) rfl ?_
    exact ⟨rfl, (Below.refl _ _).alloc (Nat.le_refl _) _⟩
set_option maxHeartbeats 1000000 in
theorem integer_any (n : Int) (w : World) : Calls Tryz.prog 110 #[.int .i64 n] w fun e w' => e = .returned (.agg #[.int .u8 (Ce.ranged n).k, .int .i64 (Ce.ranged n).n]) ∧ Below w.heap.size w w' := by
  have hin := fun W => isInteger_any n W
  have HBAD := Lib.hid (fun W => bad_any 2 W)
  unfold Ce.ranged
  generalize hq : Ce.inn n (-1000000000) 1000000000 = q at *
  have HIN := Lib.hid hin
  clear hin hq
  have HB : Hid (Below w.heap.size w (w.alloc (.cells #[.int .u8 0, .int .i64 0] 26))) := Lib.hid ((Below.refl _ _).alloc (Nat.le_refl _) _)
  cases q with
  | true =>
    go_enter Tryz.func110, Tryz.ntmps110
    go_wp2_with fail
    refine (HIN.out _).mono ?_
    rintro e w1 ⟨rfl, rfl⟩
    go_wp2
    refine bodyPost_ret (results_cell_row rfl _ _ w.heap.size 26 #[.int .u8 1, .int .i64 n] (0, 0) _ rfl (heap_alloc_new w _) Tryz.underlying26 rfl val_size) rfl ?_
    exact ⟨rfl, (Below.refl _ _).alloc (Nat.le_refl _) _⟩
  | false =>
    have HZ := Lib.hid (Blk.new w 26 #[.int .u8 0, .int .i64 0])
    go_enter Tryz.func110, Tryz.ntmps110
    go_wp2_with fail
    refine (HIN.out _).mono ?_
    rintro e w1 ⟨rfl, rfl⟩
    go_wp2_with fail
    refine (HBAD.out _).mono ?_
    rintro e w1 ⟨rfl, hb1⟩
    have HZ1 := Lib.hid (HZ.out.below hb1)
    have z0 := HZ1.out.cell 0
    have z1 := HZ1.out.cell 1
    have zf0 := HZ1.out.frozen 0
    have zf1 := HZ1.out.frozen 1
    dsimp at z0 z1
    have HB1 := Lib.hid (HB.out.trans (hb1.mono HB.out.size))
    clear hb1
    go_wp2
    refine bodyPost_ret (results_cell_row rfl _ _ w.heap.size 26 #[.int .u8 5, .int .i64 2] (0, 0) _ rfl ((HZ1.out.set_ 0 _).set_ 1 _) Tryz.underlying26 rfl val_size) rfl ?_
    exact ⟨rfl, (HB1.out.setCell (by simp) _).setCell (by simp) _⟩
end Go.Proofs.YtacggbpgillbaaaGreatDoor
