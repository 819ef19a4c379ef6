/- Layer 6, the program: isInteger, isValue, isHole, isBad, makers of values. Layer 6, the program: cells.all at values, structures, reads, whole numbers. Layer 6, the program: wrong, has. -/
import Derived.Test.YtjldkndalcellaaGreatDoorYe
import Derived.Test.YtjldkndalcellaaGreatDoorYa
import Derived.Test.YtjldkndalcellaaGreatDoorYf
namespace Go.Proofs.YtjldkndalcellaaGreatDoor
open Go.RowKit Go.El

theorem isInteger_any (n : Int) (w : World) : Calls Tryz.prog 58 #[.int .i64 n] w fun e w' => e = .returned (.bool (Ce.inn n (-1000000000) 1000000000)) ∧ w = w' := by
  unfold Ce.inn
  by_cases h1 : -1000000000 ≤ n
  · by_cases h2 : n ≤ 1000000000
    · rw [decide_eq_true h1, decide_eq_true h2]
      go_enter Tryz.func58, Tryz.ntmps58
      go_wp2
      go_ret
      exact ⟨rfl, rfl⟩
    · rw [decide_eq_false h2, Bool.and_false]
      go_enter Tryz.func58, Tryz.ntmps58
      go_wp2
      go_ret
      exact ⟨rfl, rfl⟩
  · rw [decide_eq_false h1, Bool.false_and]
    go_enter Tryz.func58, Tryz.ntmps58
    go_wp2
    go_ret
    exact ⟨rfl, rfl⟩

set_option maxHeartbeats 1000000 in
theorem cIsValue_any (v : Ce.V) (w : World) : Calls Tryz.prog 65 #[.agg #[.int .u8 v.k, .int .i64 v.n]] w fun e w' => e = .returned (.bool (Ce.isValue v (-1))) ∧ Below w.heap.size w w' := by
  obtain ⟨k, n⟩ := v
  have hin := fun W => isInteger_any n W
  have HIN := Lib.hid hin
  clear hin
  unfold Ce.isValue
  dsimp only
  by_cases h0 : k = 0
  · subst h0
    rw [if_pos rfl]
    by_cases hn : n = 0
    · subst hn
      go_enter Tryz.func65, Tryz.ntmps65
      go_wp2
      go_ret
      exact ⟨rfl, (Below.refl _ _).alloc (Nat.le_refl _) _⟩
    · rw [decide_eq_false hn]
      have hn' : (n == 0) = false := beq_eq_false_iff_ne.2 hn
      go_enter Tryz.func65, Tryz.ntmps65
      go_wp2
      go_ret
      exact ⟨rfl, (Below.refl _ _).alloc (Nat.le_refl _) _⟩
  rw [if_neg h0]
  by_cases h1 : k = 1
  · subst h1
    rw [if_pos rfl]
    clear h0
    go_enter Tryz.func65, Tryz.ntmps65
    go_wp2_with fail
    refine (HIN.out _).mono ?_
    rintro e w1 ⟨rfl, rfl⟩
    go_wp2
    go_ret
    exact ⟨rfl, (Below.refl _ _).alloc (Nat.le_refl _) _⟩
  rw [if_neg h1]
  by_cases h2 : k = 2
  · subst h2
    rw [if_pos rfl]
    clear h0 h1
    by_cases hn : n = 0
    · subst hn
      go_enter Tryz.func65, Tryz.ntmps65
      go_wp2
      go_ret
      exact ⟨rfl, (Below.refl _ _).alloc (Nat.le_refl _) _⟩
    · have hn' : (n == 0) = false := beq_eq_false_iff_ne.2 hn
      rw [decide_eq_false hn, Bool.false_or]
      by_cases hm : n = 1
      · subst hm
        go_enter Tryz.func65, Tryz.ntmps65
        go_wp2
        go_ret
        exact ⟨rfl, (Below.refl _ _).alloc (Nat.le_refl _) _⟩
      · have hm' : (n == 1) = false := beq_eq_false_iff_ne.2 hm
        rw [decide_eq_false hm]
        go_enter Tryz.func65, Tryz.ntmps65
        go_wp2
        go_ret
        exact ⟨rfl, (Below.refl _ _).alloc (Nat.le_refl _) _⟩
  rw [if_neg h2]
  by_cases h3 : k = 3
  · subst h3
    rw [if_pos rfl]
    clear h0 h1 h2
    by_cases hn : n = 0
    · subst hn
      go_enter Tryz.func65, Tryz.ntmps65
      go_wp2
      go_ret
      exact ⟨rfl, (Below.refl _ _).alloc (Nat.le_refl _) _⟩
    · rw [decide_eq_false hn]
      have hn' : (n == 0) = false := beq_eq_false_iff_ne.2 hn
      go_enter Tryz.func65, Tryz.ntmps65
      go_wp2
      go_ret
      exact ⟨rfl, (Below.refl _ _).alloc (Nat.le_refl _) _⟩
  rw [if_neg h3]
  by_cases h4 : k = 4
  · subst h4
    rw [if_pos rfl]
    clear h0 h1 h2 h3
    by_cases hn : 0 ≤ n
    · rw [decide_eq_true hn, Bool.true_and, show (decide ((-1 : Int) < 0) || decide (n < -1)) = true from rfl]
      go_enter Tryz.func65, Tryz.ntmps65
      go_wp2
      go_ret
      exact ⟨rfl, (Below.refl _ _).alloc (Nat.le_refl _) _⟩
    · rw [decide_eq_false hn, Bool.false_and]
      go_enter Tryz.func65, Tryz.ntmps65
      go_wp2
      go_ret
      exact ⟨rfl, (Below.refl _ _).alloc (Nat.le_refl _) _⟩
  rw [if_neg h4]
  by_cases h5 : k = 5
  · subst h5
    rw [if_pos rfl]
    clear h0 h1 h2 h3 h4
    unfold Ce.inn
    by_cases hn : 1 ≤ n
    · rw [decide_eq_true hn, Bool.true_and]
      by_cases hl : n ≤ 5
      · rw [decide_eq_true hl]
        go_enter Tryz.func65, Tryz.ntmps65
        go_wp2
        go_ret
        exact ⟨rfl, (Below.refl _ _).alloc (Nat.le_refl _) _⟩
      · rw [decide_eq_false hl]
        go_enter Tryz.func65, Tryz.ntmps65
        go_wp2
        go_ret
        exact ⟨rfl, (Below.refl _ _).alloc (Nat.le_refl _) _⟩
    · rw [decide_eq_false hn, Bool.false_and]
      go_enter Tryz.func65, Tryz.ntmps65
      go_wp2
      go_ret
      exact ⟨rfl, (Below.refl _ _).alloc (Nat.le_refl _) _⟩
  rw [if_neg h5]
  have g0 : (k == 0) = false := beq_eq_false_iff_ne.2 h0
  have g1 : (k == 1) = false := beq_eq_false_iff_ne.2 h1
  have g2 : (k == 2) = false := beq_eq_false_iff_ne.2 h2
  have g3 : (k == 3) = false := beq_eq_false_iff_ne.2 h3
  have g4 : (k == 4) = false := beq_eq_false_iff_ne.2 h4
  have g5 : (k == 5) = false := beq_eq_false_iff_ne.2 h5
  clear h0 h1 h2 h3 h4 h5
  go_enter Tryz.func65, Tryz.ntmps65
  go_wp2
  go_ret
  exact ⟨rfl, (Below.refl _ _).alloc (Nat.le_refl _) _⟩

/-- a value that is a hole -/
def isHoleB (v : Ce.V) : Bool := v.k == 0 && v.n == 0
set_option maxHeartbeats 1000000 in
theorem isHole_any (v : Ce.V) (w : World) : Calls Tryz.prog 46 #[.agg #[.int .u8 v.k, .int .i64 v.n]] w fun e w' => e = .returned (.bool (isHoleB v)) ∧ Below w.heap.size w w' := by
  obtain ⟨k, n⟩ := v
  unfold isHoleB
  dsimp only
  by_cases h0 : k = 0
  · subst h0
    by_cases hn : n = 0
    · subst hn
      go_enter Tryz.func46, Tryz.ntmps46
      go_wp2
      go_ret
      exact ⟨rfl, (Below.refl _ _).alloc (Nat.le_refl _) _⟩
    · have hn' : (n == 0) = false := beq_eq_false_iff_ne.2 hn
      rw [hn']
      go_enter Tryz.func46, Tryz.ntmps46
      go_wp2
      go_ret
      exact ⟨rfl, (Below.refl _ _).alloc (Nat.le_refl _) _⟩
  · have h0' : (k == 0) = false := beq_eq_false_iff_ne.2 h0
    rw [h0']
    clear h0
    go_enter Tryz.func46, Tryz.ntmps46
    go_wp2
    go_ret
    exact ⟨rfl, (Below.refl _ _).alloc (Nat.le_refl _) _⟩
theorem isBad_any (v : Ce.V) (w : World) : Calls Tryz.prog 125 #[.agg #[.int .u8 v.k, .int .i64 v.n]] w fun e w' => e = .returned (.bool (v.k == 5)) ∧ Below w.heap.size w w' := by
  obtain ⟨k, n⟩ := v
  dsimp only
  generalize hq : (k == 5) = q
  have HQ := Lib.hid hq
  clear hq
  cases q with
  | true =>
    obtain rfl : k = 5 := by simpa using HQ.out
    go_enter Tryz.func125, Tryz.ntmps125
    go_wp2
    go_ret
    exact ⟨rfl, (Below.refl _ _).alloc (Nat.le_refl _) _⟩
  | false =>
    have h := HQ.out
    go_enter Tryz.func125, Tryz.ntmps125
    go_wp2
    go_ret
    exact ⟨rfl, (Below.refl _ _).alloc (Nat.le_refl _) _⟩

theorem bad_any (n : Int) (w : World) : Calls Tryz.prog 100 #[.int .i64 n] w fun e w' => e = .returned (.agg #[.int .u8 5, .int .i64 n]) ∧ Below w.heap.size w w' := by
  go_enter Tryz.func100, Tryz.ntmps100
  go_wp2
  refine bodyPost_ret (results_cell_row rfl _ _ w.heap.size 57 #[.int .u8 5, .int .i64 n] (0, 0) _ rfl (heap_alloc_new w _) Tryz.underlying57 rfl val_size) rfl ?_
  exact ⟨rfl, (Below.refl _ _).alloc (Nat.le_refl _) _⟩
theorem ref_any (n : Int) (w : World) : Calls Tryz.prog 87 #[.int .i64 n] w fun e w' => e = .returned (.agg #[.int .u8 4, .int .i64 n]) ∧ Below w.heap.size w w' := by
  go_enter Tryz.func87, Tryz.ntmps87
  go_wp2
  refine bodyPost_ret (results_cell_row rfl _ _ w.heap.size 57 #[.int .u8 4, .int .i64 n] (0, 0) _ rfl (heap_alloc_new w _) Tryz.underlying57 rfl val_size) rfl ?_
  exact ⟨rfl, (Below.refl _ _).alloc (Nat.le_refl _) _⟩
theorem empty_any (w : World) : Calls Tryz.prog 59 #[] w fun e w' => e = .returned (.agg #[.int .u8 3, .int .i64 0]) ∧ Below w.heap.size w w' := by
  go_enter Tryz.func59, Tryz.ntmps59
  go_wp2
  refine bodyPost_ret (results_cell_row rfl _ _ w.heap.size 57 #[.int .u8 3, .int .i64 0] (0, 0) _ rfl (heap_alloc_new w _) Tryz.underlying57 rfl val_size) rfl ?_
  exact ⟨rfl, (Below.refl _ _).alloc (Nat.le_refl _) _⟩
theorem boolean_any (b : Bool) (w : World) : Calls Tryz.prog 90 #[.bool b] w fun e w' => e = .returned (.agg #[.int .u8 2, .int .i64 (Ce.vbool b).n]) ∧ Below w.heap.size w w' := by
  cases b with
  | true =>
    go_enter Tryz.func90, Tryz.ntmps90
    go_wp2
    refine bodyPost_ret (results_cell_row rfl _ _ w.heap.size 57 #[.int .u8 2, .int .i64 1] (0, 0) _ rfl (heap_alloc_new w _) Tryz.underlying57 rfl val_size) rfl ?_
    exact ⟨rfl, (Below.refl _ _).alloc (Nat.le_refl _) _⟩
  | false =>
    go_enter Tryz.func90, Tryz.ntmps90
    go_wp2
    refine bodyPost_ret (results_cell_row rfl _ _ w.heap.size 57 #[.int .u8 2, .int .i64 0] (0, 0) _ rfl (heap_alloc_new w _) Tryz.underlying57 rfl val_size) rfl ?_
    exact ⟨rfl, (Below.refl _ _).alloc (Nat.le_refl _) _⟩
set_option maxHeartbeats 1000000 in
theorem integer_any (n : Int) (w : World) : Calls Tryz.prog 88 #[.int .i64 n] w fun e w' => e = .returned (.agg #[.int .u8 (Ce.ranged n).k, .int .i64 (Ce.ranged n).n]) ∧ Below w.heap.size w w' := by
  have hin := fun W => isInteger_any n W
  have HBAD := Lib.hid (fun W => bad_any 2 W)
  unfold Ce.ranged
  generalize hq : Ce.inn n (-1000000000) 1000000000 = q at *
  have HIN := Lib.hid hin
  clear hin hq
  have HB : Hid (Below w.heap.size w (w.alloc (.cells #[.int .u8 0, .int .i64 0] 57))) := Lib.hid ((Below.refl _ _).alloc (Nat.le_refl _) _)
  cases q with
  | true =>
    go_enter Tryz.func88, Tryz.ntmps88
    go_wp2_with fail
    refine (HIN.out _).mono ?_
    rintro e w1 ⟨rfl, rfl⟩
    go_wp2
    refine bodyPost_ret (results_cell_row rfl _ _ w.heap.size 57 #[.int .u8 1, .int .i64 n] (0, 0) _ rfl (heap_alloc_new w _) Tryz.underlying57 rfl val_size) rfl ?_
    exact ⟨rfl, (Below.refl _ _).alloc (Nat.le_refl _) _⟩
  | false =>
    have HZ := Lib.hid (Blk.new w 57 #[.int .u8 0, .int .i64 0])
    go_enter Tryz.func88, Tryz.ntmps88
    go_wp2_with fail
    refine (HIN.out _).mono ?_
    rintro e w1 ⟨rfl, rfl⟩
    go_wp2_with fail
    refine (HBAD.out _).mono ?_
    rintro e w1 ⟨rfl, hb1⟩
    have HZ1 := Lib.hid (HZ.out.below hb1)
    have z0 := HZ1.out.cell 0
    have z1 := HZ1.out.cell 1
    have zf0 := HZ1.out.frozen 0
    have zf1 := HZ1.out.frozen 1
    dsimp at z0 z1
    have HB1 := Lib.hid (HB.out.trans (hb1.mono HB.out.size))
    clear hb1
    go_wp2
    refine bodyPost_ret (results_cell_row rfl _ _ w.heap.size 57 #[.int .u8 5, .int .i64 2] (0, 0) _ rfl ((HZ1.out.set_ 0 _).set_ 1 _) Tryz.underlying57 rfl val_size) rfl ?_
    exact ⟨rfl, (HB1.out.setCell (by simp) _).setCell (by simp) _⟩
end Go.Proofs.YtjldkndalcellaaGreatDoor

namespace Go.Proofs.YtjldkndalcellaaGreatDoor
open Go.RowKit Go.El

set_option maxHeartbeats 1000000 in
theorem val_not1 (x : Ce.V) (g : Nat) (lb : Array Value) (eg : ∀ args w, (callFunc g args).run Tryz.prog w = .ok (.enter g args) w) (bb : Nat) (q : Bool) (w : World) (hbx : w.cell? ⟨bb, 0, none⟩ = some (.func (.func g) #[] lb))
    (hp : ∀ W, Below w.heap.size w W → Calls Tryz.prog g (#[.agg #[.int .u8 x.k, .int .i64 x.n]] ++ lb) W fun e w' => e = .returned (.bool q) ∧ Below W.heap.size W w') :
    Calls Tryz.prog 103 #[.agg #[.int .u8 x.k, .int .i64 x.n], .pointer (some ⟨bb, 0, none⟩)] w fun e w' => e = .returned (.bool !q) ∧ Below w.heap.size w w' := by
  have HB : Hid (Below w.heap.size w (w.alloc (.cells #[.int .u8 x.k, .int .i64 x.n] 57))) := Lib.hid ((Below.refl _ _).alloc (Nat.le_refl _) _)
  have x0 := (Stay.cell hbx).alloc (.cells #[.int .u8 x.k, .int .i64 x.n] 57) _ (Below.refl _ _)
  have hcall := hp _ HB.out
  clear hp hbx
  cases q with
  | true =>
    go_enter Tryz.func103, Tryz.ntmps103
    go_wp2_with (go_at_fn g; refine hcall.mono ?_; rintro e w' ⟨rfl, hb'⟩)
    go_ret
    exact ⟨rfl, HB.out.trans (hb'.mono HB.out.size)⟩
  | false =>
    go_enter Tryz.func103, Tryz.ntmps103
    go_wp2_with (go_at_fn g; refine hcall.mono ?_; rintro e w' ⟨rfl, hb'⟩)
    go_ret
    exact ⟨rfl, HB.out.trans (hb'.mono HB.out.size)⟩
set_option maxHeartbeats 1000000 in
theorem val_all (l : List Ce.V) (hl : l.length ≤ 1000000) (A : Option Addr) (cap : Nat) (p : Ce.V → Bool) (g : Nat) (lb : Array Value) (eg : ∀ args w, (callFunc g args).run Tryz.prog w = .ok (.enter g args) w) (w : World) (h : ValE.Arg w A l)
    (hp : ∀ x ∈ l, ∀ W, Below w.heap.size w W → Calls Tryz.prog g (#[.agg #[.int .u8 x.k, .int .i64 x.n]] ++ lb) W fun e w' => e = .returned (.bool (p x)) ∧ Below W.heap.size W w') :
    Calls Tryz.prog 64 #[.slice A l.length cap, .func (.func g) #[] lb] w fun e w' => e = .returned (.bool (l.all p)) ∧ Below w.heap.size w w' := by
  have HB : Hid (Below w.heap.size w (w.alloc (.cells #[.func (.func g) #[] lb] 83))) := Lib.hid ((Below.refl _ _).alloc (Nat.le_refl _) _)
  have sb := box1 (W := w) (v := .func (.func g) #[] lb) (t := 83)
  have hc := val_contains l hl A cap (fun x => !p x) 103 #[.pointer (some ⟨w.heap.size, 0, none⟩)] (enters_of Tryz.func103 (by kernel_rfl) rfl) (w.alloc (.cells #[.func (.func g) #[] lb] 83)) (h.below HB.out)
    (fun x hx W hb => val_not1 x g lb eg w.heap.size (p x) W (sb W hb) (fun W2 hb2 => hp x hx W2 ((HB.out.trans (hb.mono HB.out.size)).trans (hb2.mono (HB.out.trans (hb.mono HB.out.size)).size))))
  rw [← Ce.not_any_not]
  generalize l.any (fun x => !p x) = q at *
  have HC := Lib.hid hc
  clear hc h hp eg sb
  cases q with
  | true =>
    go_enter Tryz.func64, Tryz.ntmps64
    go_wp2_with fail
    refine HC.out.mono ?_
    rintro e w1 ⟨rfl, hb1⟩
    go_wp2
    go_ret
    exact ⟨rfl, HB.out.trans (hb1.mono HB.out.size)⟩
  | false =>
    go_enter Tryz.func64, Tryz.ntmps64
    go_wp2_with fail
    refine HC.out.mono ?_
    rintro e w1 ⟨rfl, hb1⟩
    go_wp2
    go_ret
    exact ⟨rfl, HB.out.trans (hb1.mono HB.out.size)⟩

set_option maxHeartbeats 1000000 in
theorem st_not1 (x : ((Sl × Sl) × Ce.St)) (g : Nat) (lb : Array Value) (eg : ∀ args w, (callFunc g args).run Tryz.prog w = .ok (.enter g args) w) (bb : Nat) (q : Bool) (w : World) (hbx : w.cell? ⟨bb, 0, none⟩ = some (.func (.func g) #[] lb))
    (hp : ∀ W, Below w.heap.size w W → Calls Tryz.prog g (#[.agg #[.slice x.1.1.A x.1.1.n x.1.1.c, .slice x.1.2.A x.1.2.n x.1.2.c]] ++ lb) W fun e w' => e = .returned (.bool q) ∧ Below W.heap.size W w') :
    Calls Tryz.prog 116 #[.agg #[.slice x.1.1.A x.1.1.n x.1.1.c, .slice x.1.2.A x.1.2.n x.1.2.c], .pointer (some ⟨bb, 0, none⟩)] w fun e w' => e = .returned (.bool !q) ∧ Below w.heap.size w w' := by
  have HB : Hid (Below w.heap.size w (w.alloc (.cells #[.slice x.1.1.A x.1.1.n x.1.1.c, .slice x.1.2.A x.1.2.n x.1.2.c] 61))) := Lib.hid ((Below.refl _ _).alloc (Nat.le_refl _) _)
  have x0 := (Stay.cell hbx).alloc (.cells #[.slice x.1.1.A x.1.1.n x.1.1.c, .slice x.1.2.A x.1.2.n x.1.2.c] 61) _ (Below.refl _ _)
  have hcall := hp _ HB.out
  clear hp hbx
  cases q with
  | true =>
    go_enter Tryz.func116, Tryz.ntmps116
    go_wp2_with (go_at_fn g; refine hcall.mono ?_; rintro e w' ⟨rfl, hb'⟩)
    go_ret
    exact ⟨rfl, HB.out.trans (hb'.mono HB.out.size)⟩
  | false =>
    go_enter Tryz.func116, Tryz.ntmps116
    go_wp2_with (go_at_fn g; refine hcall.mono ?_; rintro e w' ⟨rfl, hb'⟩)
    go_ret
    exact ⟨rfl, HB.out.trans (hb'.mono HB.out.size)⟩
set_option maxHeartbeats 1000000 in
theorem st_all (l : List ((Sl × Sl) × Ce.St)) (hl : l.length ≤ 1000000) (A : Option Addr) (cap : Nat) (p : ((Sl × Sl) × Ce.St) → Bool) (g : Nat) (lb : Array Value) (eg : ∀ args w, (callFunc g args).run Tryz.prog w = .ok (.enter g args) w) (w : World) (h : StE2.Arg w A l)
    (hp : ∀ x ∈ l, ∀ W, Below w.heap.size w W → Calls Tryz.prog g (#[.agg #[.slice x.1.1.A x.1.1.n x.1.1.c, .slice x.1.2.A x.1.2.n x.1.2.c]] ++ lb) W fun e w' => e = .returned (.bool (p x)) ∧ Below W.heap.size W w') :
    Calls Tryz.prog 73 #[.slice A l.length cap, .func (.func g) #[] lb] w fun e w' => e = .returned (.bool (l.all p)) ∧ Below w.heap.size w w' := by
  have HB : Hid (Below w.heap.size w (w.alloc (.cells #[.func (.func g) #[] lb] 124))) := Lib.hid ((Below.refl _ _).alloc (Nat.le_refl _) _)
  have sb := box1 (W := w) (v := .func (.func g) #[] lb) (t := 124)
  have hc := st_contains l hl A cap (fun x => !p x) 116 #[.pointer (some ⟨w.heap.size, 0, none⟩)] (enters_of Tryz.func116 (by kernel_rfl) rfl) (w.alloc (.cells #[.func (.func g) #[] lb] 124)) (h.below HB.out)
    (fun x hx W hb => st_not1 x g lb eg w.heap.size (p x) W (sb W hb) (fun W2 hb2 => hp x hx W2 ((HB.out.trans (hb.mono HB.out.size)).trans (hb2.mono (HB.out.trans (hb.mono HB.out.size)).size))))
  rw [← Ce.not_any_not]
  generalize l.any (fun x => !p x) = q at *
  have HC := Lib.hid hc
  clear hc h hp eg sb
  cases q with
  | true =>
    go_enter Tryz.func73, Tryz.ntmps73
    go_wp2_with fail
    refine HC.out.mono ?_
    rintro e w1 ⟨rfl, hb1⟩
    go_wp2
    go_ret
    exact ⟨rfl, HB.out.trans (hb1.mono HB.out.size)⟩
  | false =>
    go_enter Tryz.func73, Tryz.ntmps73
    go_wp2_with fail
    refine HC.out.mono ?_
    rintro e w1 ⟨rfl, hb1⟩
    go_wp2
    go_ret
    exact ⟨rfl, HB.out.trans (hb1.mono HB.out.size)⟩

set_option maxHeartbeats 1000000 in
theorem rd_not1 (x : Ce.Rd) (g : Nat) (lb : Array Value) (eg : ∀ args w, (callFunc g args).run Tryz.prog w = .ok (.enter g args) w) (bb : Nat) (q : Bool) (w : World) (hbx : w.cell? ⟨bb, 0, none⟩ = some (.func (.func g) #[] lb))
    (hp : ∀ W, Below w.heap.size w W → Calls Tryz.prog g (#[.agg #[.int .i64 x.cell, .int .i64 x.who]] ++ lb) W fun e w' => e = .returned (.bool q) ∧ Below W.heap.size W w') :
    Calls Tryz.prog 137 #[.agg #[.int .i64 x.cell, .int .i64 x.who], .pointer (some ⟨bb, 0, none⟩)] w fun e w' => e = .returned (.bool !q) ∧ Below w.heap.size w w' := by
  have HB : Hid (Below w.heap.size w (w.alloc (.cells #[.int .i64 x.cell, .int .i64 x.who] 86))) := Lib.hid ((Below.refl _ _).alloc (Nat.le_refl _) _)
  have x0 := (Stay.cell hbx).alloc (.cells #[.int .i64 x.cell, .int .i64 x.who] 86) _ (Below.refl _ _)
  have hcall := hp _ HB.out
  clear hp hbx
  cases q with
  | true =>
    go_enter Tryz.func137, Tryz.ntmps137
    go_wp2_with (go_at_fn g; refine hcall.mono ?_; rintro e w' ⟨rfl, hb'⟩)
    go_ret
    exact ⟨rfl, HB.out.trans (hb'.mono HB.out.size)⟩
  | false =>
    go_enter Tryz.func137, Tryz.ntmps137
    go_wp2_with (go_at_fn g; refine hcall.mono ?_; rintro e w' ⟨rfl, hb'⟩)
    go_ret
    exact ⟨rfl, HB.out.trans (hb'.mono HB.out.size)⟩
set_option maxHeartbeats 1000000 in
theorem rd_all (l : List Ce.Rd) (hl : l.length ≤ 1000000) (A : Option Addr) (cap : Nat) (p : Ce.Rd → Bool) (g : Nat) (lb : Array Value) (eg : ∀ args w, (callFunc g args).run Tryz.prog w = .ok (.enter g args) w) (w : World) (h : RdE.Arg w A l)
    (hp : ∀ x ∈ l, ∀ W, Below w.heap.size w W → Calls Tryz.prog g (#[.agg #[.int .i64 x.cell, .int .i64 x.who]] ++ lb) W fun e w' => e = .returned (.bool (p x)) ∧ Below W.heap.size W w') :
    Calls Tryz.prog 118 #[.slice A l.length cap, .func (.func g) #[] lb] w fun e w' => e = .returned (.bool (l.all p)) ∧ Below w.heap.size w w' := by
  have HB : Hid (Below w.heap.size w (w.alloc (.cells #[.func (.func g) #[] lb] 150))) := Lib.hid ((Below.refl _ _).alloc (Nat.le_refl _) _)
  have sb := box1 (W := w) (v := .func (.func g) #[] lb) (t := 150)
  have hc := rd_contains l hl A cap (fun x => !p x) 137 #[.pointer (some ⟨w.heap.size, 0, none⟩)] (enters_of Tryz.func137 (by kernel_rfl) rfl) (w.alloc (.cells #[.func (.func g) #[] lb] 150)) (h.below HB.out)
    (fun x hx W hb => rd_not1 x g lb eg w.heap.size (p x) W (sb W hb) (fun W2 hb2 => hp x hx W2 ((HB.out.trans (hb.mono HB.out.size)).trans (hb2.mono (HB.out.trans (hb.mono HB.out.size)).size))))
  rw [← Ce.not_any_not]
  generalize l.any (fun x => !p x) = q at *
  have HC := Lib.hid hc
  clear hc h hp eg sb
  cases q with
  | true =>
    go_enter Tryz.func118, Tryz.ntmps118
    go_wp2_with fail
    refine HC.out.mono ?_
    rintro e w1 ⟨rfl, hb1⟩
    go_wp2
    go_ret
    exact ⟨rfl, HB.out.trans (hb1.mono HB.out.size)⟩
  | false =>
    go_enter Tryz.func118, Tryz.ntmps118
    go_wp2_with fail
    refine HC.out.mono ?_
    rintro e w1 ⟨rfl, hb1⟩
    go_wp2
    go_ret
    exact ⟨rfl, HB.out.trans (hb1.mono HB.out.size)⟩

set_option maxHeartbeats 1000000 in
theorem num_not1 (x : Int) (g : Nat) (lb : Array Value) (eg : ∀ args w, (callFunc g args).run Tryz.prog w = .ok (.enter g args) w) (bb : Nat) (q : Bool) (w : World) (hbx : w.cell? ⟨bb, 0, none⟩ = some (.func (.func g) #[] lb))
    (hp : ∀ W, Below w.heap.size w W → Calls Tryz.prog g (#[.int .i64 x] ++ lb) W fun e w' => e = .returned (.bool q) ∧ Below W.heap.size W w') :
    Calls Tryz.prog 86 #[.int .i64 x, .pointer (some ⟨bb, 0, none⟩)] w fun e w' => e = .returned (.bool !q) ∧ Below w.heap.size w w' := by
  have HB : Hid (Below w.heap.size w w) := Lib.hid (Below.refl _ _)
  have x0 := hbx
  have hcall := hp _ HB.out
  clear hp hbx
  cases q with
  | true =>
    go_enter Tryz.func86, Tryz.ntmps86
    go_wp2_with (go_at_fn g; refine hcall.mono ?_; rintro e w' ⟨rfl, hb'⟩)
    go_ret
    exact ⟨rfl, HB.out.trans (hb'.mono HB.out.size)⟩
  | false =>
    go_enter Tryz.func86, Tryz.ntmps86
    go_wp2_with (go_at_fn g; refine hcall.mono ?_; rintro e w' ⟨rfl, hb'⟩)
    go_ret
    exact ⟨rfl, HB.out.trans (hb'.mono HB.out.size)⟩
set_option maxHeartbeats 1000000 in
theorem num_all (l : List Int) (hl : l.length ≤ 1000000) (A : Option Addr) (cap : Nat) (p : Int → Bool) (g : Nat) (lb : Array Value) (eg : ∀ args w, (callFunc g args).run Tryz.prog w = .ok (.enter g args) w) (w : World) (h : IntE.Arg w A l)
    (hp : ∀ x ∈ l, ∀ W, Below w.heap.size w W → Calls Tryz.prog g (#[.int .i64 x] ++ lb) W fun e w' => e = .returned (.bool (p x)) ∧ Below W.heap.size W w') :
    Calls Tryz.prog 57 #[.slice A l.length cap, .func (.func g) #[] lb] w fun e w' => e = .returned (.bool (l.all p)) ∧ Below w.heap.size w w' := by
  have HB : Hid (Below w.heap.size w (w.alloc (.cells #[.func (.func g) #[] lb] 94))) := Lib.hid ((Below.refl _ _).alloc (Nat.le_refl _) _)
  have sb := box1 (W := w) (v := .func (.func g) #[] lb) (t := 94)
  have hc := num_contains l hl A cap (fun x => !p x) 86 #[.pointer (some ⟨w.heap.size, 0, none⟩)] (enters_of Tryz.func86 (by kernel_rfl) rfl) (w.alloc (.cells #[.func (.func g) #[] lb] 94)) (h.below HB.out)
    (fun x hx W hb => num_not1 x g lb eg w.heap.size (p x) W (sb W hb) (fun W2 hb2 => hp x hx W2 ((HB.out.trans (hb.mono HB.out.size)).trans (hb2.mono (HB.out.trans (hb.mono HB.out.size)).size))))
  rw [← Ce.not_any_not]
  generalize l.any (fun x => !p x) = q at *
  have HC := Lib.hid hc
  clear hc h hp eg sb
  cases q with
  | true =>
    go_enter Tryz.func57, Tryz.ntmps57
    go_wp2_with fail
    refine HC.out.mono ?_
    rintro e w1 ⟨rfl, hb1⟩
    go_wp2
    go_ret
    exact ⟨rfl, HB.out.trans (hb1.mono HB.out.size)⟩
  | false =>
    go_enter Tryz.func57, Tryz.ntmps57
    go_wp2_with fail
    refine HC.out.mono ?_
    rintro e w1 ⟨rfl, hb1⟩
    go_wp2
    go_ret
    exact ⟨rfl, HB.out.trans (hb1.mono HB.out.size)⟩

end Go.Proofs.YtjldkndalcellaaGreatDoor

namespace Ce
/-- the first VBad of values, a new one if there is none -/
def firstBad (l : List V) (fault : Int) : V := (l.find? fun v => v.k == 5).getD (vbad fault)
theorem isValue_split (v : V) (n : Nat) : isValue v n = (isValue v (-1) && (!(v.k == 4) || decide (v.n < n))) := by
  unfold isValue
  by_cases h4 : v.k = 4
  · rw [if_neg (by omega), if_neg (by omega), if_neg (by omega), if_neg (by omega), if_pos h4, if_neg (by omega), if_neg (by omega), if_neg (by omega), if_neg (by omega), if_pos h4]
    simp only [h4, show decide ((n : Int) < 0) = false from decide_eq_false (by omega)]
    simp
  · have : (v.k == 4) = false := beq_eq_false_iff_ne.2 h4
    rw [this, if_neg h4, if_neg h4]
    simp
end Ce
namespace Go.Proofs.YtjldkndalcellaaGreatDoor
open Go.RowKit Go.El

set_option maxRecDepth 100000 in
set_option maxHeartbeats 1000000 in
theorem wrong_any (f : Int) (l : List Ce.V) (hl : l.length ≤ 1000000) (A : Option Addr) (cap : Nat) (w : World) (h : ValE.Arg w A l) :
    Calls Tryz.prog 106 #[.int .i64 f, .slice A l.length cap] w fun e w' => e = .returned (.agg #[.int .u8 (Ce.firstBad l f).k, .int .i64 (Ce.firstBad l f).n]) ∧ Below w.heap.size w w' := by
  have HB : Hid (Below w.heap.size w (w.alloc (.cells #[.int .u8 0, .int .i64 0] 57))) := Lib.hid ((Below.refl _ _).alloc (Nat.le_refl _) _)
  have HZ := Lib.hid (Blk.new w 57 #[.int .u8 0, .int .i64 0])
  have hc := val_index l hl A cap (fun v => v.k == 5) 125 #[] (enters_of Tryz.func125 (by kernel_rfl) rfl) (w.alloc (.cells #[.int .u8 0, .int .i64 0] 57)) (h.below HB.out) (fun x _ W _ => isBad_any x W)
  have hf := Ce.idxK_find (fun v : Ce.V => v.k == 5) l 0
  unfold Ce.firstBad
  cases hR : Ce.idxK (fun v : Ce.V => v.k == 5) l 0 with
  | none =>
    rw [hR] at hc hf
    rw [show l.find? (fun v => v.k == 5) = none from hf]
    have HC : Hid _ := Lib.hid hc
    have HBAD := Lib.hid (fun W => bad_any f W)
    clear hc hf hR h
    go_enter Tryz.func106, Tryz.ntmps106
    go_wp2_with fail
    refine HC.out.mono ?_
    rintro e w1 ⟨rfl, hb1⟩
    unfold optV
    have HZ1 := Lib.hid (HZ.out.below hb1)
    have HB1 := Lib.hid (HB.out.trans (hb1.mono HB.out.size))
    clear hb1 HZ HB
    go_wp2_with fail
    refine (HBAD.out _).mono ?_
    rintro e w2 ⟨rfl, hb2⟩
    have HZ2 := Lib.hid (HZ1.out.below hb2)
    have HB2 := Lib.hid (HB1.out.trans (hb2.mono HB1.out.size))
    clear hb2
    have z0 := HZ2.out.cell 0
    have z1 := HZ2.out.cell 1
    have zf0 := HZ2.out.frozen 0
    have zf1 := HZ2.out.frozen 1
    dsimp at z0 z1
    go_wp2
    refine bodyPost_ret (results_cell_row rfl _ _ w.heap.size 57 #[.int .u8 5, .int .i64 f] (0, 0) _ rfl ((HZ2.out.set_ 0 _).set_ 1 _) Tryz.underlying57 rfl val_size) rfl ?_
    exact ⟨rfl, (HB2.out.setCell (by simp) _).setCell (by simp) _⟩
  | some n =>
    rw [hR] at hc hf
    obtain ⟨_, h2, x, h3, h4⟩ := hf
    rw [h4]
    simp only [Nat.sub_zero, Nat.zero_add] at h2 h3
    have HC : Hid _ := Lib.hid hc
    obtain ⟨b, o, rfl, hin, hbl⟩ := h.at_lt h2
    obtain ⟨x0, x1⟩ := ValE.at2 hin h3
    have SX := Lib.hid (((Stay.cell x0).and (Stay.cell x1)).alloc (.cells #[.int .u8 0, .int .i64 0] 57))
    have hn0 : 0 ≤ (n : Int) := by omega
    have hn1 : (n : Int) < l.length := by omega
    clear hc hR h hin h3 h4 x0 x1
    go_enter Tryz.func106, Tryz.ntmps106
    go_wp2_with fail
    refine HC.out.mono ?_
    rintro e w1 ⟨rfl, hb1⟩
    unfold optV
    have HZ2 := Lib.hid (HZ.out.below hb1)
    have HB2 := Lib.hid (HB.out.trans (hb1.mono HB.out.size))
    obtain ⟨x0, x1⟩ := SX.out _ hb1
    have hne : w.heap.size ≠ b := by omega
    have hne2 : b ≠ w.heap.size := by omega
    clear hb1 HZ HB
    have z0 := HZ2.out.cell 0
    have z1 := HZ2.out.cell 1
    have zf0 := HZ2.out.frozen 0
    have zf1 := HZ2.out.frozen 1
    dsimp at z0 z1
    go_wp2
    refine bodyPost_ret (results_cell_row rfl _ _ w.heap.size 57 #[.int .u8 x.k, .int .i64 x.n] (0, 0) _ rfl ((HZ2.out.set_ 0 _).set_ 1 _) Tryz.underlying57 rfl val_size) rfl ?_
    exact ⟨rfl, (HB2.out.setCell (by simp) _).setCell (by simp) _⟩

set_option maxRecDepth 100000 in
set_option maxHeartbeats 1000000 in
/-- a value is one of a memory, the memory's box at hand -/
theorem has1_any (v : Ce.V) (m : Nat) (A : Option Addr) (c g : Nat) (w : World) (hg : w.cell? ⟨g, 0, none⟩ = some (.slice A m c)) :
    Calls Tryz.prog 119 #[.agg #[.int .u8 v.k, .int .i64 v.n], .pointer (some ⟨g, 0, none⟩)] w fun e w' => e = .returned (.bool (Ce.isValue v m)) ∧ Below w.heap.size w w' := by
  have HB : Hid (Below w.heap.size w (w.alloc (.cells #[.int .u8 v.k, .int .i64 v.n] 57))) := Lib.hid ((Below.refl _ _).alloc (Nat.le_refl _) _)
  have SX := Lib.hid (((Stay.cell hg).alloc (.cells #[.int .u8 v.k, .int .i64 v.n] 57)).and (box2 (W := w) (v := .int .u8 v.k) (u := .int .i64 v.n) (t := 57)))
  have hcall := cIsValue_any v (w.alloc (.cells #[.int .u8 v.k, .int .i64 v.n] 57))
  rw [Ce.isValue_split]
  generalize Ce.isValue v (-1) = q at *
  obtain ⟨k, n⟩ := v
  dsimp only at *
  have HC := Lib.hid hcall
  clear hcall hg
  cases q with
  | false =>
    go_enter Tryz.func119, Tryz.ntmps119
    go_wp2_with fail
    refine HC.out.mono ?_
    rintro e w1 ⟨rfl, hb1⟩
    have HB1 := Lib.hid (HB.out.trans (hb1.mono HB.out.size))
    clear hb1
    go_wp2
    go_ret
    exact ⟨rfl, HB1.out⟩
  | true =>
    rw [Bool.true_and]
    by_cases hk : k = 4
    · subst hk
      rw [show (!((4 : Int) == 4)) = false from rfl, Bool.false_or]
      by_cases hn : n < m
      · rw [decide_eq_true hn]
        go_enter Tryz.func119, Tryz.ntmps119
        go_wp2_with fail
        refine HC.out.mono ?_
        rintro e w1 ⟨rfl, hb1⟩
        have HB1 := Lib.hid (HB.out.trans (hb1.mono HB.out.size))
        obtain ⟨x2, x0, x1⟩ := SX.out _ hb1
        clear hb1
        go_wp2
        go_ret
        exact ⟨rfl, HB1.out⟩
      · have hn' : decide (n < (m : Int)) = false := decide_eq_false hn
        rw [hn']
        go_enter Tryz.func119, Tryz.ntmps119
        go_wp2_with fail
        refine HC.out.mono ?_
        rintro e w1 ⟨rfl, hb1⟩
        have HB1 := Lib.hid (HB.out.trans (hb1.mono HB.out.size))
        obtain ⟨x2, x0, x1⟩ := SX.out _ hb1
        clear hb1
        go_wp2
        go_ret
        exact ⟨rfl, HB1.out⟩
    · have hk' : (k == 4) = false := beq_eq_false_iff_ne.2 hk
      have hk2 : (k != 4) = true := by rw [bne, hk']; rfl
      rw [hk', show (!false || decide (n < (m : Int))) = true from rfl]
      clear hk
      go_enter Tryz.func119, Tryz.ntmps119
      go_wp2_with fail
      refine HC.out.mono ?_
      rintro e w1 ⟨rfl, hb1⟩
      have HB1 := Lib.hid (HB.out.trans (hb1.mono HB.out.size))
      obtain ⟨x2, x0, x1⟩ := SX.out _ hb1
      clear hb1
      go_wp2
      go_ret
      exact ⟨rfl, HB1.out⟩

set_option maxHeartbeats 1000000 in
theorem has_any (m : Nat) (B : Option Addr) (c : Nat) (l : List Ce.V) (hl : l.length ≤ 1000000) (A : Option Addr) (cap : Nat) (w : World) (h : ValE.Arg w A l) :
    Calls Tryz.prog 77 #[.agg #[.slice B m c], .slice A l.length cap] w fun e w' => e = .returned (.bool (Ce.areValues l m)) ∧ Below w.heap.size w w' := by
  have HB : Hid (Below w.heap.size w (w.alloc (.cells #[.slice B m c] 24))) := Lib.hid ((Below.refl _ _).alloc (Nat.le_refl _) _)
  have sb := box1 (W := w) (v := .slice B m c) (t := 24)
  have hc := val_all l hl A cap (fun v => Ce.isValue v m) 119 #[.pointer (some ⟨w.heap.size, 0, none⟩)] (enters_of Tryz.func119 (by kernel_rfl) rfl) _ (h.below HB.out) (fun x _ W hb => has1_any x m B c w.heap.size W (sb W hb))
  unfold Ce.areValues
  generalize (l.all fun v => Ce.isValue v m) = q at *
  have HC := Lib.hid hc
  clear hc h sb
  go_enter Tryz.func77, Tryz.ntmps77
  go_wp2_with fail
  refine HC.out.mono ?_
  rintro e w1 ⟨rfl, hb1⟩
  go_wp2
  go_ret
  exact ⟨rfl, HB.out.trans (hb1.mono HB.out.size)⟩
end Go.Proofs.YtjldkndalcellaaGreatDoor
