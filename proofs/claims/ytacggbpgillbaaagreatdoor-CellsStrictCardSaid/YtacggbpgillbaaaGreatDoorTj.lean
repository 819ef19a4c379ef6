/- Layer 6, the program: the result of an operation. -/
import Derived.Test.YtacggbpgillbaaaGreatDoorTi
namespace Ce
/-- the result of an operation of some kinds, by its function -/
def resultV (ks : List Int) (g : Int → Int → V) (l : List V) : V :=
  if l.any Go.Proofs.YtacggbpgillbaaaGreatDoor.isHoleB then hole
  else if ks.any (fun x => (l.headD hole).k == x) && l.all (fun v => v.k == (l.headD hole).k) then g (l.headD hole).n (if 1 < l.length then (l.getD 1 hole).n else 0)
  else firstBad l 5
end Ce
namespace Go.Proofs.YtacggbpgillbaaaGreatDoor
open Go.RowKit Go.El

set_option maxRecDepth 100000 in
set_option maxHeartbeats 2000000 in
theorem result_hole (n : Int) (ks : List Int) (F g : Nat) (l : List Ce.V) (hl : l.length ≤ 100) (A : Option Addr) (cap : Nat) (w : World) (h : ValE.Arg w A l) (hh : l.any isHoleB = true) :
    Calls Tryz.prog 73 #[.agg #[.int .i64 n, .slice (some ⟨g, 0, none⟩) ks.length ks.length, .func (.func F) #[] #[]], .slice A l.length cap] w fun e w' => e = .returned (.agg #[.int .u8 0, .int .i64 0]) ∧ Below w.heap.size w w' := by
  have HB : Hid (Below w.heap.size w ((w.alloc (.cells #[.int .i64 n, .slice (some ⟨g, 0, none⟩) ks.length ks.length, .func (.func F) #[] #[]] 111)).alloc (.cells #[.int .u8 0, .int .i64 0] 26))) := Lib.hid (((Below.refl _ _).alloc (Nat.le_refl _) _).alloc (by simp) _)
  have HZ := Lib.hid (Blk.new (w.alloc (.cells #[.int .i64 n, .slice (some ⟨g, 0, none⟩) ks.length ks.length, .func (.func F) #[] #[]] 111)) 26 #[.int .u8 0, .int .i64 0])
  simp only [World.size_alloc] at HZ
  have hc := val_contains l (by omega) A cap isHoleB 77 #[] (enters_of Tryz.func77 (by kernel_rfl) rfl) _ (h.below HB.out) (fun x _ W _ => isHole_any x W)
  rw [hh] at hc
  have HC := Lib.hid hc
  clear hc h hh
  go_enter Tryz.func73, Tryz.ntmps73
  go_wp2_with fail
  refine HC.out.mono ?_
  rintro e w1 ⟨rfl, hb1⟩
  have HZ1 := Lib.hid (HZ.out.below hb1)
  have HB1 := Lib.hid (HB.out.trans (hb1.mono HB.out.size))
  have z0 := HZ1.out.cell 0
  have z1 := HZ1.out.cell 1
  have zf0 := HZ1.out.frozen 0
  have zf1 := HZ1.out.frozen 1
  dsimp at z0 z1
  clear hb1
  go_wp2
  refine bodyPost_ret (results_cell_row rfl _ _ (w.heap.size + 1) 26 #[.int .u8 0, .int .i64 0] (0, 0) _ rfl ((HZ1.out.set_ 0 _).set_ 1 _) Tryz.underlying26 rfl val_size) rfl ?_
  exact ⟨rfl, (HB1.out.setCell (by simp) _).setCell (by simp) _⟩

set_option maxRecDepth 100000 in
set_option maxHeartbeats 4000000 in
theorem result_wrong (n : Int) (ks : List Int) (hks : ks.length ≤ 100) (F g : Nat) (x : Ce.V) (r : List Ce.V) (hl : (x :: r).length ≤ 100) (A : Option Addr) (cap : Nat) (w : World) (h : ValE.Arg w A (x :: r)) (hg : U8E.In w g 0 ks) (hh : (x :: r).any isHoleB = false)
    (hw : (ks.any (fun y => x.k == y) && (x :: r).all (fun v => v.k == x.k)) = false) :
    Calls Tryz.prog 73 #[.agg #[.int .i64 n, .slice (some ⟨g, 0, none⟩) ks.length ks.length, .func (.func F) #[] #[]], .slice A (x :: r).length cap] w fun e w' => e = .returned (.agg #[.int .u8 (Ce.firstBad (x :: r) 5).k, .int .i64 (Ce.firstBad (x :: r) 5).n]) ∧ Below w.heap.size w w' := by
  have HB : Hid (Below w.heap.size w ((w.alloc (.cells #[.int .i64 n, .slice (some ⟨g, 0, none⟩) ks.length ks.length, .func (.func F) #[] #[]] 111)).alloc (.cells #[.int .u8 0, .int .i64 0] 26))) := Lib.hid (((Below.refl _ _).alloc (Nat.le_refl _) _).alloc (by simp) _)
  have HZ := Lib.hid (Blk.new (w.alloc (.cells #[.int .i64 n, .slice (some ⟨g, 0, none⟩) ks.length ks.length, .func (.func F) #[] #[]] 111)) 26 #[.int .u8 0, .int .i64 0])
  simp only [World.size_alloc] at HZ
  have HOP := Lib.hid ((Blk.new w 111 #[.int .i64 n, .slice (some ⟨g, 0, none⟩) ks.length ks.length, .func (.func F) #[] #[]]).alloc (.cells #[.int .u8 0, .int .i64 0] 26))
  have HARG := Lib.hid (h.below HB.out)
  have hc := val_contains (x :: r) (by omega) A cap isHoleB 77 #[] (enters_of Tryz.func77 (by kernel_rfl) rfl) _ (h.below HB.out) (fun x _ W _ => isHole_any x W)
  rw [hh] at hc
  have HC := Lib.hid hc
  have HGA : Hid (U8E.Arg w (some ⟨g, 0, none⟩) ks) := Lib.hid ⟨fun _ => ⟨g, 0, rfl, hg⟩⟩
  obtain ⟨b, o, rfl, hin, hbl⟩ := h.at_lt (k := 0) (by simp)
  obtain ⟨x0, x1⟩ := ValE.at2 hin (k := 0) (p := x) rfl
  rw [Nat.zero_mul, Nat.add_zero] at x0 x1
  have SX := Lib.hid (((Stay.cell x0).and (Stay.cell x1)).step HB.out)
  have HW := Lib.hid hw
  have hlp : (0 : Int) < ((x :: r).length : Int) := by simp
  have HWR := Lib.hid (fun W ha => wrong_any 5 (x :: r) (by omega) (some ⟨b, o, none⟩) cap W ha)
  have HL := Lib.hid hl
  generalize Ce.firstBad (x :: r) 5 = V at *
  generalize hL : (x :: r) = L at *
  clear hc h hh hg hin x0 x1 hw hL hl
  go_enter Tryz.func73, Tryz.ntmps73
  go_wp2_with fail
  refine HC.out.mono ?_
  rintro e w1 ⟨rfl, hb1⟩
  have HZ1 := Lib.hid (HZ.out.below hb1)
  have HOP1 := Lib.hid (HOP.out.below hb1)
  have HB1 := Lib.hid (HB.out.trans (hb1.mono HB.out.size))
  have HARG1 := Lib.hid (HARG.out.below hb1)
  have SX1 := Lib.hid (SX.out.step hb1)
  obtain ⟨x0, x1⟩ := SX.out w1 hb1
  have hba : Below w1.heap.size w1 (w1.alloc (.cells #[.int .u8 x.k] 5)) := (Below.refl _ _).alloc (Nat.le_refl _) _
  have HZ2 := Lib.hid (HZ1.out.below hba)
  have HOP2 := Lib.hid (HOP1.out.below hba)
  have HB2 := Lib.hid (HB1.out.trans (hba.mono HB1.out.size))
  have HARG2 := Lib.hid (HARG1.out.below hba)
  have SK := Lib.hid (box1 (W := w1) (v := .int .u8 x.k) (t := 5))
  have hp1 := HOP2.out.cell 1
  dsimp at hp1
  have hc2 := u8_contains ks (by omega) (some ⟨g, 0, none⟩) ks.length x.k _ (HGA.out.below HB2.out)
  have hc3 := val_all L (by have := HL.out; omega) (some ⟨b, o, none⟩) cap (fun v => v.k == x.k) 123 #[.pointer (some ⟨w1.heap.size, 0, none⟩)] (enters_of Tryz.func123 (by kernel_rfl) rfl)
  have HC3 := Lib.hid hc3
  clear hb1 HC HZ HOP HB HARG SX hba HZ1 HOP1 HB1 HARG1 SX1 hc3
  by_cases hq : ks.any (fun y => x.k == y) = true
  · rw [hq] at hc2
    have hq2 : L.all (fun v => v.k == x.k) = false := by have := HW.out; rw [hq] at this; simpa using this
    have HQ2 := Lib.hid hq2
    have HC2 := Lib.hid hc2
    clear hc2 hq hq2
    go_wp2_with fail
    refine HC2.out.mono ?_
    rintro e w2 ⟨rfl, hb2⟩
    have hc4 := HC3.out w2 (HARG2.out.below hb2) (fun v _ W hb => ofKind_any v x.k w1.heap.size W (SK.out W (hb2.trans (hb.mono hb2.size))))
    rw [HQ2.out] at hc4
    have HC4 := Lib.hid hc4
    have HZ3 := Lib.hid (HZ2.out.below hb2)
    have HB3 := Lib.hid (HB2.out.trans (hb2.mono HB2.out.size))
    have HARG3 := Lib.hid (HARG2.out.below hb2)
    clear hc4 hb2 HZ2 HB2 HARG2 HC3
    go_wp2_with fail
    refine HC4.out.mono ?_
    rintro e w3 ⟨rfl, hb3⟩
    have HZ4 := Lib.hid (HZ3.out.below hb3)
    have HB4 := Lib.hid (HB3.out.trans (hb3.mono HB3.out.size))
    have HARG4 := Lib.hid (HARG3.out.below hb3)
    clear hb3 HZ3 HB3 HARG3 HC4
    go_wp2_with fail
    refine (HWR.out _ HARG4.out).mono ?_
    rintro e w4 ⟨rfl, hb4⟩
    have HZ5 := Lib.hid (HZ4.out.below hb4)
    have HB5 := Lib.hid (HB4.out.trans (hb4.mono HB4.out.size))
    have z0 := HZ5.out.cell 0
    have z1 := HZ5.out.cell 1
    have zf0 := HZ5.out.frozen 0
    have zf1 := HZ5.out.frozen 1
    dsimp at z0 z1
    clear hb4
    go_wp2
    refine bodyPost_ret (results_cell_row rfl _ _ (w.heap.size + 1) 26 #[.int .u8 V.k, .int .i64 V.n] (0, 0) _ rfl ((HZ5.out.set_ 0 _).set_ 1 _) Tryz.underlying26 rfl val_size) rfl ?_
    exact ⟨rfl, (HB5.out.setCell (by simp) _).setCell (by simp) _⟩
  · rw [Bool.not_eq_true] at hq
    rw [hq] at hc2
    have HC2 := Lib.hid hc2
    clear hc2 hq HC3
    go_wp2_with fail
    refine HC2.out.mono ?_
    rintro e w2 ⟨rfl, hb2⟩
    have HZ3 := Lib.hid (HZ2.out.below hb2)
    have HB3 := Lib.hid (HB2.out.trans (hb2.mono HB2.out.size))
    have HARG3 := Lib.hid (HARG2.out.below hb2)
    clear hb2 HZ2 HB2 HARG2
    go_wp2_with fail
    refine (HWR.out _ HARG3.out).mono ?_
    rintro e w4 ⟨rfl, hb4⟩
    have HZ5 := Lib.hid (HZ3.out.below hb4)
    have HB5 := Lib.hid (HB3.out.trans (hb4.mono HB3.out.size))
    have z0 := HZ5.out.cell 0
    have z1 := HZ5.out.cell 1
    have zf0 := HZ5.out.frozen 0
    have zf1 := HZ5.out.frozen 1
    dsimp at z0 z1
    clear hb4
    go_wp2
    refine bodyPost_ret (results_cell_row rfl _ _ (w.heap.size + 1) 26 #[.int .u8 V.k, .int .i64 V.n] (0, 0) _ rfl ((HZ5.out.set_ 0 _).set_ 1 _) Tryz.underlying26 rfl val_size) rfl ?_
    exact ⟨rfl, (HB5.out.setCell (by simp) _).setCell (by simp) _⟩

set_option maxRecDepth 100000 in
set_option maxHeartbeats 4000000 in
theorem result_go (n : Int) (ks : List Int) (hks : ks.length ≤ 100) (F g : Nat) (gf : Int → Int → Ce.V) (hF : GivesIs F gf) (eF : ∀ args w, (callFunc F args).run Tryz.prog w = .ok (.enter F args) w) (x : Ce.V) (r : List Ce.V) (hl : (x :: r).length ≤ 100) (A : Option Addr) (cap : Nat) (w : World) (h : ValE.Arg w A (x :: r)) (hg : U8E.In w g 0 ks) (hh : (x :: r).any isHoleB = false)
    (hq : ks.any (fun y => x.k == y) = true) (hq2 : (x :: r).all (fun v => v.k == x.k) = true) (hx1 : -1000000000 ≤ x.n) (hx2 : x.n ≤ 1000000000) (hr : ∀ y ∈ r, -1000000000 ≤ y.n ∧ y.n ≤ 1000000000) :
    Calls Tryz.prog 73 #[.agg #[.int .i64 n, .slice (some ⟨g, 0, none⟩) ks.length ks.length, .func (.func F) #[] #[]], .slice A (x :: r).length cap] w fun e w' => e = .returned (.agg #[.int .u8 (gf x.n (if 1 < (x :: r).length then ((x :: r).getD 1 Ce.hole).n else 0)).k, .int .i64 (gf x.n (if 1 < (x :: r).length then ((x :: r).getD 1 Ce.hole).n else 0)).n]) ∧ Below w.heap.size w w' := by
  have HB : Hid (Below w.heap.size w ((w.alloc (.cells #[.int .i64 n, .slice (some ⟨g, 0, none⟩) ks.length ks.length, .func (.func F) #[] #[]] 111)).alloc (.cells #[.int .u8 0, .int .i64 0] 26))) := Lib.hid (((Below.refl _ _).alloc (Nat.le_refl _) _).alloc (by simp) _)
  have HZ := Lib.hid (Blk.new (w.alloc (.cells #[.int .i64 n, .slice (some ⟨g, 0, none⟩) ks.length ks.length, .func (.func F) #[] #[]] 111)) 26 #[.int .u8 0, .int .i64 0])
  simp only [World.size_alloc] at HZ
  have HOP := Lib.hid ((Blk.new w 111 #[.int .i64 n, .slice (some ⟨g, 0, none⟩) ks.length ks.length, .func (.func F) #[] #[]]).alloc (.cells #[.int .u8 0, .int .i64 0] 26))
  have HARG := Lib.hid (h.below HB.out)
  have hc := val_contains (x :: r) (by omega) A cap isHoleB 77 #[] (enters_of Tryz.func77 (by kernel_rfl) rfl) _ (h.below HB.out) (fun x _ W _ => isHole_any x W)
  rw [hh] at hc
  have HC := Lib.hid hc
  have HGA : Hid (U8E.Arg w (some ⟨g, 0, none⟩) ks) := Lib.hid ⟨fun _ => ⟨g, 0, rfl, hg⟩⟩
  obtain ⟨b, o, rfl, hin, hbl⟩ := h.at_lt (k := 0) (by simp)
  obtain ⟨x0, x1⟩ := ValE.at2 hin (k := 0) (p := x) rfl
  rw [Nat.zero_mul, Nat.add_zero] at x0 x1
  have SX := Lib.hid (((Stay.cell x0).and (Stay.cell x1)).step HB.out)
  have hlp : (0 : Int) < ((x :: r).length : Int) := by simp
  have HL := Lib.hid hl
  have HFX := Lib.hid (fun (b : Int) W (b1 : -1000000000 ≤ b) (b2 : b ≤ 1000000000) => hF x.n b W hx1 hx2 b1 b2)
  have HQ2 := Lib.hid hq2
  have HQ := Lib.hid hq
  have HSY : Hid (∀ y r', r = y :: r' → Stay (fun W => W.cell? ⟨b, o + 1 * 2 + 1, none⟩ = some (.int .i64 y.n)) w) := Lib.hid fun y r' e => by
    subst e
    exact Stay.cell (ValE.at2 hin (k := 1) (p := y) rfl).2
  clear hc h hh hg hin x0 x1 hl hF hq hq2 hx1 hx2
  cases r with
  | nil =>
    rw [if_neg (by simp)]
    have hcon := fun W => HFX.out 0 W (by omega) (by omega)
    generalize gf x.n 0 = V at *
    have HCON := Lib.hid hcon
    have hl1 : ¬ (1 : Int) < (([x] : List Ce.V).length : Int) := by simp
    generalize hL : [x] = L at *
    clear hcon HFX HSY hr
    go_enter Tryz.func73, Tryz.ntmps73
    go_wp2_with fail
    refine HC.out.mono ?_
    rintro e w1 ⟨rfl, hb1⟩
    have HZ1 := Lib.hid (HZ.out.below hb1)
    have HOP1 := Lib.hid (HOP.out.below hb1)
    have HB1 := Lib.hid (HB.out.trans (hb1.mono HB.out.size))
    have HARG1 := Lib.hid (HARG.out.below hb1)
    have SX1 := Lib.hid (SX.out.step hb1)
    obtain ⟨x0, x1⟩ := SX.out w1 hb1
    have hba : Below w1.heap.size w1 (w1.alloc (.cells #[.int .u8 x.k] 5)) := (Below.refl _ _).alloc (Nat.le_refl _) _
    have HZ2 := Lib.hid (HZ1.out.below hba)
    have HOP2 := Lib.hid (HOP1.out.below hba)
    have HB2 := Lib.hid (HB1.out.trans (hba.mono HB1.out.size))
    have HARG2 := Lib.hid (HARG1.out.below hba)
    have SX2 := Lib.hid (SX1.out.step hba)
    have SK := Lib.hid (box1 (W := w1) (v := .int .u8 x.k) (t := 5))
    have hp1 := HOP2.out.cell 1
    dsimp at hp1
    have hc2 := u8_contains ks (by omega) (some ⟨g, 0, none⟩) ks.length x.k _ (HGA.out.below HB2.out)
    rw [HQ.out] at hc2
    have HC2 := Lib.hid hc2
    clear hb1 HC HZ HOP HB HARG SX hba HZ1 HOP1 HB1 HARG1 SX1 hc2
    go_wp2_with fail
    refine HC2.out.mono ?_
    rintro e w2 ⟨rfl, hb2⟩
    have hc4 := val_all L (by have := HL.out; omega) (some ⟨b, o, none⟩) cap (fun v => v.k == x.k) 123 #[.pointer (some ⟨w1.heap.size, 0, none⟩)] (enters_of Tryz.func123 (by kernel_rfl) rfl) w2 (HARG2.out.below hb2) (fun v _ W hb => ofKind_any v x.k w1.heap.size W (SK.out W (hb2.trans (hb.mono hb2.size))))
    rw [HQ2.out] at hc4
    have HC4 := Lib.hid hc4
    have HZ3 := Lib.hid (HZ2.out.below hb2)
    have HOP3 := Lib.hid (HOP2.out.below hb2)
    have HB3 := Lib.hid (HB2.out.trans (hb2.mono HB2.out.size))
    have SX3 := Lib.hid (SX2.out.step hb2)
    clear hc4 hb2 HZ2 HB2 HARG2 HOP2 SX2 SK x0 x1 hp1
    go_wp2_with fail
    refine HC4.out.mono ?_
    rintro e w3 ⟨rfl, hb3⟩
    have HZ4 := Lib.hid (HZ3.out.below hb3)
    have HB4 := Lib.hid (HB3.out.trans (hb3.mono HB3.out.size))
    have HOP4 := Lib.hid (HOP3.out.below hb3)
    have hop := HOP4.out.cell 2
    dsimp at hop
    have SX4 := Lib.hid (SX3.out.step hb3)
    have x1 := SX4.out.at_.2
    have hpos : 0 < L.length := by omega
    have hne1 : w.heap.size + 1 ≠ b := by omega
    have hne2 : b ≠ w.heap.size + 1 := by omega
    clear hb3 HZ3 HB3 HOP3 SX3 HC4
    go_wp2_with fail
    go_region_held3 (fun W => W.cell? ⟨w.heap.size, 2, none⟩ = some (.func (.func F) #[] #[]) ∧ W.cell? ⟨b, o + 1, none⟩ = some (.int .i64 x.n))
      (go_keep)
      (first
        | (go_at_fn F; refine (HCON.out _).mono ?_; rintro e w4 ⟨rfl, hb4⟩
           have hb4 : Below w3.heap.size w3 w4 := (Below.refl _ _).drew.trans hb4
           have HZ5 := Lib.hid (HZ4.out.below hb4)
           have HB5 := Lib.hid (HB4.out.trans (hb4.mono HB4.out.size))
           have hop := (HOP4.out.below hb4).cell 2
           dsimp at hop
           have x1 := (SX4.out w4 hb4).2
           have z0 := HZ5.out.cell 0
           have z1 := HZ5.out.cell 1
           have zf0 := HZ5.out.frozen 0
           have zf1 := HZ5.out.frozen 1
           dsimp at z0 z1
           ))
    all_goals
      go_wp2_with fail
      refine bodyPost_ret (results_cell_row rfl _ _ (w.heap.size + 1) 26 #[.int .u8 V.k, .int .i64 V.n] (0, 0) _ rfl ((HZ5.out.set_ 0 _).set_ 1 _) Tryz.underlying26 rfl val_size) rfl ?_
      exact ⟨rfl, (HB5.out.setCell (by simp) _).setCell (by simp) _⟩
  | cons y r =>
    rw [if_pos (by simp), show ((x :: y :: r).getD 1 Ce.hole).n = y.n from rfl]
    have hy := hr y (.head _)
    have hcon := fun W => HFX.out y.n W hy.1 hy.2
    have SY := Lib.hid ((HSY.out y r rfl).step HB.out)
    generalize gf x.n y.n = V at *
    have HCON := Lib.hid hcon
    have hl1 : (1 : Int) < ((x :: y :: r : List Ce.V).length : Int) := by simp; omega
    generalize hL : x :: y :: r = L at *
    clear hcon HFX HSY hr hy
    go_enter Tryz.func73, Tryz.ntmps73
    go_wp2_with fail
    refine HC.out.mono ?_
    rintro e w1 ⟨rfl, hb1⟩
    have HZ1 := Lib.hid (HZ.out.below hb1)
    have HOP1 := Lib.hid (HOP.out.below hb1)
    have HB1 := Lib.hid (HB.out.trans (hb1.mono HB.out.size))
    have HARG1 := Lib.hid (HARG.out.below hb1)
    have SX1 := Lib.hid (SX.out.step hb1)
    obtain ⟨x0, x1⟩ := SX.out w1 hb1
    have hb1s := Lib.hid hb1
    have hba : Below w1.heap.size w1 (w1.alloc (.cells #[.int .u8 x.k] 5)) := (Below.refl _ _).alloc (Nat.le_refl _) _
    have HZ2 := Lib.hid (HZ1.out.below hba)
    have HOP2 := Lib.hid (HOP1.out.below hba)
    have HB2 := Lib.hid (HB1.out.trans (hba.mono HB1.out.size))
    have HARG2 := Lib.hid (HARG1.out.below hba)
    have SX2 := Lib.hid (SX1.out.step hba)
    have SK := Lib.hid (box1 (W := w1) (v := .int .u8 x.k) (t := 5))
    have hbas := Lib.hid hba
    have hp1 := HOP2.out.cell 1
    dsimp at hp1
    have hc2 := u8_contains ks (by omega) (some ⟨g, 0, none⟩) ks.length x.k _ (HGA.out.below HB2.out)
    rw [HQ.out] at hc2
    have HC2 := Lib.hid hc2
    clear hb1 HC HZ HOP HB HARG SX hba HZ1 HOP1 HB1 HARG1 SX1 hc2
    go_wp2_with fail
    refine HC2.out.mono ?_
    rintro e w2 ⟨rfl, hb2⟩
    have hc4 := val_all L (by have := HL.out; omega) (some ⟨b, o, none⟩) cap (fun v => v.k == x.k) 123 #[.pointer (some ⟨w1.heap.size, 0, none⟩)] (enters_of Tryz.func123 (by kernel_rfl) rfl) w2 (HARG2.out.below hb2) (fun v _ W hb => ofKind_any v x.k w1.heap.size W (SK.out W (hb2.trans (hb.mono hb2.size))))
    rw [HQ2.out] at hc4
    have HC4 := Lib.hid hc4
    have HZ3 := Lib.hid (HZ2.out.below hb2)
    have HOP3 := Lib.hid (HOP2.out.below hb2)
    have HB3 := Lib.hid (HB2.out.trans (hb2.mono HB2.out.size))
    have SX3 := Lib.hid (SX2.out.step hb2)
    have SY3 := Lib.hid (((SY.out.step hb1s.out).step hbas.out).step hb2)
    clear hc4 hb2 HZ2 HB2 HARG2 HOP2 SX2 SK x0 x1 hp1
    go_wp2_with fail
    refine HC4.out.mono ?_
    rintro e w3 ⟨rfl, hb3⟩
    have HZ4 := Lib.hid (HZ3.out.below hb3)
    have HB4 := Lib.hid (HB3.out.trans (hb3.mono HB3.out.size))
    have HOP4 := Lib.hid (HOP3.out.below hb3)
    have hop := HOP4.out.cell 2
    dsimp at hop
    have SX4 := Lib.hid (SX3.out.step hb3)
    have x1 := SX4.out.at_.2
    have y1 := (SY3.out.step hb3).at_
    have hpos1 : 1 < L.length := by omega
    have hpos : 0 < L.length := by omega
    have hne1 : w.heap.size + 1 ≠ b := by omega
    have hne2 : b ≠ w.heap.size + 1 := by omega
    clear hb3 HZ3 HB3 HOP3 SX3 HC4
    go_wp2_with fail
    go_region_held3 (fun W => W.cell? ⟨w.heap.size, 2, none⟩ = some (.func (.func F) #[] #[]) ∧ W.cell? ⟨b, o + 1, none⟩ = some (.int .i64 x.n))
      (go_keep)
      (first
        | (go_at_fn F; refine (HCON.out _).mono ?_; rintro e w4 ⟨rfl, hb4⟩
           have hb4 : Below w3.heap.size w3 w4 := (Below.refl _ _).drew.trans hb4
           have HZ5 := Lib.hid (HZ4.out.below hb4)
           have HB5 := Lib.hid (HB4.out.trans (hb4.mono HB4.out.size))
           have hop := (HOP4.out.below hb4).cell 2
           dsimp at hop
           have x1 := (SX4.out w4 hb4).2
           have z0 := HZ5.out.cell 0
           have z1 := HZ5.out.cell 1
           have zf0 := HZ5.out.frozen 0
           have zf1 := HZ5.out.frozen 1
           dsimp at z0 z1
           ))
    all_goals
      go_wp2_with fail
      refine bodyPost_ret (results_cell_row rfl _ _ (w.heap.size + 1) 26 #[.int .u8 V.k, .int .i64 V.n] (0, 0) _ rfl ((HZ5.out.set_ 0 _).set_ 1 _) Tryz.underlying26 rfl val_size) rfl ?_
      exact ⟨rfl, (HB5.out.setCell (by simp) _).setCell (by simp) _⟩
end Go.Proofs.YtacggbpgillbaaaGreatDoor
