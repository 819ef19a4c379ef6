/- Layer 6, the program: the result of an operation. Layer 6, plainly: the results of operations by their functions are those of the model. Layer 6, the program: Operands, Prim. Layer 6, the program: Prim. -/
import Derived.Test.YtjldkndalcellaaGreatDoorYh
import Derived.Test.YtjldkndalcellaaGreatDoorYe
import Derived.Laws.EntriesVeiled
namespace Ce
/-- the result of an operation of some kinds, by its function -/
def resultV (ks : List Int) (g : Int → Int → V) (l : List V) : V :=
  if l.any Go.Proofs.YtjldkndalcellaaGreatDoor.isHoleB then hole
  else if ks.any (fun x => (l.headD hole).k == x) && l.all (fun v => v.k == (l.headD hole).k) then g (l.headD hole).n (if 1 < l.length then (l.getD 1 hole).n else 0)
  else firstBad l 5
end Ce
namespace Go.Proofs.YtjldkndalcellaaGreatDoor
open Go.RowKit Go.El

set_option maxRecDepth 100000 in
set_option maxHeartbeats 2000000 in
theorem result_hole (n : Int) (ks : List Int) (F g : Nat) (l : List Ce.V) (hl : l.length ≤ 100) (A : Option Addr) (cap : Nat) (w : World) (h : ValE.Arg w A l) (hh : l.any isHoleB = true) :
    Calls Tryz.prog 66 #[.agg #[.int .i64 n, .slice (some ⟨g, 0, none⟩) ks.length ks.length, .func (.func F) #[] #[]], .slice A l.length cap] w fun e w' => e = .returned (.agg #[.int .u8 0, .int .i64 0]) ∧ Below w.heap.size w w' := by
  have HB : Hid (Below w.heap.size w ((w.alloc (.cells #[.int .i64 n, .slice (some ⟨g, 0, none⟩) ks.length ks.length, .func (.func F) #[] #[]] 103)).alloc (.cells #[.int .u8 0, .int .i64 0] 57))) := Lib.hid (((Below.refl _ _).alloc (Nat.le_refl _) _).alloc (by simp) _)
  have HZ := Lib.hid (Blk.new (w.alloc (.cells #[.int .i64 n, .slice (some ⟨g, 0, none⟩) ks.length ks.length, .func (.func F) #[] #[]] 103)) 57 #[.int .u8 0, .int .i64 0])
  simp only [World.size_alloc] at HZ
  have hc := val_contains l (by omega) A cap isHoleB 46 #[] (enters_of Tryz.func46 (by kernel_rfl) rfl) _ (h.below HB.out) (fun x _ W _ => isHole_any x W)
  rw [hh] at hc
  have HC := Lib.hid hc
  clear hc h hh
  go_enter Tryz.func66, Tryz.ntmps66
  go_wp2_with fail
  refine HC.out.mono ?_
  rintro e w1 ⟨rfl, hb1⟩
  have HZ1 := Lib.hid (HZ.out.below hb1)
  have HB1 := Lib.hid (HB.out.trans (hb1.mono HB.out.size))
  have z0 := HZ1.out.cell 0
  have z1 := HZ1.out.cell 1
  have zf0 := HZ1.out.frozen 0
  have zf1 := HZ1.out.frozen 1
  dsimp at z0 z1
  clear hb1
  go_wp2
  refine bodyPost_ret (results_cell_row rfl _ _ (w.heap.size + 1) 57 #[.int .u8 0, .int .i64 0] (0, 0) _ rfl ((HZ1.out.set_ 0 _).set_ 1 _) Tryz.underlying57 rfl val_size) rfl ?_
  exact ⟨rfl, (HB1.out.setCell (by simp) _).setCell (by simp) _⟩

set_option maxRecDepth 100000 in
set_option maxHeartbeats 4000000 in
theorem result_wrong (n : Int) (ks : List Int) (hks : ks.length ≤ 100) (F g : Nat) (x : Ce.V) (r : List Ce.V) (hl : (x :: r).length ≤ 100) (A : Option Addr) (cap : Nat) (w : World) (h : ValE.Arg w A (x :: r)) (hg : U8E.In w g 0 ks) (hh : (x :: r).any isHoleB = false)
    (hw : (ks.any (fun y => x.k == y) && (x :: r).all (fun v => v.k == x.k)) = false) :
    Calls Tryz.prog 66 #[.agg #[.int .i64 n, .slice (some ⟨g, 0, none⟩) ks.length ks.length, .func (.func F) #[] #[]], .slice A (x :: r).length cap] w fun e w' => e = .returned (.agg #[.int .u8 (Ce.firstBad (x :: r) 5).k, .int .i64 (Ce.firstBad (x :: r) 5).n]) ∧ Below w.heap.size w w' := by
  have HB : Hid (Below w.heap.size w ((w.alloc (.cells #[.int .i64 n, .slice (some ⟨g, 0, none⟩) ks.length ks.length, .func (.func F) #[] #[]] 103)).alloc (.cells #[.int .u8 0, .int .i64 0] 57))) := Lib.hid (((Below.refl _ _).alloc (Nat.le_refl _) _).alloc (by simp) _)
  have HZ := Lib.hid (Blk.new (w.alloc (.cells #[.int .i64 n, .slice (some ⟨g, 0, none⟩) ks.length ks.length, .func (.func F) #[] #[]] 103)) 57 #[.int .u8 0, .int .i64 0])
  simp only [World.size_alloc] at HZ
  have HOP := Lib.hid ((Blk.new w 103 #[.int .i64 n, .slice (some ⟨g, 0, none⟩) ks.length ks.length, .func (.func F) #[] #[]]).alloc (.cells #[.int .u8 0, .int .i64 0] 57))
  have HARG := Lib.hid (h.below HB.out)
  have hc := val_contains (x :: r) (by omega) A cap isHoleB 46 #[] (enters_of Tryz.func46 (by kernel_rfl) rfl) _ (h.below HB.out) (fun x _ W _ => isHole_any x W)
  rw [hh] at hc
  have HC := Lib.hid hc
  have HGA : Hid (U8E.Arg w (some ⟨g, 0, none⟩) ks) := Lib.hid ⟨fun _ => ⟨g, 0, rfl, hg⟩⟩
  obtain ⟨b, o, rfl, hin, hbl⟩ := h.at_lt (k := 0) (by simp)
  obtain ⟨x0, x1⟩ := ValE.at2 hin (k := 0) (p := x) rfl
  rw [Nat.zero_mul, Nat.add_zero] at x0 x1
  have SX := Lib.hid (((Stay.cell x0).and (Stay.cell x1)).step HB.out)
  have HW := Lib.hid hw
  have hlp : (0 : Int) < ((x :: r).length : Int) := by simp
  have HWR := Lib.hid (fun W ha => wrong_any 5 (x :: r) (by omega) (some ⟨b, o, none⟩) cap W ha)
  have HL := Lib.hid hl
  generalize Ce.firstBad (x :: r) 5 = V at *
  generalize hL : (x :: r) = L at *
  clear hc h hh hg hin x0 x1 hw hL hl
  go_enter Tryz.func66, Tryz.ntmps66
  go_wp2_with fail
  refine HC.out.mono ?_
  rintro e w1 ⟨rfl, hb1⟩
  have HZ1 := Lib.hid (HZ.out.below hb1)
  have HOP1 := Lib.hid (HOP.out.below hb1)
  have HB1 := Lib.hid (HB.out.trans (hb1.mono HB.out.size))
  have HARG1 := Lib.hid (HARG.out.below hb1)
  have SX1 := Lib.hid (SX.out.step hb1)
  obtain ⟨x0, x1⟩ := SX.out w1 hb1
  have hba : Below w1.heap.size w1 (w1.alloc (.cells #[.int .u8 x.k] 5)) := (Below.refl _ _).alloc (Nat.le_refl _) _
  have HZ2 := Lib.hid (HZ1.out.below hba)
  have HOP2 := Lib.hid (HOP1.out.below hba)
  have HB2 := Lib.hid (HB1.out.trans (hba.mono HB1.out.size))
  have HARG2 := Lib.hid (HARG1.out.below hba)
  have SK := Lib.hid (box1 (W := w1) (v := .int .u8 x.k) (t := 5))
  have hp1 := HOP2.out.cell 1
  dsimp at hp1
  have hc2 := u8_contains ks (by omega) (some ⟨g, 0, none⟩) ks.length x.k _ (HGA.out.below HB2.out)
  have hc3 := val_all L (by have := HL.out; omega) (some ⟨b, o, none⟩) cap (fun v => v.k == x.k) 104 #[.pointer (some ⟨w1.heap.size, 0, none⟩)] (enters_of Tryz.func104 (by kernel_rfl) rfl)
  have HC3 := Lib.hid hc3
  clear hb1 HC HZ HOP HB HARG SX hba HZ1 HOP1 HB1 HARG1 SX1 hc3
  by_cases hq : ks.any (fun y => x.k == y) = true
  · rw [hq] at hc2
    have hq2 : L.all (fun v => v.k == x.k) = false := by have := HW.out; rw [hq] at this; simpa using this
    have HQ2 := Lib.hid hq2
    have HC2 := Lib.hid hc2
    clear hc2 hq hq2
    go_wp2_with fail
    refine HC2.out.mono ?_
    rintro e w2 ⟨rfl, hb2⟩
    have hc4 := HC3.out w2 (HARG2.out.below hb2) (fun v _ W hb => ofKind_any v x.k w1.heap.size W (SK.out W (hb2.trans (hb.mono hb2.size))))
    rw [HQ2.out] at hc4
    have HC4 := Lib.hid hc4
    have HZ3 := Lib.hid (HZ2.out.below hb2)
    have HB3 := Lib.hid (HB2.out.trans (hb2.mono HB2.out.size))
    have HARG3 := Lib.hid (HARG2.out.below hb2)
    clear hc4 hb2 HZ2 HB2 HARG2 HC3
    go_wp2_with fail
    refine HC4.out.mono ?_
    rintro e w3 ⟨rfl, hb3⟩
    have HZ4 := Lib.hid (HZ3.out.below hb3)
    have HB4 := Lib.hid (HB3.out.trans (hb3.mono HB3.out.size))
    have HARG4 := Lib.hid (HARG3.out.below hb3)
    clear hb3 HZ3 HB3 HARG3 HC4
    go_wp2_with fail
    refine (HWR.out _ HARG4.out).mono ?_
    rintro e w4 ⟨rfl, hb4⟩
    have HZ5 := Lib.hid (HZ4.out.below hb4)
    have HB5 := Lib.hid (HB4.out.trans (hb4.mono HB4.out.size))
    have z0 := HZ5.out.cell 0
    have z1 := HZ5.out.cell 1
    have zf0 := HZ5.out.frozen 0
    have zf1 := HZ5.out.frozen 1
    dsimp at z0 z1
    clear hb4
    go_wp2
    refine bodyPost_ret (results_cell_row rfl _ _ (w.heap.size + 1) 57 #[.int .u8 V.k, .int .i64 V.n] (0, 0) _ rfl ((HZ5.out.set_ 0 _).set_ 1 _) Tryz.underlying57 rfl val_size) rfl ?_
    exact ⟨rfl, (HB5.out.setCell (by simp) _).setCell (by simp) _⟩
  · rw [Bool.not_eq_true] at hq
    rw [hq] at hc2
    have HC2 := Lib.hid hc2
    clear hc2 hq HC3
    go_wp2_with fail
    refine HC2.out.mono ?_
    rintro e w2 ⟨rfl, hb2⟩
    have HZ3 := Lib.hid (HZ2.out.below hb2)
    have HB3 := Lib.hid (HB2.out.trans (hb2.mono HB2.out.size))
    have HARG3 := Lib.hid (HARG2.out.below hb2)
    clear hb2 HZ2 HB2 HARG2
    go_wp2_with fail
    refine (HWR.out _ HARG3.out).mono ?_
    rintro e w4 ⟨rfl, hb4⟩
    have HZ5 := Lib.hid (HZ3.out.below hb4)
    have HB5 := Lib.hid (HB3.out.trans (hb4.mono HB3.out.size))
    have z0 := HZ5.out.cell 0
    have z1 := HZ5.out.cell 1
    have zf0 := HZ5.out.frozen 0
    have zf1 := HZ5.out.frozen 1
    dsimp at z0 z1
    clear hb4
    go_wp2
    refine bodyPost_ret (results_cell_row rfl _ _ (w.heap.size + 1) 57 #[.int .u8 V.k, .int .i64 V.n] (0, 0) _ rfl ((HZ5.out.set_ 0 _).set_ 1 _) Tryz.underlying57 rfl val_size) rfl ?_
    exact ⟨rfl, (HB5.out.setCell (by simp) _).setCell (by simp) _⟩

set_option maxRecDepth 100000 in
set_option maxHeartbeats 4000000 in
theorem result_go (n : Int) (ks : List Int) (hks : ks.length ≤ 100) (F g : Nat) (gf : Int → Int → Ce.V) (hF : GivesIs F gf) (eF : ∀ args w, (callFunc F args).run Tryz.prog w = .ok (.enter F args) w) (x : Ce.V) (r : List Ce.V) (hl : (x :: r).length ≤ 100) (A : Option Addr) (cap : Nat) (w : World) (h : ValE.Arg w A (x :: r)) (hg : U8E.In w g 0 ks) (hh : (x :: r).any isHoleB = false)
    (hq : ks.any (fun y => x.k == y) = true) (hq2 : (x :: r).all (fun v => v.k == x.k) = true) (hx1 : -1000000000 ≤ x.n) (hx2 : x.n ≤ 1000000000) (hr : ∀ y ∈ r, -1000000000 ≤ y.n ∧ y.n ≤ 1000000000) :
    Calls Tryz.prog 66 #[.agg #[.int .i64 n, .slice (some ⟨g, 0, none⟩) ks.length ks.length, .func (.func F) #[] #[]], .slice A (x :: r).length cap] w fun e w' => e = .returned (.agg #[.int .u8 (gf x.n (if 1 < (x :: r).length then ((x :: r).getD 1 Ce.hole).n else 0)).k, .int .i64 (gf x.n (if 1 < (x :: r).length then ((x :: r).getD 1 Ce.hole).n else 0)).n]) ∧ Below w.heap.size w w' := by
  have HB : Hid (Below w.heap.size w ((w.alloc (.cells #[.int .i64 n, .slice (some ⟨g, 0, none⟩) ks.length ks.length, .func (.func F) #[] #[]] 103)).alloc (.cells #[.int .u8 0, .int .i64 0] 57))) := Lib.hid (((Below.refl _ _).alloc (Nat.le_refl _) _).alloc (by simp) _)
  have HZ := Lib.hid (Blk.new (w.alloc (.cells #[.int .i64 n, .slice (some ⟨g, 0, none⟩) ks.length ks.length, .func (.func F) #[] #[]] 103)) 57 #[.int .u8 0, .int .i64 0])
  simp only [World.size_alloc] at HZ
  have HOP := Lib.hid ((Blk.new w 103 #[.int .i64 n, .slice (some ⟨g, 0, none⟩) ks.length ks.length, .func (.func F) #[] #[]]).alloc (.cells #[.int .u8 0, .int .i64 0] 57))
  have HARG := Lib.hid (h.below HB.out)
  have hc := val_contains (x :: r) (by omega) A cap isHoleB 46 #[] (enters_of Tryz.func46 (by kernel_rfl) rfl) _ (h.below HB.out) (fun x _ W _ => isHole_any x W)
  rw [hh] at hc
  have HC := Lib.hid hc
  have HGA : Hid (U8E.Arg w (some ⟨g, 0, none⟩) ks) := Lib.hid ⟨fun _ => ⟨g, 0, rfl, hg⟩⟩
  obtain ⟨b, o, rfl, hin, hbl⟩ := h.at_lt (k := 0) (by simp)
  obtain ⟨x0, x1⟩ := ValE.at2 hin (k := 0) (p := x) rfl
  rw [Nat.zero_mul, Nat.add_zero] at x0 x1
  have SX := Lib.hid (((Stay.cell x0).and (Stay.cell x1)).step HB.out)
  have hlp : (0 : Int) < ((x :: r).length : Int) := by simp
  have HL := Lib.hid hl
  have HFX := Lib.hid (fun (b : Int) W (b1 : -1000000000 ≤ b) (b2 : b ≤ 1000000000) => hF x.n b W hx1 hx2 b1 b2)
  have HQ2 := Lib.hid hq2
  have HQ := Lib.hid hq
  have HSY : Hid (∀ y r', r = y :: r' → Stay (fun W => W.cell? ⟨b, o + 1 * 2 + 1, none⟩ = some (.int .i64 y.n)) w) := Lib.hid fun y r' e => by
    subst e
    exact Stay.cell (ValE.at2 hin (k := 1) (p := y) rfl).2
  clear hc h hh hg hin x0 x1 hl hF hq hq2 hx1 hx2
  cases r with
  | nil =>
    rw [if_neg (by simp)]
    have hcon := fun W => HFX.out 0 W (by omega) (by omega)
    generalize gf x.n 0 = V at *
    have HCON := Lib.hid hcon
    have hl1 : ¬ (1 : Int) < (([x] : List Ce.V).length : Int) := by simp
    generalize hL : [x] = L at *
    clear hcon HFX HSY hr
    go_enter Tryz.func66, Tryz.ntmps66
    go_wp2_with fail
    refine HC.out.mono ?_
    rintro e w1 ⟨rfl, hb1⟩
    have HZ1 := Lib.hid (HZ.out.below hb1)
    have HOP1 := Lib.hid (HOP.out.below hb1)
    have HB1 := Lib.hid (HB.out.trans (hb1.mono HB.out.size))
    have HARG1 := Lib.hid (HARG.out.below hb1)
    have SX1 := Lib.hid (SX.out.step hb1)
    obtain ⟨x0, x1⟩ := SX.out w1 hb1
    have hba : Below w1.heap.size w1 (w1.alloc (.cells #[.int .u8 x.k] 5)) := (Below.refl _ _).alloc (Nat.le_refl _) _
    have HZ2 := Lib.hid (HZ1.out.below hba)
    have HOP2 := Lib.hid (HOP1.out.below hba)
    have HB2 := Lib.hid (HB1.out.trans (hba.mono HB1.out.size))
    have HARG2 := Lib.hid (HARG1.out.below hba)
    have SX2 := Lib.hid (SX1.out.step hba)
    have SK := Lib.hid (box1 (W := w1) (v := .int .u8 x.k) (t := 5))
    have hp1 := HOP2.out.cell 1
    dsimp at hp1
    have hc2 := u8_contains ks (by omega) (some ⟨g, 0, none⟩) ks.length x.k _ (HGA.out.below HB2.out)
    rw [HQ.out] at hc2
    have HC2 := Lib.hid hc2
    clear hb1 HC HZ HOP HB HARG SX hba HZ1 HOP1 HB1 HARG1 SX1 hc2
    go_wp2_with fail
    refine HC2.out.mono ?_
    rintro e w2 ⟨rfl, hb2⟩
    have hc4 := val_all L (by have := HL.out; omega) (some ⟨b, o, none⟩) cap (fun v => v.k == x.k) 104 #[.pointer (some ⟨w1.heap.size, 0, none⟩)] (enters_of Tryz.func104 (by kernel_rfl) rfl) w2 (HARG2.out.below hb2) (fun v _ W hb => ofKind_any v x.k w1.heap.size W (SK.out W (hb2.trans (hb.mono hb2.size))))
    rw [HQ2.out] at hc4
    have HC4 := Lib.hid hc4
    have HZ3 := Lib.hid (HZ2.out.below hb2)
    have HOP3 := Lib.hid (HOP2.out.below hb2)
    have HB3 := Lib.hid (HB2.out.trans (hb2.mono HB2.out.size))
    have SX3 := Lib.hid (SX2.out.step hb2)
    clear hc4 hb2 HZ2 HB2 HARG2 HOP2 SX2 SK x0 x1 hp1
    go_wp2_with fail
    refine HC4.out.mono ?_
    rintro e w3 ⟨rfl, hb3⟩
    have HZ4 := Lib.hid (HZ3.out.below hb3)
    have HB4 := Lib.hid (HB3.out.trans (hb3.mono HB3.out.size))
    have HOP4 := Lib.hid (HOP3.out.below hb3)
    have hop := HOP4.out.cell 2
    dsimp at hop
    have SX4 := Lib.hid (SX3.out.step hb3)
    have x1 := SX4.out.at_.2
    have hpos : 0 < L.length := by omega
    have hne1 : w.heap.size + 1 ≠ b := by omega
    have hne2 : b ≠ w.heap.size + 1 := by omega
    clear hb3 HZ3 HB3 HOP3 SX3 HC4
    go_wp2_with fail
    go_region_held3 (fun W => W.cell? ⟨w.heap.size, 2, none⟩ = some (.func (.func F) #[] #[]) ∧ W.cell? ⟨b, o + 1, none⟩ = some (.int .i64 x.n))
      (go_keep)
      (first
        | (go_at_fn F; refine (HCON.out _).mono ?_; rintro e w4 ⟨rfl, hb4⟩
           have hb4 : Below w3.heap.size w3 w4 := (Below.refl _ _).drew.trans hb4
           have HZ5 := Lib.hid (HZ4.out.below hb4)
           have HB5 := Lib.hid (HB4.out.trans (hb4.mono HB4.out.size))
           have hop := (HOP4.out.below hb4).cell 2
           dsimp at hop
           have x1 := (SX4.out w4 hb4).2
           have z0 := HZ5.out.cell 0
           have z1 := HZ5.out.cell 1
           have zf0 := HZ5.out.frozen 0
           have zf1 := HZ5.out.frozen 1
           dsimp at z0 z1
           ))
    all_goals
      go_wp2_with fail
      refine bodyPost_ret (results_cell_row rfl _ _ (w.heap.size + 1) 57 #[.int .u8 V.k, .int .i64 V.n] (0, 0) _ rfl ((HZ5.out.set_ 0 _).set_ 1 _) Tryz.underlying57 rfl val_size) rfl ?_
      exact ⟨rfl, (HB5.out.setCell (by simp) _).setCell (by simp) _⟩
  | cons y r =>
    rw [if_pos (by simp), show ((x :: y :: r).getD 1 Ce.hole).n = y.n from rfl]
    have hy := hr y (.head _)
    have hcon := fun W => HFX.out y.n W hy.1 hy.2
    have SY := Lib.hid ((HSY.out y r rfl).step HB.out)
    generalize gf x.n y.n = V at *
    have HCON := Lib.hid hcon
    have hl1 : (1 : Int) < ((x :: y :: r : List Ce.V).length : Int) := by simp; omega
    generalize hL : x :: y :: r = L at *
    clear hcon HFX HSY hr hy
    go_enter Tryz.func66, Tryz.ntmps66
    go_wp2_with fail
    refine HC.out.mono ?_
    rintro e w1 ⟨rfl, hb1⟩
    have HZ1 := Lib.hid (HZ.out.below hb1)
    have HOP1 := Lib.hid (HOP.out.below hb1)
    have HB1 := Lib.hid (HB.out.trans (hb1.mono HB.out.size))
    have HARG1 := Lib.hid (HARG.out.below hb1)
    have SX1 := Lib.hid (SX.out.step hb1)
    obtain ⟨x0, x1⟩ := SX.out w1 hb1
    have hb1s := Lib.hid hb1
    have hba : Below w1.heap.size w1 (w1.alloc (.cells #[.int .u8 x.k] 5)) := (Below.refl _ _).alloc (Nat.le_refl _) _
    have HZ2 := Lib.hid (HZ1.out.below hba)
    have HOP2 := Lib.hid (HOP1.out.below hba)
    have HB2 := Lib.hid (HB1.out.trans (hba.mono HB1.out.size))
    have HARG2 := Lib.hid (HARG1.out.below hba)
    have SX2 := Lib.hid (SX1.out.step hba)
    have SK := Lib.hid (box1 (W := w1) (v := .int .u8 x.k) (t := 5))
    have hbas := Lib.hid hba
    have hp1 := HOP2.out.cell 1
    dsimp at hp1
    have hc2 := u8_contains ks (by omega) (some ⟨g, 0, none⟩) ks.length x.k _ (HGA.out.below HB2.out)
    rw [HQ.out] at hc2
    have HC2 := Lib.hid hc2
    clear hb1 HC HZ HOP HB HARG SX hba HZ1 HOP1 HB1 HARG1 SX1 hc2
    go_wp2_with fail
    refine HC2.out.mono ?_
    rintro e w2 ⟨rfl, hb2⟩
    have hc4 := val_all L (by have := HL.out; omega) (some ⟨b, o, none⟩) cap (fun v => v.k == x.k) 104 #[.pointer (some ⟨w1.heap.size, 0, none⟩)] (enters_of Tryz.func104 (by kernel_rfl) rfl) w2 (HARG2.out.below hb2) (fun v _ W hb => ofKind_any v x.k w1.heap.size W (SK.out W (hb2.trans (hb.mono hb2.size))))
    rw [HQ2.out] at hc4
    have HC4 := Lib.hid hc4
    have HZ3 := Lib.hid (HZ2.out.below hb2)
    have HOP3 := Lib.hid (HOP2.out.below hb2)
    have HB3 := Lib.hid (HB2.out.trans (hb2.mono HB2.out.size))
    have SX3 := Lib.hid (SX2.out.step hb2)
    have SY3 := Lib.hid (((SY.out.step hb1s.out).step hbas.out).step hb2)
    clear hc4 hb2 HZ2 HB2 HARG2 HOP2 SX2 SK x0 x1 hp1
    go_wp2_with fail
    refine HC4.out.mono ?_
    rintro e w3 ⟨rfl, hb3⟩
    have HZ4 := Lib.hid (HZ3.out.below hb3)
    have HB4 := Lib.hid (HB3.out.trans (hb3.mono HB3.out.size))
    have HOP4 := Lib.hid (HOP3.out.below hb3)
    have hop := HOP4.out.cell 2
    dsimp at hop
    have SX4 := Lib.hid (SX3.out.step hb3)
    have x1 := SX4.out.at_.2
    have y1 := (SY3.out.step hb3).at_
    have hpos1 : 1 < L.length := by omega
    have hpos : 0 < L.length := by omega
    have hne1 : w.heap.size + 1 ≠ b := by omega
    have hne2 : b ≠ w.heap.size + 1 := by omega
    clear hb3 HZ3 HB3 HOP3 SX3 HC4
    go_wp2_with fail
    go_region_held3 (fun W => W.cell? ⟨w.heap.size, 2, none⟩ = some (.func (.func F) #[] #[]) ∧ W.cell? ⟨b, o + 1, none⟩ = some (.int .i64 x.n))
      (go_keep)
      (first
        | (go_at_fn F; refine (HCON.out _).mono ?_; rintro e w4 ⟨rfl, hb4⟩
           have hb4 : Below w3.heap.size w3 w4 := (Below.refl _ _).drew.trans hb4
           have HZ5 := Lib.hid (HZ4.out.below hb4)
           have HB5 := Lib.hid (HB4.out.trans (hb4.mono HB4.out.size))
           have hop := (HOP4.out.below hb4).cell 2
           dsimp at hop
           have x1 := (SX4.out w4 hb4).2
           have z0 := HZ5.out.cell 0
           have z1 := HZ5.out.cell 1
           have zf0 := HZ5.out.frozen 0
           have zf1 := HZ5.out.frozen 1
           dsimp at z0 z1
           ))
    all_goals
      go_wp2_with fail
      refine bodyPost_ret (results_cell_row rfl _ _ (w.heap.size + 1) 57 #[.int .u8 V.k, .int .i64 V.n] (0, 0) _ rfl ((HZ5.out.set_ 0 _).set_ 1 _) Tryz.underlying57 rfl val_size) rfl ?_
      exact ⟨rfl, (HB5.out.setCell (by simp) _).setCell (by simp) _⟩
end Go.Proofs.YtjldkndalcellaaGreatDoor

namespace Ce
open Go.Proofs.YtjldkndalcellaaGreatDoor
theorem hole_iff {v : V} (h : isValue v (-1) = true) : isHoleB v = decide (v.k = 0) := by
  unfold isHoleB
  by_cases hk : v.k = 0
  · unfold isValue at h
    rw [if_pos hk] at h
    have hn : v.n = 0 := by simpa using h
    simp [hk, hn]
  · simp [hk]
theorem any_hole {l : List V} (h : areValues l (-1) = true) : l.any isHoleB = l.any fun v => decide (v.k = 0) := by
  unfold areValues at h
  rw [List.all_eq_true] at h
  induction l with
  | nil => rfl
  | cons x r ih => rw [List.any_cons, List.any_cons, hole_iff (h x (.head _)), ih fun y hy => h y (.tail _ hy)]
theorem find_same (l : List V) : (l.find? fun v => v.k == 5) = l.find? fun v => decide (v.k = 5) := by
  congr 1
/-- an operation of one operand -/
theorem prim_one {s : List UInt8} {ks : List Int} {g : Int → Int → V} (hop : operands s = 1) (hk5 : ¬ (5 : Int) ∈ ks) (hg : ∀ x : V, isValue x (-1) = true → reckon s x x = if ks.any (fun y => x.k == y) then g x.n 0 else vbad 5) (x : V) (hv : areValues [x] (-1) = true) : prim s [x] = (resultV ks g [x], 0) := by
  have hv1 : isValue x (-1) = true := by simpa [areValues] using hv
  cases hh : [x].any fun v => decide (v.k = 0) with
  | true =>
    rw [prim_hole (by omega) (by rw [hop]; rfl) hv hh]
    unfold resultV
    rw [any_hole hv, hh]
    rfl
  | false =>
    have hnh : [x].any isHoleB = false := by rw [any_hole hv, hh]
    unfold resultV
    rw [hnh, if_neg (by decide)]
    by_cases h5 : x.k = 5
    · rw [prim_bad (v := x) (by omega) (by rw [hop]; rfl) hv hh (by simp [h5])]
      rw [if_neg, firstBad, find_same]
      · simp [h5]
      · simp only [List.headD_cons, Bool.and_eq_true, List.any_eq_true, beq_iff_eq]
        rintro ⟨⟨y, hy, e⟩, _⟩
        exact hk5 (by rw [← h5, e]; exact hy)
    · rw [prim_go (by omega) (by rw [hop]; rfl) hv hh (by simp [h5]), hop]
      simp only [List.headD_cons, List.all_cons, List.all_nil, beq_self_eq_true, Bool.and_true, List.length_singleton, Nat.lt_irrefl, if_false]
      rw [show ([x] : List V)[0]! = x from rfl, hg x hv1, firstBad, find_same]
      simp [h5]
/-- an operation of two operands -/
theorem prim_two {s : List UInt8} {ks : List Int} {g : Int → Int → V} (hop : operands s = 2) (hk5 : ¬ (5 : Int) ∈ ks) (hg : ∀ x y : V, isValue x (-1) = true → isValue y (-1) = true → reckon s x y = if ks.any (fun z => x.k == z) && y.k == x.k then g x.n y.n else vbad 5) (x y : V) (hv : areValues [x, y] (-1) = true) : prim s [x, y] = (resultV ks g [x, y], 0) := by
  have hv1 : isValue x (-1) = true ∧ isValue y (-1) = true := by simpa [areValues] using hv
  cases hh : [x, y].any fun v => decide (v.k = 0) with
  | true =>
    rw [prim_hole (by omega) (by rw [hop]; rfl) hv hh]
    unfold resultV
    rw [any_hole hv, hh]
    rfl
  | false =>
    have hnh : [x, y].any isHoleB = false := by rw [any_hole hv, hh]
    unfold resultV
    rw [hnh, if_neg (by decide)]
    by_cases h5 : x.k = 5
    · rw [prim_bad (v := x) (by omega) (by rw [hop]; rfl) hv hh (by simp [h5])]
      rw [if_neg, firstBad, find_same]
      · simp [h5]
      · simp only [List.headD_cons, Bool.and_eq_true, List.any_eq_true, beq_iff_eq]
        rintro ⟨⟨z, hz, e⟩, _⟩
        exact hk5 (by rw [← h5, e]; exact hz)
    · by_cases h6 : y.k = 5
      · rw [prim_bad (v := y) (by omega) (by rw [hop]; rfl) hv hh (by simp [h5, h6])]
        rw [if_neg, firstBad, find_same]
        · simp [h5, h6]
        · simp only [List.headD_cons, Bool.and_eq_true, List.any_eq_true, List.all_cons, List.all_nil, beq_iff_eq]
          rintro ⟨_, _, e, _⟩
          exact h5 (by rw [← e, h6])
      · rw [prim_go (by omega) (by rw [hop]; rfl) hv hh (by simp [h5, h6]), hop]
        simp only [List.headD_cons, List.all_cons, List.all_nil, beq_self_eq_true, Bool.and_true, Bool.true_and]
        rw [show ([x, y] : List V)[0]! = x from rfl, show ([x, y] : List V)[2 - 1]! = y from rfl, hg x y hv1.1 hv1.2, firstBad, find_same]
        simp [h5, h6]
theorem reck_add (x y : V) : reckon nAdd x y = if [1].any (fun z => x.k == z) && y.k == x.k then ranged (x.n + y.n) else vbad 5 := by
  unfold reckon
  rw [if_neg (by decide), if_neg (by decide)]
  by_cases h1 : x.k = 1
  · by_cases h2 : y.k = 1
    · simp [h1, h2, nAdd, nLt, nLe]
    · simp [h1, h2, Ne.symm h2]
  · simp [h1]
theorem reck_sub (x y : V) : reckon nSub x y = if [1].any (fun z => x.k == z) && y.k == x.k then ranged (x.n - y.n) else vbad 5 := by
  unfold reckon
  rw [if_neg (by decide), if_neg (by decide)]
  by_cases h1 : x.k = 1
  · by_cases h2 : y.k = 1
    · simp [h1, h2, nAdd, nLt, nLe, nSub]
    · simp [h1, h2, Ne.symm h2]
  · simp [h1]
theorem reck_mul (x y : V) : reckon nMul x y = if [1].any (fun z => x.k == z) && y.k == x.k then ranged (x.n * y.n) else vbad 5 := by
  unfold reckon
  rw [if_neg (by decide), if_neg (by decide)]
  by_cases h1 : x.k = 1
  · by_cases h2 : y.k = 1
    · simp [h1, h2, nAdd, nLt, nLe, nSub, nMul]
    · simp [h1, h2, Ne.symm h2]
  · simp [h1]
theorem reck_lt (x y : V) : reckon nLt x y = if [1].any (fun z => x.k == z) && y.k == x.k then vbool (decide (x.n < y.n)) else vbad 5 := by
  unfold reckon
  rw [if_neg (by decide), if_neg (by decide)]
  by_cases h1 : x.k = 1
  · by_cases h2 : y.k = 1
    · simp [h1, h2]
    · simp [h1, h2, Ne.symm h2]
  · simp [h1]
theorem reck_le (x y : V) : reckon nLe x y = if [1].any (fun z => x.k == z) && y.k == x.k then vbool (decide (x.n ≤ y.n)) else vbad 5 := by
  unfold reckon
  rw [if_neg (by decide), if_neg (by decide)]
  by_cases h1 : x.k = 1
  · by_cases h2 : y.k = 1
    · simp [h1, h2, nLe, nLt]
    · simp [h1, h2, Ne.symm h2]
  · simp [h1]
theorem reck_div (x y : V) : reckon nDiv x y = if [1].any (fun z => x.k == z) && y.k == x.k then (if y.n = 0 then vbad 1 else ranged (x.n.tdiv y.n)) else vbad 5 := by
  unfold reckon
  rw [if_neg (by decide), if_neg (by decide)]
  by_cases h1 : x.k = 1
  · by_cases h2 : y.k = 1
    · simp [h1, h2, nAdd, nLt, nLe, nSub, nMul, nDiv, nNeg, nMod]
    · simp [h1, h2, Ne.symm h2]
  · simp [h1]
theorem reck_mod (x y : V) : reckon nMod x y = if [1].any (fun z => x.k == z) && y.k == x.k then (if y.n = 0 then vbad 1 else ranged (x.n.tmod y.n)) else vbad 5 := by
  unfold reckon
  rw [if_neg (by decide), if_neg (by decide)]
  by_cases h1 : x.k = 1
  · by_cases h2 : y.k = 1
    · simp [h1, h2, nAdd, nLt, nLe, nSub, nMul, nNeg, nMod]
    · simp [h1, h2, Ne.symm h2]
  · simp [h1]
theorem reck_eq (x y : V) : reckon nEq x y = if [1, 2].any (fun z => x.k == z) && y.k == x.k then vbool (x.n == y.n) else vbad 5 := by
  unfold reckon
  rw [if_neg (by decide), if_pos rfl]
  by_cases h : x.k = y.k ∧ (x.k = 1 ∨ x.k = 2)
  · rw [if_pos h, if_pos (by obtain ⟨h1, h2⟩ := h; rcases h2 with h2 | h2 <;> simp [h2, ← h1])]
    by_cases e : x.n = y.n
    · simp [e]
    · rw [show (x.n == y.n) = false from beq_eq_false_iff_ne.2 e, decide_eq_false e]
  · rw [if_neg h, if_neg (by simp only [List.any_cons, List.any_nil, Bool.or_false, Bool.and_eq_true, Bool.or_eq_true, beq_iff_eq]; rintro ⟨h1, h2⟩; exact h ⟨h2.symm, h1⟩)]
theorem reck_neg (x : V) : reckon nNeg x x = if [1].any (fun z => x.k == z) then ranged (-x.n) else vbad 5 := by
  unfold reckon
  rw [if_neg (by decide), if_neg (by decide)]
  by_cases h1 : x.k = 1
  · simp [h1, nAdd, nLt, nLe, nSub, nMul, nNeg]
  · simp [h1]
theorem reck_not (x : V) : reckon nNot x x = if [2].any (fun z => x.k == z) then vbool (x.n == 0) else vbad 5 := by
  unfold reckon
  rw [if_pos rfl]
  by_cases h1 : x.k = 2
  · by_cases e : x.n = 0
    · simp [h1, e]
    · rw [show (x.n == 0) = false from beq_eq_false_iff_ne.2 e, decide_eq_false e]; simp [h1]
  · simp [h1]
end Ce

namespace Go.Proofs.YtjldkndalcellaaGreatDoor
open Go.RowKit Go.El

/-- an operation, its function and what this gives -/
structure Tab where
  sp : Spec
  g : Int → Int → Ce.V
def Tab.Ok (t : Tab) : Prop := GivesIs t.sp.fn t.g ∧ (∀ args w, (callFunc t.sp.fn args).run Tryz.prog w = .ok (.enter t.sp.fn args) w) ∧ Ce.operands t.sp.name ≠ 0 ∧ t.sp.n = Ce.operands t.sp.name ∧ t.sp.kinds.length ≤ 100 ∧ (∀ k ∈ t.sp.kinds, k = 1 ∨ k = 2) ∧ ∀ l : List Ce.V, l.length = Ce.operands t.sp.name → Ce.areValues l (-1) = true → Ce.prim t.sp.name l = (Ce.resultV t.sp.kinds t.g l, 0)
theorem ok_two {sp : Spec} {g : Int → Int → Ce.V} (h1 : GivesIs sp.fn g) (h2 : ∀ args w, (callFunc sp.fn args).run Tryz.prog w = .ok (.enter sp.fn args) w) (hop : Ce.operands sp.name = 2) (hn : sp.n = 2) (hks : sp.kinds.length ≤ 100) (h12 : ∀ k ∈ sp.kinds, k = 1 ∨ k = 2)
    (hg : ∀ x y : Ce.V, Ce.reckon sp.name x y = if sp.kinds.any (fun z => x.k == z) && y.k == x.k then g x.n y.n else Ce.vbad 5) : Tab.Ok ⟨sp, g⟩ := by
  refine ⟨h1, h2, by dsimp only; omega, by dsimp only; omega, hks, h12, fun l hl hv => ?_⟩
  dsimp only at hl ⊢
  rw [hop] at hl
  match l, hl with
  | [x, y], _ => exact Ce.prim_two hop (fun h => by rcases h12 5 h with h | h <;> omega) (fun x y _ _ => hg x y) x y hv
theorem ok_one' {sp : Spec} {g : Int → Int → Ce.V} (h1 : GivesIs sp.fn g) (h2 : ∀ args w, (callFunc sp.fn args).run Tryz.prog w = .ok (.enter sp.fn args) w) (hop : Ce.operands sp.name = 1) (hn : sp.n = 1) (hks : sp.kinds.length ≤ 100) (h12 : ∀ k ∈ sp.kinds, k = 1 ∨ k = 2)
    (hg : ∀ x : Ce.V, Ce.reckon sp.name x x = if sp.kinds.any (fun z => x.k == z) then g x.n 0 else Ce.vbad 5) : Tab.Ok ⟨sp, g⟩ := by
  refine ⟨h1, h2, by dsimp only; omega, by dsimp only; omega, hks, h12, fun l hl hv => ?_⟩
  dsimp only at hl ⊢
  rw [hop] at hl
  match l, hl with
  | [x], _ => exact Ce.prim_one hop (fun h => by rcases h12 5 h with h | h <;> omega) (fun x _ => hg x) x hv
/-- each operation of the map is as the model has it -/
theorem specs_ok (sp : Spec) (h : sp ∈ specs) : ∃ g, Tab.Ok ⟨sp, g⟩ := by
  simp only [specs, List.mem_cons, List.not_mem_nil, or_false] at h
  rcases h with rfl | rfl | rfl | rfl | rfl | rfl | rfl | rfl | rfl | rfl
  · exact ⟨_, ok_two g_eq (enters_of Tryz.func89 (by kernel_rfl) rfl) (by decide) rfl (by decide) (by decide) Ce.reck_eq⟩
  · exact ⟨_, ok_one' g_neg (enters_of Tryz.func91 (by kernel_rfl) rfl) (by decide) rfl (by decide) (by decide) Ce.reck_neg⟩
  · exact ⟨_, ok_one' g_not (enters_of Tryz.func92 (by kernel_rfl) rfl) (by decide) rfl (by decide) (by decide) Ce.reck_not⟩
  · exact ⟨_, ok_two g_add (enters_of Tryz.func94 (by kernel_rfl) rfl) (by decide) rfl (by decide) (by decide) Ce.reck_add⟩
  · exact ⟨_, ok_two g_sub (enters_of Tryz.func95 (by kernel_rfl) rfl) (by decide) rfl (by decide) (by decide) Ce.reck_sub⟩
  · exact ⟨_, ok_two g_mul (enters_of Tryz.func96 (by kernel_rfl) rfl) (by decide) rfl (by decide) (by decide) Ce.reck_mul⟩
  · exact ⟨_, ok_two g_lt (enters_of Tryz.func97 (by kernel_rfl) rfl) (by decide) rfl (by decide) (by decide) Ce.reck_lt⟩
  · exact ⟨_, ok_two g_le (enters_of Tryz.func98 (by kernel_rfl) rfl) (by decide) rfl (by decide) (by decide) Ce.reck_le⟩
  · exact ⟨_, ok_two g_div (enters_of Tryz.func99 (by kernel_rfl) rfl) (by decide) rfl (by decide) (by decide) Ce.reck_div⟩
  · exact ⟨_, ok_two g_mod (enters_of Tryz.func101 (by kernel_rfl) rfl) (by decide) rfl (by decide) (by decide) Ce.reck_mod⟩
theorem specs_names (s : List UInt8) : Ce.operands s ≠ 0 ↔ ∃ sp ∈ specs, sp.name = s := by
  constructor
  · intro h
    have := Ce.operands_mem h
    simp only [Ce.names, List.mem_cons, List.not_mem_nil, or_false] at this
    rcases this with rfl | rfl | rfl | rfl | rfl | rfl | rfl | rfl | rfl | rfl
    · exact ⟨sp_add, by simp [specs], rfl⟩
    · exact ⟨sp_sub, by simp [specs], rfl⟩
    · exact ⟨sp_mul, by simp [specs], rfl⟩
    · exact ⟨sp_div, by simp [specs], rfl⟩
    · exact ⟨sp_mod, by simp [specs], rfl⟩
    · exact ⟨sp_neg, by simp [specs], rfl⟩
    · exact ⟨sp_lt, by simp [specs], rfl⟩
    · exact ⟨sp_le, by simp [specs], rfl⟩
    · exact ⟨sp_eq, by simp [specs], rfl⟩
    · exact ⟨sp_not, by simp [specs], rfl⟩
  · rintro ⟨sp, hsp, rfl⟩
    obtain ⟨g, h⟩ := specs_ok sp hsp
    exact h.2.2.1

theorem zeroOp (w : World) : (zeroValue 103).run Tryz.prog w = .ok (.agg #[.int .i64 0, .slice none 0 0, .nilFunc]) w := by kernel_rfl
theorem EntriesIs.one {W : World} : ∀ {L : List (Value × Value)} {S : List Spec}, EntriesIs W L S → (S.map Spec.name).Nodup → ∀ p ∈ L, ∀ q ∈ L, p.1 = q.1 → p = q
  | [], _, _, _, p, hp, _, _, _ => by cases hp
  | _ :: _, [], h, _, _, _, _, _, _ => h.elim
  | x :: L, s :: S, h, hd, p, hp, q, hq, e => by
    rw [List.map_cons, List.nodup_cons] at hd
    have far : ∀ y ∈ L, y.1 ≠ x.1 := fun y hy e => by
      obtain ⟨t, ht, he⟩ := EntriesIs.key h.2 hy
      rw [he.key, h.1.key, key_inj] at e
      exact hd.1 (List.mem_map.2 ⟨t, ht, e⟩)
    cases hp with
    | head =>
      cases hq with
      | head => rfl
      | tail _ hq => exact absurd e.symm (far q hq)
    | tail _ hp =>
      cases hq with
      | head => exact absurd e (far p hp)
      | tail _ hq => exact EntriesIs.one h.2 hd.2 p hp q hq e
/-- what is looked up is not there -/
theorem look_none {W : World} {b : Nat} (h : OpsAt W b specs) (s : ByteArray) (hs : Ce.operands s.data.toList = 0) (ok : Bool) :
    (Instr.lookup 105 (.map (some b)) (.string s) ok).run Tryz.prog W = .ok (if ok then .tuple #[.agg #[.int .i64 0, .slice none 0 0, .nilFunc], .bool false] else .agg #[.int .i64 0, .slice none 0 0, .nilFunc]) W := by
  obtain ⟨⟨L, h1, h2⟩, _, _⟩ := h
  refine run_lookup_none h1 Tryz.underlying105 Tryz.underlying9 (zeroOp W) (key := .string s) trivial ?_ ok
  intro p hp e
  obtain ⟨t, ht, he⟩ := h2.key hp
  rw [he.key] at e
  unfold Spec.key at e
  injection e with e
  have : Ce.operands t.name ≠ 0 := (specs_names _).2 ⟨t, ht, rfl⟩
  rw [← e] at hs
  exact this hs
/-- what is looked up is there -/
theorem look_some {W : World} {b : Nat} (h : OpsAt W b specs) (s : ByteArray) (sp : Spec) (hm : sp ∈ specs) (hn : sp.name = s.data.toList) (ok : Bool) :
    ∃ g, U8E.In W g 0 sp.kinds ∧ g < W.heap.size ∧ (Instr.lookup 105 (.map (some b)) (.string s) ok).run Tryz.prog W = .ok (if ok then .tuple #[.agg #[.int .i64 sp.n, .slice (some ⟨g, 0, none⟩) sp.kinds.length sp.kinds.length, .func (.func sp.fn) #[] #[]], .bool true] else .agg #[.int .i64 sp.n, .slice (some ⟨g, 0, none⟩) sp.kinds.length sp.kinds.length, .func (.func sp.fn) #[] #[]]) W := by
  obtain ⟨⟨L, h1, h2⟩, _, h4⟩ := h
  obtain ⟨p, hp, g, hg, hin, hlt⟩ := h2.at_ hm
  have hk : sp.key = .string s := by
    unfold Spec.key
    rw [hn]
  subst hg
  rw [hk] at hp
  exact ⟨g, hin, hlt, run_lookup_some h1 Tryz.underlying105 Tryz.underlying9 (key := .string s) trivial hp (fun q hq e => by rw [EntriesIs.one h2 h4 q hq _ hp e]) ok⟩

theorem field_op (n : Int) (a b : Value) (w : World) : (Instr.field 103 (.agg #[.int .i64 n, a, b]) 0).run Tryz.prog w = .ok (.int .i64 n) w := by kernel_rfl
end Go.Proofs.YtjldkndalcellaaGreatDoor

namespace Go.Proofs.YtjldkndalcellaaGreatDoor
open Go.RowKit Go.El

/-- the result of an operation, of as many values as it wants -/
theorem result_any (sp : Spec) (gf : Int → Int → Ce.V) (hok : Tab.Ok ⟨sp, gf⟩) (l : List Ce.V) (hl : l.length = Ce.operands sp.name) (hv : Ce.areValues l (-1) = true) (g : Nat) (A : Option Addr) (cap : Nat) (w : World) (h : ValE.Arg w A l) (hg : U8E.In w g 0 sp.kinds) :
    Calls Tryz.prog 66 #[.agg #[.int .i64 sp.n, .slice (some ⟨g, 0, none⟩) sp.kinds.length sp.kinds.length, .func (.func sp.fn) #[] #[]], .slice A l.length cap] w fun e w' => e = .returned (.agg #[.int .u8 (Ce.prim sp.name l).1.k, .int .i64 (Ce.prim sp.name l).1.n]) ∧ Below w.heap.size w w' := by
  obtain ⟨h1, h2, h3, h4, h5, h6, h7⟩ := hok
  dsimp only at h1 h2 h3 h4 h5 h6 h7
  have hle := Ce.operands_le sp.name
  have hl100 : l.length ≤ 100 := by omega
  rw [h7 l hl hv]
  unfold Ce.resultV
  cases hh : l.any isHoleB with
  | true =>
    rw [if_pos rfl]
    exact result_hole sp.n sp.kinds sp.fn g l hl100 A cap w h hh
  | false =>
    rw [if_neg (by decide)]
    cases l with
    | nil => simp at hl; omega
    | cons x r =>
      cases hq : sp.kinds.any (fun y => x.k == y) && (x :: r).all (fun v => v.k == x.k) with
      | false =>
        rw [List.headD_cons, if_neg (by rw [hq]; decide)]
        exact result_wrong sp.n sp.kinds h5 sp.fn g x r hl100 A cap w h hg hh hq
      | true =>
        rw [List.headD_cons, if_pos hq]
        rw [Bool.and_eq_true] at hq
        have hav : ∀ y ∈ x :: r, Ce.isValue y (-1) = true := by unfold Ce.areValues at hv; exact List.all_eq_true.1 hv
        have hk : x.k = 1 ∨ x.k = 2 := by
          obtain ⟨y, hy, e⟩ := List.any_eq_true.1 hq.1
          have e : x.k = y := by simpa using e
          rw [e]; exact h6 y hy
        have hb : ∀ y ∈ x :: r, -1000000000 ≤ y.n ∧ y.n ≤ 1000000000 := by
          intro y hy
          have e : y.k = x.k := by simpa using List.all_eq_true.1 hq.2 y hy
          have hvy := hav y hy
          unfold Ce.isValue at hvy
          rcases hk with hk | hk
          · rw [if_neg (by omega), if_pos (by omega)] at hvy
            simpa [Ce.inn] using hvy
          · rw [if_neg (by omega), if_neg (by omega), if_pos (by omega)] at hvy
            simp at hvy
            omega
        exact result_go sp.n sp.kinds h5 sp.fn g gf h1 h2 x r hl100 A cap w h hg hh hq.1 hq.2 (hb x (.head _)).1 (hb x (.head _)).2 (fun y hy => hb y (.tail _ hy))

set_option maxRecDepth 100000 in
set_option maxHeartbeats 4000000 in
theorem prim_any : PrimC := by
  intro s l A cap w _ hl hs
  have h := hs.arg
  have HB : Hid (Below w.heap.size w (w.alloc (.cells #[.int .u8 0, .int .i64 0] 57))) := Lib.hid ((Below.refl _ _).alloc (Nat.le_refl _) _)
  have HZ := Lib.hid (Blk.new w 57 #[.int .u8 0, .int .i64 0])
  have HARG := Lib.hid (h.below HB.out)
  have HOP := Lib.hid (fun W => operations_any W)
  clear hs h
  by_cases h0 : Ce.operands s.data.toList = 0
  · rw [Ce.prim_none h0]
    have HL := Lib.hid (fun W b (h : OpsAt W b specs) => look_none h s h0 true)
    clear h0 HARG
    go_enter Tryz.func37, Tryz.ntmps37
    go_wp2_with fail
    refine (HOP.out _).mono ?_
    rintro e w1 ⟨⟨b, rfl, ho⟩, hb1⟩
    have hrun := HL.out w1 b ho
    simp only [if_true] at hrun
    have HZ1 := Lib.hid (HZ.out.below hb1)
    have HB1 := Lib.hid (HB.out.trans (hb1.mono HB.out.size))
    have hlt : w.heap.size < w1.heap.size := (HZ.out.below hb1).lt
    have z0 := HZ1.out.cell 0
    have z1 := HZ1.out.cell 1
    have zf0 := HZ1.out.frozen 0
    have zf1 := HZ1.out.frozen 1
    dsimp at z0 z1
    clear ho hb1 HL HZ HB
    go_wp2
    refine bodyPost_ret (results_row_tmp rfl _ _ w.heap.size 57 #[.int .u8 0, .int .i64 0] (0, 0) _ rfl (((HZ1.out.set_ 0 _).set_ 1 _).alloc _) Tryz.underlying57 rfl val_size) rfl ?_
    exact ⟨rfl, ((HB1.out.setCell (by simp) _).setCell (by simp) _).alloc (by simp; omega) _⟩
  obtain ⟨sp, hm, hn⟩ := (specs_names _).1 h0
  obtain ⟨gf, hok⟩ := specs_ok sp hm
  have HL := Lib.hid (fun W b (h : OpsAt W b specs) => look_some h s sp hm hn true)
  have hlen := Ce.prim_len (s := s.data.toList) (l := l) h0
  have hval := Ce.prim_val (s := s.data.toList) (l := l) h0
  have hnn : sp.n = Ce.operands s.data.toList := by rw [← hn]; exact hok.2.2.2.1
  have hre : l.length = Ce.operands s.data.toList → Ce.areValues l (-1) = true → (Ce.prim s.data.toList l).2 = 0 := fun hl' hv => by
    have := hok.2.2.2.2.2.2 l (by dsimp only; rw [hn]; exact hl') hv
    dsimp only at this
    rw [hn] at this
    rw [this]
  have hca := fun W h' => val_all l (by omega) A cap (fun v => Ce.isValue v (-1)) 65 #[] (enters_of Tryz.func65 (by kernel_rfl) rfl) W h' (fun v _ W _ => cIsValue_any v W)
  have hres := fun (hl' : l.length = Ce.operands sp.name) (hv : Ce.areValues l (-1) = true) g W (ha : ValE.Arg W A l) (hg : U8E.In W g 0 sp.kinds) => result_any sp gf hok l hl' hv g A cap W ha hg
  rw [hn] at hres
  have hav : (l.all fun v => Ce.isValue v (-1)) = Ce.areValues l (-1) := rfl
  rw [hav] at hca
  obtain ⟨spn, n, ks, F⟩ := sp
  dsimp only at hn hnn hres
  generalize Ce.operands s.data.toList = N at *
  generalize Ce.prim s.data.toList l = R at *
  generalize Ce.areValues l (-1) = q at *
  subst hnn
  obtain ⟨⟨rk, rn⟩, re⟩ := R
  have HRE := Lib.hid hre
  clear hre
  have HLEN := Lib.hid hlen
  have HVAL := Lib.hid hval
  have HCA := Lib.hid hca
  have HRES := Lib.hid hres
  dsimp only at HL
  clear h0 hlen hval hca hres hok hm hav hn
  dsimp only
  by_cases hln : l.length = N
  case neg =>
    have hln' : ((l.length : Int) == N) = false := beq_eq_false_iff_ne.2 (by omega)
    have hln'' : ((l.length : Int) != N) = true := by rw [bne, hln']; rfl
    obtain ⟨rfl, rfl, rfl⟩ : rk = 0 ∧ rn = 0 ∧ re = 2 := by have := HLEN.out hln; simp [Ce.hole] at this; omega
    go_enter Tryz.func37, Tryz.ntmps37
    go_wp2_with fail
    refine (HOP.out _).mono ?_
    rintro e w1 ⟨⟨b, rfl, ho⟩, hb1⟩
    obtain ⟨g, hin, hgl, hrun⟩ := HL.out w1 b ho
    simp only [if_true] at hrun
    have HZ1 := Lib.hid (HZ.out.below hb1)
    have HB1 := Lib.hid (HB.out.trans (hb1.mono HB.out.size))
    have hlt : w.heap.size < w1.heap.size := (HZ.out.below hb1).lt
    have z0 := HZ1.out.cell 0
    have z1 := HZ1.out.cell 1
    have zf0 := HZ1.out.frozen 0
    have zf1 := HZ1.out.frozen 1
    dsimp at z0 z1
    clear ho hb1 HL HZ HB hin
    go_wp2
    refine bodyPost_ret (results_row_tmp rfl _ _ w.heap.size 57 #[.int .u8 0, .int .i64 0] (0, 0) _ rfl (((HZ1.out.set_ 0 _).set_ 1 _).alloc _) Tryz.underlying57 rfl val_size) rfl ?_
    exact ⟨rfl, ((HB1.out.setCell (by simp) _).setCell (by simp) _).alloc (by simp; omega) _⟩
  subst hln
  have hln' : ((l.length : Int) != l.length) = false := by simp
  clear HLEN
  cases q with
  | false =>
    obtain ⟨rfl, rfl, rfl⟩ : rk = 0 ∧ rn = 0 ∧ re = 4 := by have := HVAL.out rfl rfl; simp [Ce.hole] at this; omega
    go_enter Tryz.func37, Tryz.ntmps37
    go_wp2_with fail
    refine (HOP.out _).mono ?_
    rintro e w1 ⟨⟨b, rfl, ho⟩, hb1⟩
    obtain ⟨g, hin, hgl, hrun⟩ := HL.out w1 b ho
    simp only [if_true] at hrun
    have hba : Below w1.heap.size w1 (w1.alloc (.cells #[.int .i64 l.length, .slice (some ⟨g, 0, none⟩) ks.length ks.length, .func (.func F) #[] #[]] 103)) := (Below.refl _ _).alloc (Nat.le_refl _) _
    have HZ1 := Lib.hid ((HZ.out.below hb1).below hba)
    have HB1 := Lib.hid ((HB.out.trans (hb1.mono HB.out.size)).trans (hba.mono (HB.out.trans (hb1.mono HB.out.size)).size))
    have HARG1 := Lib.hid ((HARG.out.below hb1).below hba)
    clear ho hb1 hba HL HZ HB hin HARG
    go_wp2_with fail
    refine (HCA.out _ HARG1.out).mono ?_
    rintro e w2 ⟨rfl, hb2⟩
    have HZ2 := Lib.hid (HZ1.out.below hb2)
    have HB2 := Lib.hid (HB1.out.trans (hb2.mono HB1.out.size))
    have z0 := HZ2.out.cell 0
    have z1 := HZ2.out.cell 1
    have zf0 := HZ2.out.frozen 0
    have zf1 := HZ2.out.frozen 1
    dsimp at z0 z1
    clear hb2 HZ1 HB1
    go_wp2
    refine bodyPost_ret (results_row_tmp rfl _ _ w.heap.size 57 #[.int .u8 0, .int .i64 0] (0, 0) _ rfl ((HZ2.out.set_ 0 _).set_ 1 _) Tryz.underlying57 rfl val_size) rfl ?_
    exact ⟨rfl, (HB2.out.setCell (by simp) _).setCell (by simp) _⟩
  | true =>
    have hres := HRES.out rfl rfl
    obtain rfl : re = 0 := HRE.out rfl rfl
    have HRES2 := Lib.hid hres
    clear hres HRES HVAL
    go_enter Tryz.func37, Tryz.ntmps37
    go_wp2_with fail
    refine (HOP.out _).mono ?_
    rintro e w1 ⟨⟨b, rfl, ho⟩, hb1⟩
    obtain ⟨g, hin, hgl, hrun⟩ := HL.out w1 b ho
    simp only [if_true] at hrun
    have hba : Below w1.heap.size w1 (w1.alloc (.cells #[.int .i64 l.length, .slice (some ⟨g, 0, none⟩) ks.length ks.length, .func (.func F) #[] #[]] 103)) := (Below.refl _ _).alloc (Nat.le_refl _) _
    have HZ1 := Lib.hid ((HZ.out.below hb1).below hba)
    have HB1 := Lib.hid ((HB.out.trans (hb1.mono HB.out.size)).trans (hba.mono (HB.out.trans (hb1.mono HB.out.size)).size))
    have HARG1 := Lib.hid ((HARG.out.below hb1).below hba)
    have HOB1 := Lib.hid (Blk.new w1 103 #[.int .i64 l.length, .slice (some ⟨g, 0, none⟩) ks.length ks.length, .func (.func F) #[] #[]])
    have HIN1 := Lib.hid (hin.below hba (fun _ => hgl))
    have HGL : Hid (g < (w1.alloc (.cells #[.int .i64 l.length, .slice (some ⟨g, 0, none⟩) ks.length ks.length, .func (.func F) #[] #[]] 103)).heap.size) := Lib.hid (Nat.lt_of_lt_of_le hgl hba.size)
    clear ho hb1 hba HL HZ HB hin HARG
    go_wp2_with fail
    refine (HCA.out _ HARG1.out).mono ?_
    rintro e w2 ⟨rfl, hb2⟩
    have HZ2 := Lib.hid (HZ1.out.below hb2)
    have HB2 := Lib.hid (HB1.out.trans (hb2.mono HB1.out.size))
    have HARG2 := Lib.hid (HARG1.out.below hb2)
    have HIN2 := Lib.hid (HIN1.out.below hb2 (fun _ => HGL.out))
    have HOB2 := HOB1.out.below hb2
    have o0 := HOB2.cell 0
    have o1 := HOB2.cell 1
    have o2 := HOB2.cell 2
    dsimp at o0 o1 o2
    clear hb2 HZ1 HB1 HOB1 HOB2 HARG1 HIN1 HGL
    go_wp2_with fail
    refine (HRES2.out g _ HARG2.out HIN2.out).mono ?_
    rintro e w3 ⟨rfl, hb3⟩
    have HZ3 := Lib.hid (HZ2.out.below hb3)
    have HB3 := Lib.hid (HB2.out.trans (hb3.mono HB2.out.size))
    have z0 := HZ3.out.cell 0
    have z1 := HZ3.out.cell 1
    have zf0 := HZ3.out.frozen 0
    have zf1 := HZ3.out.frozen 1
    dsimp at z0 z1
    clear hb3 HZ2 HB2 o0 o1 o2
    go_wp2
    refine bodyPost_ret (results_row_tmp rfl _ _ w.heap.size 57 #[.int .u8 rk, .int .i64 rn] (0, 0) _ rfl ((HZ3.out.set_ 0 _).set_ 1 _) Tryz.underlying57 rfl val_size) rfl ?_
    exact ⟨rfl, (HB3.out.setCell (by simp) _).setCell (by simp) _⟩
end Go.Proofs.YtjldkndalcellaaGreatDoor
