/- Layer 6, the program: wrong, has. -/
import Derived.Test.YtacggbpgillbaaaGreatDoorTc
import Derived.Test.YtacggbpgillbaaaGreatDoorTd
namespace Ce
/-- the first VBad of values, a new one if there is none -/
def firstBad (l : List V) (fault : Int) : V := (l.find? fun v => v.k == 5).getD (vbad fault)
theorem isValue_split (v : V) (n : Nat) : isValue v n = (isValue v (-1) && (!(v.k == 4) || decide (v.n < n))) := by
  unfold isValue
  by_cases h4 : v.k = 4
  · rw [if_neg (by omega), if_neg (by omega), if_neg (by omega), if_neg (by omega), if_pos h4, if_neg (by omega), if_neg (by omega), if_neg (by omega), if_neg (by omega), if_pos h4]
    simp only [h4, show decide ((n : Int) < 0) = false from decide_eq_false (by omega)]
    simp
  · have : (v.k == 4) = false := beq_eq_false_iff_ne.2 h4
    rw [this, if_neg h4, if_neg h4]
    simp
end Ce
namespace Go.Proofs.YtacggbpgillbaaaGreatDoor
open Go.RowKit Go.El

set_option maxRecDepth 100000 in
set_option maxHeartbeats 1000000 in
theorem wrong_any (f : Int) (l : List Ce.V) (hl : l.length ≤ 1000000) (A : Option Addr) (cap : Nat) (w : World) (h : ValE.Arg w A l) :
    Calls Tryz.prog 125 #[.int .i64 f, .slice A l.length cap] w fun e w' => e = .returned (.agg #[.int .u8 (Ce.firstBad l f).k, .int .i64 (Ce.firstBad l f).n]) ∧ Below w.heap.size w w' := by
  have HB : Hid (Below w.heap.size w (w.alloc (.cells #[.int .u8 0, .int .i64 0] 26))) := Lib.hid ((Below.refl _ _).alloc (Nat.le_refl _) _)
  have HZ := Lib.hid (Blk.new w 26 #[.int .u8 0, .int .i64 0])
  have hc := val_index l hl A cap (fun v => v.k == 5) 153 #[] (enters_of Tryz.func153 (by kernel_rfl) rfl) (w.alloc (.cells #[.int .u8 0, .int .i64 0] 26)) (h.below HB.out) (fun x _ W _ => isBad_any x W)
  have hf := Ce.idxK_find (fun v : Ce.V => v.k == 5) l 0
  unfold Ce.firstBad
  cases hR : Ce.idxK (fun v : Ce.V => v.k == 5) l 0 with
  | none =>
    rw [hR] at hc hf
    rw [show l.find? (fun v => v.k == 5) = none from hf]
    have HC : Hid _ := Lib.hid hc
    have HBAD := Lib.hid (fun W => bad_any f W)
    clear hc hf hR h
    go_enter Tryz.func125, Tryz.ntmps125
    go_wp2_with fail
    refine HC.out.mono ?_
    rintro e w1 ⟨rfl, hb1⟩
    unfold optV
    have HZ1 := Lib.hid (HZ.out.below hb1)
    have HB1 := Lib.hid (HB.out.trans (hb1.mono HB.out.size))
    clear hb1 HZ HB
    go_wp2_with fail
    refine (HBAD.out _).mono ?_
    rintro e w2 ⟨rfl, hb2⟩
    have HZ2 := Lib.hid (HZ1.out.below hb2)
    have HB2 := Lib.hid (HB1.out.trans (hb2.mono HB1.out.size))
    clear hb2
    have z0 := HZ2.out.cell 0
    have z1 := HZ2.out.cell 1
    have zf0 := HZ2.out.frozen 0
    have zf1 := HZ2.out.frozen 1
    dsimp at z0 z1
    go_wp2
    refine bodyPost_ret (results_cell_row rfl _ _ w.heap.size 26 #[.int .u8 5, .int .i64 f] (0, 0) _ rfl ((HZ2.out.set_ 0 _).set_ 1 _) Tryz.underlying26 rfl val_size) rfl ?_
    exact ⟨rfl, (HB2.out.setCell (by simp) _).setCell (by simp) _⟩
  | some n =>
    rw [hR] at hc hf
    obtain ⟨_, h2, x, h3, h4⟩ := hf
    rw [h4]
    simp only [Nat.sub_zero, Nat.zero_add] at h2 h3
    have HC : Hid _ := Lib.hid hc
    obtain ⟨b, o, rfl, hin, hbl⟩ := h.at_lt h2
    obtain ⟨x0, x1⟩ := ValE.at2 hin h3
    have SX := Lib.hid (((Stay.cell x0).and (Stay.cell x1)).alloc (.cells #[.int .u8 0, .int .i64 0] 26))
    have hn0 : 0 ≤ (n : Int) := by omega
    have hn1 : (n : Int) < l.length := by omega
    clear hc hR h hin h3 h4 x0 x1
    go_enter Tryz.func125, Tryz.ntmps125
    go_wp2_with fail
    refine HC.out.mono ?_
    rintro e w1 ⟨rfl, hb1⟩
    unfold optV
    have HZ2 := Lib.hid (HZ.out.below hb1)
    have HB2 := Lib.hid (HB.out.trans (hb1.mono HB.out.size))
    obtain ⟨x0, x1⟩ := SX.out _ hb1
    have hne : w.heap.size ≠ b := by omega
    have hne2 : b ≠ w.heap.size := by omega
    clear hb1 HZ HB
    have z0 := HZ2.out.cell 0
    have z1 := HZ2.out.cell 1
    have zf0 := HZ2.out.frozen 0
    have zf1 := HZ2.out.frozen 1
    dsimp at z0 z1
    go_wp2
    refine bodyPost_ret (results_cell_row rfl _ _ w.heap.size 26 #[.int .u8 x.k, .int .i64 x.n] (0, 0) _ rfl ((HZ2.out.set_ 0 _).set_ 1 _) Tryz.underlying26 rfl val_size) rfl ?_
    exact ⟨rfl, (HB2.out.setCell (by simp) _).setCell (by simp) _⟩

set_option maxRecDepth 100000 in
set_option maxHeartbeats 1000000 in
/-- a value is one of a memory, the memory's box at hand -/
theorem has1_any (v : Ce.V) (m : Nat) (A : Option Addr) (c g : Nat) (w : World) (hg : w.cell? ⟨g, 0, none⟩ = some (.slice A m c)) :
    Calls Tryz.prog 162 #[.agg #[.int .u8 v.k, .int .i64 v.n], .pointer (some ⟨g, 0, none⟩)] w fun e w' => e = .returned (.bool (Ce.isValue v m)) ∧ Below w.heap.size w w' := by
  have HB : Hid (Below w.heap.size w (w.alloc (.cells #[.int .u8 v.k, .int .i64 v.n] 26))) := Lib.hid ((Below.refl _ _).alloc (Nat.le_refl _) _)
  have SX := Lib.hid (((Stay.cell hg).alloc (.cells #[.int .u8 v.k, .int .i64 v.n] 26)).and (box2 (W := w) (v := .int .u8 v.k) (u := .int .i64 v.n) (t := 26)))
  have hcall := cIsValue_any v (w.alloc (.cells #[.int .u8 v.k, .int .i64 v.n] 26))
  rw [Ce.isValue_split]
  generalize Ce.isValue v (-1) = q at *
  obtain ⟨k, n⟩ := v
  dsimp only at *
  have HC := Lib.hid hcall
  clear hcall hg
  cases q with
  | false =>
    go_enter Tryz.func162, Tryz.ntmps162
    go_wp2_with fail
    refine HC.out.mono ?_
    rintro e w1 ⟨rfl, hb1⟩
    have HB1 := Lib.hid (HB.out.trans (hb1.mono HB.out.size))
    clear hb1
    go_wp2
    go_ret
    exact ⟨rfl, HB1.out⟩
  | true =>
    rw [Bool.true_and]
    by_cases hk : k = 4
    · subst hk
      rw [show (!((4 : Int) == 4)) = false from rfl, Bool.false_or]
      by_cases hn : n < m
      · rw [decide_eq_true hn]
        go_enter Tryz.func162, Tryz.ntmps162
        go_wp2_with fail
        refine HC.out.mono ?_
        rintro e w1 ⟨rfl, hb1⟩
        have HB1 := Lib.hid (HB.out.trans (hb1.mono HB.out.size))
        obtain ⟨x2, x0, x1⟩ := SX.out _ hb1
        clear hb1
        go_wp2
        go_ret
        exact ⟨rfl, HB1.out⟩
      · have hn' : decide (n < (m : Int)) = false := decide_eq_false hn
        rw [hn']
        go_enter Tryz.func162, Tryz.ntmps162
        go_wp2_with fail
        refine HC.out.mono ?_
        rintro e w1 ⟨rfl, hb1⟩
        have HB1 := Lib.hid (HB.out.trans (hb1.mono HB.out.size))
        obtain ⟨x2, x0, x1⟩ := SX.out _ hb1
        clear hb1
        go_wp2
        go_ret
        exact ⟨rfl, HB1.out⟩
    · have hk' : (k == 4) = false := beq_eq_false_iff_ne.2 hk
      have hk2 : (k != 4) = true := by rw [bne, hk']; rfl
      rw [hk', show (!false || decide (n < (m : Int))) = true from rfl]
      clear hk
      go_enter Tryz.func162, Tryz.ntmps162
      go_wp2_with fail
      refine HC.out.mono ?_
      rintro e w1 ⟨rfl, hb1⟩
      have HB1 := Lib.hid (HB.out.trans (hb1.mono HB.out.size))
      obtain ⟨x2, x0, x1⟩ := SX.out _ hb1
      clear hb1
      go_wp2
      go_ret
      exact ⟨rfl, HB1.out⟩

set_option maxHeartbeats 1000000 in
theorem has_any (m : Nat) (B : Option Addr) (c : Nat) (l : List Ce.V) (hl : l.length ≤ 1000000) (A : Option Addr) (cap : Nat) (w : World) (h : ValE.Arg w A l) :
    Calls Tryz.prog 136 #[.agg #[.slice B m c], .slice A l.length cap] w fun e w' => e = .returned (.bool (Ce.areValues l m)) ∧ Below w.heap.size w w' := by
  have HB : Hid (Below w.heap.size w (w.alloc (.cells #[.slice B m c] 35))) := Lib.hid ((Below.refl _ _).alloc (Nat.le_refl _) _)
  have sb := box1 (W := w) (v := .slice B m c) (t := 35)
  have hc := val_all l hl A cap (fun v => Ce.isValue v m) 162 #[.pointer (some ⟨w.heap.size, 0, none⟩)] (enters_of Tryz.func162 (by kernel_rfl) rfl) _ (h.below HB.out) (fun x _ W hb => has1_any x m B c w.heap.size W (sb W hb))
  unfold Ce.areValues
  generalize (l.all fun v => Ce.isValue v m) = q at *
  have HC := Lib.hid hc
  clear hc h sb
  go_enter Tryz.func136, Tryz.ntmps136
  go_wp2_with fail
  refine HC.out.mono ?_
  rintro e w1 ⟨rfl, hb1⟩
  go_wp2
  go_ret
  exact ⟨rfl, HB.out.trans (hb1.mono HB.out.size)⟩
end Go.Proofs.YtacggbpgillbaaaGreatDoor
