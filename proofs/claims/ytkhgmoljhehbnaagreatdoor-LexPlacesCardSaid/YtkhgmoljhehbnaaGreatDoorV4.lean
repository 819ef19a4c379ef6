/- The walk of the law LexPlaces. -/
import Derived.Test.YtkhgmoljhehbnaaGreatDoorV3
namespace Go.Proofs.YtkhgmoljhehbnaaGreatDoor
open Go.RowKit

/-- a spot's value -/
abbrev spotV (p l c : Int) : Value := .agg #[.int .i64 p, .int .i64 l, .int .i64 c]
abbrev spotO (p l c : Int) : Obj := .cells #[.int .i64 p, .int .i64 l, .int .i64 c] 23

set_option maxHeartbeats 1000000 in
theorem places_far (s : ByteArray) (hm : s.size ≤ maxLen) (h : (600 < s.size ∧ s.size ≤ 2500) ∨ 6000 < s.size) (p l c : Int) (w : World) (he : Env w) :
    Calls Tryz.prog 3 #[.string s, spotV p l c] w fun e w' => e = .returned (.bool true) ∧ Below w.heap.size w w' := by
  have hmi : (s.size : Int) ≤ 9223372036854775807 := by unfold maxLen at hm; omega
  have h6 : (600 : Int) < s.size := by omega
  have HK := Lib.hid (fun W hE => known_any W hE)
  have HE := Lib.hid (he.alloc (spotO p l c))
  have HB := Lib.hid ((Below.refl _ w).alloc (Nat.le_refl _) (spotO p l c))
  clear he
  by_cases h25 : s.size ≤ 2500
  all_goals
    first
    | (have h25' : (s.size : Int) ≤ 2500 := by omega
       clear h h25)
    | (have h25' : ¬ (s.size : Int) ≤ 2500 := by omega
       have h60' : (6000 : Int) < s.size := by omega
       clear h h25)
    go_enter Tryz.func3, Tryz.ntmps3
    go_wp2_with fail
    refine (HK.out _ HE.out).mono ?_
    rintro e w1 ⟨rfl, hb⟩
    go_wp2
    go_ret
    exact ⟨rfl, HB.out.trans (hb.mono (by simp))⟩

set_option maxRecDepth 100000 in
set_option maxHeartbeats 2000000 in
theorem places_bad (s : ByteArray) (hm : s.size ≤ maxLen) (h1 : ¬ ((600 < s.size ∧ s.size ≤ 2500) ∨ 6000 < s.size)) (k er : Nat) (h : Lx.check s.data.toList = (k, er)) (h0 : er ≠ 0) (p l c : Int) (w : World) (he : Env w) :
    Calls Tryz.prog 3 #[.string s, spotV p l c] w fun e w' => e = .returned (.bool true) ∧ Below w.heap.size w w' := by
  have herb : ((er : Int) == 0) = false := by rw [beq_eq_false_iff_ne]; omega
  have herb2 : ((er : Int) != 0) = true := by rw [bne, herb]; rfl
  have h6 : (s.size : Int) ≤ 600 ∨ (2500 : Int) < s.size := by omega
  have h60 : ¬ (6000 : Int) < s.size := by omega
  have hpl := fun W => place_bad s hm k er h h0 p W
  have hof := fun W => offset_bad s hm k er h h0 l c W
  have hrc := fun W => refCheck_any s hm W
  rw [h] at hrc
  unfold chkV at hrc
  have HPL := Lib.hid hpl
  have HOF := Lib.hid hof
  have HRC := Lib.hid hrc
  have HK := Lib.hid (fun W hE => known_any W hE)
  have HE := Lib.hid (he.alloc (spotO p l c))
  have HB := Lib.hid ((Below.refl _ w).alloc (Nat.le_refl _) (spotO p l c))
  have c0 : (w.alloc (spotO p l c)).cell? ⟨w.heap.size, 0, none⟩ = some (.int .i64 p) := by simp
  have c1 : (w.alloc (spotO p l c)).cell? ⟨w.heap.size, 1, none⟩ = some (.int .i64 l) := by simp
  have c2 : (w.alloc (spotO p l c)).cell? ⟨w.heap.size, 2, none⟩ = some (.int .i64 c) := by simp
  have hC : Hid (∀ W, Below (w.alloc (spotO p l c)).heap.size (w.alloc (spotO p l c)) W → W.cell? ⟨w.heap.size, 0, none⟩ = some (.int .i64 p) ∧ W.cell? ⟨w.heap.size, 1, none⟩ = some (.int .i64 l) ∧ W.cell? ⟨w.heap.size, 2, none⟩ = some (.int .i64 c)) :=
    fun W hW => ⟨((bcell hW).1 _ _ (lt_of_cell c0)).trans c0, ((bcell hW).1 _ _ (lt_of_cell c1)).trans c1, ((bcell hW).1 _ _ (lt_of_cell c2)).trans c2⟩
  clear he hpl hof hrc h h1 h0 c0 c1 c2
  by_cases h25 : (s.size : Int) ≤ 600
  all_goals
    first
    | (have h25' : ¬ (600 : Int) < s.size := by omega
       clear h6 h25)
    | (have h25' : (600 : Int) < s.size := by omega
       have h26' : ¬ (s.size : Int) ≤ 2500 := by omega
       clear h6 h25)
    go_enter Tryz.func3, Tryz.ntmps3
    go_wp2_with fail
    refine (HPL.out _).mono ?_
    rintro e w1 ⟨rfl, hb1⟩
    have HE1 := Lib.hid (HE.out.below hb1 HE.out.lt)
    obtain ⟨c0, c1, c2⟩ := hC.out _ hb1
    go_wp2_with fail
    refine (HOF.out _).mono ?_
    rintro e w2 ⟨rfl, hb2⟩
    have HE2 := Lib.hid (HE1.out.below hb2 HE1.out.lt)
    have hB2 := hb1.trans (hb2.mono hb1.size)
    go_wp2_with fail
    refine (HRC.out _).mono ?_
    rintro e w3 ⟨rfl, rfl⟩
    clear hb1 hb2 HE HE1 c0 c1 c2
    go_wp2_with fail
    refine (HK.out _ HE2.out).mono ?_
    rintro e w5 ⟨rfl, hb5⟩
    go_wp2
    go_ret
    exact ⟨rfl, (HB.out.trans (hB2.mono (by simp))).trans (hb5.mono (by have := hB2.size; simp at this; omega))⟩

end Go.Proofs.YtkhgmoljhehbnaaGreatDoor
