/- Layer 5: parts and misses in memory; the walks of the reference's In, IsBound, Value, Has. -/
import Derived.Test.YthagelnimmfhbaaProg
import Derived.Test.YthagelnimmfhbaaRh
import Derived.Test.YthagelnimmfhbaaEl
import Derived.WalkSpells
import Derived.WalkLawsBesides
import Derived.WalkSmall
import Derived.Shelf.Abstract
import Derived.BigQuiet
import Derived.Deep.QuietTactic
import Derived.Deep.RegionWith
import Derived.Deep.RegionHeld3
namespace Go.Proofs.Ythagelnimmfhbaa
open Go.RowKit Go.El

def bdC (b : Rg.Bd) : List Value := [.bool b.size, .int .i64 b.n]
def ptC (p : Rg.Pt) : List Value := [.bool p.lo.size, .int .i64 p.lo.n, .bool p.hi.size, .int .i64 p.hi.n, .int .i64 p.step]
def IntE : El Int := { cells := fun n => [.int .i64 n], k := 1, pos := by decide, len := fun _ => rfl, one := fun x u hu => by simp at hu; subst hu; rfl }
def PtE : El Rg.Pt := { cells := ptC, k := 5, pos := by decide, len := fun _ => rfl, one := fun x u hu => by simp [ptC] at hu; rcases hu with rfl | rfl | rfl | rfl | rfl <;> rfl }
def missC (m : Int × Int × Nat) : List Value := [.int .i64 m.1, .int .i64 m.2.1, .int .u8 m.2.2]
def MissE : El (Int × Int × Nat) := { cells := missC, k := 3, pos := by decide, len := fun _ => rfl, one := fun x u hu => by simp [missC] at hu; rcases hu with rfl | rfl | rfl <;> rfl }

theorem int_info : (Try.prog.info? 3).map (fun i => (i.zero, i.size, i.bytes)) = some (some (.int .i64 0), 1, 8) := by kernel_rfl
theorem part_info : (Try.prog.info? 25).map (fun i => (i.zero, i.size, i.bytes)) = some (some (.agg #[.bool false, .int .i64 0, .bool false, .int .i64 0, .int .i64 0]), 5, 40) := by kernel_rfl
theorem miss_info : (Try.prog.info? 41).map (fun i => (i.zero, i.size, i.bytes)) = some (some (.agg #[.int .i64 0, .int .i64 0, .int .u8 0]), 3, 24) := by kernel_rfl

theorem in_any (n lo hi : Int) (w : World) : Calls Try.prog 38 #[.int .i64 n, .int .i64 lo, .int .i64 hi] w fun e w' => e = .returned (.bool (decide (lo ≤ n) && decide (n ≤ hi))) ∧ w = w' := by
  by_cases h1 : lo ≤ n
  · by_cases h2 : n ≤ hi
    · go_enter Try.func38, Try.ntmps38
      go_wp2
      go_ret
      exact ⟨by rw [decide_eq_true h1, decide_eq_true h2]; rfl, rfl⟩
    · go_enter Try.func38, Try.ntmps38
      go_wp2
      go_ret
      exact ⟨by simp [h2], rfl⟩
  · go_enter Try.func38, Try.ntmps38
    go_wp2
    go_ret
    exact ⟨by rw [decide_eq_false (Int.not_le.2 h1)]; rfl, rfl⟩

theorem isBound_any (s : Bool) (n : Int) (w : World) : Calls Try.prog 37 #[.agg #[.bool s, .int .i64 n]] w fun e w' => e = .returned (.bool (decide (0 ≤ n) && decide (n ≤ 100))) ∧ Below w.heap.size w w' := by
  go_enter Try.func37, Try.ntmps37
  go_wp2_with fail
  refine (in_any _ _ _ _).mono ?_
  rintro e w' ⟨rfl, rfl⟩
  go_wp2
  go_ret
  exact ⟨rfl, (Below.refl _ _).alloc (Nat.le_refl _) _⟩

/-- a size less a number fits -/
theorem value_any (b : Rg.Bd) (s : Int) (hb : b.ok = true) (h0 : -1000 ≤ s) (h1 : s ≤ 1000) (w : World) :
    Calls Try.prog 42 #[.agg #[.bool b.size, .int .i64 b.n], .int .i64 s] w fun e w' => e = .returned (.int .i64 (b.val s)) ∧ Below w.heap.size w w' := by
  obtain ⟨z, n⟩ := b
  simp [Rg.Bd.ok] at hb
  obtain ⟨hn0, hn1⟩ := hb
  cases z with
  | true =>
    go_enter Try.func42, Try.ntmps42
    go_wp2
    go_ret
    exact ⟨rfl, (Below.refl _ _).alloc (Nat.le_refl _) _⟩
  | false =>
    go_enter Try.func42, Try.ntmps42
    go_wp2
    go_ret
    exact ⟨rfl, (Below.refl _ _).alloc (Nat.le_refl _) _⟩

theorem has_val (p : Rg.Pt) (s c : Int) : p.has s c = (decide (p.lo.val s ≤ c) && (decide (c ≤ p.hi.val s) && decide ((c - p.lo.val s) % p.step = 0))) := rfl
set_option maxRecDepth 100000 in
set_option maxHeartbeats 1000000 in
theorem has_any (p : Rg.Pt) (hp : p.ok = true) (s c : Int) (h0 : 0 ≤ s) (h1 : s ≤ 109) (_ : -1000000 ≤ c) (_ : c ≤ 1000000) (w : World) :
    Calls Try.prog 52 #[.agg (ptC p).toArray, .int .i64 s, .int .i64 c] w fun e w' => e = .returned (.bool (p.has s c)) ∧ Below w.heap.size w w' := by
  have ho := (p.ok_iff).1 hp
  have hlo : p.lo.ok = true := by simp [Rg.Bd.ok]; omega
  have hhi : p.hi.ok = true := by simp [Rg.Bd.ok]; omega
  have hv1 := fun W => value_any p.lo s hlo (by omega) (by omega) W
  have hv2 := fun W => value_any p.hi s hhi (by omega) (by omega) W
  have r1 := Rg.Bd.val_range hlo h0 h1
  have r2 := Rg.Bd.val_range hhi h0 h1
  have hs1 : 1 ≤ p.step := ho.2.2.1
  have hs2 : p.step ≤ 9 := ho.2.2.2
  rw [has_val]
  unfold ptC
  generalize p.lo.val s = a at *
  generalize p.hi.val s = b at *
  generalize p.step = st at *
  have HV1 := Lib.hid hv1
  have HV2 := Lib.hid hv2
  clear hv1 hv2 hlo hhi ho hp
  by_cases k1 : a ≤ c
  · have d1 : decide (a ≤ c) = true := decide_eq_true k1
    by_cases k2 : c ≤ b
    · have d2 : decide (c ≤ b) = true := decide_eq_true k2
      have k3 : 0 ≤ c - a := by omega
      rw [d1, d2, Bool.true_and, Bool.true_and]
      clear d1 d2
      by_cases k4 : (c - a) % st = 0
      all_goals
        go_enter Try.func52, Try.ntmps52
        go_wp2_with fail
        refine (HV1.out _).mono ?_
        rintro e w1 ⟨rfl, hb1⟩
        obtain ⟨hc1, hf1⟩ := bcell hb1
        have hz1 : w.heap.size < w1.heap.size := by have := hb1.size; simp at this; omega
        go_wp2_with fail
        refine (HV2.out _).mono ?_
        rintro e w2 ⟨rfl, hb2⟩
        obtain ⟨hc2, hf2⟩ := bcell hb2
        go_wp2
        go_ret
        exact ⟨by simp [k4], ((Below.refl _ _).alloc (Nat.le_refl _) _).trans ((hb1.mono (by simp)).trans (hb2.mono (by omega)))⟩
    · have d2 : decide (c ≤ b) = false := decide_eq_false k2
      rw [d2, Bool.false_and, Bool.and_false]
      go_enter Try.func52, Try.ntmps52
      go_wp2_with fail
      refine (HV1.out _).mono ?_
      rintro e w1 ⟨rfl, hb1⟩
      obtain ⟨hc1, hf1⟩ := bcell hb1
      have hz1 : w.heap.size < w1.heap.size := by have := hb1.size; simp at this; omega
      go_wp2_with fail
      refine (HV2.out _).mono ?_
      rintro e w2 ⟨rfl, hb2⟩
      obtain ⟨hc2, hf2⟩ := bcell hb2
      go_wp2
      go_ret
      exact ⟨rfl, ((Below.refl _ _).alloc (Nat.le_refl _) _).trans ((hb1.mono (by simp)).trans (hb2.mono (by omega)))⟩
  · have d1 : decide (a ≤ c) = false := decide_eq_false k1
    rw [d1, Bool.false_and]
    go_enter Try.func52, Try.ntmps52
    go_wp2_with fail
    refine (HV1.out _).mono ?_
    rintro e w1 ⟨rfl, hb1⟩
    obtain ⟨hc1, hf1⟩ := bcell hb1
    have hz1 : w.heap.size < w1.heap.size := by have := hb1.size; simp at this; omega
    go_wp2
    go_ret
    exact ⟨rfl, ((Below.refl _ _).alloc (Nat.le_refl _) _).trans (hb1.mono (by simp))⟩

theorem PtE.at5 {w : World} {b o : Nat} {l : List Rg.Pt} (h : PtE.In w b o l) {k : Nat} {p : Rg.Pt} (hp : l[k]? = some p) :
    w.cell? ⟨b, o + k * 5, none⟩ = some (.bool p.lo.size) ∧ w.cell? ⟨b, o + k * 5 + 1, none⟩ = some (.int .i64 p.lo.n) ∧ w.cell? ⟨b, o + k * 5 + 2, none⟩ = some (.bool p.hi.size) ∧ w.cell? ⟨b, o + k * 5 + 3, none⟩ = some (.int .i64 p.hi.n) ∧ w.cell? ⟨b, o + k * 5 + 4, none⟩ = some (.int .i64 p.step) :=
  ⟨h k p hp 0 _ rfl, h k p hp 1 _ rfl, h k p hp 2 _ rfl, h k p hp 3 _ rfl, h k p hp 4 _ rfl⟩

end Go.Proofs.Ythagelnimmfhbaa
