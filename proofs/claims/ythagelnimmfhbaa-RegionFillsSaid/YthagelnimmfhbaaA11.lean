/- Layer 5, the program: slices.SortFunc at misses; misses. -/
import Derived.Test.YthagelnimmfhbaaA9
import Derived.Test.YthagelnimmfhbaaA10
import Derived.Maps.RangeWalk
namespace Go.Proofs.Ythagelnimmfhbaa
open Go.RowKit Go.El Go.Sort

set_option maxHeartbeats 1000000 in
theorem cmp_any (s : Int) (kd : Int → Nat) (x y : Int) (W : World) : Calls Try.prog 60 #[.agg (mC s kd x).toArray, .agg (mC s kd y).toArray] W fun e w' => e = .returned (.int .i64 (Lib.compareInt x y)) ∧ ∃ q os', w' = grow (W.drewN q) os' := by
  have hcon := fun W' => Go.Proofs.Try.cmp_Compare_int x y W'
  generalize Lib.compareInt x y = r at hcon ⊢
  unfold mC
  have HC := Lib.hid hcon
  clear hcon
  go_enter Try.func60, Try.ntmps60
  go_wp2_with fail
  refine (HC.out _).mono ?_
  rintro e w' ⟨rfl, rfl⟩
  go_wp2
  go_ret
  exact ⟨rfl, 0, _, by rw [alloc_eq_grow, alloc_eq_grow, grow_grow]; rfl⟩

theorem lt_cmp (x y : Int) : ltOf (fun x y : Int => Lib.compareInt x y) x y = decide (x < y) := by
  unfold ltOf Lib.compareInt
  by_cases h1 : x < y
  · simp [h1]
  · by_cases h2 : y < x <;> simp [h1, h2]
theorem swo_cmp : SWO (ltOf fun x y : Int => Lib.compareInt x y) where
  irrefl x := by rw [lt_cmp]; simp
  trans x y z h1 h2 := by rw [lt_cmp] at *; simp at *; omega
  ntrans x y z h1 h2 := by rw [lt_cmp] at *; simp at *; omega
def srt (cs : List Int) : List Int := cs.mergeSort fun x y => !(ltOf fun x y : Int => Lib.compareInt x y) y x
theorem srt_len (cs : List Int) : (srt cs).length = cs.length := List.length_mergeSort _
theorem srt_mem (cs : List Int) (x : Int) : x ∈ srt cs ↔ x ∈ cs := (List.mergeSort_perm _ _).mem_iff
theorem srt_lt (cs : List Int) (h : cs.Nodup) : (srt cs).Pairwise (· < ·) := by
  have h1 : (srt cs).Pairwise (fun a b => (!(ltOf fun x y : Int => Lib.compareInt x y) b a) = true) := List.pairwise_mergeSort (le := fun x y => !(ltOf fun x y : Int => Lib.compareInt x y) y x)
    (fun a b c h1 h2 => by rw [lt_cmp] at *; simp at *; omega) (fun a b => by rw [lt_cmp, lt_cmp]; simp; omega) cs
  have h2 : (srt cs).Nodup := (List.mergeSort_perm _ _).nodup_iff.2 h
  refine List.Pairwise.imp₂ (fun a b h1 h2 => ?_) h1 h2
  rw [lt_cmp] at h1
  simp at h1
  omega

set_option maxHeartbeats 1000000 in
theorem sort_any (s : Int) (kd : Int → Nat) (cs : List Int) (hn : cs.length ≤ 100000) (base : Nat) (A : Option Addr) (cap : Nat) (W : World) (h : OwnM W base A cap (mL s kd cs)) :
    Calls Try.prog 59 #[.slice A cs.length cap, .func (.func 60) #[] #[]] W fun e w' => e = .returned (.tuple #[]) ∧ OwnM w' base A cap (mL s kd (srt cs)) ∧ W.grownBy w' (Value.slice A cs.length cap).ownBlock := by
  cases hcs : cs with
  | nil =>
    subst hcs
    refine (Go.Proofs.AnyF.slices_SortFunc_none Go.Proofs.Try.laysSort A cap _ W).mono ?_
    rintro e w' ⟨rfl, rfl⟩
    exact ⟨rfl, by rw [show srt [] = [] by simp [srt]]; exact h, World.grownBy.refl _ _⟩
  | cons c r =>
    have hne : mL s kd cs ≠ [] := by rw [hcs]; simp [mL]
    obtain ⟨g, rfl, hb, hlt, _⟩ := h.in_ hne
    rw [← hcs]
    have eg : ∀ args w, (callFunc 60 args).run Try.prog w = .ok (.enter 60 args) w := enters_of Try.func60 (by kernel_rfl) rfl
    have hcon := Go.Proofs.AnyQ.slices_SortFunc_total Go.Proofs.Try.laysSort 3 Try.isAgg41 Try.sizeOf41 (mC s kd) (fun _ => rfl) (fun x v hv => by simp [mC] at hv; rcases hv with rfl | rfl | rfl <;> rfl)
      (fun x y => Lib.compareInt x y) swo_cmp 60 #[] g 0 cap cs.toArray W eg (fun _ _ _ _ x y => cmp_any s kd x y _) (holds_of_own h) hlt (by simp; omega)
      (fun x y h1 h2 => by rw [lt_cmp] at h1 h2; simp at h1 h2; omega)
    have hcon2 : Calls Try.prog 59 #[.slice (some ⟨g, 0, none⟩) cs.length cap, .func (.func 60) #[] #[]] W _ := hcon
    refine hcon2.mono ?_
    rintro e w' ⟨rfl, n, os, rfl⟩
    obtain ⟨k1, k2⟩ := sorted_own h n (srt cs) os (srt_len cs)
    exact ⟨rfl, k1, k2⟩

end Go.Proofs.Ythagelnimmfhbaa
