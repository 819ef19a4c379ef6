/- Layer 5: the walk of the reference's Valid. -/
import Derived.Test.YthagelnimmfhbaaRi
import Derived.LoopTactic
namespace Go.Proofs.Ythagelnimmfhbaa
open Go.RowKit Go.El

set_option maxRecDepth 100000 in
set_option maxHeartbeats 2000000 in
theorem valid_any (l : List Rg.Pt) (hl : l.length ≤ maxLen) (A : Option Addr) (cap : Nat) (w : World) (h : PtE.Arg w A l) :
    Calls Try.prog 13 #[.slice A l.length cap] w fun e w' => e = .returned (.bool (Rg.valid l)) ∧ Below w.heap.size w w' := by
  have hm : (l.length : Int) ≤ 9223372036854775807 := by unfold maxLen at hl; omega
  have H := Lib.hid h
  clear h
  by_cases h12 : 12 < l.length
  · have h12' : (12 : Int) < l.length := by omega
    have hv : Rg.valid l = false := by unfold Rg.valid; rw [decide_eq_false (by omega)]; rfl
    rw [hv]
    go_enter Try.func13, Try.ntmps13
    go_wp2
    go_ret
    exact ⟨rfl, Below.refl _ _⟩
  · have h12' : ¬ (12 : Int) < l.length := by omega
    have hv : Rg.valid l = l.all Rg.Pt.ok := by unfold Rg.valid; rw [decide_eq_true (by omega)]; rfl
    rw [hv]
    generalize hR : l.all Rg.Pt.ok = R
    have HR := Lib.hid hR
    clear hR hv
    go_enter Try.func13, Try.ntmps13
    go_wp2_with fail
    go_loopw [3] (fun i wr => ∃ k : Nat, k ≤ l.length ∧ i = .int .i64 k ∧ Hid ((l.take k).all Rg.Pt.ok = true) ∧ Below w.heap.size w wr) (fun i _ => l.length - (intOf i).toNat)
    case atStart => exact ⟨0, Nat.zero_le _, rfl, Lib.hid rfl, Below.refl _ _⟩
    case round =>
      obtain ⟨k, hk, rfl, HK, hbw⟩ := hrel
      have hzw := hbw.size
      by_cases hlt : k < l.length
      · have hlt' : (k : Int) < l.length := by omega
        obtain ⟨b, o, rfl, hin, hbl⟩ := H.out.at_lt hlt
        obtain ⟨p, hp⟩ : ∃ p, l[k]? = some p := ⟨_, List.getElem?_eq_getElem hlt⟩
        obtain ⟨x0, x1, x2, x3, x4⟩ := PtE.at5 (hin.below hbw (fun _ => hbl)) hp
        have hbl2 : b < wr.heap.size := by omega
        clear hin
        have hi1 : ∀ W, Calls Try.prog 37 #[.agg #[.bool p.lo.size, .int .i64 p.lo.n]] W fun e w' => e = .returned (.bool p.lo.ok) ∧ Below W.heap.size W w' := fun W => isBound_any p.lo.size p.lo.n W
        have hi2 : ∀ W, Calls Try.prog 37 #[.agg #[.bool p.hi.size, .int .i64 p.hi.n]] W fun e w' => e = .returned (.bool p.hi.ok) ∧ Below W.heap.size W w' := fun W => isBound_any p.hi.size p.hi.n W
        have hi3 := fun W => in_any p.step 1 9 W
        have hok : Rg.Pt.ok p = (p.lo.ok && p.hi.ok && (decide (1 ≤ p.step) && decide (p.step ≤ 9))) := rfl
        generalize p.lo.ok = q1 at hi1 hok
        generalize p.hi.ok = q2 at hi2 hok
        generalize (decide (1 ≤ p.step) && decide (p.step ≤ 9)) = q3 at hi3 hok
        have HI1 := Lib.hid hi1
        have HI2 := Lib.hid hi2
        have HI3 := Lib.hid hi3
        have HNO : Hid (Rg.Pt.ok p = false → R = false) := Lib.hid fun hf => by
          rw [← HR.out, List.all_eq_false]
          exact ⟨p, List.mem_of_getElem? hp, by rw [hf]; decide⟩
        have HYES : Hid (Rg.Pt.ok p = true → (l.take (k + 1)).all Rg.Pt.ok = true) := Lib.hid fun hf => by
          obtain ⟨_, e⟩ := List.getElem?_eq_some_iff.1 hp
          rw [List.take_succ_eq_append_getElem hlt, List.all_append, HK.out, Bool.true_and, e]
          simp [hf]
        have HOK := Lib.hid hok
        clear hi1 hi2 hi3 hok hp
        cases q1 with
        | false =>
          go_wp2_with fail
          refine (HI1.out _).mono ?_
          rintro e w1 ⟨rfl, hb1⟩
          obtain ⟨hc1, hf1⟩ := bcell hb1
          have hz1 : b < w1.heap.size := by have := hb1.size; omega
          go_wp2
          go_ret
          exact ⟨by rw [HNO.out HOK.out]; rfl, hbw.trans (hb1.mono hzw)⟩
        | true =>
          cases q2 with
          | false =>
            go_wp2_with fail
            refine (HI1.out _).mono ?_
            rintro e w1 ⟨rfl, hb1⟩
            obtain ⟨hc1, hf1⟩ := bcell hb1
            have hz1 : b < w1.heap.size := by have := hb1.size; omega
            go_wp2_with fail
            refine (HI2.out _).mono ?_
            rintro e w2 ⟨rfl, hb2⟩
            obtain ⟨hc2, hf2⟩ := bcell hb2
            have hz2 : b < w2.heap.size := by have := hb2.size; omega
            go_wp2
            go_ret
            exact ⟨by rw [HNO.out HOK.out]; rfl, hbw.trans ((hb1.mono hzw).trans (hb2.mono (Nat.le_trans hzw hb1.size)))⟩
          | true =>
            cases q3 with
            | false =>
              go_wp2_with fail
              refine (HI1.out _).mono ?_
              rintro e w1 ⟨rfl, hb1⟩
              obtain ⟨hc1, hf1⟩ := bcell hb1
              have hz1 : b < w1.heap.size := by have := hb1.size; omega
              go_wp2_with fail
              refine (HI2.out _).mono ?_
              rintro e w2 ⟨rfl, hb2⟩
              obtain ⟨hc2, hf2⟩ := bcell hb2
              have hz2 : b < w2.heap.size := by have := hb2.size; omega
              go_wp2_with fail
              refine (HI3.out _).mono ?_
              rintro e w3 ⟨rfl, rfl⟩
              go_wp2
              go_ret
              exact ⟨by rw [HNO.out HOK.out]; rfl, hbw.trans ((hb1.mono hzw).trans (hb2.mono (Nat.le_trans hzw hb1.size)))⟩
            | true =>
              go_wp2_with fail
              refine (HI1.out _).mono ?_
              rintro e w1 ⟨rfl, hb1⟩
              obtain ⟨hc1, hf1⟩ := bcell hb1
              have hz1 : b < w1.heap.size := by have := hb1.size; omega
              go_wp2_with fail
              refine (HI2.out _).mono ?_
              rintro e w2 ⟨rfl, hb2⟩
              obtain ⟨hc2, hf2⟩ := bcell hb2
              have hz2 : b < w2.heap.size := by have := hb2.size; omega
              go_wp2_with fail
              refine (HI3.out _).mono ?_
              rintro e w3 ⟨rfl, rfl⟩
              go_wp2
              go_roundw
              case rel => exact ⟨k + 1, by omega, by go_num, Lib.hid (HYES.out HOK.out), hbw.trans ((hb1.mono hzw).trans (hb2.mono (Nat.le_trans hzw hb1.size)))⟩
              case measure => simp [intOf]; omega
      · have hlt' : ¬ (k : Int) < l.length := by omega
        have hT : R = true := by rw [← HR.out, ← HK.out, List.take_of_length_le (by omega)]
        subst hT
        go_wp2
        go_ret
        exact ⟨rfl, hbw⟩

end Go.Proofs.Ythagelnimmfhbaa
