/- The walk of gap: how long the gap at the beginning of a string is. -/
import Derived.Test.YtkhgmoljhehbnaaGreatDoorW3
namespace Go.Proofs.YtkhgmoljhehbnaaGreatDoor
open Go.RowKit

set_option maxHeartbeats 1000000 in
theorem gap_any (s : ByteArray) (hs : s.size ≤ maxLen) (w : World) :
    Calls Tryz.prog 47 #[.string s] w fun e w' => e = .returned (.int .i64 (Lx.gap s.data.toList)) ∧ Below w.heap.size w w' := by
  have hm : (s.size : Int) ≤ 9223372036854775807 := by unfold maxLen at hs; omega
  go_enter Tryz.func47, Tryz.ntmps47
  go_wp2
  go_loopw [3, 4] (fun i _ wr => ∃ k : Nat, k ≤ s.size ∧ i = .int .i64 k ∧ Hid (Lx.gap s.data.toList = k + Lx.gap (s.data.toList.drop k)) ∧ Below w.heap.size w wr) (fun i _ _ => s.size - (intOf i).toNat)
  case atStart => exact ⟨0, Nat.zero_le _, rfl, by simp [Hid], Below.refl _ _⟩
  case round =>
    obtain ⟨k, hk, rfl, HJ, hB⟩ := hrel
    by_cases hlt : k < s.size
    · have hd : s.data.toList.drop k = s[k] :: s.data.toList.drop (k + 1) := by
        rw [List.drop_eq_getElem_cons (by simpa using hlt)]; rfl
      have hx := Lib.extract_to_end s k
      have hxs : (s.extract k s.size).size ≤ maxLen := by simp; omega
      by_cases h126 : (s[k].toNat : Int) = 126
      · have g1 : ((s[k].toNat : Int) == 126) = true := by simpa using h126
        have hg := Lx.gap_tilde s[k] (s.data.toList.drop (k + 1)) (by omega)
        rw [← hd] at hg
        have hl := Lx.run_le (fun c => !Lx.isFeed c) (s.data.toList.drop k)
        have h1 : 1 ≤ Lx.run (fun c => !Lx.isFeed c) (s.data.toList.drop k) := by
          rw [hd]; simp only [Lx.run, show Lx.isFeed s[k] = false from by simp [Lx.isFeed]; omega, Bool.not_false, if_true]; omega
        have hcall := prefix_notFeed _ _ hx hxs wr
        rw [List.length_drop] at hl
        generalize Lx.run (fun c => !Lx.isFeed c) (s.data.toList.drop k) = m at hg hl h1 hcall
        rw [List.drop_drop] at hg
        have HG := Lib.hid hg
        have hm2 : k + m ≤ s.size := by simp at hl; omega
        clear hg hx hd hl
        go_wp2_with (go_at_call 22; refine hcall.mono ?_; rintro e w' ⟨rfl, hb'⟩)
        go_roundw
        case rel => exact ⟨k + m, hm2, by go_num, show _ = _ by rw [HJ.out, HG.out]; omega, hB.trans (hb'.mono hB.size)⟩
        case measure => simp [intOf]; omega
      · have g1 : ((s[k].toNat : Int) == 126) = false := by simpa using h126
        have hg := Lx.gap_blanks (s.data.toList.drop k)
        have hn := Lx.gap_none s[k] (s.data.toList.drop (k + 1)) (by omega)
        have h0 : Lx.run Lx.gapByte (s.data.toList.drop k) = 0 → Lx.gapByte s[k] = false := by
          rw [hd]; cases h : Lx.gapByte s[k] <;> simp [Lx.run, h]
        rw [← hd] at hn
        have hl := Lx.run_le Lx.gapByte (s.data.toList.drop k)
        have hcall := prefix_gap _ _ hx hxs wr
        rw [List.length_drop] at hl
        generalize Lx.run Lx.gapByte (s.data.toList.drop k) = m at hg hl h0 hcall
        rw [List.drop_drop] at hg
        have HG := Lib.hid hg
        have hm2 : k + m ≤ s.size := by simp at hl; omega
        have HN : Hid (m = 0 → Lx.gap (s.data.toList.drop k) = 0) := fun e => hn (h0 e)
        clear hg hx hd hl hn h0
        by_cases hm0 : m = 0
        · have HZ : Hid (Lx.gap (s.data.toList.drop k) = 0) := HN.out hm0
          clear HN
          subst hm0
          go_wp2_with (go_at_call 22; refine hcall.mono ?_; rintro e w' ⟨rfl, hb'⟩)
          go_ret
          refine ⟨?_, hB.trans (hb'.mono hB.size)⟩
          rw [HJ.out, HZ.out]; rfl
        · have g2 : ((m : Int) == 0) = false := by simpa using hm0
          go_wp2_with (go_at_call 22; refine hcall.mono ?_; rintro e w' ⟨rfl, hb'⟩)
          go_roundw
          case rel => exact ⟨k + m, hm2, by go_num, show _ = _ by rw [HJ.out, HG.out]; omega, hB.trans (hb'.mono hB.size)⟩
          case measure => simp [intOf]; omega
    · have : k = s.size := by omega
      subst this
      go_wp2
      go_ret
      refine ⟨?_, hB⟩
      rw [HJ.out, List.drop_eq_nil_of_le (by simp)]
      rfl

end Go.Proofs.YtkhgmoljhehbnaaGreatDoor
