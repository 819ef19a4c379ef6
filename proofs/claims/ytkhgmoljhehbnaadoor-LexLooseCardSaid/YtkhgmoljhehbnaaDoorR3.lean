/- The walk of the reference's Number. -/
import Derived.Test.YtkhgmoljhehbnaaDoorR2
namespace Go.Proofs.YtkhgmoljhehbnaaDoor
open Go.RowKit

theorem val_take (l : Lx.B) (k : Nat) : Lx.val 0 (l.take k) ≤ Lx.val 0 l := by
  have h := Lx.val_ge (l.drop k) (Lx.val 0 (l.take k))
  have e : Lx.val (Lx.val 0 (l.take k)) (l.drop k) = Lx.val 0 l := by
    unfold Lx.val
    rw [← List.foldl_append, List.take_append_drop]
  omega
theorem val_succ (s : ByteArray) (k : Nat) (h : k < s.size) : Lx.val 0 (s.data.toList.take (k + 1)) = 10 * Lx.val 0 (s.data.toList.take k) + (s[k].toNat - 48) := by
  rw [List.take_succ_eq_append_getElem (by simpa using h), Lx.val_snoc]; rfl
theorem numOk_big {l : Lx.B} (h : 1000000000 < Lx.val 0 l) : Lx.numOk l = false := by
  unfold Lx.numOk
  rw [Lx.val_eq, show decide (Lx.val 0 l ≤ 1000000000) = false from by simp; omega, Bool.false_and]
theorem numOk_small {l : Lx.B} (h : Lx.val 0 l ≤ 1000000000) : Lx.numOk l = !(decide (1 < l.length) && decide (l.head? = some 48)) := by
  unfold Lx.numOk
  rw [Lx.val_eq, show decide (Lx.val 0 l ≤ 1000000000) = true from by simp; omega, Bool.true_and]

def numV (l : Lx.B) : Int := if Lx.numOk l then (Lx.val 0 l : Int) else -1

set_option maxHeartbeats 1000000 in
theorem refNumber_any (s : ByteArray) (hs : s.size ≤ maxLen) (hd : Lx.Dig s.data.toList) (w : World) :
    Calls Tryd.prog 75 #[.string s] w fun e w' => e = .returned (.int .i64 (numV s.data.toList)) ∧ w = w' := by
  have hm : (s.size : Int) ≤ 9223372036854775807 := by unfold maxLen at hs; omega
  have HD : Hid (∀ k (h : k < s.size), 48 ≤ s[k].toNat ∧ s[k].toNat ≤ 57) := fun k h => hd s[k] (List.mem_of_getElem? (bytes_at s k h))
  clear hd
  have HSZ := Lib.hid (Lib.size_eq s)
  generalize hq : numV s.data.toList = q
  have HQ := Lib.hid hq
  clear hq
  go_enter Tryd.func75, Tryd.ntmps75
  go_wp2
  go_loop [3, 4] (fun n i => ∃ k v : Nat, k ≤ s.size ∧ v ≤ 1000000000 ∧ i = .int .i64 k ∧ n = .int .i64 v ∧ Hid (Lx.val 0 (s.data.toList.take k) = v)) (fun _ i => s.size - (intOf i).toNat)
  case atStart => exact ⟨0, 0, Nat.zero_le _, by omega, rfl, rfl, by simp [Hid, Lx.val]⟩
  case round =>
    obtain ⟨k, v, hk, hv, rfl, rfl, HV⟩ := hrel
    by_cases hlt : k < s.size
    · have hdk := HD.out k hlt
      have h48 : (48 : Int) ≤ s[k].toNat := by omega
      have h57 : (s[k].toNat : Int) ≤ 57 := by omega
      clear hdk
      by_cases hgt : 1000000000 < 10 * v + (s[k].toNat - 48)
      · have hgt' : (1000000000 : Int) < 10 * v + (s[k].toNat - 48) := by omega
        have HB : Hid (numV s.data.toList = -1) := by
          show _ = _
          have := val_take s.data.toList (k + 1)
          rw [val_succ s k hlt, HV.out] at this
          unfold numV
          rw [numOk_big (by omega)]; rfl
        clear hgt
        go_wp2
        go_ret
        exact ⟨by rw [← HQ.out, HB.out]; rfl, rfl⟩
      · have hgt' : ¬ (1000000000 : Int) < 10 * v + (s[k].toNat - 48) := by omega
        have HN : Hid (Lx.val 0 (s.data.toList.take (k + 1)) = 10 * v + (s[k].toNat - 48)) := by
          show _ = _
          rw [val_succ s k hlt, HV.out]
        have HG := Lib.hid hgt
        clear hgt
        go_wp2
        go_round
        case rel => exact ⟨k + 1, 10 * v + (s[k].toNat - 48), by omega, by have := HG.out; omega, by go_num, by (congr 1; omega), HN⟩
        case measure => simp [intOf]; omega
    · have hje : k = s.size := by omega
      have HE := Lib.hid hje
      have hji : ¬ (k : Int) < s.size := by omega
      clear hje
      have HV2 : Hid (Lx.val 0 s.data.toList = v) := by
        show _ = _
        rw [← HV.out, HE.out, List.take_of_length_le (by rw [← HSZ.out]; omega)]
      by_cases h1 : 1 < s.size
      · have h1' : (1 : Int) < s.size := by omega
        have hd0 := HD.out 0 (by omega)
        have HH : Hid (s.data.toList.head? = some (s[0]'(by omega))) := by
          show _ = _
          have := bytes_at s 0 (by omega)
          rw [List.head?_eq_getElem?, this]
        by_cases h0 : ((s[0]'(by omega)).toNat : Int) = 48
        · have b1 : (((s[0]'(by omega)).toNat : Int) == 48) = true := by simp [h0]
          have HB : Hid (numV s.data.toList = -1) := by
            show _ = _
            unfold numV
            rw [numOk_small (by rw [HV2.out]; exact hv), HH.out, show (s[0]'(by omega)) = 48 from UInt8.toNat_inj.1 (by show _ = 48; omega), ← HSZ.out]
            simp [h1]
          clear h0 hd0
          go_wp2
          go_ret
          exact ⟨by rw [← HQ.out, HB.out]; rfl, rfl⟩
        · have b1 : (((s[0]'(by omega)).toNat : Int) == 48) = false := by simp [h0]
          have HB : Hid (numV s.data.toList = v) := by
            show _ = _
            unfold numV
            rw [numOk_small (by rw [HV2.out]; exact hv), HH.out, ← HSZ.out, HV2.out]
            rw [show decide (some (s[0]'(by omega)) = some (48 : UInt8)) = false from by
              simp only [Option.some.injEq, decide_eq_false_iff_not]
              intro e; rw [e] at h0; exact h0 rfl]
            simp
          clear h0 hd0
          go_wp2
          go_ret
          exact ⟨by rw [← HQ.out, HB.out]; rfl, rfl⟩
      · have h1' : ¬ (1 : Int) < s.size := by omega
        have HB : Hid (numV s.data.toList = v) := by
          show _ = _
          unfold numV
          rw [numOk_small (by rw [HV2.out]; exact hv), ← HSZ.out, HV2.out, show decide (1 < s.size) = false from by simpa using h1]
          simp
        go_wp2
        go_ret
        exact ⟨by rw [← HQ.out, HB.out]; rfl, rfl⟩

end Go.Proofs.YtkhgmoljhehbnaaDoor
