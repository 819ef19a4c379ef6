/- The walks of the reference: Check, Gap, Has, Number. -/
import Derived.Test.YtkhgmoljhehbnaaGreatDoorW8
namespace Go.Proofs.YtkhgmoljhehbnaaGreatDoor
open Go.RowKit

def chkV (p : Nat × Nat) : Value := .tuple #[.int .i64 p.1, .int .i64 p.2]

theorem run_ok_step (s : ByteArray) (k : Nat) (hk : k < s.size) (h : Lx.okByte s[k] = false) (hJ : ∀ (i : Nat) c, i < k → s.data.toList[i]? = some c → Lx.okByte c = true) : Lx.run Lx.okByte s.data.toList = k := by
  refine Lx.run_split Lx.okByte s.data.toList k (fun i hi => ?_) (fun _ => ⟨s[k], bytes_at s k hk, h⟩) (by simp; omega)
  have hl : i < s.data.toList.length := by simp; omega
  exact ⟨_, List.getElem?_eq_getElem hl, hJ i _ hi (List.getElem?_eq_getElem hl)⟩
theorem run_ok_end (s : ByteArray) (hJ : ∀ (i : Nat) c, i < s.size → s.data.toList[i]? = some c → Lx.okByte c = true) : Lx.run Lx.okByte s.data.toList = s.size := by
  refine Lx.run_split Lx.okByte s.data.toList s.size (fun i hi => ?_) (fun h => absurd h (by simp)) (by simp)
  have hl : i < s.data.toList.length := by simp; omega
  exact ⟨_, List.getElem?_eq_getElem hl, hJ i _ hi (List.getElem?_eq_getElem hl)⟩

theorem check_long {l : Lx.B} (h : 2500 < l.length) : Lx.check l = (0, 5) := by unfold Lx.check; rw [if_pos h]
theorem check_bad {l : Lx.B} (h : ¬ 2500 < l.length) {k : Nat} (hr : Lx.run Lx.okByte l = k) (hk : k < l.length) : Lx.check l = (k, 4) := by unfold Lx.check; rw [if_neg h, hr, if_pos hk]
theorem check_ok {l : Lx.B} (h : ¬ 2500 < l.length) (hr : Lx.run Lx.okByte l = l.length) : Lx.check l = (0, 0) := by unfold Lx.check; rw [if_neg h, hr, if_neg (by omega)]

set_option maxHeartbeats 1000000 in
theorem refCheck_any (s : ByteArray) (hs : s.size ≤ maxLen) (w : World) :
    Calls Tryz.prog 7 #[.string s] w fun e w' => e = .returned (chkV (Lx.check s.data.toList)) ∧ w = w' := by
  have hm : (s.size : Int) ≤ 9223372036854775807 := by unfold maxLen at hs; omega
  have hsz := Lib.size_eq s
  by_cases h : 2500 < s.size
  · rw [check_long (by omega)]
    have h' : (2500 : Int) < s.size := by omega
    clear hsz
    go_enter Tryz.func7, Tryz.ntmps7
    go_wp2
    go_ret2
    exact ⟨rfl, rfl⟩
  · have h' : ¬ (2500 : Int) < s.size := by omega
    have HS := Lib.hid hsz
    clear hsz
    go_enter Tryz.func7, Tryz.ntmps7
    go_wp2
    go_loop [4] (fun i => ∃ k : Nat, k ≤ s.size ∧ i = .int .i64 k ∧ Hid (∀ (i : Nat) c, i < k → s.data.toList[i]? = some c → Lx.okByte c = true)) (fun i => s.size - (intOf i).toNat)
    case atStart => exact ⟨0, Nat.zero_le _, rfl, fun i y hi => absurd hi (by omega)⟩
    case round =>
      obtain ⟨k, hk, rfl, HJ⟩ := hrel
      by_cases hlt : k < s.size
      · have HA := Lib.hid (bytes_at s k hlt)
        have hu := u8lt s[k]
        have HU : Hid (Lx.okByte s[k] = decide ((s[k].toNat : Int) = 10 ∨ (32 ≤ (s[k].toNat : Int) ∧ (s[k].toNat : Int) ≤ 126))) := by
          show _ = _
          rw [Bool.eq_iff_iff]; simp [Lx.okByte, Lx.isPrinted, Lx.isFeed]; omega
        by_cases h10 : (s[k].toNat : Int) = 10
        · have b1 : (!((s[k].toNat : Int) == 10)) = false := by simp [h10]
          have HN : Hid (Lx.okByte s[k] = true) := by show _ = _; rw [HU.out]; simp [h10]
          have H10 := Lib.hid h10
          clear h10
          go_wp2
          go_round
          case rel =>
            refine ⟨k + 1, by omega, by go_num, fun i c hi hy => ?_⟩
            by_cases e : i = k
            · subst e; rw [HA.out] at hy; cases hy; exact HN.out
            · exact HJ.out i c (by omega) hy
          case measure => simp [intOf]; omega
        · have b1 : (!((s[k].toNat : Int) == 10)) = true := by simp [h10]
          by_cases h32 : (s[k].toNat : Int) < 32
          · have HN : Hid (Lx.okByte s[k] = false) := by show _ = _; rw [HU.out]; simp; omega
            go_wp2
            go_ret2
            exact ⟨by rw [check_bad (by have := HS.out; omega) (run_ok_step s k hlt HN.out HJ.out) (by have := HS.out; omega)]; rfl, rfl⟩
          · by_cases h126 : 126 < (s[k].toNat : Int)
            · have HN : Hid (Lx.okByte s[k] = false) := by show _ = _; rw [HU.out]; simp; omega
              go_wp2
              go_ret2
              exact ⟨by rw [check_bad (by have := HS.out; omega) (run_ok_step s k hlt HN.out HJ.out) (by have := HS.out; omega)]; rfl, rfl⟩
            · have HN : Hid (Lx.okByte s[k] = true) := by show _ = _; rw [HU.out]; simp; omega
              go_wp2
              go_round
              case rel =>
                refine ⟨k + 1, by omega, by go_num, fun i c hi hy => ?_⟩
                by_cases e : i = k
                · subst e; rw [HA.out] at hy; cases hy; exact HN.out
                · exact HJ.out i c (by omega) hy
              case measure => simp [intOf]; omega
      · have : k = s.size := by omega
        subst this
        go_wp2
        go_ret2
        exact ⟨by rw [check_ok (by have := HS.out; omega) (by rw [run_ok_end s HJ.out]; exact HS.out)]; rfl, rfl⟩

end Go.Proofs.YtkhgmoljhehbnaaGreatDoor
