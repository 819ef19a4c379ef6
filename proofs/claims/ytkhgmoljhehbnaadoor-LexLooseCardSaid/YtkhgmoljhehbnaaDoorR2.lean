/- The walks of the reference's Gap and Has. -/
import Derived.Test.YtkhgmoljhehbnaaDoorR1
namespace Go.Proofs.YtkhgmoljhehbnaaDoor
open Go.RowKit

theorem drop_at (s : ByteArray) (k : Nat) (h : k < s.size) : s.data.toList.drop k = s[k] :: s.data.toList.drop (k + 1) := by
  rw [List.drop_eq_getElem_cons (by simpa using h)]; rfl
theorem gap_byte (c : UInt8) (r : Lx.B) (h : Lx.gapByte c = true) : Lx.gap (c :: r) = 1 + Lx.gap r := by
  simp [Lx.gap, Lx.gapIn, h]; omega
theorem gap_open (c : UInt8) (r : Lx.B) (h : c.toNat = 126) : Lx.gap (c :: r) = Lx.gapIn true (c :: r) := by
  have h1 : Lx.isFeed c = false := by simp [Lx.isFeed, h]
  have h2 : Lx.gapByte c = false := by simp [Lx.gapByte, Lx.isBlank, Lx.isFeed, h]
  simp [Lx.gap, Lx.gapIn, h, h1, h2]
theorem gapIn_step (c : UInt8) (r : Lx.B) (h : c.toNat ≠ 10) : Lx.gapIn true (c :: r) = 1 + Lx.gapIn true r := by
  have h1 : Lx.isFeed c = false := by simpa [Lx.isFeed] using h
  simp [Lx.gapIn, h1]; omega
theorem gapIn_feed (c : UInt8) (r : Lx.B) (h : c.toNat = 10) : Lx.gapIn true (c :: r) = Lx.gap (c :: r) := by
  simp [Lx.gap, Lx.gapIn, Lx.isFeed, Lx.gapByte, h]

set_option maxHeartbeats 2000000 in
theorem refGap_any (s : ByteArray) (hs : s.size ≤ maxLen) (a : Nat) (ha : a ≤ s.size) (w : World) :
    Calls Tryd.prog 48 #[.string s, .int .i64 a] w fun e w' => e = .returned (.int .i64 ((a + Lx.gap (s.data.toList.drop a) : Nat) : Int)) ∧ w = w' := by
  have hm : (s.size : Int) ≤ 9223372036854775807 := by unfold maxLen at hs; omega
  generalize hg : a + Lx.gap (s.data.toList.drop a) = g
  have HG := Lib.hid hg
  clear hg
  go_enter Tryd.func48, Tryd.ntmps48
  go_wp2
  go_loop [1, 10, 23] (fun i _ _ => ∃ k : Nat, k ≤ s.size ∧ i = .int .i64 k ∧ Hid (k + Lx.gap (s.data.toList.drop k) = g)) (fun i _ _ => s.size - (intOf i).toNat)
  case atStart => exact ⟨a, ha, rfl, HG⟩
  case round =>
    obtain ⟨k, hk, rfl, HJ⟩ := hrel
    by_cases hlt : k < s.size
    · have HD := Lib.hid (drop_at s k hlt)
      have hu := u8lt s[k]
      by_cases h32 : (s[k].toNat : Int) = 32
      · have b1 : ((s[k].toNat : Int) == 32) = true := by simp [h32]
        have HB : Hid (Lx.gapByte s[k] = true) := by show _ = _; simp [Lx.gapByte, Lx.isBlank]; omega
        clear h32
        go_wp2
        go_round
        case rel => exact ⟨k + 1, by omega, by go_num, show _ = _ by rw [← HJ.out, HD.out, gap_byte _ _ HB.out]; omega⟩
        case measure => simp [intOf]; omega
      · have b1 : ((s[k].toNat : Int) == 32) = false := by simp [h32]
        by_cases h10 : (s[k].toNat : Int) = 10
        · have b2 : ((s[k].toNat : Int) == 10) = true := by simp [h10]
          have HB : Hid (Lx.gapByte s[k] = true) := by show _ = _; simp [Lx.gapByte, Lx.isFeed]; omega
          clear h10
          go_wp2
          go_round
          case rel => exact ⟨k + 1, by omega, by go_num, show _ = _ by rw [← HJ.out, HD.out, gap_byte _ _ HB.out]; omega⟩
          case measure => simp [intOf]; omega
        · have b2 : ((s[k].toNat : Int) == 10) = false := by simp [h10]
          have HB : Hid (Lx.gapByte s[k] = false) := by show _ = _; simp [Lx.gapByte, Lx.isFeed, Lx.isBlank]; omega
          by_cases h126 : (s[k].toNat : Int) = 126
          · have b3 : ((s[k].toNat : Int) == 126) = true := by simp [h126]
            have HT : Hid (k + Lx.gapIn true (s.data.toList.drop k) = g) := by show _ = _; rw [← HJ.out, HD.out, gap_open _ _ (by omega)]
            have HK : Hid (s[k].toNat = 126) := by show _ = _; omega
            clear h126 h32 h10
            go_wp2
            go_loop [1] (fun i => ∃ j : Nat, k ≤ j ∧ j ≤ s.size ∧ i = .int .i64 j ∧ Hid (j + Lx.gapIn true (s.data.toList.drop j) = g)) (fun i => s.size - (intOf i).toNat)
            case atStart => exact ⟨k, Nat.le_refl _, hk, rfl, HT⟩
            case round =>
              obtain ⟨j, hkj, hj, rfl, HJ2⟩ := hrel
              by_cases hlt2 : j < s.size
              · have HD2 := Lib.hid (drop_at s j hlt2)
                have hu2 := u8lt s[j]
                by_cases hf : (s[j].toNat : Int) = 10
                · have b4 : (!((s[j].toNat : Int) == 10)) = false := by simp [hf]
                  have b5 : ((s[j].toNat : Int) != 10) = false := b4
                  have HF : Hid (s[j].toNat = 10) := by show _ = _; omega
                  have hne : k ≠ j := by
                    intro e; subst e; have := HK.out; have := HF.out; omega
                  clear hf
                  go_wp2
                  go_round
                  case rel => exact ⟨j, by omega, rfl, show _ = _ by rw [← HJ2.out, HD2.out, gapIn_feed _ _ HF.out]⟩
                  case measure => simp [intOf]; omega
                · have b4 : (!((s[j].toNat : Int) == 10)) = true := by simp [hf]
                  have b5 : ((s[j].toNat : Int) != 10) = true := b4
                  have HF : Hid (s[j].toNat ≠ 10) := by show _ ≠ _; omega
                  clear hf
                  go_wp2
                  go_round
                  case rel => exact ⟨j + 1, by omega, by omega, by go_num, show _ = _ by rw [← HJ2.out, HD2.out, gapIn_step _ _ HF.out]; omega⟩
                  case measure => simp [intOf]; omega
              · have hje : j = s.size := by omega
                have HE := Lib.hid hje
                have hjl : ¬ (j : Int) < s.size := by omega
                clear hje
                go_wp2
                go_round
                case rel => exact ⟨j, by omega, rfl, show _ = _ by rw [← HJ2.out, HE.out, List.drop_eq_nil_of_le (by simp)]; rfl⟩
                case measure => simp [intOf]; have := HE.out; omega
          · have b3 : ((s[k].toNat : Int) == 126) = false := by simp [h126]
            have HZ : Hid (k = g) := by show _ = _; rw [← HJ.out, HD.out, Lx.gap_none _ _ (by omega) HB.out]; rfl
            go_wp2
            go_ret
            exact ⟨by rw [← HZ.out]; rfl, rfl⟩
    · have HE : Hid (k = g) := by
        show _ = _
        rw [← HJ.out, List.drop_eq_nil_of_le (by simp; omega)]; rfl
      have hkl : ¬ (k : Int) < s.size := by omega
      go_wp2
      go_ret
      exact ⟨by rw [← HE.out]; rfl, rfl⟩

set_option maxHeartbeats 1000000 in
theorem refHas_any (ls : List Lx.B) (hl : ls.length ≤ 1000) (b cap : Nat) (t : ByteArray) (w : World) (hr : ∀ (j : Nat) x, ls[j]? = some x → w.cell? ⟨b, j, none⟩ = some (sv x)) :
    Calls Tryd.prog 76 #[.slice (some ⟨b, 0, none⟩) ls.length cap, .string t] w fun e w' => e = .returned (.bool (ls.contains t.data.toList)) ∧ w = w' := by
  have HR := Lib.hid hr
  clear hr
  generalize hq : ls.contains t.data.toList = q
  have HQ := Lib.hid hq
  clear hq
  go_enter Tryd.func76, Tryd.ntmps76
  go_wp2
  go_loop [5] (fun i => ∃ j : Nat, j ≤ ls.length ∧ i = .int .i64 j ∧ Hid (∀ i y, i < j → ls[i]? = some y → y ≠ t.data.toList)) (fun i => ls.length - (intOf i).toNat)
  case atStart => exact ⟨0, Nat.zero_le _, rfl, fun i y hi => absurd hi (by omega)⟩
  case round =>
    obtain ⟨j, hj, rfl, HJ⟩ := hrel
    by_cases hlt : j < ls.length
    · obtain ⟨x, hxj⟩ : ∃ x, ls[j]? = some x := ⟨_, List.getElem?_eq_getElem hlt⟩
      have HX := Lib.hid hxj
      have hcell := HR.out j x hxj
      unfold sv at hcell
      have hji : (j : Int) < ls.length := by omega
      clear hxj
      by_cases he : x = t.toList
      · have b1 : (x == t.toList) = true := by simp [he]
        have HE := Lib.hid he
        clear he
        go_wp2
        go_ret
        refine ⟨?_, rfl⟩
        rw [← HQ.out, show ls.contains t.data.toList = true from by
          rw [List.contains_iff_mem, ← Lib.toList_data, ← HE.out]; exact List.mem_of_getElem? HX.out]
        rfl
      · have b1 : (x == t.toList) = false := by simp [he]
        have HE := Lib.hid he
        clear he
        go_wp2
        go_round
        case rel =>
          refine ⟨j + 1, by omega, by go_num, fun i y hi hy => ?_⟩
          by_cases e : i = j
          · subst e; rw [HX.out] at hy; cases hy; rw [← Lib.toList_data]; exact HE.out
          · exact HJ.out i y (by omega) hy
        case measure => simp [intOf]; omega
    · have hje : j = ls.length := by omega
      have HE := Lib.hid hje
      have hji : ¬ (j : Int) < ls.length := by omega
      clear hje
      go_wp2
      go_ret
      refine ⟨?_, rfl⟩
      rw [← HQ.out, show ls.contains t.data.toList = false from by
        rw [← Bool.not_eq_true, List.contains_iff_mem]
        intro hmem
        obtain ⟨i, hi, he⟩ := List.getElem_of_mem hmem
        exact HJ.out i _ (by have := HE.out; omega) (List.getElem?_eq_getElem hi) he]
      rfl

end Go.Proofs.YtkhgmoljhehbnaaDoor
