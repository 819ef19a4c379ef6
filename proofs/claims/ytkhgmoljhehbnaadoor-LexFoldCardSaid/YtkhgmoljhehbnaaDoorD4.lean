/- The walk of the law LexChecks. -/
import Derived.Test.YtkhgmoljhehbnaaDoorD3
namespace Go.Proofs.YtkhgmoljhehbnaaDoor
open Go.RowKit

set_option maxHeartbeats 1000000 in
theorem checks_big (s : ByteArray) (hm : s.size ≤ maxLen) (h : 6000 < s.size) (w : World) (he : Env w) :
    Calls Tryd.prog 3 #[.string s] w fun e w' => e = .returned (.bool true) ∧ Below w.heap.size w w' := by
  have hmi : (s.size : Int) ≤ 9223372036854775807 := by unfold maxLen at hm; omega
  have h' : (6000 : Int) < s.size := by omega
  have HK := Lib.hid (fun W hE => known_any W hE)
  have HE := Lib.hid he
  clear he
  go_enter Tryd.func3, Tryd.ntmps3
  go_wp2_with fail
  refine (HK.out _ HE.out).mono ?_
  rintro e w1 ⟨rfl, hb⟩
  go_wp2
  go_ret
  exact ⟨rfl, hb⟩

set_option maxRecDepth 100000 in
set_option maxHeartbeats 4000000 in
theorem checks_bad (s : ByteArray) (hs : s.size ≤ 6000) (k er : Nat) (h : Lx.check s.data.toList = (k, er)) (h0 : er ≠ 0) (w : World) (he : Env w) :
    Calls Tryd.prog 3 #[.string s] w fun e w' => e = .returned (.bool true) ∧ Below w.heap.size w w' := by
  have herb : ((er : Int) == 0) = false := by rw [beq_eq_false_iff_ne]; omega
  have herb2 : ((er : Int) != 0) = true := by rw [bne, herb]; rfl
  have hs' : ¬ (6000 : Int) < s.size := by omega
  have hml : s.size ≤ maxLen := by unfold maxLen; omega
  have hc := fun W => check_any s hml W
  have hl := fun W => lexLines_bad s hml k er h h0 W
  have hr := fun W => refCheck_any s hml W
  rw [h] at hc hr
  unfold chkV at hc hr
  have HC := Lib.hid hc
  have HL := Lib.hid hl
  have HR := Lib.hid hr
  have HK := Lib.hid (fun W hE => known_any W hE)
  have HE := Lib.hid he
  clear he hc hl hr h
  go_enter Tryd.func3, Tryd.ntmps3
  go_wp2_with fail
  refine (HC.out _).mono ?_
  rintro e w1 ⟨rfl, hb1⟩
  have HE1 := Lib.hid (HE.out.below hb1 HE.out.lt)
  go_wp2_with fail
  refine (HL.out _).mono ?_
  rintro e w2 ⟨rfl, hb2⟩
  have HE2 := Lib.hid (HE1.out.below hb2 HE1.out.lt)
  have hB2 := hb1.trans (hb2.mono hb1.size)
  go_wp2_with fail
  refine (HR.out _).mono ?_
  rintro e w3 ⟨rfl, rfl⟩
  clear hb1 hb2 HE HE1
  go_wp2_with fail
  refine (HK.out _ HE2.out).mono ?_
  rintro e w5 ⟨rfl, hb5⟩
  go_wp2
  go_ret
  exact ⟨rfl, hB2.trans (hb5.mono hB2.size)⟩

theorem lists_eq {xs ys : List ByteArray} (h : xs.map (·.data.toList) = ys.map (·.data.toList)) : xs = ys := by
  have hinj : Function.Injective (fun x : ByteArray => x.data.toList) := by
    intro a b hab
    obtain ⟨⟨a⟩⟩ := a
    obtain ⟨⟨b⟩⟩ := b
    simp at hab
    subst hab
    rfl
  exact (List.map_inj_right (fun a b hab => hinj hab)).1 h

set_option maxRecDepth 100000 in
set_option maxHeartbeats 4000000 in
theorem checks_ok (s : ByteArray) (hs : s.size ≤ 6000) (h : Lx.check s.data.toList = (0, 0)) (w : World) (he : Env w) (hm : Mx w) :
    Calls Tryd.prog 3 #[.string s] w fun e w' => e = .returned (.bool true) ∧ Below w.heap.size w w' := by
  have hs' : ¬ (6000 : Int) < s.size := by omega
  have hml : s.size ≤ maxLen := by unfold maxLen; omega
  have h25 : s.size ≤ 2500 := by have := check_lt s.data.toList (by rw [h]); rw [← Lib.size_eq] at this; exact this
  have hc := fun W => check_any s hml W
  have hl := fun W hW => lexLines_ok s hml (by rw [h]) W hW
  have hr := fun W => refCheck_any s hml W
  have hll := Lx.linesG_len s.data.toList []
  have hrl := fun W => refLines_any s h25 W
  rw [h] at hc hr
  unfold chkV at hc hr
  have HC := Lib.hid hc
  have HL := Lib.hid hl
  have HR := Lib.hid hr
  have HRL := Lib.hid hrl
  have HK := Lib.hid (fun W hE => known_any W hE)
  have HE := Lib.hid he
  have HM := Lib.hid hm
  have HLL : Hid ((Lx.linesG [] s.data.toList).length ≤ 2501) := Lib.hid (by rw [← Lib.size_eq] at hll; omega)
  clear he hm hc hl hr hrl hll h
  go_enter Tryd.func3, Tryd.ntmps3
  go_wp2_with fail
  refine (HC.out _).mono ?_
  rintro e w1 ⟨rfl, hb1⟩
  have HE1 := Lib.hid (HE.out.below hb1 HE.out.lt)
  have HM1 := Lib.hid (HM.out.below hb1)
  go_wp2_with fail
  refine (HL.out _ HM1.out).mono ?_
  rintro e w2 ⟨⟨b, ls, rfl, hls, hin⟩, hb2⟩
  have HE2 := Lib.hid (HE1.out.below hb2 HE1.out.lt)
  have hB2 := hb1.trans (hb2.mono hb1.size)
  go_wp2_with fail
  refine (HR.out _).mono ?_
  rintro e w3 ⟨rfl, rfl⟩
  clear hb1 hb2 HE HE1 HM HM1
  go_wp2_with fail
  refine (HRL.out _).mono ?_
  rintro e w4 ⟨⟨A, cap, ms, rfl, hown, hms⟩, hb4⟩
  have hB4 := hB2.trans (hb4.mono hB2.size)
  have HE4 := Lib.hid (HE2.out.below hb4 HE2.out.lt)
  obtain rfl : ls = ms := lists_eq (hls.trans hms.symm)
  have HIN := Lib.hid (hin.below hb4)
  have hlen : ls.length ≤ 2501 := by have h1 := HLL.out; rw [← hls, List.length_map] at h1; exact h1
  have hpos : 0 < ls.length := by
    have := Lx.linesG_pos s.data.toList []
    rw [← hls] at this
    exact List.length_pos_iff.2 (fun e => this (by rw [e]; rfl))
  obtain ⟨g, cap', hv, _, _⟩ := hown.form hpos
  injection hv with hA hn hc
  subst hA hc
  have HOWN := Lib.hid hown
  clear hls hms hin hown hn hB2 hb4
  go_wp2_with fail
  go_loopw [10] (fun i wr => ∃ k : Nat, k ≤ ls.length ∧ i = .int .i64 k ∧ Below w4.heap.size w4 wr) (fun i _ => ls.length - (intOf i).toNat)
  case atStart => exact ⟨0, Nat.zero_le _, rfl, Below.refl _ _⟩
  case round =>
    obtain ⟨k, hk, rfl, hbr⟩ := hrel
    by_cases hlt : k < ls.length
    · have hlt' : (k : Int) < ls.length := by omega
      obtain ⟨x, hx⟩ : ∃ x, ls[k]? = some x := ⟨_, List.getElem?_eq_getElem hlt⟩
      have hx1 := (HIN.out.below hbr) k x hx
      have hx2 : wr.cell? ⟨g, k, none⟩ = some (.string x) := by
        have h0 : w4.cell? ⟨g, k, none⟩ = some (.string x) := by
          have := World.ownsRow.cellAt HOWN.out k (by omega)
          rw [this, List.getElem?_map, hx]; rfl
        exact ((bcell hbr).1 _ _ (lt_of_cell h0)).trans h0
      clear hx
      go_wp2_with fail
      go_region
      go_wp2_with fail
      go_roundw
      case rel => exact ⟨k + 1, by omega, by go_num, hbr.drew⟩
      case measure => simp [intOf]; omega
    · have hlt' : ¬ (k : Int) < ls.length := by omega
      have hB5 := hB4.trans (hbr.mono hB4.size)
      have HE5 := Lib.hid (HE4.out.below hbr HE4.out.lt)
      go_wp2_with fail
      refine (HK.out _ HE5.out).mono ?_
      rintro e w5 ⟨rfl, hb5⟩
      go_wp2
      go_ret
      exact ⟨rfl, hB5.trans (hb5.mono hB5.size)⟩

theorem checks_any (s : ByteArray) (hm : s.size ≤ maxLen) (w : World) (he : Env w) (hx : Mx w) :
    Calls Tryd.prog 3 #[.string s] w fun e w' => e = .returned (.bool true) ∧ Below w.heap.size w w' := by
  by_cases h : 6000 < s.size
  · exact checks_big s hm h w he
  · cases hR : Lx.check s.data.toList with
    | mk k er =>
      by_cases h0 : er = 0
      · subst h0
        have hk : k = 0 := by
          unfold Lx.check at hR
          split at hR
          · simp at hR
          · split at hR
            · simp at hR
            · simp at hR; exact hR.symm
        subst hk
        exact checks_ok s (by omega) hR w he hx
      · exact checks_bad s (by omega) k er hR h0 w he

end Go.Proofs.YtkhgmoljhehbnaaDoor
