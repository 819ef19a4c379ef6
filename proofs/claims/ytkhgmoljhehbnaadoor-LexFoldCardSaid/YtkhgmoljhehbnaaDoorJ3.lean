/- The walk of the law LexFold. -/
import Derived.Test.YtkhgmoljhehbnaaDoorJ2
import Derived.Test.YtkhgmoljhehbnaaDoorD4
namespace Go.Proofs.YtkhgmoljhehbnaaDoor
open Go.RowKit

theorem check_cases (l : Lx.B) : Lx.check l = (0, 0) ∨ ∃ k er, Lx.check l = (k, er) ∧ er ≠ 0 := by
  unfold Lx.check
  split
  · exact .inr ⟨_, _, rfl, by decide⟩
  · split
    · exact .inr ⟨_, _, rfl, by decide⟩
    · exact .inl rfl

set_option maxHeartbeats 1000000 in
theorem fold_bad (s : ByteArray) (hs : s.size ≤ maxLen) (k er : Nat) (h : Lx.check s.data.toList = (k, er)) (h0 : er ≠ 0) (w : World) (he : Env w) :
    Calls Tryd.prog 12 #[.string s] w fun e w' => e = .returned (.bool true) ∧ Below w.heap.size w w' := by
  have hmi : (s.size : Int) ≤ 9223372036854775807 := by unfold maxLen at hs; omega
  have herb : ((er : Int) == 0) = false := by rw [beq_eq_false_iff_ne]; omega
  have herb2 : ((er : Int) != 0) = true := by rw [bne, herb]; rfl
  have HL := Lib.hid (fun W => lexLines_bad s hs k er h h0 W)
  have HK := Lib.hid (fun W hE => known_any W hE)
  have HE := Lib.hid he
  clear he h h0
  by_cases h4 : (400 : Int) < s.size
  all_goals
    go_enter Tryd.func12, Tryd.ntmps12
    go_wp2_with fail
    refine (HL.out _).mono ?_
    rintro e w1 ⟨rfl, hb1⟩
    have HE1 := Lib.hid (HE.out.below hb1 HE.out.lt)
    go_wp2_with fail
    refine (HK.out _ HE1.out).mono ?_
    rintro e w2 ⟨rfl, hb2⟩
    go_wp2
    go_ret
    exact ⟨rfl, hb1.trans (hb2.mono hb1.size)⟩

set_option maxHeartbeats 1000000 in
theorem fold_big (s : ByteArray) (hs : s.size ≤ maxLen) (h : Lx.check s.data.toList = (0, 0)) (h4 : 400 < s.size) (w : World) (he : Env w) (hm : Mx w) :
    Calls Tryd.prog 12 #[.string s] w fun e w' => e = .returned (.bool true) ∧ Below w.heap.size w w' := by
  have hmi : (s.size : Int) ≤ 9223372036854775807 := by unfold maxLen at hs; omega
  have h4' : (400 : Int) < s.size := by omega
  have HL := Lib.hid (lexLines_ok s hs (by rw [h]) w hm)
  have HK := Lib.hid (fun W hE => known_any W hE)
  have HE := Lib.hid he
  clear he h
  go_enter Tryd.func12, Tryd.ntmps12
  go_wp2_with fail
  refine HL.out.mono ?_
  rintro e w1 ⟨⟨b, ls, rfl, hls, hin⟩, hb1⟩
  have HE1 := Lib.hid (HE.out.below hb1 HE.out.lt)
  clear hls hin
  go_wp2_with fail
  refine (HK.out _ HE1.out).mono ?_
  rintro e w2 ⟨rfl, hb2⟩
  go_wp2
  go_ret
  exact ⟨rfl, hb1.trans (hb2.mono hb1.size)⟩

theorem bytes_eq {a b : ByteArray} (h : a.data.toList = b.data.toList) : a = b := by
  obtain ⟨⟨a⟩⟩ := a
  obtain ⟨⟨b⟩⟩ := b
  simp at h
  subst h
  rfl

set_option maxRecDepth 100000 in
set_option maxHeartbeats 4000000 in
theorem fold_ok (s : ByteArray) (hs : s.size ≤ 400) (h : Lx.check s.data.toList = (0, 0)) (w : World) (he : Env w) (hm : Mx w) :
    Calls Tryd.prog 12 #[.string s] w fun e w' => e = .returned (.bool true) ∧ Below w.heap.size w w' := by
  have h4' : ¬ (400 : Int) < s.size := by omega
  have hs0 : (s.size : Int) ≤ 400 := by omega
  have hsz := Lib.size_eq s
  have hl := lexLines_ok s (by unfold maxLen; omega) (by rw [h]) w hm
  have hjoin := Lx.join_lines s.data.toList
  have hpl : ∀ a, a ≤ s.size → ∃ (n L C : Nat) (x : Lx.B), L = n + 1 ∧ 1 ≤ C ∧ (Lx.linesG [] s.data.toList)[n]? = some x ∧ C ≤ x.length + 1 ∧ a = Lx.start (Lx.linesG [] s.data.toList) n + (C - 1) ∧
      (n + 1 = (Lx.linesG [] s.data.toList).length → a + x.length + 1 = s.size + C) ∧
      (∀ W, Calls Tryd.prog 40 #[.string s, .int .i64 a] W fun e w' => e = .returned (.tuple #[.int .i64 L, .int .i64 C, .int .i64 0]) ∧ Below W.heap.size W w') ∧
      (∀ W, Mx W → Calls Tryd.prog 41 #[.string s, .int .i64 L, .int .i64 C] W fun e w' => e = .returned (.tuple #[.int .i64 a, .int .i64 0]) ∧ Below W.heap.size W w') := by
    intro a ha
    obtain ⟨x, hx⟩ := Lx.place_ok s.data.toList a (by omega)
    have h1 := hx.lo
    have h2 := hx.hi
    have h3 := hx.get
    refine ⟨_, _, a - Lx.start (Lx.linesG [] s.data.toList) ((s.data.toList.take a).count 10) + 1, x, rfl, by omega, h3, by omega, by omega, ?_, fun W => ?_, fun W hW => ?_⟩
    · intro hn
      have := Lx.last_ok s.data.toList _ x h3 hn
      omega
    · exact place_any s (by omega) h a ha x _ rfl hx _ _ rfl (by omega) W
    · have h5 := offset_any s (by omega) h _ (a - Lx.start (Lx.linesG [] s.data.toList) ((s.data.toList.take a).count 10)) x h3 (by omega) (by omega) _ _ rfl rfl W hW
      rwa [show Lx.start (Lx.linesG [] s.data.toList) ((s.data.toList.take a).count 10) + (a - Lx.start (Lx.linesG [] s.data.toList) ((s.data.toList.take a).count 10)) = a by omega] at h5
  have HL := Lib.hid hl
  have HPL := Lib.hid hpl
  have HJ := Lib.hid hjoin
  have HK := Lib.hid (fun W hE => known_any W hE)
  have HE := Lib.hid he
  have HM := Lib.hid hm
  clear he hl hpl hjoin h hm hsz
  go_enter Tryd.func12, Tryd.ntmps12
  go_wp2_with fail
  refine HL.out.mono ?_
  rintro e w1 ⟨⟨b, ls, rfl, hls, hin⟩, hb1⟩
  have HE1 := Lib.hid (HE.out.below hb1 HE.out.lt)
  have HM1 := Lib.hid (HM.out.below hb1)
  have HLS := Lib.hid hls
  have HIN := Lib.hid hin
  have hll := Lx.linesG_len s.data.toList []
  rw [← hls, List.length_map, ← Lib.size_eq] at hll
  have hpos : 0 < ls.length := by
    have := Lx.linesG_pos s.data.toList []
    rw [← hls] at this
    exact List.length_pos_iff.2 (fun e => this (by rw [e]; rfl))
  have HJB : Hid (∀ k, k ≤ ls.length → (Lx.joinK (ls.map (·.data.toList)) k).length ≤ s.size) := by
    show ∀ k, _ → _
    intro k hk
    have h1 := Lx.joinK_le (ls.map (·.data.toList)) (ls.map (·.data.toList)).length k (by rw [List.length_map]; exact hk)
    have h2 := HJ.out
    rw [← hls] at h2
    rw [h2, ← Lib.size_eq] at h1
    exact h1
  clear hls hin HE HM
  go_wp2_with fail
  go_loopw [5, 6] (fun vt vi wr => ∃ (k : Nat) (B : ByteArray), k ≤ ls.length ∧ vi = .int .i64 k ∧ vt = .string B ∧ Hid (B.data.toList = Lx.joinK (ls.map (·.data.toList)) k) ∧ Below w1.heap.size w1 wr) (fun _ vi _ => ls.length - (intOf vi).toNat)
  case atStart => exact ⟨0, _, Nat.zero_le _, rfl, rfl, Lib.hid rfl, Below.refl _ _⟩
  case round =>
    obtain ⟨k, B, hk, rfl, rfl, HB, hbr⟩ := hrel
    have hBs : B.size ≤ 400 := by
      have h1 := HJB.out k hk
      rw [← HB.out, ← Lib.size_eq] at h1
      omega
    by_cases hlt : k < ls.length
    · have hlt' : (k : Int) < ls.length := by omega
      obtain ⟨y, hy⟩ : ∃ y, ls[k]? = some y := ⟨_, List.getElem?_eq_getElem hlt⟩
      have c0 := (HIN.out.below hbr) k y hy
      have hjn : Lx.joinK (ls.map (·.data.toList)) (k + 1) = B.data.toList ++ (if k = 0 then [] else [10]) ++ y.data.toList := by
        rw [HB.out, Lx.joinK, List.getElem?_map, hy]; rfl
      have hys : y.size ≤ 400 := by
        have h1 := HJB.out (k + 1) hlt
        rw [hjn, List.length_append, List.length_append, ← Lib.size_eq y] at h1
        omega
      by_cases hk0 : k = 0
      · subst hk0
        have HN : Hid ((B ++ y).data.toList = Lx.joinK (ls.map (·.data.toList)) (0 + 1)) := Lib.hid (by rw [append_data, hjn]; simp)
        have hsum : B.size + y.size ≤ 281474976710656 := by omega
        clear hjn hy
        go_wp2_with fail
        go_roundw
        case rel => exact ⟨0 + 1, B ++ y, by omega, by go_num, rfl, HN, hbr⟩
        case measure => simp [intOf]; omega
      · have hk1 : (0 : Int) < k := by omega
        have hk2 : 0 < k := by omega
        have HN : Hid ((B ++ ⟨#[10]⟩ ++ y).data.toList = Lx.joinK (ls.map (·.data.toList)) (k + 1)) := Lib.hid (by rw [append_data, append_data, hjn, if_neg hk0])
        have hsum1 : B.size + (⟨#[10]⟩ : ByteArray).size ≤ 281474976710656 := by have : (⟨#[10]⟩ : ByteArray).size = 1 := rfl; omega
        have hsum : (B ++ ⟨#[10]⟩).size + y.size ≤ 281474976710656 := by have : (⟨#[10]⟩ : ByteArray).size = 1 := rfl; rw [ByteArray.size_append]; omega
        clear hjn hy
        go_wp2_with fail
        go_roundw
        case rel => exact ⟨k + 1, B ++ ⟨#[10]⟩ ++ y, by omega, by go_num, rfl, HN, hbr⟩
        case measure => simp [intOf]; omega
    · have hlt' : ¬ (k : Int) < ls.length := by omega
      have hBe : B = s := by
        refine bytes_eq ?_
        have h2 := HJ.out
        rw [← HLS.out, List.length_map] at h2
        rw [HB.out, show k = ls.length by omega, h2]
      subst hBe
      have hne : ((ls.length : Int) == 0) = false := by rw [beq_eq_false_iff_ne]; omega
      clear hBs hlt HB
      go_wp2_with fail
      go_loopw [7] (fun va wr2 => ∃ a : Nat, a ≤ B.size + 1 ∧ va = .int .i64 a ∧ Below w1.heap.size w1 wr2) (fun va _ => B.size + 1 - (intOf va).toNat)
      case atStart => exact ⟨0, Nat.zero_le _, rfl, hbr⟩
      case round =>
        clear hbr
        obtain ⟨a, ha, rfl, hbr2⟩ := hrel
        by_cases hle : a ≤ B.size
        · have hle' : (a : Int) ≤ B.size := by omega
          obtain ⟨n, L, C, x, hL, hC1, hx, hC2, haE, hlast, hpc, hoc⟩ := HPL.out a hle
          have hxl0 := Lx.line_le _ _ _ hx
          rw [← Lib.size_eq] at hxl0
          rw [← HLS.out] at hx hlast
          rw [List.getElem?_map] at hx
          obtain ⟨xb, hxb, hxe⟩ := Option.map_eq_some_iff.1 hx
          have hnl : n < ls.length := by
            rcases Nat.lt_or_ge n ls.length with h | h
            · exact h
            · rw [List.getElem?_eq_none h] at hxb; cases hxb
          have hxs : x.length = xb.size := by rw [← hxe]; exact (Lib.size_eq xb).symm
          rw [hxs] at hC2 hlast
          rw [List.length_map] at hlast
          have HPC := Lib.hid hpc
          have HOC := Lib.hid hoc
          have HME := Lib.hid (HM1.out.below hbr2)
          have HX : Hid (∀ W, Below w1.heap.size w1 W → W.cell? ⟨b, n, none⟩ = some (.string xb)) := fun W hW => (HIN.out.below hW) n xb hxb
          have hxl : xb.size ≤ 400 := by omega
          have hq1 : ¬ (L : Int) < 1 := by omega
          have hq2 : ¬ (ls.length : Int) < L := by omega
          have hq3 : ¬ (C : Int) < 1 := by omega
          have hq4 : ¬ (xb.size : Int) + 1 < C := by omega
          have hw1 : IntKind.i64.wrap ((L : Int) - 1) = (n : Int) := by rw [IntKind.wrap_i64]; omega
          have hd1 : (L : Int) - 1 = n := by omega
          have hn0 : (0 : Int) ≤ n := by omega
          have hn1 : (n : Int) < ls.length := by omega
          have hw3 : IntKind.i64.wrap ((xb.size : Int) + 1) = (xb.size : Int) + 1 := by rw [IntKind.wrap_i64]; omega
          clear hx hxb hxe hxs hpc hoc haE hxl0
          by_cases hLl : L = ls.length
          · have hLb : ((L : Int) == ls.length) = true := by simp [hLl]
            have hla := hlast (by omega)
            have hw4 : IntKind.i64.wrap ((B.size : Int) - xb.size) = (B.size : Int) - xb.size := by rw [IntKind.wrap_i64]; omega
            have hw5 : IntKind.i64.wrap ((B.size : Int) - xb.size + C) = (B.size : Int) - xb.size + C := by rw [IntKind.wrap_i64]; omega
            have hw6 : IntKind.i64.wrap ((B.size : Int) - xb.size + C - 1) = (a : Int) := by rw [IntKind.wrap_i64]; omega
            clear hlast hla hLl hL
            go_wp2_with fail
            refine (HPC.out _).mono ?_
            rintro e w3 ⟨rfl, hb3⟩
            have HM3 := Lib.hid (HME.out.below hb3)
            have hb3' := hbr2.trans (hb3.mono hbr2.size)
            go_wp2_with fail
            refine (HOC.out _ HM3.out).mono ?_
            rintro e w4 ⟨rfl, hb4⟩
            have hb4' := hb3'.trans (hb4.mono hb3'.size)
            have c1 := HX.out _ hb4'
            clear hb3 hb4 hb3' hbr2
            go_wp2_with fail
            go_roundw
            case rel => exact ⟨a + 1, by omega, by go_num, hb4'⟩
            case measure => simp [intOf]; omega
          · have hLb : ((L : Int) == ls.length) = false := by rw [beq_eq_false_iff_ne]; omega
            clear hlast hLl hL
            go_wp2_with fail
            refine (HPC.out _).mono ?_
            rintro e w3 ⟨rfl, hb3⟩
            have HM3 := Lib.hid (HME.out.below hb3)
            have hb3' := hbr2.trans (hb3.mono hbr2.size)
            go_wp2_with fail
            refine (HOC.out _ HM3.out).mono ?_
            rintro e w4 ⟨rfl, hb4⟩
            have hb4' := hb3'.trans (hb4.mono hb3'.size)
            have c1 := HX.out _ hb4'
            clear hb3 hb4 hb3' hbr2
            go_wp2_with fail
            go_roundw
            case rel => exact ⟨a + 1, by omega, by go_num, hb4'⟩
            case measure => simp [intOf]; omega
        · have hle' : ¬ (a : Int) ≤ B.size := by omega
          have HE5 := Lib.hid (HE1.out.below hbr2 HE1.out.lt)
          have hB5 := hb1.trans (hbr2.mono hb1.size)
          go_wp2_with fail
          refine (HK.out _ HE5.out).mono ?_
          rintro e w5 ⟨rfl, hb5⟩
          go_wp2
          go_ret
          exact ⟨rfl, hB5.trans (hb5.mono hB5.size)⟩

theorem fold_any (s : ByteArray) (hs : s.size ≤ maxLen) (w : World) (he : Env w) (hm : Mx w) :
    Calls Tryd.prog 12 #[.string s] w fun e w' => e = .returned (.bool true) ∧ Below w.heap.size w w' := by
  rcases check_cases s.data.toList with h | ⟨k, er, h, h0⟩
  · by_cases h4 : 400 < s.size
    · exact fold_big s hs h h4 w he hm
    · exact fold_ok s (by omega) h w he hm
  · exact fold_bad s hs k er h h0 w he

end Go.Proofs.YtkhgmoljhehbnaaDoor
