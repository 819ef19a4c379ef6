/- The walk of the law LexKinds. -/
import Derived.Test.YtkhgmoljhehbnaaDoorL4
namespace Go.Proofs.YtkhgmoljhehbnaaDoor
open Go.RowKit

theorem right_tok {k : Nat} {t : ByteArray} (h : rightB k t = true) : Lx.tok t.data.toList = some (k, t.data.toList) := by
  unfold rightB rightR sameB at h
  cases hq : Lx.tok t.data.toList with
  | none => rw [hq] at h; simp at h
  | some x =>
    obtain ⟨kd, u⟩ := x
    rw [hq] at h
    simp [optK, optS] at h
    rw [← h.1, ← h.2]

theorem same_self (k : Nat) (t : ByteArray) : sameB k ⟨t.data.toList.toArray⟩ k t = true := by simp [sameB]

theorem apart_eq {ka kb : Nat} {ta tb : ByteArray} (ha : rightB ka ta = true) (hb : rightB kb tb = true) : apartR (Lx.read (ta.data.toList ++ tb.data.toList)) ka ta kb tb = apartB ka ta tb := by
  have h1 := right_tok ha
  have h2 := right_tok hb
  unfold apartB
  by_cases h : Lx.tok (ta.data.toList ++ tb.data.toList) = some (ka, ta.data.toList)
  · rw [read_two h1 h2 h, h]
    simp [apartR, rightR, sameB, optK, optS]
  · have hr : rightR ka ta (Lx.tok (ta.data.toList ++ tb.data.toList)) = false := by
      unfold rightR sameB
      cases hq : Lx.tok (ta.data.toList ++ tb.data.toList) with
      | none => rfl
      | some x =>
        obtain ⟨kd, u⟩ := x
        rw [hq] at h
        simp [optK, optS]
        intro e1 e2
        exact h (by rw [e1, e2])
    rw [hr]
    have hg := (whole_of_tok h1).gap tb.data.toList
    cases hR : Lx.read (ta.data.toList ++ tb.data.toList) with
    | bad _ _ => rfl
    | ok ts gs =>
      match ts, hR with
      | [], _ => rfl
      | [_], _ => rfl
      | [x, y], hR =>
        have hf := first_of_read hR hg
        have hs : sameB x.kind ⟨x.text.toArray⟩ ka ta = false := by
          rw [← Bool.not_eq_true]
          intro hs
          simp [sameB] at hs
          exact h (by rw [hf, hs.1, hs.2])
        simp [apartR, hs]
      | _ :: _ :: _ :: _, _ => rfl

set_option maxRecDepth 100000 in
set_option maxHeartbeats 4000000 in
theorem kinds_big (ka kb : Nat) (ta tb : ByteArray) (aa ab : Int) (hm : ta.size ≤ maxLen) (hm2 : tb.size ≤ maxLen) (h : 3000 < ta.size ∨ 3000 < tb.size) (w : World) (he : Env w) :
    Calls Tryd.prog 6 #[.agg #[.int .u8 ka, .string ta, .int .i64 aa], .agg #[.int .u8 kb, .string tb, .int .i64 ab]] w fun e w' => e = .returned (.bool true) ∧ Below w.heap.size w w' := by
  have HK := Lib.hid (fun W hE => known_any W hE)
  have HE := Lib.hid he
  clear he
  unfold maxLen at hm hm2
  by_cases h1 : 3000 < ta.size
  · have h1' : (3000 : Int) < ta.size := by omega
    go_enter Tryd.func6, Tryd.ntmps6
    go_wp2_with fail
    refine (HK.out _ ((HE.out.alloc _).alloc _)).mono ?_
    rintro e w1 ⟨rfl, hb⟩
    go_wp2
    go_ret
    exact ⟨rfl, (((Below.refl _ w).alloc (Nat.le_refl _) _).alloc (by simp) _).trans (hb.mono (by simp; omega))⟩
  · have h1' : ¬ (3000 : Int) < ta.size := by omega
    have h2' : (3000 : Int) < tb.size := by omega
    go_enter Tryd.func6, Tryd.ntmps6
    go_wp2_with fail
    refine (HK.out _ ((HE.out.alloc _).alloc _)).mono ?_
    rintro e w1 ⟨rfl, hb⟩
    go_wp2
    go_ret
    exact ⟨rfl, (((Below.refl _ w).alloc (Nat.le_refl _) _).alloc (by simp) _).trans (hb.mono (by simp; omega))⟩

theorem LexAt.pair (w : World) (ka kb : Nat) (ta tb : ByteArray) (aa ab : Int) (ty : TypeId) :
    LexAt ((w.alloc (.cells #[.int .u8 ka, .string ta, .int .i64 aa] ty)).alloc (.cells #[.int .u8 kb, .string tb, .int .i64 ab] ty)) w.heap.size ka ta aa ∧
    LexAt ((w.alloc (.cells #[.int .u8 ka, .string ta, .int .i64 aa] ty)).alloc (.cells #[.int .u8 kb, .string tb, .int .i64 ab] ty)) (w.heap.size + 1) kb tb ab :=
  ⟨⟨by simp, by simp, by simp⟩, ⟨by simp, by simp, by simp⟩⟩

theorem kind_pos (t : ByteArray) (h : kindOk t (Lx.tok t.data.toList) = true) : 1 ≤ optK (Lx.tok t.data.toList) := by
  cases hq : Lx.tok t.data.toList with
  | none => rw [hq] at h; simp [kindOk] at h
  | some x => exact (Lx.tok_prefix (k := x.1) (t := x.2) hq).2.2.2.2

set_option maxRecDepth 100000 in
set_option maxHeartbeats 16000000 in
theorem kinds_at (D E : Nat) (hDE : (D = 0 ∧ E = 4) ∨ (1 ≤ D ∧ E = 0)) (qa qb P ar : Bool) (F : Nat) (hF : (qa && qb) = false ∧ P = false ∧ F = 4 ∨ qa = true ∧ qb = true ∧ ar = P ∧ F = 0) (ka kb : Nat) (ta tb : ByteArray) (aa ab : Int) (h1 : ta.size ≤ 3000) (h2 : tb.size ≤ 3000)
    (hkd : ∀ W, Env W → Calls Tryd.prog 27 #[.string ta] W fun e w' => e = .returned (.tuple #[.int .u8 D, .int .i64 E]) ∧ Below W.heap.size W w')
    (hrk : ∀ W, Calls Tryd.prog 28 #[.string ta] W fun e w' => e = .returned (.int .u8 D) ∧ Below W.heap.size W w')
    (hap : ∀ W, Env W → Calls Tryd.prog 29 #[.agg #[.int .u8 ka, .string ta, .int .i64 aa], .agg #[.int .u8 kb, .string tb, .int .i64 ab]] W fun e w' => e = .returned (.tuple #[.bool P, .int .i64 F]) ∧ Below W.heap.size W w')
    (hra : ∀ W, Calls Tryd.prog 30 #[.agg #[.int .u8 ka, .string ta, .int .i64 aa]] W fun e w' => e = .returned (.bool qa) ∧ Below W.heap.size W w')
    (hrb : ∀ W, Calls Tryd.prog 30 #[.agg #[.int .u8 kb, .string tb, .int .i64 ab]] W fun e w' => e = .returned (.bool qb) ∧ Below W.heap.size W w')
    (hrp : ∀ W, Calls Tryd.prog 31 #[.agg #[.int .u8 ka, .string ta, .int .i64 aa], .agg #[.int .u8 kb, .string tb, .int .i64 ab]] W fun e w' => e = .returned (.bool ar) ∧ Below W.heap.size W w')
    (w : World) (he : Env w) :
    Calls Tryd.prog 6 #[.agg #[.int .u8 ka, .string ta, .int .i64 aa], .agg #[.int .u8 kb, .string tb, .int .i64 ab]] w fun e w' => e = .returned (.bool true) ∧ Below w.heap.size w w' := by
  have HKN := Lib.hid (fun W hE => known_any W hE)
  have HKD := Lib.hid hkd
  have HRK := Lib.hid hrk
  have HAP := Lib.hid hap
  have HRA := Lib.hid hra
  have HRB := Lib.hid hrb
  have HRP := Lib.hid hrp
  have HE := Lib.hid ((he.alloc (.cells #[.int .u8 ka, .string ta, .int .i64 aa] 47)).alloc (.cells #[.int .u8 kb, .string tb, .int .i64 ab] 47))
  have hP := LexAt.pair w ka kb ta tb aa ab 47
  have hB : Below w.heap.size w ((w.alloc (.cells #[.int .u8 ka, .string ta, .int .i64 aa] 47)).alloc (.cells #[.int .u8 kb, .string tb, .int .i64 ab] 47)) := ((Below.refl _ w).alloc (Nat.le_refl _) _).alloc (by simp) _
  have hz0 : ((w.alloc (.cells #[.int .u8 ka, .string ta, .int .i64 aa] 47)).alloc (.cells #[.int .u8 kb, .string tb, .int .i64 ab] 47)).heap.size = w.heap.size + 2 := by simp
  clear hkd hrk hap hra hrb hrp he
  have h1' : ¬ (3000 : Int) < ta.size := by omega
  have h2' : ¬ (3000 : Int) < tb.size := by omega
  rcases hDE with ⟨rfl, rfl⟩ | ⟨hD, rfl⟩
  · skip
    rcases hF with ⟨hq, rfl, rfl⟩ | ⟨rfl, rfl, rfl, rfl⟩
    · cases qa with
      | false =>
        go_enter Tryd.func6, Tryd.ntmps6
        go_wp2_with fail
        generalize (w.alloc (.cells #[.int .u8 ka, .string ta, .int .i64 aa] 47)).alloc (.cells #[.int .u8 kb, .string tb, .int .i64 ab] 47) = w0 at *
        have HE0 := HE
        have hB0 := hB
        have hz0 : w.heap.size + 2 ≤ w0.heap.size := by omega
        have HP0 := Lib.hid hP
        clear hP hB HE
        refine (HKD.out _ HE0.out).mono ?_
        rintro e w1 ⟨rfl, hb1⟩
        have hB1 : Below w.heap.size w w1 := hB0.trans (hb1.mono hB0.size)
        have hz1 : w.heap.size + 2 ≤ w1.heap.size := Nat.le_trans hz0 hb1.size
        have HE1 := Lib.hid (HE0.out.below hb1 HE0.out.lt)
        have HP1 := Lib.hid (And.intro (HP0.out.1.below hb1 (by omega)) (HP0.out.2.below hb1 (by omega)))
        clear hb1 hB0 hz0 HE0 HP0
        obtain ⟨⟨a0, a1, a2⟩, ⟨b0, b1, b2⟩⟩ := HP1.out
        go_wp2_with fail
        refine (HRK.out _ ).mono ?_
        rintro e w2 ⟨rfl, hb2⟩
        have hB2 : Below w.heap.size w w2 := hB1.trans (hb2.mono hB1.size)
        have hz2 : w.heap.size + 2 ≤ w2.heap.size := Nat.le_trans hz1 hb2.size
        have HE2 := Lib.hid (HE1.out.below hb2 HE1.out.lt)
        have HP2 := Lib.hid (And.intro (HP1.out.1.below hb2 (by omega)) (HP1.out.2.below hb2 (by omega)))
        clear hb2 hB1 hz1 HE1 HP1 a0 a1 a2 b0 b1 b2
        obtain ⟨⟨a0, a1, a2⟩, ⟨b0, b1, b2⟩⟩ := HP2.out
        go_wp2_with fail
        refine (HAP.out _ HE2.out).mono ?_
        rintro e w3 ⟨rfl, hb3⟩
        have hB3 : Below w.heap.size w w3 := hB2.trans (hb3.mono hB2.size)
        have hz3 : w.heap.size + 2 ≤ w3.heap.size := Nat.le_trans hz2 hb3.size
        have HE3 := Lib.hid (HE2.out.below hb3 HE2.out.lt)
        have HP3 := Lib.hid (And.intro (HP2.out.1.below hb3 (by omega)) (HP2.out.2.below hb3 (by omega)))
        clear hb3 hB2 hz2 HE2 HP2 a0 a1 a2 b0 b1 b2
        obtain ⟨⟨a0, a1, a2⟩, ⟨b0, b1, b2⟩⟩ := HP3.out
        go_wp2_with fail
        refine (HRA.out _ ).mono ?_
        rintro e w4 ⟨rfl, hb4⟩
        have hB4 : Below w.heap.size w w4 := hB3.trans (hb4.mono hB3.size)
        have hz4 : w.heap.size + 2 ≤ w4.heap.size := Nat.le_trans hz3 hb4.size
        have HE4 := Lib.hid (HE3.out.below hb4 HE3.out.lt)
        have HP4 := Lib.hid (And.intro (HP3.out.1.below hb4 (by omega)) (HP3.out.2.below hb4 (by omega)))
        clear hb4 hB3 hz3 HE3 HP3 a0 a1 a2 b0 b1 b2
        obtain ⟨⟨a0, a1, a2⟩, ⟨b0, b1, b2⟩⟩ := HP4.out
        go_wp2_with fail
        refine (HKN.out _ HE4.out).mono ?_
        rintro e w9 ⟨rfl, hb9⟩
        go_wp2
        go_ret
        exact ⟨rfl, hB4.trans (hb9.mono hB4.size)⟩
      | true =>
        have hqb : qb = false := by simpa using hq
        subst hqb
        go_enter Tryd.func6, Tryd.ntmps6
        go_wp2_with fail
        generalize (w.alloc (.cells #[.int .u8 ka, .string ta, .int .i64 aa] 47)).alloc (.cells #[.int .u8 kb, .string tb, .int .i64 ab] 47) = w0 at *
        have HE0 := HE
        have hB0 := hB
        have hz0 : w.heap.size + 2 ≤ w0.heap.size := by omega
        have HP0 := Lib.hid hP
        clear hP hB HE
        refine (HKD.out _ HE0.out).mono ?_
        rintro e w1 ⟨rfl, hb1⟩
        have hB1 : Below w.heap.size w w1 := hB0.trans (hb1.mono hB0.size)
        have hz1 : w.heap.size + 2 ≤ w1.heap.size := Nat.le_trans hz0 hb1.size
        have HE1 := Lib.hid (HE0.out.below hb1 HE0.out.lt)
        have HP1 := Lib.hid (And.intro (HP0.out.1.below hb1 (by omega)) (HP0.out.2.below hb1 (by omega)))
        clear hb1 hB0 hz0 HE0 HP0
        obtain ⟨⟨a0, a1, a2⟩, ⟨b0, b1, b2⟩⟩ := HP1.out
        go_wp2_with fail
        refine (HRK.out _ ).mono ?_
        rintro e w2 ⟨rfl, hb2⟩
        have hB2 : Below w.heap.size w w2 := hB1.trans (hb2.mono hB1.size)
        have hz2 : w.heap.size + 2 ≤ w2.heap.size := Nat.le_trans hz1 hb2.size
        have HE2 := Lib.hid (HE1.out.below hb2 HE1.out.lt)
        have HP2 := Lib.hid (And.intro (HP1.out.1.below hb2 (by omega)) (HP1.out.2.below hb2 (by omega)))
        clear hb2 hB1 hz1 HE1 HP1 a0 a1 a2 b0 b1 b2
        obtain ⟨⟨a0, a1, a2⟩, ⟨b0, b1, b2⟩⟩ := HP2.out
        go_wp2_with fail
        refine (HAP.out _ HE2.out).mono ?_
        rintro e w3 ⟨rfl, hb3⟩
        have hB3 : Below w.heap.size w w3 := hB2.trans (hb3.mono hB2.size)
        have hz3 : w.heap.size + 2 ≤ w3.heap.size := Nat.le_trans hz2 hb3.size
        have HE3 := Lib.hid (HE2.out.below hb3 HE2.out.lt)
        have HP3 := Lib.hid (And.intro (HP2.out.1.below hb3 (by omega)) (HP2.out.2.below hb3 (by omega)))
        clear hb3 hB2 hz2 HE2 HP2 a0 a1 a2 b0 b1 b2
        obtain ⟨⟨a0, a1, a2⟩, ⟨b0, b1, b2⟩⟩ := HP3.out
        go_wp2_with fail
        refine (HRA.out _ ).mono ?_
        rintro e w4 ⟨rfl, hb4⟩
        have hB4 : Below w.heap.size w w4 := hB3.trans (hb4.mono hB3.size)
        have hz4 : w.heap.size + 2 ≤ w4.heap.size := Nat.le_trans hz3 hb4.size
        have HE4 := Lib.hid (HE3.out.below hb4 HE3.out.lt)
        have HP4 := Lib.hid (And.intro (HP3.out.1.below hb4 (by omega)) (HP3.out.2.below hb4 (by omega)))
        clear hb4 hB3 hz3 HE3 HP3 a0 a1 a2 b0 b1 b2
        obtain ⟨⟨a0, a1, a2⟩, ⟨b0, b1, b2⟩⟩ := HP4.out
        go_wp2_with fail
        refine (HRB.out _ ).mono ?_
        rintro e w5 ⟨rfl, hb5⟩
        have hB5 : Below w.heap.size w w5 := hB4.trans (hb5.mono hB4.size)
        have hz5 : w.heap.size + 2 ≤ w5.heap.size := Nat.le_trans hz4 hb5.size
        have HE5 := Lib.hid (HE4.out.below hb5 HE4.out.lt)
        have HP5 := Lib.hid (And.intro (HP4.out.1.below hb5 (by omega)) (HP4.out.2.below hb5 (by omega)))
        clear hb5 hB4 hz4 HE4 HP4 a0 a1 a2 b0 b1 b2
        obtain ⟨⟨a0, a1, a2⟩, ⟨b0, b1, b2⟩⟩ := HP5.out
        go_wp2_with fail
        refine (HKN.out _ HE5.out).mono ?_
        rintro e w9 ⟨rfl, hb9⟩
        go_wp2
        go_ret
        exact ⟨rfl, hB5.trans (hb9.mono hB5.size)⟩
    · skip
      go_enter Tryd.func6, Tryd.ntmps6
      go_wp2_with fail
      generalize (w.alloc (.cells #[.int .u8 ka, .string ta, .int .i64 aa] 47)).alloc (.cells #[.int .u8 kb, .string tb, .int .i64 ab] 47) = w0 at *
      have HE0 := HE
      have hB0 := hB
      have hz0 : w.heap.size + 2 ≤ w0.heap.size := by omega
      have HP0 := Lib.hid hP
      clear hP hB HE
      refine (HKD.out _ HE0.out).mono ?_
      rintro e w1 ⟨rfl, hb1⟩
      have hB1 : Below w.heap.size w w1 := hB0.trans (hb1.mono hB0.size)
      have hz1 : w.heap.size + 2 ≤ w1.heap.size := Nat.le_trans hz0 hb1.size
      have HE1 := Lib.hid (HE0.out.below hb1 HE0.out.lt)
      have HP1 := Lib.hid (And.intro (HP0.out.1.below hb1 (by omega)) (HP0.out.2.below hb1 (by omega)))
      clear hb1 hB0 hz0 HE0 HP0
      obtain ⟨⟨a0, a1, a2⟩, ⟨b0, b1, b2⟩⟩ := HP1.out
      go_wp2_with fail
      refine (HRK.out _ ).mono ?_
      rintro e w2 ⟨rfl, hb2⟩
      have hB2 : Below w.heap.size w w2 := hB1.trans (hb2.mono hB1.size)
      have hz2 : w.heap.size + 2 ≤ w2.heap.size := Nat.le_trans hz1 hb2.size
      have HE2 := Lib.hid (HE1.out.below hb2 HE1.out.lt)
      have HP2 := Lib.hid (And.intro (HP1.out.1.below hb2 (by omega)) (HP1.out.2.below hb2 (by omega)))
      clear hb2 hB1 hz1 HE1 HP1 a0 a1 a2 b0 b1 b2
      obtain ⟨⟨a0, a1, a2⟩, ⟨b0, b1, b2⟩⟩ := HP2.out
      go_wp2_with fail
      refine (HAP.out _ HE2.out).mono ?_
      rintro e w3 ⟨rfl, hb3⟩
      have hB3 : Below w.heap.size w w3 := hB2.trans (hb3.mono hB2.size)
      have hz3 : w.heap.size + 2 ≤ w3.heap.size := Nat.le_trans hz2 hb3.size
      have HE3 := Lib.hid (HE2.out.below hb3 HE2.out.lt)
      have HP3 := Lib.hid (And.intro (HP2.out.1.below hb3 (by omega)) (HP2.out.2.below hb3 (by omega)))
      clear hb3 hB2 hz2 HE2 HP2 a0 a1 a2 b0 b1 b2
      obtain ⟨⟨a0, a1, a2⟩, ⟨b0, b1, b2⟩⟩ := HP3.out
      go_wp2_with fail
      refine (HRA.out _ ).mono ?_
      rintro e w4 ⟨rfl, hb4⟩
      have hB4 : Below w.heap.size w w4 := hB3.trans (hb4.mono hB3.size)
      have hz4 : w.heap.size + 2 ≤ w4.heap.size := Nat.le_trans hz3 hb4.size
      have HE4 := Lib.hid (HE3.out.below hb4 HE3.out.lt)
      have HP4 := Lib.hid (And.intro (HP3.out.1.below hb4 (by omega)) (HP3.out.2.below hb4 (by omega)))
      clear hb4 hB3 hz3 HE3 HP3 a0 a1 a2 b0 b1 b2
      obtain ⟨⟨a0, a1, a2⟩, ⟨b0, b1, b2⟩⟩ := HP4.out
      go_wp2_with fail
      refine (HRB.out _ ).mono ?_
      rintro e w5 ⟨rfl, hb5⟩
      have hB5 : Below w.heap.size w w5 := hB4.trans (hb5.mono hB4.size)
      have hz5 : w.heap.size + 2 ≤ w5.heap.size := Nat.le_trans hz4 hb5.size
      have HE5 := Lib.hid (HE4.out.below hb5 HE4.out.lt)
      have HP5 := Lib.hid (And.intro (HP4.out.1.below hb5 (by omega)) (HP4.out.2.below hb5 (by omega)))
      clear hb5 hB4 hz4 HE4 HP4 a0 a1 a2 b0 b1 b2
      obtain ⟨⟨a0, a1, a2⟩, ⟨b0, b1, b2⟩⟩ := HP5.out
      go_wp2_with fail
      refine (HRP.out _ ).mono ?_
      rintro e w6 ⟨rfl, hb6⟩
      have hB6 : Below w.heap.size w w6 := hB5.trans (hb6.mono hB5.size)
      have hz6 : w.heap.size + 2 ≤ w6.heap.size := Nat.le_trans hz5 hb6.size
      have HE6 := Lib.hid (HE5.out.below hb6 HE5.out.lt)
      have HP6 := Lib.hid (And.intro (HP5.out.1.below hb6 (by omega)) (HP5.out.2.below hb6 (by omega)))
      clear hb6 hB5 hz5 HE5 HP5 a0 a1 a2 b0 b1 b2
      obtain ⟨⟨a0, a1, a2⟩, ⟨b0, b1, b2⟩⟩ := HP6.out
      go_wp2_with fail
      refine (HKN.out _ HE6.out).mono ?_
      rintro e w9 ⟨rfl, hb9⟩
      go_wp2
      go_ret
      exact ⟨rfl, hB6.trans (hb9.mono hB6.size)⟩
  · have hD0 : ((D : Int) == 0) = false := by rw [beq_eq_false_iff_ne]; omega
    have hD1 : ((D : Int) != 0) = true := by rw [bne, hD0]; rfl
    rcases hF with ⟨hq, rfl, rfl⟩ | ⟨rfl, rfl, rfl, rfl⟩
    · cases qa with
      | false =>
        go_enter Tryd.func6, Tryd.ntmps6
        go_wp2_with fail
        generalize (w.alloc (.cells #[.int .u8 ka, .string ta, .int .i64 aa] 47)).alloc (.cells #[.int .u8 kb, .string tb, .int .i64 ab] 47) = w0 at *
        have HE0 := HE
        have hB0 := hB
        have hz0 : w.heap.size + 2 ≤ w0.heap.size := by omega
        have HP0 := Lib.hid hP
        clear hP hB HE
        refine (HKD.out _ HE0.out).mono ?_
        rintro e w1 ⟨rfl, hb1⟩
        have hB1 : Below w.heap.size w w1 := hB0.trans (hb1.mono hB0.size)
        have hz1 : w.heap.size + 2 ≤ w1.heap.size := Nat.le_trans hz0 hb1.size
        have HE1 := Lib.hid (HE0.out.below hb1 HE0.out.lt)
        have HP1 := Lib.hid (And.intro (HP0.out.1.below hb1 (by omega)) (HP0.out.2.below hb1 (by omega)))
        clear hb1 hB0 hz0 HE0 HP0
        obtain ⟨⟨a0, a1, a2⟩, ⟨b0, b1, b2⟩⟩ := HP1.out
        go_wp2_with fail
        refine (HRK.out _ ).mono ?_
        rintro e w2 ⟨rfl, hb2⟩
        have hB2 : Below w.heap.size w w2 := hB1.trans (hb2.mono hB1.size)
        have hz2 : w.heap.size + 2 ≤ w2.heap.size := Nat.le_trans hz1 hb2.size
        have HE2 := Lib.hid (HE1.out.below hb2 HE1.out.lt)
        have HP2 := Lib.hid (And.intro (HP1.out.1.below hb2 (by omega)) (HP1.out.2.below hb2 (by omega)))
        clear hb2 hB1 hz1 HE1 HP1 a0 a1 a2 b0 b1 b2
        obtain ⟨⟨a0, a1, a2⟩, ⟨b0, b1, b2⟩⟩ := HP2.out
        go_wp2_with fail
        refine (HAP.out _ HE2.out).mono ?_
        rintro e w3 ⟨rfl, hb3⟩
        have hB3 : Below w.heap.size w w3 := hB2.trans (hb3.mono hB2.size)
        have hz3 : w.heap.size + 2 ≤ w3.heap.size := Nat.le_trans hz2 hb3.size
        have HE3 := Lib.hid (HE2.out.below hb3 HE2.out.lt)
        have HP3 := Lib.hid (And.intro (HP2.out.1.below hb3 (by omega)) (HP2.out.2.below hb3 (by omega)))
        clear hb3 hB2 hz2 HE2 HP2 a0 a1 a2 b0 b1 b2
        obtain ⟨⟨a0, a1, a2⟩, ⟨b0, b1, b2⟩⟩ := HP3.out
        go_wp2_with fail
        refine (HRA.out _ ).mono ?_
        rintro e w4 ⟨rfl, hb4⟩
        have hB4 : Below w.heap.size w w4 := hB3.trans (hb4.mono hB3.size)
        have hz4 : w.heap.size + 2 ≤ w4.heap.size := Nat.le_trans hz3 hb4.size
        have HE4 := Lib.hid (HE3.out.below hb4 HE3.out.lt)
        have HP4 := Lib.hid (And.intro (HP3.out.1.below hb4 (by omega)) (HP3.out.2.below hb4 (by omega)))
        clear hb4 hB3 hz3 HE3 HP3 a0 a1 a2 b0 b1 b2
        obtain ⟨⟨a0, a1, a2⟩, ⟨b0, b1, b2⟩⟩ := HP4.out
        go_wp2_with fail
        refine (HKN.out _ HE4.out).mono ?_
        rintro e w9 ⟨rfl, hb9⟩
        go_wp2
        go_ret
        exact ⟨rfl, hB4.trans (hb9.mono hB4.size)⟩
      | true =>
        have hqb : qb = false := by simpa using hq
        subst hqb
        go_enter Tryd.func6, Tryd.ntmps6
        go_wp2_with fail
        generalize (w.alloc (.cells #[.int .u8 ka, .string ta, .int .i64 aa] 47)).alloc (.cells #[.int .u8 kb, .string tb, .int .i64 ab] 47) = w0 at *
        have HE0 := HE
        have hB0 := hB
        have hz0 : w.heap.size + 2 ≤ w0.heap.size := by omega
        have HP0 := Lib.hid hP
        clear hP hB HE
        refine (HKD.out _ HE0.out).mono ?_
        rintro e w1 ⟨rfl, hb1⟩
        have hB1 : Below w.heap.size w w1 := hB0.trans (hb1.mono hB0.size)
        have hz1 : w.heap.size + 2 ≤ w1.heap.size := Nat.le_trans hz0 hb1.size
        have HE1 := Lib.hid (HE0.out.below hb1 HE0.out.lt)
        have HP1 := Lib.hid (And.intro (HP0.out.1.below hb1 (by omega)) (HP0.out.2.below hb1 (by omega)))
        clear hb1 hB0 hz0 HE0 HP0
        obtain ⟨⟨a0, a1, a2⟩, ⟨b0, b1, b2⟩⟩ := HP1.out
        go_wp2_with fail
        refine (HRK.out _ ).mono ?_
        rintro e w2 ⟨rfl, hb2⟩
        have hB2 : Below w.heap.size w w2 := hB1.trans (hb2.mono hB1.size)
        have hz2 : w.heap.size + 2 ≤ w2.heap.size := Nat.le_trans hz1 hb2.size
        have HE2 := Lib.hid (HE1.out.below hb2 HE1.out.lt)
        have HP2 := Lib.hid (And.intro (HP1.out.1.below hb2 (by omega)) (HP1.out.2.below hb2 (by omega)))
        clear hb2 hB1 hz1 HE1 HP1 a0 a1 a2 b0 b1 b2
        obtain ⟨⟨a0, a1, a2⟩, ⟨b0, b1, b2⟩⟩ := HP2.out
        go_wp2_with fail
        refine (HAP.out _ HE2.out).mono ?_
        rintro e w3 ⟨rfl, hb3⟩
        have hB3 : Below w.heap.size w w3 := hB2.trans (hb3.mono hB2.size)
        have hz3 : w.heap.size + 2 ≤ w3.heap.size := Nat.le_trans hz2 hb3.size
        have HE3 := Lib.hid (HE2.out.below hb3 HE2.out.lt)
        have HP3 := Lib.hid (And.intro (HP2.out.1.below hb3 (by omega)) (HP2.out.2.below hb3 (by omega)))
        clear hb3 hB2 hz2 HE2 HP2 a0 a1 a2 b0 b1 b2
        obtain ⟨⟨a0, a1, a2⟩, ⟨b0, b1, b2⟩⟩ := HP3.out
        go_wp2_with fail
        refine (HRA.out _ ).mono ?_
        rintro e w4 ⟨rfl, hb4⟩
        have hB4 : Below w.heap.size w w4 := hB3.trans (hb4.mono hB3.size)
        have hz4 : w.heap.size + 2 ≤ w4.heap.size := Nat.le_trans hz3 hb4.size
        have HE4 := Lib.hid (HE3.out.below hb4 HE3.out.lt)
        have HP4 := Lib.hid (And.intro (HP3.out.1.below hb4 (by omega)) (HP3.out.2.below hb4 (by omega)))
        clear hb4 hB3 hz3 HE3 HP3 a0 a1 a2 b0 b1 b2
        obtain ⟨⟨a0, a1, a2⟩, ⟨b0, b1, b2⟩⟩ := HP4.out
        go_wp2_with fail
        refine (HRB.out _ ).mono ?_
        rintro e w5 ⟨rfl, hb5⟩
        have hB5 : Below w.heap.size w w5 := hB4.trans (hb5.mono hB4.size)
        have hz5 : w.heap.size + 2 ≤ w5.heap.size := Nat.le_trans hz4 hb5.size
        have HE5 := Lib.hid (HE4.out.below hb5 HE4.out.lt)
        have HP5 := Lib.hid (And.intro (HP4.out.1.below hb5 (by omega)) (HP4.out.2.below hb5 (by omega)))
        clear hb5 hB4 hz4 HE4 HP4 a0 a1 a2 b0 b1 b2
        obtain ⟨⟨a0, a1, a2⟩, ⟨b0, b1, b2⟩⟩ := HP5.out
        go_wp2_with fail
        refine (HKN.out _ HE5.out).mono ?_
        rintro e w9 ⟨rfl, hb9⟩
        go_wp2
        go_ret
        exact ⟨rfl, hB5.trans (hb9.mono hB5.size)⟩
    · skip
      go_enter Tryd.func6, Tryd.ntmps6
      go_wp2_with fail
      generalize (w.alloc (.cells #[.int .u8 ka, .string ta, .int .i64 aa] 47)).alloc (.cells #[.int .u8 kb, .string tb, .int .i64 ab] 47) = w0 at *
      have HE0 := HE
      have hB0 := hB
      have hz0 : w.heap.size + 2 ≤ w0.heap.size := by omega
      have HP0 := Lib.hid hP
      clear hP hB HE
      refine (HKD.out _ HE0.out).mono ?_
      rintro e w1 ⟨rfl, hb1⟩
      have hB1 : Below w.heap.size w w1 := hB0.trans (hb1.mono hB0.size)
      have hz1 : w.heap.size + 2 ≤ w1.heap.size := Nat.le_trans hz0 hb1.size
      have HE1 := Lib.hid (HE0.out.below hb1 HE0.out.lt)
      have HP1 := Lib.hid (And.intro (HP0.out.1.below hb1 (by omega)) (HP0.out.2.below hb1 (by omega)))
      clear hb1 hB0 hz0 HE0 HP0
      obtain ⟨⟨a0, a1, a2⟩, ⟨b0, b1, b2⟩⟩ := HP1.out
      go_wp2_with fail
      refine (HRK.out _ ).mono ?_
      rintro e w2 ⟨rfl, hb2⟩
      have hB2 : Below w.heap.size w w2 := hB1.trans (hb2.mono hB1.size)
      have hz2 : w.heap.size + 2 ≤ w2.heap.size := Nat.le_trans hz1 hb2.size
      have HE2 := Lib.hid (HE1.out.below hb2 HE1.out.lt)
      have HP2 := Lib.hid (And.intro (HP1.out.1.below hb2 (by omega)) (HP1.out.2.below hb2 (by omega)))
      clear hb2 hB1 hz1 HE1 HP1 a0 a1 a2 b0 b1 b2
      obtain ⟨⟨a0, a1, a2⟩, ⟨b0, b1, b2⟩⟩ := HP2.out
      go_wp2_with fail
      refine (HAP.out _ HE2.out).mono ?_
      rintro e w3 ⟨rfl, hb3⟩
      have hB3 : Below w.heap.size w w3 := hB2.trans (hb3.mono hB2.size)
      have hz3 : w.heap.size + 2 ≤ w3.heap.size := Nat.le_trans hz2 hb3.size
      have HE3 := Lib.hid (HE2.out.below hb3 HE2.out.lt)
      have HP3 := Lib.hid (And.intro (HP2.out.1.below hb3 (by omega)) (HP2.out.2.below hb3 (by omega)))
      clear hb3 hB2 hz2 HE2 HP2 a0 a1 a2 b0 b1 b2
      obtain ⟨⟨a0, a1, a2⟩, ⟨b0, b1, b2⟩⟩ := HP3.out
      go_wp2_with fail
      refine (HRA.out _ ).mono ?_
      rintro e w4 ⟨rfl, hb4⟩
      have hB4 : Below w.heap.size w w4 := hB3.trans (hb4.mono hB3.size)
      have hz4 : w.heap.size + 2 ≤ w4.heap.size := Nat.le_trans hz3 hb4.size
      have HE4 := Lib.hid (HE3.out.below hb4 HE3.out.lt)
      have HP4 := Lib.hid (And.intro (HP3.out.1.below hb4 (by omega)) (HP3.out.2.below hb4 (by omega)))
      clear hb4 hB3 hz3 HE3 HP3 a0 a1 a2 b0 b1 b2
      obtain ⟨⟨a0, a1, a2⟩, ⟨b0, b1, b2⟩⟩ := HP4.out
      go_wp2_with fail
      refine (HRB.out _ ).mono ?_
      rintro e w5 ⟨rfl, hb5⟩
      have hB5 : Below w.heap.size w w5 := hB4.trans (hb5.mono hB4.size)
      have hz5 : w.heap.size + 2 ≤ w5.heap.size := Nat.le_trans hz4 hb5.size
      have HE5 := Lib.hid (HE4.out.below hb5 HE4.out.lt)
      have HP5 := Lib.hid (And.intro (HP4.out.1.below hb5 (by omega)) (HP4.out.2.below hb5 (by omega)))
      clear hb5 hB4 hz4 HE4 HP4 a0 a1 a2 b0 b1 b2
      obtain ⟨⟨a0, a1, a2⟩, ⟨b0, b1, b2⟩⟩ := HP5.out
      go_wp2_with fail
      refine (HRP.out _ ).mono ?_
      rintro e w6 ⟨rfl, hb6⟩
      have hB6 : Below w.heap.size w w6 := hB5.trans (hb6.mono hB5.size)
      have hz6 : w.heap.size + 2 ≤ w6.heap.size := Nat.le_trans hz5 hb6.size
      have HE6 := Lib.hid (HE5.out.below hb6 HE5.out.lt)
      have HP6 := Lib.hid (And.intro (HP5.out.1.below hb6 (by omega)) (HP5.out.2.below hb6 (by omega)))
      clear hb6 hB5 hz5 HE5 HP5 a0 a1 a2 b0 b1 b2
      obtain ⟨⟨a0, a1, a2⟩, ⟨b0, b1, b2⟩⟩ := HP6.out
      go_wp2_with fail
      refine (HKN.out _ HE6.out).mono ?_
      rintro e w9 ⟨rfl, hb9⟩
      go_wp2
      go_ret
      exact ⟨rfl, hB6.trans (hb9.mono hB6.size)⟩

set_option maxRecDepth 100000 in
theorem kinds_small (ka kb : Nat) (hka : ka < 256) (hkb : kb < 256) (ta tb : ByteArray) (aa ab : Int) (h1 : ta.size ≤ 3000) (h2 : tb.size ≤ 3000) (w : World) (he : Env w) :
    Calls Tryd.prog 6 #[.agg #[.int .u8 ka, .string ta, .int .i64 aa], .agg #[.int .u8 kb, .string tb, .int .i64 ab]] w fun e w' => e = .returned (.bool true) ∧ Below w.heap.size w w' := by
  have hpos := kind_pos ta
  have hkd := fun W hE => kind_any ta (by omega) W hE
  have hrk := fun W => refKind_any ta (by omega) W
  rw [refKind_eq] at hrk
  have hap : ∀ W, Env W → Calls Tryd.prog 29 #[.agg #[.int .u8 ka, .string ta, .int .i64 aa], .agg #[.int .u8 kb, .string tb, .int .i64 ab]] W fun e w' => e = .returned (if rightB ka ta && rightB kb tb then .tuple #[.bool (apartB ka ta tb), .int .i64 0] else .tuple #[.bool false, .int .i64 4]) ∧ Below W.heap.size W w' := fun W hE => Apart_any ka kb ta tb aa ab (by omega) (by omega) W hE
  have heq := fun a b => @apart_eq ka kb ta tb a b
  have hra := fun W => refIsRight_any ka hka ta aa (by omega) W
  have hrb := fun W => refIsRight_any kb hkb tb ab (by omega) W
  have hrp := fun W => refApart_any ka kb ta tb aa ab (by omega) W
  have key : ∀ P F, ((rightB ka ta && rightB kb tb) = false ∧ P = false ∧ F = 4 ∨ rightB ka ta = true ∧ rightB kb tb = true ∧ apartR (Lx.read (ta.data.toList ++ tb.data.toList)) ka ta kb tb = P ∧ F = 0) → (∀ W, Env W → Calls Tryd.prog 29 #[.agg #[.int .u8 ka, .string ta, .int .i64 aa], .agg #[.int .u8 kb, .string tb, .int .i64 ab]] W fun e w' => e = .returned (.tuple #[.bool P, .int .i64 (F : Nat)]) ∧ Below W.heap.size W w') → Calls Tryd.prog 6 #[.agg #[.int .u8 ka, .string ta, .int .i64 aa], .agg #[.int .u8 kb, .string tb, .int .i64 ab]] w fun e w' => e = .returned (.bool true) ∧ Below w.heap.size w w' := by
    intro P F hPF hap'
    by_cases hq : kindOk ta (Lx.tok ta.data.toList) = true
    · simp only [hq, if_true] at hkd hrk
      exact kinds_at _ 0 (.inr ⟨hpos hq, rfl⟩) _ _ P _ F hPF ka kb ta tb aa ab h1 h2 hkd hrk hap' hra hrb hrp w he
    · simp only [hq] at hkd hrk
      exact kinds_at 0 4 (.inl ⟨rfl, rfl⟩) _ _ P _ F hPF ka kb ta tb aa ab h1 h2 hkd hrk hap' hra hrb hrp w he
  by_cases hr : (rightB ka ta && rightB kb tb) = true
  · simp only [hr, if_true] at hap
    rw [Bool.and_eq_true] at hr
    exact key (apartB ka ta tb) 0 (.inr ⟨hr.1, hr.2, heq hr.1 hr.2, rfl⟩) hap
  · simp only [hr] at hap
    exact key false 4 (.inl ⟨by simpa using hr, rfl, rfl⟩) hap

end Go.Proofs.YtkhgmoljhehbnaaDoor
