/- The walks of the reference's Kind, IsRight, Same, Apart. -/
import Derived.Test.YtkhgmoljhehbnaaDoorL2
import Derived.Deep.RegionHeld3
namespace Go.Proofs.YtkhgmoljhehbnaaDoor
open Go.RowKit

set_option maxRecDepth 100000 in
set_option maxHeartbeats 2000000 in
theorem refKind_any (t : ByteArray) (hs : t.size ≤ 281474976710656) (w : World) :
    Calls Tryd.prog 28 #[.string t] w fun e w' => e = .returned (.int .u8 (refKindP t.data.toList)) ∧ Below w.heap.size w w' := by
  have hrd := refRead_any t hs w
  have hre := read_e t.data.toList
  unfold refKindP
  generalize Lx.read t.data.toList = R at hrd hre ⊢
  have HRD := Lib.hid hrd
  generalize hK : refKindR R t.data.toList = K
  clear hrd
  cases R with
  | bad k er =>
    have her := hre k er rfl
    have herb : ((er : Int) == 0) = false := by rw [beq_eq_false_iff_ne]; omega
    have herb2 : ((er : Int) != 0) = true := by rw [bne, herb]; rfl
    have hK0 : K = 0 := hK.symm
    subst hK0
    clear hre hK
    go_enter Tryd.func28, Tryd.ntmps28
    go_wp2_with fail
    refine HRD.out.mono ?_
    rintro e w1 ⟨⟨A, cap, heq, _⟩, hb⟩
    simp only [Lx.Res.ts, Lx.Res.at_, Lx.Res.e] at heq
    subst heq
    go_wp2
    go_ret
    exact ⟨rfl, hb⟩
  | ok ts gs =>
    clear hre
    by_cases h1 : ts.length = 1
    · obtain ⟨x, rfl⟩ : ∃ x, ts = [x] := List.length_eq_one_iff.1 h1
      have hq : ((⟨x.text.toArray⟩ : ByteArray).toList == t.toList) = decide (x.text = t.data.toList) := by
        rw [Lib.toList_data, Lib.toList_data]
        by_cases h : x.text = t.data.toList
        · simp [h]
        · simp [h]
      by_cases hx : x.text = t.data.toList
      · have hq' : ((⟨x.text.toArray⟩ : ByteArray).toList == t.toList) = true := by rw [hq]; simp [hx]
        have hK0 : K = x.kind := by rw [← hK]; simp only [refKindR, hx, if_true]
        subst hK0
        clear hx hq h1 hK
        go_enter Tryd.func28, Tryd.ntmps28
        go_wp2_with fail
        refine HRD.out.mono ?_
        rintro e w1 ⟨⟨A, cap, heq, hown⟩, hb⟩
        simp only [Lx.Res.ts, Lx.Res.at_, Lx.Res.e] at heq hown
        subst heq
        obtain ⟨g, rfl, _, hin⟩ := toksIn_of_own hown (by simp)
        obtain ⟨a0, a1, a2⟩ := hin 0 _ rfl
        simp only [LT.of, Nat.zero_mul, Nat.add_zero, Nat.zero_add] at a0 a1 a2
        simp only [List.length_cons, List.length_nil]
        clear hown hin
        generalize (⟨x.text.toArray⟩ : ByteArray) = xb at a1 hq'
        have hq2 : (!(xb.toList == t.toList)) = false := by rw [hq']; rfl
        go_wp2
        go_ret
        exact ⟨rfl, hb⟩
      · have hq' : ((⟨x.text.toArray⟩ : ByteArray).toList == t.toList) = false := by rw [hq]; simp [hx]
        have hK0 : K = 0 := by rw [← hK]; simp only [refKindR, hx, if_false]
        subst hK0
        clear hx hq h1 hK
        go_enter Tryd.func28, Tryd.ntmps28
        go_wp2_with fail
        refine HRD.out.mono ?_
        rintro e w1 ⟨⟨A, cap, heq, hown⟩, hb⟩
        simp only [Lx.Res.ts, Lx.Res.at_, Lx.Res.e] at heq hown
        subst heq
        obtain ⟨g, rfl, _, hin⟩ := toksIn_of_own hown (by simp)
        obtain ⟨a0, a1, a2⟩ := hin 0 _ rfl
        simp only [LT.of, Nat.zero_mul, Nat.add_zero, Nat.zero_add] at a0 a1 a2
        simp only [List.length_cons, List.length_nil]
        clear hown hin
        generalize (⟨x.text.toArray⟩ : ByteArray) = xb at a1 hq'
        have hq2 : (!(xb.toList == t.toList)) = true := by rw [hq']; rfl
        go_wp2
        go_ret
        exact ⟨rfl, hb⟩
    · have hl : ((ts.length : Int) == 1) = false := by rw [beq_eq_false_iff_ne]; omega
      have hl2 : ((ts.length : Int) != 1) = true := by rw [bne, hl]; rfl
      have hK0 : K = 0 := by
        rw [← hK]
        match ts, h1 with
        | [], _ => rfl
        | [_], h1 => simp at h1
        | _ :: _ :: _, _ => rfl
      subst hK0
      clear hK
      clear h1
      go_enter Tryd.func28, Tryd.ntmps28
      go_wp2_with fail
      refine HRD.out.mono ?_
      rintro e w1 ⟨⟨A, cap, heq, hown⟩, hb⟩
      simp only [Lx.Res.ts, Lx.Res.at_, Lx.Res.e] at heq
      subst heq
      clear hown
      go_wp2
      go_ret
      exact ⟨rfl, hb⟩

/-- the reference's IsRight -/
theorem isRight_eq (k : Nat) (t : ByteArray) : (decide (k ≠ 0) && decide (refKindP t.data.toList = k)) = rightB k t := by
  have h00 : ∀ k : Nat, (decide (k ≠ 0) && decide (0 = k)) = false := by intro k; cases k <;> simp
  rw [refKind_eq]
  unfold rightB rightR kindOk sameB
  cases hq : Lx.tok t.data.toList with
  | none => simpa using h00 k
  | some x =>
    obtain ⟨kd, u⟩ := x
    have hk := (Lx.tok_prefix hq).2.2.2.2
    by_cases hu : u = t.data.toList
    · subst hu
      simp only [optK, optS, Option.isSome_some, Bool.true_and, BEq.rfl, if_true]
      by_cases h : kd = k
      · subst h
        simp; omega
      · have h' : ¬ k = kd := fun e => h e.symm
        simp [h, h']
    · have hu' : ¬ t.data.toList = u := fun h => hu h.symm
      simp only [optK, optS, Option.isSome_some, Bool.true_and]
      rw [show (u == t.data.toList) = false by rw [beq_eq_false_iff_ne]; exact hu, show (t.data.toList == u) = false by rw [beq_eq_false_iff_ne]; exact hu', if_neg (by simp), Bool.and_false]
      exact h00 k

set_option maxRecDepth 100000 in
set_option maxHeartbeats 2000000 in
theorem refIsRight_any (k : Nat) (hk : k < 256) (t : ByteArray) (a : Int) (hs : t.size ≤ 281474976710656) (w : World) :
    Calls Tryd.prog 30 #[.agg #[.int .u8 k, .string t, .int .i64 a]] w fun e w' => e = .returned (.bool (rightB k t)) ∧ Below w.heap.size w w' := by
  have hkd := fun W => refKind_any t hs W
  have heq := isRight_eq k t
  generalize refKindP t.data.toList = r at hkd heq
  generalize rightB k t = q at heq ⊢
  have HKD := Lib.hid hkd
  have HEQ := Lib.hid heq
  clear hkd heq
  by_cases h0 : k = 0
  · subst h0
    have HQ : Hid (q = false) := Lib.hid (by rw [← HEQ.out]; rfl)
    go_enter Tryd.func30, Tryd.ntmps30
    go_wp2_with fail
    go_region
    go_wp2
    go_ret
    exact ⟨by rw [HQ.out]; rfl, ((Below.refl _ _).alloc (Nat.le_refl _) _).drew⟩
  · have h0b : ((k : Int) == 0) = false := by rw [beq_eq_false_iff_ne]; omega
    have h0c : ((k : Int) != 0) = true := by rw [bne, h0b]; rfl
    have HQ : Hid (((r : Int) == k) = q) := Lib.hid (by
      rw [← HEQ.out]
      by_cases h : r = k
      · subst h; simp [h0]
      · rw [show ((r : Int) == k) = false by rw [beq_eq_false_iff_ne]; omega]; simp [h])
    go_enter Tryd.func30, Tryd.ntmps30
    go_wp2_with fail
    go_region_held3 (fun W => W.cell? ⟨w.heap.size, 0, none⟩ = some (.int .u8 k) ∧ W.cell? ⟨w.heap.size, 1, none⟩ = some (.string t))
      (first | go_keep | (go_split_ands; refine ⟨?_, ?_⟩ <;> (rw [(bcell hb2).1 _ _ (by simp)]; simp)))
      ((first | (go_at_call 28; refine (HKD.out _).mono ?_; rintro e w2 ⟨rfl, hb2⟩)))
    go_wp2
    go_ret
    exact ⟨by rw [← HQ.out]; rfl, (((Below.refl _ _).alloc (Nat.le_refl _) _).drew).trans (hb2.mono (by simp))⟩

end Go.Proofs.YtkhgmoljhehbnaaDoor
