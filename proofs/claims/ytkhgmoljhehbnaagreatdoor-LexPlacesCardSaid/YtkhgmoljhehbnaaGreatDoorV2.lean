/- The walks of the reference's Place and Offset, and of lex.Place and lex.Offset where something is refused. -/
import Derived.Test.YtkhgmoljhehbnaaGreatDoorJ2
import Derived.Test.YtkhgmoljhehbnaaGreatDoorV1
namespace Go.Proofs.YtkhgmoljhehbnaaGreatDoor
open Go.RowKit

theorem col_le (l : Lx.B) (a : Nat) : Lx.colAt l a ≤ a + 1 := by unfold Lx.colAt; omega
theorem line_le_at (l : Lx.B) (a : Nat) : Lx.lineAt l a ≤ a := by
  unfold Lx.lineAt
  have := List.count_le_length (a := (10 : UInt8)) (l := l.take a)
  rw [List.length_take] at this
  omega

set_option maxRecDepth 100000 in
set_option maxHeartbeats 2000000 in
theorem refPlace_any (s : ByteArray) (hs : s.size ≤ 2500) (a : Nat) (ha : a ≤ s.size) (w : World) :
    Calls Tryz.prog 9 #[.string s, .int .i64 a] w fun e w' => e = .returned (.tuple #[.int .i64 ((Lx.lineAt s.data.toList a + 1 : Nat) : Int), .int .i64 (Lx.colAt s.data.toList a : Nat)]) ∧ w' = w := by
  obtain ⟨LN, hLN⟩ : ∃ f : Nat → Nat, f = fun i => Lx.lineAt s.data.toList i + 1 := ⟨_, rfl⟩
  obtain ⟨CL, hCL⟩ : ∃ f : Nat → Nat, f = fun i => Lx.colAt s.data.toList i := ⟨_, rfl⟩
  have hL : ((Lx.lineAt s.data.toList a + 1 : Nat) : Int) = (LN a : Int) := by rw [hLN]
  have hC : ((Lx.colAt s.data.toList a : Nat) : Int) = (CL a : Int) := by rw [hCL]
  have h0 : LN 0 = 1 ∧ CL 0 = 1 := by
    obtain ⟨z1, z2⟩ := Lx.at_zero s.data.toList
    rw [hLN, hCL]; exact ⟨by simp only [z1], z2⟩
  have hF : ∀ i (hi : i < s.size), s[i] = 10 → LN (i + 1) = LN i + 1 ∧ CL (i + 1) = 1 := by
    intro i hi h
    have hg : s.data.toList[i]? = some 10 := by have := drop_get s 0 i (by omega); rw [List.drop_zero] at this; simp only [Nat.zero_add] at this; rw [this, h]
    obtain ⟨z1, z2⟩ := Lx.at_feed (by rw [← Lib.size_eq]; exact hi) hg
    rw [hLN, hCL]; exact ⟨by simp only [z1], z2⟩
  have hO : ∀ i (hi : i < s.size), s[i] ≠ 10 → LN (i + 1) = LN i ∧ CL (i + 1) = CL i + 1 := by
    intro i hi h
    have hg : s.data.toList[i]? = some s[i] := by have := drop_get s 0 i (by omega); rw [List.drop_zero] at this; simpa only [Nat.zero_add] using this
    obtain ⟨z1, z2⟩ := Lx.at_other (by rw [← Lib.size_eq]; exact hi) hg h
    rw [hLN, hCL]; exact ⟨by simp only [z1], z2⟩
  have hb : ∀ i, LN i ≤ i + 1 ∧ CL i ≤ i + 1 := by
    intro i
    rw [hLN, hCL]
    exact ⟨by have := line_le_at s.data.toList i; simp only; omega, col_le _ _⟩
  rw [hL, hC]
  have H0 := Lib.hid h0
  have HF := Lib.hid hF
  have HO := Lib.hid hO
  have HB := Lib.hid hb
  clear h0 hF hO hb hL hC hLN hCL
  go_enter Tryz.func9, Tryz.ntmps9
  go_wp2_with fail
  go_loopw [6, 7, 8] (fun vl vc vi wr => ∃ k : Nat, k ≤ a ∧ vi = .int .i64 k ∧ vl = .int .i64 (LN k : Nat) ∧ vc = .int .i64 (CL k : Nat) ∧ wr = w) (fun _ _ vi _ => a - (intOf vi).toNat)
  case atStart => exact ⟨0, Nat.zero_le _, rfl, by rw [H0.out.1]; rfl, by rw [H0.out.2]; rfl, rfl⟩
  case round =>
    obtain ⟨k, hk, rfl, rfl, rfl, rfl⟩ := hrel
    by_cases hlt : k < a
    · have hlt' : (k : Int) < a := by omega
      have hks : k < s.size := by omega
      have hks' : (k : Int) < s.size := by omega
      have hk0 : (0 : Int) ≤ k := by omega
      have HA := Lib.hid (bytes_at s k hks)
      obtain ⟨b1, b2⟩ := HB.out k
      by_cases h10 : (s[k].toNat : Int) = 10
      · have e1 : ((s[k].toNat : Int) == 10) = true := by simp [h10]
        obtain ⟨n1, n2⟩ := HF.out k hks (UInt8.toNat_inj.1 (by rw [show (10 : UInt8).toNat = 10 from rfl]; omega))
        have w1 : IntKind.i64.wrap ((CL k : Int) + 1) = (CL k : Int) + 1 := by rw [IntKind.wrap_i64]; omega
        have w2 : IntKind.i64.wrap ((LN k : Int) + 1) = (LN k : Int) + 1 := by rw [IntKind.wrap_i64]; omega
        have N1 := Lib.hid n1
        have N2 := Lib.hid n2
        clear h10 n1 n2
        go_wp2
        go_roundw
        case rel => exact ⟨k + 1, hlt, by go_num, by rw [N1.out]; simp, by rw [N2.out]; rfl, by simp⟩
        case measure => simp [intOf]; omega
      · have e1 : ((s[k].toNat : Int) == 10) = false := by simp [h10]
        obtain ⟨n1, n2⟩ := HO.out k hks (fun e => h10 (by rw [e]; rfl))
        have w1 : IntKind.i64.wrap ((CL k : Int) + 1) = (CL k : Int) + 1 := by rw [IntKind.wrap_i64]; omega
        have N1 := Lib.hid n1
        have N2 := Lib.hid n2
        clear h10 n1 n2
        go_wp2
        go_roundw
        case rel => exact ⟨k + 1, hlt, by go_num, by rw [N1.out], by rw [N2.out]; simp, by simp⟩
        case measure => simp [intOf]; omega
    · have hlt' : ¬ (k : Int) < a := by omega
      have hke : k = a := by omega
      subst hke
      go_wp2
      go_ret2
      exact ⟨rfl, rfl⟩

/-- how the reference's Offset ends -/
def OffIs (l : Lx.B) (line col D : Int) : Prop := (∃ a : Nat, a ≤ l.length ∧ Lx.Spotted l line col a ∧ (∀ j, j < a → ¬ Lx.Spotted l line col j) ∧ D = a) ∨ ((∀ a, a ≤ l.length → ¬ Lx.Spotted l line col a) ∧ D = -1)

set_option maxRecDepth 100000 in
set_option maxHeartbeats 2000000 in
theorem refOffset_any (s : ByteArray) (hs : s.size ≤ 2500) (line col D : Int) (hD : OffIs s.data.toList line col D) (w : World) :
    Calls Tryz.prog 8 #[.string s, .int .i64 line, .int .i64 col] w fun e w' => e = .returned (.int .i64 D) ∧ w' = w := by
  have hpl := fun a ha W => refPlace_any s hs a ha W
  have HPL : Hid (∀ a, a ≤ s.size → ∃ L C : Int, (∀ W, Calls Tryz.prog 9 #[.string s, .int .i64 a] W fun e w' => e = .returned (.tuple #[.int .i64 L, .int .i64 C]) ∧ w' = W) ∧ (Lx.Spotted s.data.toList line col a ↔ (L = line ∧ C = col))) :=
    fun a ha => ⟨_, _, fun W => hpl a ha W, Iff.rfl⟩
  rw [OffIs, ← Lib.size_eq] at hD
  generalize Lx.Spotted s.data.toList line col = P at HPL hD
  have HD := Lib.hid hD
  clear hpl hD
  go_enter Tryz.func8, Tryz.ntmps8
  go_wp2_with fail
  go_loopw [7] (fun vi wr => ∃ k : Nat, k ≤ s.size + 1 ∧ vi = .int .i64 k ∧ Hid (∀ j, j < k → ¬ P j) ∧ wr = w) (fun vi _ => s.size + 1 - (intOf vi).toNat)
  case atStart => exact ⟨0, Nat.zero_le _, rfl, fun j hj => absurd hj (Nat.not_lt_zero _), rfl⟩
  case round =>
    obtain ⟨k, hk, rfl, HJ, rfl⟩ := hrel
    by_cases hle : k ≤ s.size
    · have hle' : (k : Int) ≤ s.size := by omega
      obtain ⟨L, C, hc, hiff⟩ := HPL.out k hle
      have HC := Lib.hid hc
      clear hc
      by_cases h1 : L = line
      · by_cases h2 : C = col
        · subst h1 h2
          have hP : P k := hiff.2 ⟨rfl, rfl⟩
          have HE : Hid (D = (k : Int)) := by
            show D = _
            rcases HD.out with ⟨a, ha, hPa, hmin, rfl⟩ | ⟨hno, _⟩
            · rcases Nat.lt_trichotomy a k with h | h | h
              · exact absurd hPa (HJ.out a h)
              · rw [h]
              · exact absurd hP (hmin k h)
            · exact absurd hP (hno k hle)
          have e1 : (L == L) = true := beq_self_eq_true _
          have e2 : (C == C) = true := beq_self_eq_true _
          clear hP hiff HJ
          go_wp2_with fail
          refine (HC.out _).mono ?_
          rintro e w1 ⟨rfl, rfl⟩
          go_wp2
          go_ret
          exact ⟨by rw [HE.out]; rfl, rfl⟩
        · have e1 : (L == line) = true := by simp [h1]
          have e2 : (C == col) = false := by simp [h2]
          have HN : Hid (∀ j, j < k + 1 → ¬ P j) := by
            show ∀ j, _ → _
            intro j hj
            rcases Nat.lt_or_ge j k with h | h
            · exact HJ.out j h
            · rw [show j = k by omega]; exact fun hp => h2 (hiff.1 hp).2
          clear hiff HJ h1 h2
          go_wp2_with fail
          refine (HC.out _).mono ?_
          rintro e w1 ⟨rfl, rfl⟩
          go_wp2
          go_roundw
          case rel => exact ⟨k + 1, by omega, by go_num, HN, by simp⟩
          case measure => simp [intOf]; omega
      · have e1 : (L == line) = false := by simp [h1]
        have HN : Hid (∀ j, j < k + 1 → ¬ P j) := by
          show ∀ j, _ → _
          intro j hj
          rcases Nat.lt_or_ge j k with h | h
          · exact HJ.out j h
          · rw [show j = k by omega]; exact fun hp => h1 (hiff.1 hp).1
        clear hiff HJ h1
        go_wp2_with fail
        refine (HC.out _).mono ?_
        rintro e w1 ⟨rfl, rfl⟩
        go_wp2
        go_roundw
        case rel => exact ⟨k + 1, by omega, by go_num, HN, by simp⟩
        case measure => simp [intOf]; omega
    · have hle' : ¬ (k : Int) ≤ s.size := by omega
      have HE : Hid (D = -1) := by
        show D = _
        rcases HD.out with ⟨a, ha, hPa, _, _⟩ | ⟨_, h⟩
        · exact absurd hPa (HJ.out a (by omega))
        · exact h
      go_wp2
      go_ret
      exact ⟨by rw [HE.out]; rfl, rfl⟩

end Go.Proofs.YtkhgmoljhehbnaaGreatDoor
