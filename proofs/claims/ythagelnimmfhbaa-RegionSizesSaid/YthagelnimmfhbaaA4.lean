/- Layer 5, the program: Fill. -/
import Derived.Test.YthagelnimmfhbaaA3
import Derived.Test.YthagelnimmfhbaaRl
namespace Go.Proofs.Ythagelnimmfhbaa
open Go.RowKit Go.El

theorem optV_optI (o : Option Nat) : optV o = Rg.optI o := by cases o <;> rfl

set_option maxRecDepth 100000 in
set_option maxHeartbeats 2000000 in
theorem fillC : FillC := by
  intro l hl A cap s w h
  have hck := checkSized_any l hl A cap s w h
  unfold Rg.fillR
  unfold chk at hck
  cases hv : Rg.valid l with
  | false =>
    rw [hv] at hck
    have HC : Hid _ := Lib.hid hck
    clear hck hv h
    go_enter Try.func31, Try.ntmps31
    go_wp2_with fail
    refine HC.out.mono ?_
    rintro e w1 ⟨rfl, hb1⟩
    go_wp2
    go_ret2
    exact ⟨⟨none, 0, rfl, Own.nil IntE 3 w1 _⟩, hb1⟩
  | true =>
    rw [hv] at hck
    cases hs : Rg.inS s with
    | false =>
      rw [hs] at hck
      have HC : Hid _ := Lib.hid hck
      clear hck hv h hs
      go_enter Try.func31, Try.ntmps31
      go_wp2_with fail
      refine HC.out.mono ?_
      rintro e w1 ⟨rfl, hb1⟩
      go_wp2
      go_ret2
      exact ⟨⟨none, 0, rfl, Own.nil IntE 3 w1 _⟩, hb1⟩
    | true =>
      rw [hs] at hck
      have HC : Hid _ := Lib.hid hck
      have hs' : 0 ≤ s ∧ s ≤ 100 := by simpa [Rg.inS] using hs
      obtain ⟨s0, s1⟩ := hs'
      clear hck hs
      obtain ⟨S, rfl⟩ : ∃ S : Nat, s = S := ⟨s.toNat, by omega⟩
      have hw := fun (k : Nat) (hk : k ≤ 200) W hW => swho_any l hv A cap (S : Int) (k : Int) s0 (by omega) (by omega) (by omega) W hW
      have hF : ∀ k, k < S → (Rg.fill l S).take (k + 1) = (Rg.fill l S).take k ++ [optV (Rg.who l (S : Int) (k : Int))] := fun k hk => by
        unfold Rg.fill
        rw [← List.map_take, ← List.map_take, List.take_range, List.take_range, Nat.min_eq_left (by omega), Nat.min_eq_left (by omega), List.range_succ, List.map_append, optV_optI]
        rfl
      have hFl : (Rg.fill l S).length = S := by simp [Rg.fill]
      rw [show (S : Int).toNat = S from rfl]
      generalize Rg.fill l S = R at *
      have HW := Lib.hid hw
      have HF := Lib.hid hF
      have HL := Lib.hid hFl
      have HS0 := Lib.hid (Arg.stay h)
      clear hw hF hFl hv h
      go_enter Try.func31, Try.ntmps31
      go_wp2_with fail
      refine HC.out.mono ?_
      rintro e w1 ⟨rfl, hb1⟩
      have hz1 := hb1.size
      go_wp2_with fail
      go_loopw [7, 16] (fun o i wr => ∃ (k : Nat) (D : List Int) (B : Option Addr) (c : Nat), k ≤ S ∧ i = .int .i64 k ∧ o = .slice B D.length c ∧ Hid (D = R.take k) ∧ D.length ≤ 101 ∧ OwnI wr w.heap.size B c D ∧ Below w.heap.size w wr) (fun _ i _ => (S : Nat) - (intOf i).toNat)
      case atStart => exact ⟨0, [], none, 0, Nat.zero_le _, rfl, rfl, Lib.hid rfl, by simp, Own.nil IntE 3 w1 _, hb1⟩
      case round =>
        obtain ⟨k, D, B, c, hk, rfl, rfl, HD, hDl, hown, hbw⟩ := hrel
        have hzw := hbw.size
        by_cases hlt : k < S
        · have hlt' : (k : Int) < (S : Int) := by omega
          go_wp2_with fail
          refine (HW.out k (by omega) _ (HS0.out wr hbw)).mono ?_
          rintro e w2 ⟨rfl, hb2⟩
          have hz2 := hb2.size
          have hown2 := hown.below hb2
          have hB2 := hbw.trans (hb2.mono hzw)
          have HX : Hid (D ++ [optV (Rg.who l (S : Int) (k : Int))] = R.take (k + 1)) := Lib.hid (by rw [HF.out k hlt, HD.out])
          have hDl2 : D.length ≤ 100 := by have := HD.out; have := congrArg List.length this; rw [List.length_take, HL.out] at this; omega
          clear hown hb2 hbw
          generalize optV (Rg.who l (S : Int) (k : Int)) = v at *
          go_wp2_with (at_builtin; refine append_I rfl _ _ rfl w.heap.size B c D v w2.heap.size rfl rfl (hown2.below ((Below.refl _ _).alloc (Nat.le_refl _) _)) (by simp) (by omega) (by simp; omega) ?_; intro A' cap' w3 hown3 hgrow3; have hz3 := hgrow3.size; simp only [World.size_alloc] at hz3; have hB3 := (hB2.alloc (show w.heap.size ≤ w2.heap.size by omega) (.cells #[.int .i64 v] 3)).grown hgrow3 (by simp; omega) (fun j hj => (hown2.lt j hj).1); clear hB2)
          go_roundw
          case rel => exact ⟨k + 1, D ++ [v], A', cap', by omega, by go_num, by simp, HX, by simp; omega, hown3, hB3⟩
          case measure => simp [intOf]; omega
        · have hkS : k = S := by omega
          subst hkS
          have HE : Hid (D = R) := Lib.hid (by rw [HD.out, List.take_of_length_le (by rw [HL.out]; exact Nat.le_refl _)])
          go_wp2
          go_ret2
          exact ⟨⟨B, c, by rw [← HE.out]; rfl, by rw [← HE.out]; exact hown⟩, hbw⟩

end Go.Proofs.Ythagelnimmfhbaa
