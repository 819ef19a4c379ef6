/- Layer 5, the program: Misses, right, Sizes, Least. -/
import Derived.Test.YthagelnimmfhbaaA12
import Derived.IntWalk
namespace Go.Proofs.Ythagelnimmfhbaa
open Go.RowKit Go.El

set_option maxHeartbeats 2000000 in
theorem missesC : MissesC := by
  intro l hl A cap s w h
  have hck := checkSized_any l hl A cap s w h
  unfold Rg.missesR
  unfold chk at hck
  cases hv : Rg.valid l with
  | false =>
    rw [hv] at hck
    have HC : Hid _ := Lib.hid hck
    clear hck hv h
    go_enter Try.func18, Try.ntmps18
    go_wp2_with fail
    refine HC.out.mono ?_
    rintro e w1 ⟨rfl, hb1⟩
    go_wp2
    go_ret2
    exact ⟨⟨none, 0, rfl, Own.nil MissE 41 w1 _⟩, hb1⟩
  | true =>
    rw [hv] at hck
    cases hs : Rg.inS s with
    | false =>
      rw [hs] at hck
      have HC : Hid _ := Lib.hid hck
      clear hck hv h hs
      go_enter Try.func18, Try.ntmps18
      go_wp2_with fail
      refine HC.out.mono ?_
      rintro e w1 ⟨rfl, hb1⟩
      go_wp2
      go_ret2
      exact ⟨⟨none, 0, rfl, Own.nil MissE 41 w1 _⟩, hb1⟩
    | true =>
      rw [hs] at hck
      have HC : Hid _ := Lib.hid hck
      have hs' : 0 ≤ s ∧ s ≤ 100 := by simpa [Rg.inS] using hs
      obtain ⟨s0, s1⟩ := hs'
      clear hck hs
      obtain ⟨S, rfl⟩ : ∃ S : Nat, s = S := ⟨s.toNat, by omega⟩
      have hw := fun W hW => smisses_any l hv A cap S (by omega) W hW
      have HW := Lib.hid hw
      have HS0 := Lib.hid (Arg.stay h)
      have HE : Hid (∀ base W B c, OwnM W base B c (mv S (Rg.misses l S)) → OwnM W base B c (mv S (Rg.misses l S))) := Lib.hid fun _ _ _ _ h => h
      simp only [if_true]
      generalize hR : Rg.misses l S = R at *
      clear hw hv h hR HE
      go_enter Try.func18, Try.ntmps18
      go_wp2_with fail
      refine HC.out.mono ?_
      rintro e w1 ⟨rfl, hb1⟩
      go_wp2_with fail
      refine (HW.out _ (HS0.out w1 hb1)).mono ?_
      rintro e w2 ⟨⟨B, c, rfl, ho⟩, hb2⟩
      have ho2 := ho.base_ (base' := w.heap.size) hb1.size
      clear ho
      go_wp2
      go_ret2
      exact ⟨⟨B, c, rfl, ho2⟩, hb1.trans (hb2.mono hb1.size)⟩

theorem right_any (l : List Rg.Pt) (hv : Rg.valid l = true) (A : Option Addr) (cap S : Nat) (hS : S ≤ 100) (w : World) (h : PtE.Arg w A l) :
    Calls Try.prog 47 #[.slice A l.length cap, .int .i64 S] w fun e w' => e = .returned (.bool (Rg.right l S)) ∧ Below w.heap.size w w' := by
  have hm := smisses_any l hv A cap S hS w h
  unfold Rg.right
  generalize Rg.misses l S = M at *
  have HM := Lib.hid hm
  clear hm hv h
  cases M with
  | nil =>
    go_enter Try.func47, Try.ntmps47
    go_wp2_with fail
    refine HM.out.mono ?_
    rintro e w1 ⟨⟨B, c, rfl, hown⟩, hb1⟩
    simp only [List.length_nil]
    clear hown
    go_wp2
    go_ret
    exact ⟨rfl, hb1⟩
  | cons x r =>
    have hq2 : ((r.length : Int) + 1 == 0) = false := by rw [beq_eq_false_iff_ne]; omega
    go_enter Try.func47, Try.ntmps47
    go_wp2_with fail
    refine HM.out.mono ?_
    rintro e w1 ⟨⟨B, c, rfl, hown⟩, hb1⟩
    simp only [List.length_cons]
    clear hown
    go_wp2
    go_ret
    exact ⟨rfl, hb1⟩

set_option maxRecDepth 100000 in
set_option maxHeartbeats 2000000 in
theorem sizesC : SizesC := by
  intro l hl A cap w h
  have hck := svalid_any l hl A cap w h
  unfold Rg.sizesR
  cases hv : Rg.valid l with
  | false =>
    rw [hv] at hck
    have HC : Hid _ := Lib.hid hck
    clear hck hv h
    go_enter Try.func24, Try.ntmps24
    go_wp2_with fail
    refine HC.out.mono ?_
    rintro e w1 ⟨rfl, hb1⟩
    go_wp2
    go_ret2
    exact ⟨⟨none, 0, rfl, Own.nil IntE 3 w1 _⟩, hb1⟩
  | true =>
    rw [hv] at hck
    have HC : Hid _ := Lib.hid hck
    have hri := fun (k : Nat) (hk : k ≤ 100) W hW => right_any l hv A cap k hk W hW
    have HRI := Lib.hid hri
    have HS0 := Lib.hid (Arg.stay h)
    have hstep : ∀ k : Nat, Rg.sizesK l (k + 1) = Rg.sizesK l k ++ (if Rg.right l k then [k] else []) := fun k => rfl
    have HST := Lib.hid hstep
    have HLEN := Lib.hid (fun k => Rg.sizesK_len l k)
    have h101 : Rg.sizesK l 101 = Rg.sizes l := rfl
    have H101 := Lib.hid h101
    simp only [if_true]
    generalize Rg.sizes l = R at *
    clear hck hri h hstep hv h101
    go_enter Try.func24, Try.ntmps24
    go_wp2_with fail
    refine HC.out.mono ?_
    rintro e w1 ⟨rfl, hb1⟩
    have hz1 := hb1.size
    go_wp2_with fail
    go_loopw [4, 9] (fun o i wr => ∃ (k : Nat) (D : List Int) (B : Option Addr) (c : Nat), k ≤ 101 ∧ i = .int .i64 k ∧ o = .slice B D.length c ∧ Hid (D = iv (Rg.sizesK l k)) ∧ D.length ≤ 101 ∧ OwnI wr w.heap.size B c D ∧ Below w.heap.size w wr) (fun _ i _ => (101 - intOf i).toNat)
    case atStart => exact ⟨0, [], none, 0, by omega, rfl, rfl, Lib.hid rfl, by simp, Own.nil IntE 3 w1 _, hb1⟩
    case round =>
      obtain ⟨k, D, B, c, hk, rfl, rfl, HD, hDl, hown, hbw⟩ := hrel
      have hzw := hbw.size
      by_cases hlt : k < 101
      · have hlt' : (k : Int) < 101 := by omega
        have hcall := HRI.out k (by omega) wr (HS0.out wr hbw)
        have hn := HST.out k
        have HDL : Hid (D.length ≤ k) := Lib.hid (by rw [HD.out, iv_len]; exact HLEN.out k)
        generalize Rg.right l k = M at hcall hn
        have HCL := Lib.hid hcall
        have HN := Lib.hid hn
        clear hcall hn
        cases M with
        | true =>
          have HN0 : Hid (D ++ [(k : Int)] = iv (Rg.sizesK l (k + 1))) := Lib.hid (by rw [HN.out, if_pos rfl, iv_snoc, ← HD.out])
          clear HN
          go_wp2_with fail
          refine HCL.out.mono ?_
          rintro e w2 ⟨rfl, hb2⟩
          have hown1 := hown.below hb2
          have hB1 := hbw.trans (hb2.mono hzw)
          have hz2 := hB1.size
          clear hown hb2 hbw
          go_wp2_with (at_builtin; refine append_I rfl _ _ rfl w.heap.size B c D k w2.heap.size rfl rfl (hown1.below ((Below.refl _ _).alloc (Nat.le_refl _) _)) (by simp) (by omega) (by simp; omega) ?_; intro B' c' w3 hown2 hgrow2)
          go_roundw
          case rel => exact ⟨k + 1, D ++ [(k : Int)], B', c', by omega, by go_num, by simp, HN0, by have := HDL.out; simp; omega, hown2, (hB1.alloc hz2 _).grown hgrow2 (by simp; omega) (fun j hj => (hown1.lt j hj).1)⟩
          case measure => simp [intOf]; omega
        | false =>
          have HN0 : Hid (D = iv (Rg.sizesK l (k + 1))) := Lib.hid (by rw [HN.out, if_neg (by decide), List.append_nil]; exact HD.out)
          clear HN
          go_wp2_with fail
          refine HCL.out.mono ?_
          rintro e w2 ⟨rfl, hb2⟩
          have hown1 := hown.below hb2
          have hB1 := hbw.trans (hb2.mono hzw)
          clear hown hb2 hbw
          go_wp2
          go_roundw
          case rel => exact ⟨k + 1, D, B, c, by omega, by go_num, rfl, HN0, hDl, hown1, hB1⟩
          case measure => simp [intOf]; omega
      · have hlt' : ¬ (k : Int) < 101 := by omega
        have HE : Hid (D = iv R) := Lib.hid (by rw [HD.out, show k = 101 by omega, H101.out])
        have HL : Hid (D.length = R.length) := Lib.hid (by rw [HE.out, iv_len])
        go_wp2
        go_ret2
        exact ⟨⟨B, c, by rw [← HL.out]; rfl, by rw [← HE.out]; exact hown⟩, hbw⟩

/-- those from k on are right -/
def lstB (k : Nat) : Option Nat := if 100 < k then none else some k
set_option maxRecDepth 100000 in
set_option maxHeartbeats 2000000 in
theorem leastC : LeastC := by
  intro l hl A cap w h
  have hck := svalid_any l hl A cap w h
  unfold Rg.leastR
  cases hv : Rg.valid l with
  | false =>
    rw [hv] at hck
    have HC : Hid _ := Lib.hid hck
    clear hck hv h
    go_enter Try.func25, Try.ntmps25
    go_wp2_with fail
    refine HC.out.mono ?_
    rintro e w1 ⟨rfl, hb1⟩
    go_wp2
    go_ret2
    exact ⟨rfl, hb1⟩
  | true =>
    rw [hv] at hck
    have HC : Hid _ := Lib.hid hck
    have hri := fun (k : Nat) (hk : k ≤ 100) W hW => right_any l hv A cap k hk W hW
    have HRI := Lib.hid hri
    have HS0 := Lib.hid (Arg.stay h)
    have hstep : ∀ (k : Nat) b, Rg.leastK l (k + 1) b = if Rg.right l k then Rg.leastK l k (some k) else b := fun k b => rfl
    have HST := Lib.hid hstep
    have h101 : Rg.leastK l 101 (lstB 101) = Rg.least l := rfl
    have H101 := Lib.hid h101
    simp only [if_true]
    generalize Rg.least l = R at *
    clear hck hri h hstep hv h101
    go_enter Try.func25, Try.ntmps25
    go_wp2_with fail
    refine HC.out.mono ?_
    rintro e w1 ⟨rfl, hb1⟩
    go_wp2_with fail
    go_loopw [4] (fun i wr => ∃ (k : Nat), k ≤ 101 ∧ i = .int .i64 k ∧ Hid (R = Rg.leastK l k (lstB k)) ∧ Below w.heap.size w wr) (fun i _ => (intOf i).toNat)
    case atStart => exact ⟨101, by omega, rfl, Lib.hid H101.out.symm, hb1⟩
    case round =>
      obtain ⟨k, hk, rfl, HR, hbw⟩ := hrel
      have hzw := hbw.size
      -- the end: what was found
      have HEND : Hid (R = lstB k → Rg.ofOpt R = if 100 < k then (0, 7) else (k, 0)) := Lib.hid fun e => by
        rw [e]; unfold lstB; split <;> rfl
      cases k with
      | zero =>
        have HE := HEND.out HR.out
        rw [if_neg (by omega)] at HE
        have HE2 := Lib.hid HE
        clear HE
        go_wp2
        go_ret2
        exact ⟨by rw [HE2.out]; rfl, hbw⟩
      | succ k =>
        obtain ⟨N, hN⟩ : ∃ N : Nat, N = k + 1 := ⟨_, rfl⟩
        rw [← hN]
        have hcall := HRI.out k (by omega) wr (HS0.out wr hbw)
        have hn := HST.out k (lstB (k + 1))
        have hp0 : decide ((0 : Int) < (N : Int)) = true := decide_eq_true (by omega)
        have hp2 : decide (0 < N) = true := decide_eq_true (by omega)
        have hp1 : (N : Int) - 1 = k := by omega
        have hw1 : IntKind.i64.wrap (k : Int) = k := IntWalk.i64_in _ (by omega)
        have hNl : N ≤ 101 := by omega
        rw [← hN] at HEND HR hn
        have HN1 := Lib.hid hN
        clear hN hk
        generalize Rg.right l k = M at hcall hn
        have HCL := Lib.hid hcall
        have HN := Lib.hid hn
        clear hcall hn
        cases M with
        | true =>
          have HN0 : Hid (R = Rg.leastK l k (lstB k)) := Lib.hid (by rw [HR.out, HN.out, if_pos rfl]; unfold lstB; rw [if_neg (by omega)])
          clear HN
          go_wp2_with fail
          refine HCL.out.mono ?_
          rintro e w2 ⟨rfl, hb2⟩
          go_wp2
          go_roundw
          case rel => exact ⟨k, by have := HN1.out; omega, rfl, HN0, hbw.trans (hb2.mono hzw)⟩
          case measure => have := HN1.out; simp [intOf]; omega
        | false =>
          have HE := HEND.out (by rw [HR.out, HN.out]; rfl)
          clear HN
          by_cases h100 : 100 < N
          · rw [if_pos h100] at HE
            have HE2 := Lib.hid HE
            have hq : decide ((100 : Int) < (N : Int)) = true := decide_eq_true (by omega)
            clear HE
            go_wp2_with fail
            refine HCL.out.mono ?_
            rintro e w2 ⟨rfl, hb2⟩
            go_wp2
            go_ret2
            exact ⟨by rw [HE2.out]; rfl, hbw.trans (hb2.mono hzw)⟩
          · rw [if_neg h100] at HE
            have HE2 := Lib.hid HE
            have hq : decide ((100 : Int) < (N : Int)) = false := decide_eq_false (by omega)
            clear HE
            go_wp2_with fail
            refine HCL.out.mono ?_
            rintro e w2 ⟨rfl, hb2⟩
            go_wp2
            go_ret2
            exact ⟨by rw [HE2.out]; rfl, hbw.trans (hb2.mono hzw)⟩

end Go.Proofs.Ythagelnimmfhbaa
