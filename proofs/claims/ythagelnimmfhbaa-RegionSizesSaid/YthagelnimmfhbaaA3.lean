/- Layer 5, the program: who, Who, Fill. -/
import Derived.Test.YthagelnimmfhbaaA2
namespace Go.Proofs.Ythagelnimmfhbaa
open Go.RowKit Go.El

theorem who1_any (x : Rg.Pt) (hx : x.ok = true) (s c : Int) (h0 : 0 ≤ s) (h1 : s ≤ 109) (c0 : -1000000 ≤ c) (c1 : c ≤ 1000000) (B1 B2 : Nat) (W : World) (k1 : W.cell? ⟨B1, 0, none⟩ = some (.int .i64 s)) (k2 : W.cell? ⟨B2, 0, none⟩ = some (.int .i64 c)) :
    Calls Try.prog 65 #[.agg (ptC x).toArray, .pointer (some ⟨B1, 0, none⟩), .pointer (some ⟨B2, 0, none⟩)] W fun e w' => e = .returned (.bool (x.has s c)) ∧ Below W.heap.size W w' := by
  have hh := fun W => shas_any x hx s c h0 h1 c0 c1 W
  have l1 := lt_of_cell k1
  have l2 := lt_of_cell k2
  unfold ptC
  unfold szC at hh
  generalize x.has s c = q at *
  have HH := Lib.hid hh
  clear hh hx
  go_enter Try.func65, Try.ntmps65
  go_wp2_with fail
  refine (HH.out _).mono ?_
  rintro e w1 ⟨rfl, hb1⟩
  go_wp2
  go_ret
  exact ⟨rfl, ((Below.refl _ _).alloc (Nat.le_refl _) _).trans (hb1.mono (by simp))⟩

set_option maxHeartbeats 1000000 in
theorem swho_any (l : List Rg.Pt) (hv : Rg.valid l = true) (A : Option Addr) (cap : Nat) (s c : Int) (h0 : 0 ≤ s) (h1 : s ≤ 109) (c0 : -1000000 ≤ c) (c1 : c ≤ 1000000) (w : World) (h : PtE.Arg w A l) :
    Calls Try.prog 51 #[.slice A l.length cap, .int .i64 s, .int .i64 c] w fun e w' => e = .returned (.int .i64 (optV (Rg.who l s c))) ∧ Below w.heap.size w w' := by
  have hv' := hv
  simp only [Rg.valid, Bool.and_eq_true, decide_eq_true_eq, List.all_eq_true] at hv'
  obtain ⟨hn, hok⟩ := hv'
  have hA2 : Below w.heap.size w ((w.alloc (.cells #[.int .i64 s] 3)).alloc (.cells #[.int .i64 c] 3)) := ((Below.refl _ _).alloc (Nat.le_refl _) _).alloc (by simp) _
  have k1 : ((w.alloc (.cells #[.int .i64 s] 3)).alloc (.cells #[.int .i64 c] 3)).cell? ⟨w.heap.size, 0, none⟩ = some (.int .i64 s) := by go_simp
  have k2 : ((w.alloc (.cells #[.int .i64 s] 3)).alloc (.cells #[.int .i64 c] 3)).cell? ⟨w.heap.size + 1, 0, none⟩ = some (.int .i64 c) := by go_simp
  have hc := indexFunc_any l (by omega) A cap (fun p => p.has s c) 65 #[.pointer (some ⟨w.heap.size, 0, none⟩), .pointer (some ⟨w.heap.size + 1, 0, none⟩)] (enters_of Try.func65 (by kernel_rfl) rfl)
    _ (h.below hA2) (fun x hx W hb => (who1_any x (hok x hx) s c h0 h1 c0 c1 w.heap.size (w.heap.size + 1) W ((Stay.cell k1) W hb) ((Stay.cell k2) W hb)).mono fun e w' ⟨he, hb'⟩ => ⟨he, hb.trans (hb'.mono hb.size)⟩)
  rw [Rg.idxK_who s c l 0] at hc
  change Calls _ _ _ _ fun e w' => e = .returned (.int .i64 (optV (Rg.who l s c))) ∧ _ at hc
  generalize Rg.who l s c = q at *
  have HC := Lib.hid hc
  clear hc k1 k2 hok hv h
  go_enter Try.func51, Try.ntmps51
  go_wp2_with fail
  refine HC.out.mono ?_
  rintro e w1 ⟨rfl, hb1⟩
  go_wp2
  go_ret
  exact ⟨rfl, hA2.trans (hb1.mono (by simp; omega))⟩

theorem who_lt (s c : Int) : ∀ (l : List Rg.Pt) (i n : Nat), Rg.whoK s c l i = some n → n < i + l.length
  | [], i, n, h => by cases h
  | p :: r, i, n, h => by
    rw [Rg.whoK] at h
    split at h
    · injection h with h; subst h; simp
    · have := who_lt s c r (i + 1) n h
      simp only [List.length_cons]; omega

set_option maxHeartbeats 2000000 in
theorem whoC : WhoC := by
  intro l hl A cap s c w h
  have hck := checkSized_any l hl A cap s w h
  unfold Rg.whoR
  unfold chk at hck
  cases hv : Rg.valid l with
  | false =>
    rw [hv] at hck
    have HC : Hid _ := Lib.hid hck
    clear hck hv h
    go_enter Try.func30, Try.ntmps30
    go_wp2_with fail
    refine HC.out.mono ?_
    rintro e w1 ⟨rfl, hb1⟩
    go_wp2
    go_ret2
    exact ⟨rfl, hb1⟩
  | true =>
    rw [hv] at hck
    cases hs : Rg.inS s with
    | false =>
      rw [hs] at hck
      have HC : Hid _ := Lib.hid hck
      clear hck hv h hs
      go_enter Try.func30, Try.ntmps30
      go_wp2_with fail
      refine HC.out.mono ?_
      rintro e w1 ⟨rfl, hb1⟩
      go_wp2
      go_ret2
      exact ⟨rfl, hb1⟩
    | true =>
      rw [hs] at hck
      have HC : Hid _ := Lib.hid hck
      have hs' : 0 ≤ s ∧ s ≤ 100 := by simpa [Rg.inS] using hs
      obtain ⟨s0, s1⟩ := hs'
      clear hck hs
      by_cases c0 : c < 0
      · have e0 : (true && (decide (0 ≤ c) && decide (c < s))) = false := by rw [decide_eq_false (by omega)]; rfl
        rw [e0]
        clear e0 h hv
        go_enter Try.func30, Try.ntmps30
        go_wp2_with fail
        refine HC.out.mono ?_
        rintro e w1 ⟨rfl, hb1⟩
        go_wp2
        go_ret2
        exact ⟨rfl, hb1⟩
      · by_cases c1 : s ≤ c
        · have e0 : (true && (decide (0 ≤ c) && decide (c < s))) = false := by rw [decide_eq_false (show ¬ c < s by omega), Bool.and_false]; rfl
          rw [e0]
          clear e0 h hv
          go_enter Try.func30, Try.ntmps30
          go_wp2_with fail
          refine HC.out.mono ?_
          rintro e w1 ⟨rfl, hb1⟩
          go_wp2
          go_ret2
          exact ⟨rfl, hb1⟩
        · have e0 : (true && (decide (0 ≤ c) && decide (c < s))) = true := by rw [decide_eq_true (show 0 ≤ c by omega), decide_eq_true (show c < s by omega)]; rfl
          rw [e0]
          have hw := fun W hW => swho_any l hv A cap s c s0 (by omega) (by omega) (by omega) W hW
          have hst := Lib.hid h
          clear e0 h
          cases hq : Rg.who l s c with
          | none =>
            rw [hq] at hw
            have HW := Lib.hid hw
            clear hw hq hv
            go_enter Try.func30, Try.ntmps30
            go_wp2_with fail
            refine HC.out.mono ?_
            rintro e w1 ⟨rfl, hb1⟩
            go_wp2_with fail
            refine (HW.out _ (hst.out.below hb1)).mono ?_
            rintro e w2 ⟨rfl, hb2⟩
            unfold optV
            go_wp2
            go_ret2
            exact ⟨rfl, hb1.trans (hb2.mono hb1.size)⟩
          | some n =>
            rw [hq] at hw
            have HW := Lib.hid hw
            have hn : ¬ (n : Int) < 0 := by omega
            clear hw hq hv
            go_enter Try.func30, Try.ntmps30
            go_wp2_with fail
            refine HC.out.mono ?_
            rintro e w1 ⟨rfl, hb1⟩
            go_wp2_with fail
            refine (HW.out _ (hst.out.below hb1)).mono ?_
            rintro e w2 ⟨rfl, hb2⟩
            unfold optV
            go_wp2
            go_ret2
            exact ⟨rfl, hb1.trans (hb2.mono hb1.size)⟩

end Go.Proofs.Ythagelnimmfhbaa
