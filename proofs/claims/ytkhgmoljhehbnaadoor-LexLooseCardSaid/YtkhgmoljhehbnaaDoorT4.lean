/- The walk of replace. -/
import Derived.Test.YtkhgmoljhehbnaaDoorT3
namespace Go.Proofs.YtkhgmoljhehbnaaDoor
open Go.RowKit

def sliceLen : Value → Nat
  | .slice _ n _ => n
  | _ => 0

theorem ToksIn.drop {w : World} {blk off : Nat} {ts : List LT} (h : ToksIn w blk off ts) (m : Nat) : ToksIn w blk (off + m * 3) (ts.drop m) := by
  intro i x hx
  rw [List.getElem?_drop] at hx
  have := h (m + i) x hx
  rwa [show off + (m + i) * 3 = off + m * 3 + i * 3 by omega] at this

/-- replacing under way -/
def RpAt (fr to_ : List LT) (R : List LT × Nat) (l all : List LT) (n : Nat) : Prop := ∃ f, l.length ≤ f ∧ replP fr to_ f l all n = R
theorem RpAt.stop {fr to_ : List LT} {R : List LT × Nat} {l all : List LT} {n : Nat} (h : RpAt fr to_ R l all n) (hs : ¬ (0 < l.length ∧ all.length ≤ 900)) : R = (all, n) := by
  obtain ⟨f, _, rfl⟩ := h
  cases f with
  | zero => rfl
  | succ f => rw [replP, if_neg hs]
theorem RpAt.hit {fr to_ : List LT} {R : List LT × Nat} {l all : List LT} {n : Nat} (h : RpAt fr to_ R l all n) (hs : 0 < l.length ∧ all.length ≤ 900) (hf : 0 < fr.length) (hb : beginsP l fr = true) : RpAt fr to_ R (l.drop fr.length) (all ++ to_) (n + 1) := by
  obtain ⟨f, hl, rfl⟩ := h
  cases f with
  | zero => omega
  | succ f => exact ⟨f, by rw [List.length_drop]; omega, by rw [replP, if_pos hs, if_pos hb]⟩
theorem RpAt.miss {fr to_ : List LT} {R : List LT × Nat} {l all : List LT} {n : Nat} (h : RpAt fr to_ R l all n) (hs : 0 < l.length ∧ all.length ≤ 900) (hb : beginsP l fr = false) : RpAt fr to_ R (l.drop 1) (all ++ l.take 1) n := by
  obtain ⟨f, hl, rfl⟩ := h
  cases f with
  | zero => omega
  | succ f => exact ⟨f, by rw [List.length_drop]; omega, by rw [replP, if_pos hs, if_neg (by rw [hb]; simp)]⟩

theorem Arg.entry {w : World} {A : Option Addr} {ts : List LT} (h : Arg w A ts) (hne : ts ≠ []) : ∃ blk off, A = some ⟨blk, off, none⟩ ∧ ToksIn w blk off ts ∧ blk < w.heap.size := by
  obtain ⟨blk, off, h1, h2⟩ := h.at_ hne
  exact ⟨blk, off, h1, h2, h2.lt hne⟩
theorem Arg.nil (w : World) (A : Option Addr) : Arg w A [] := ⟨fun h => absurd rfl h⟩

set_option maxRecDepth 100000 in
set_option maxHeartbeats 1600000 in
theorem replace_any (xs fr to_ : List LT) (hn : xs.length ≤ 3000000) (hf0 : 0 < fr.length) (hf : fr.length ≤ 3000000) (ht : to_.length ≤ 900) (A : Option Addr) (cap : Nat) (C : Option Addr) (cap2 blk3 off3 cap3 : Nat) (hcap : xs.length ≤ cap) (hA : A = none → cap = 0) (w : World)
    (h1 : Arg w A xs) (h2 : Arg w C fr) (h3 : ToksIn w blk3 off3 to_) (h3b : blk3 < w.heap.size) :
    Calls Tryd.prog 60 #[.slice A xs.length cap, .slice C fr.length cap2, .slice (some ⟨blk3, off3, none⟩) to_.length cap3] w fun e w' => (∃ A' cap', e = .returned (.tuple #[.slice A' (replP fr to_ xs.length xs [] 0).1.length cap', .int .i64 ((replP fr to_ xs.length xs [] 0).2 : Nat)]) ∧ OwnLT w' w.heap.size A' cap' (replP fr to_ xs.length xs [] 0).1) ∧ Below w.heap.size w w' := by
  have hst : RpAt fr to_ (replP fr to_ xs.length xs [] 0) xs [] 0 := ⟨xs.length, Nat.le_refl _, rfl⟩
  generalize replP fr to_ xs.length xs [] 0 = R at hst ⊢
  have HST := Lib.hid hst
  have H1 := Lib.hid h1
  have H2 := Lib.hid h2
  have H3 := Lib.hid h3
  clear hst h1 h2 h3
  go_enter Tryd.func60, Tryd.ntmps60
  go_wp2_with fail
  go_loopw [0, 6, 7] (fun l al m wr => ∃ (zs all : List LT) (A1 : Option Addr) (cap1 : Nat) (A2 : Option Addr) (capA n : Nat), l = .slice A1 zs.length cap1 ∧ al = .slice A2 all.length capA ∧ m = .int .i64 n ∧ zs.length ≤ cap1 ∧ (A1 = none → cap1 = 0) ∧ zs.length + n ≤ xs.length ∧ all.length ≤ 1800 ∧ Hid (Arg w A1 zs) ∧ Hid (OwnLT wr w.heap.size A2 capA all) ∧ Hid (RpAt fr to_ R zs all n) ∧ Below w.heap.size w wr) (fun l _ _ _ => sliceLen l)
  case atStart => exact ⟨xs, [], A, cap, none, 0, 0, rfl, rfl, rfl, hcap, hA, by omega, by simp, H1, Lib.hid (OwnLT.nil _ _), HST, Below.refl _ _⟩
  case round =>
    obtain ⟨zs, all, A1, cap1, A2, capA, n, rfl, rfl, rfl, hc1, hA1, hnn, hal, HA, HO, HR, hbw⟩ := hrel
    have hzw := hbw.size
    clear HST hcap hA H1
    by_cases hz : 0 < zs.length
    · have hz' : (0 : Int) < zs.length := by omega
      by_cases h9 : all.length ≤ 900
      · have h9' : (all.length : Int) ≤ 900 := by omega
        have hne : zs ≠ [] := List.length_pos_iff.1 hz
        obtain ⟨blk1, off1, rfl, hin, hbl⟩ := HA.out.entry hne
        have hbg := fun W hb => begins_any zs fr (by omega) hf (some ⟨blk1, off1, none⟩) C cap1 cap2 hc1 hA1 W (HA.out.below hb) (H2.out.below hb)
        have hhit := HR.out.hit ⟨hz, h9⟩ hf0
        have hmiss := HR.out.miss ⟨hz, h9⟩
        have hbeg : beginsP zs fr = true → fr.length ≤ zs.length := by unfold beginsP; intro h; simp at h; exact h.1
        generalize beginsP zs fr = q at hbg hhit hmiss hbeg
        have HBG := Lib.hid hbg
        have HIN := Lib.hid hin
        clear hbg hin
        cases q with
        | true =>
          have HH := Lib.hid (hhit rfl)
          have hfz := hbeg rfl
          have hfz' : (fr.length : Int) ≤ zs.length := by omega
          have hf0' : (0 : Int) ≤ fr.length := by omega
          have hfn : ¬ fr.length = 0 := by omega
          have hnw : IntKind.i64.wrap ((n : Int) + 1) = (n : Int) + 1 := by rw [IntKind.wrap_i64]; omega
          clear hhit hmiss hbeg HR
          by_cases hcm : cap1 = fr.length
          · have HDZ : Hid (zs.drop fr.length = []) := Lib.hid (List.drop_eq_nil_of_le (by omega))
            have HCM := Lib.hid hcm
            clear hcm
            go_wp2_with fail
            refine (HBG.out _ hbw).mono ?_
            rintro e w2 ⟨rfl, hb2⟩
            have hbw2 : Below w.heap.size w w2 := hbw.trans (hb2.mono hzw)
            have HO2 := Lib.hid (HO.out.below hb2)
            have hz2 := hbw2.size
            have H3W := Lib.hid (H3.out.below hbw2 (fun _ => h3b))
            clear hb2
            have hcm := HCM.out
            go_wp2_with (at_builtin; refine wpList_append_lt _ rfl _ _ rfl w.heap.size A2 capA all to_ blk3 off3 cap3 rfl rfl HO2.out H3W.out (by omega) hz2 ?_; intro A' cap' w3 hown3 hgrow3)
            go_roundw
            case rel =>
              refine ⟨[], all ++ to_, some ⟨blk1, off1, none⟩, 0, A', cap', n + 1, by rw [show zs.length - fr.length = 0 by omega]; rfl, by rw [List.length_append], by go_num, by simp, (fun h => by cases h), by simp; omega, by simp; omega, Lib.hid (Arg.nil _ _), Lib.hid hown3, ?_, ?_⟩
              · have := HH.out; rw [HDZ.out] at this; exact Lib.hid this
              · exact hbw2.grown hgrow3 hz2 (fun j hj => (HO2.out.lt j hj).1)
            case measure => simp [sliceLen]; omega
          · have HCM := Lib.hid hcm
            clear hcm
            go_wp2_with fail
            refine (HBG.out _ hbw).mono ?_
            rintro e w2 ⟨rfl, hb2⟩
            have hbw2 : Below w.heap.size w w2 := hbw.trans (hb2.mono hzw)
            have HO2 := Lib.hid (HO.out.below hb2)
            have hz2 := hbw2.size
            have H3W := Lib.hid (H3.out.below hbw2 (fun _ => h3b))
            clear hb2
            have hcm := HCM.out
            go_wp2_with (at_builtin; refine wpList_append_lt _ rfl _ _ rfl w.heap.size A2 capA all to_ blk3 off3 cap3 rfl rfl HO2.out H3W.out (by omega) hz2 ?_; intro A' cap' w3 hown3 hgrow3)
            go_roundw
            case rel =>
              refine ⟨zs.drop fr.length, all ++ to_, some ⟨blk1, off1 + fr.length * 3, none⟩, cap1 - fr.length, A', cap', n + 1, by rw [List.length_drop], by rw [List.length_append], by go_num, by rw [List.length_drop]; omega, (fun h => by cases h), by rw [List.length_drop]; omega, by simp; omega, Lib.hid ⟨fun _ => ⟨blk1, off1 + fr.length * 3, rfl, HIN.out.drop _⟩⟩, Lib.hid hown3, HH, ?_⟩
              exact hbw2.grown hgrow3 hz2 (fun j hj => (HO2.out.lt j hj).1)
            case measure => simp [sliceLen]; omega
        | false =>
          have HH := Lib.hid (hmiss rfl)
          obtain ⟨x, hx⟩ : ∃ x, zs[0]? = some x := ⟨_, List.getElem?_eq_getElem hz⟩
          have hzt : zs.take 1 = [x] := by
            cases zs with
            | nil => simp at hz
            | cons y r => simp at hx; subst hx; rfl
          have HZT := Lib.hid hzt
          have hz1' : (1 : Int) ≤ zs.length := by omega
          clear hhit hmiss hbeg HR hzt
          have HX := Lib.hid hx
          clear hx
          by_cases hcm : cap1 = 1
          · have HDZ : Hid (zs.drop 1 = []) := Lib.hid (List.drop_eq_nil_of_le (by omega))
            have HCM := Lib.hid hcm
            clear hcm
            go_wp2_with fail
            refine (HBG.out _ hbw).mono ?_
            rintro e w2 ⟨rfl, hb2⟩
            have hbw2 : Below w.heap.size w w2 := hbw.trans (hb2.mono hzw)
            have HO2 := Lib.hid (HO.out.below hb2)
            have hz2 := hbw2.size
            obtain ⟨x0, x1, x2⟩ := (HIN.out.below hbw2 (fun _ => hbl)) 0 x HX.out
            simp only [Nat.zero_mul, Nat.add_zero] at x0 x1 x2
            clear hb2
            have hcm := HCM.out
            go_wp2_with (at_builtin; refine wpList_append_lt _ rfl _ _ rfl w.heap.size A2 capA all [x] w2.heap.size 0 1 rfl rfl (HO2.out.below ((Below.refl _ _).alloc (Nat.le_refl _) _)) (fun i y hy => by (cases i with | zero => (simp at hy; subst hy; simp) | succ i => (simp at hy))) (by simp; omega) (by simp; omega) ?_; intro A' cap' w3 hown3 hgrow3)
            go_roundw
            case rel =>
              refine ⟨[], all ++ [x], some ⟨blk1, off1, none⟩, 0, A', cap', n, by rw [show zs.length - 1 = 0 by omega]; rfl, by simp, rfl, by simp, (fun h => by cases h), by simp; omega, by simp; omega, Lib.hid (Arg.nil _ _), Lib.hid hown3, ?_, ?_⟩
              · have := HH.out; rw [HDZ.out, HZT.out] at this; exact Lib.hid this
              · exact (hbw2.alloc hz2 _).grown hgrow3 (by simp; omega) (fun j hj => (HO2.out.lt j hj).1)
            case measure => simp [sliceLen]; omega
          · have HCM := Lib.hid hcm
            clear hcm
            go_wp2_with fail
            refine (HBG.out _ hbw).mono ?_
            rintro e w2 ⟨rfl, hb2⟩
            have hbw2 : Below w.heap.size w w2 := hbw.trans (hb2.mono hzw)
            have HO2 := Lib.hid (HO.out.below hb2)
            have hz2 := hbw2.size
            obtain ⟨x0, x1, x2⟩ := (HIN.out.below hbw2 (fun _ => hbl)) 0 x HX.out
            simp only [Nat.zero_mul, Nat.add_zero] at x0 x1 x2
            clear hb2
            have hcm := HCM.out
            go_wp2_with (at_builtin; refine wpList_append_lt _ rfl _ _ rfl w.heap.size A2 capA all [x] w2.heap.size 0 1 rfl rfl (HO2.out.below ((Below.refl _ _).alloc (Nat.le_refl _) _)) (fun i y hy => by (cases i with | zero => (simp at hy; subst hy; simp) | succ i => (simp at hy))) (by simp; omega) (by simp; omega) ?_; intro A' cap' w3 hown3 hgrow3)
            go_roundw
            case rel =>
              refine ⟨zs.drop 1, all ++ [x], some ⟨blk1, off1 + 1 * 3, none⟩, cap1 - 1, A', cap', n, by rw [List.length_drop], by simp, rfl, by rw [List.length_drop]; omega, (fun h => by cases h), by rw [List.length_drop]; omega, by simp; omega, Lib.hid ⟨fun _ => ⟨blk1, off1 + 1 * 3, rfl, HIN.out.drop _⟩⟩, Lib.hid hown3, ?_, ?_⟩
              · have := HH.out; rw [HZT.out] at this; exact Lib.hid this
              · exact (hbw2.alloc hz2 _).grown hgrow3 (by simp; omega) (fun j hj => (HO2.out.lt j hj).1)
            case measure => simp [sliceLen]; omega
      · have h9' : ¬ (all.length : Int) ≤ 900 := by omega
        have HE := Lib.hid (HR.out.stop (by omega))
        clear HR
        go_wp2
        go_ret2
        exact ⟨⟨A2, capA, by rw [HE.out]; rfl, by rw [HE.out]; exact HO.out⟩, hbw⟩
    · have hz' : ¬ (0 : Int) < zs.length := by omega
      have HE := Lib.hid (HR.out.stop (by omega))
      clear HR
      go_wp2
      go_ret2
      exact ⟨⟨A2, capA, by rw [HE.out]; rfl, by rw [HE.out]; exact HO.out⟩, hbw⟩

end Go.Proofs.YtkhgmoljhehbnaaDoor
