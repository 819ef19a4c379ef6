/- The walk of the law LexGaps. -/
import Derived.Test.YtkhgmoljhehbnaaDoorG3
import Derived.Test.YtkhgmoljhehbnaaDoorE4
import Derived.Deep.QuietTactic
import Derived.BigQuiet
namespace Go.Proofs.YtkhgmoljhehbnaaDoor
open Go.RowKit

set_option maxHeartbeats 1000000 in
theorem gaps_big (s : ByteArray) (p : Int) (hm : s.size ≤ maxLen) (h : 6000 < s.size) (w : World) (he : Env w) :
    Calls Tryd.prog 5 #[.string s, .int .i64 p] w fun e w' => e = .returned (.bool true) ∧ Below w.heap.size w w' := by
  have hmi : (s.size : Int) ≤ 9223372036854775807 := by unfold maxLen at hm; omega
  have h' : (6000 : Int) < s.size := by omega
  have HK := Lib.hid (fun W hE => known_any W hE)
  have HE := Lib.hid he
  clear he
  go_enter Tryd.func5, Tryd.ntmps5
  go_wp2_with fail
  refine (HK.out _ HE.out).mono ?_
  rintro e w1 ⟨rfl, hb⟩
  go_wp2
  go_ret
  exact ⟨rfl, hb⟩

set_option maxRecDepth 100000 in
set_option maxHeartbeats 4000000 in
theorem gaps_bad (s : ByteArray) (p : Int) (hs : s.size ≤ 6000) (k er : Nat) (hR : Lx.read s.data.toList = .bad k er) (w : World) (he : Env w) :
    Calls Tryd.prog 5 #[.string s, .int .i64 p] w fun e w' => e = .returned (.bool true) ∧ Below w.heap.size w w' := by
  have her := read_e _ k er hR
  have herb : ((er : Int) == 0) = false := by rw [beq_eq_false_iff_ne]; omega
  have herb2 : ((er : Int) != 0) = true := by rw [bne, herb]; rfl
  have hs' : ¬ (6000 : Int) < s.size := by omega
  have hgp := fun W hE => lexGaps_any s (by omega) W hE
  have htk := fun W hE => token_bad s (by omega) k er hR p W hE
  have hrr := fun W => refRead_any s (by omega) W
  rw [hR] at hgp hrr
  have HGP := Lib.hid hgp
  have HTK := Lib.hid htk
  have HRR := Lib.hid hrr
  have HK := Lib.hid (fun W hE => known_any W hE)
  have HE := Lib.hid he
  clear he hgp htk hrr hR her
  go_enter Tryd.func5, Tryd.ntmps5
  go_wp2_with fail
  refine (HGP.out _ HE.out).mono ?_
  rintro e w1 ⟨⟨A, cap, rfl, ho1⟩, hb1⟩
  have HE1 := Lib.hid (HE.out.below hb1 HE.out.lt)
  simp only [Lx.Res.gs, Lx.Res.at_, Lx.Res.e, List.length_nil]
  go_wp2_with fail
  refine (HTK.out _ HE1.out).mono ?_
  rintro e w2 ⟨rfl, hb2⟩
  have HE2 := Lib.hid (HE1.out.below hb2 HE1.out.lt)
  have hB2 := hb1.trans (hb2.mono hb1.size)
  go_wp2_with fail
  refine (HRR.out _).mono ?_
  rintro e w3 ⟨⟨A3, cap3, rfl, ho3⟩, hb3⟩
  have HE3 := Lib.hid (HE2.out.below hb3 HE2.out.lt)
  have hB3 := hB2.trans (hb3.mono hB2.size)
  simp only [Lx.Res.ts, Lx.Res.at_, Lx.Res.e, List.length_nil]
  clear hb1 hb2 hb3 hB2 HE HE1 HE2 ho1 ho3
  go_wp2_with fail
  refine (HK.out _ HE3.out).mono ?_
  rintro e w5 ⟨rfl, hb5⟩
  go_wp2
  go_ret
  exact ⟨rfl, hB3.trans (hb5.mono hB3.size)⟩

theorem fidx_before {α : Type} (q : α → Bool) : ∀ (xs : List α) (k j : Nat), Lx.fidx q xs k = ((k + j : Nat) : Int) → ∀ (i : Nat) z, i < j → xs[i]? = some z → q z = false
  | [], _, _, _, _, _, _, hz => by simp at hz
  | x :: r, k, j, h, i, z, hi, hz => by
    unfold Lx.fidx at h
    split at h
    · omega
    · rename_i hx
      cases i with
      | zero => simp at hz; subst hz; simpa using hx
      | succ i =>
        rw [List.getElem?_cons_succ] at hz
        exact fidx_before q r (k + 1) (j - 1) (by rw [h]; omega) i z (by omega) hz

theorem own_gap_cells {W : World} {B cap : Nat} {A : Option Addr} {gs : List (Nat × Nat)} (h : OwnGaps W B A cap gs) {j : Nat} {x : Nat × Nat} (hx : gs[j]? = some x) :
    ∃ g, A = some ⟨g, 0, none⟩ ∧ W.cell? ⟨g, j * 2, none⟩ = some (.int .i64 x.1) ∧ W.cell? ⟨g, j * 2 + 1, none⟩ = some (.int .i64 x.2) := by
  have hl : j < gs.length := by
    rcases Nat.lt_or_ge j gs.length with h | h
    · exact h
    · rw [List.getElem?_eq_none h] at hx; cases hx
  obtain ⟨g, cap', hv, _, _⟩ := h.form (by omega)
  injection hv with hA _ hc
  subst hA hc
  have hrow : ∀ (l : List (Nat × Nat)) (i : Nat) (y : Nat × Nat), l[i]? = some y → (gapRow l)[i * 2]? = some (.int .i64 y.1) ∧ (gapRow l)[i * 2 + 1]? = some (.int .i64 y.2) := by
    intro l
    induction l with
    | nil => intro i y hy; simp at hy
    | cons z r ih =>
      intro i y hy
      cases i with
      | zero => simp at hy; subst hy; exact ⟨rfl, rfl⟩
      | succ i =>
        rw [List.getElem?_cons_succ] at hy
        obtain ⟨h1, h2⟩ := ih i y hy
        have e : gapRow (z :: r) = .int .i64 z.1 :: .int .i64 z.2 :: gapRow r := rfl
        rw [e, show (i + 1) * 2 = i * 2 + 1 + 1 by omega, show i * 2 + 1 + 1 + 1 = (i * 2 + 1) + 1 + 1 by omega]
        simp only [List.getElem?_cons_succ]
        exact ⟨h1, h2⟩
  obtain ⟨h1, h2⟩ := hrow gs j x hx
  exact ⟨g, rfl, by rw [World.ownsRow.cellAt h _ (by omega)]; exact h1, by rw [World.ownsRow.cellAt h _ (by omega)]; exact h2⟩

theorem ownGaps_below {w w' : World} {base : Nat} {A : Option Addr} {cap : Nat} {gs : List (Nat × Nat)} (h : OwnGaps w base A cap gs) (hb : Below w.heap.size w w') : OwnGaps w' base A cap gs :=
  h.kept (grown_of_below hb none) (by
    rcases A with _ | a
    · left; rfl
    · right; simp [Value.ownBlock])


theorem below_drewN {B : Nat} {w w' : World} (h : Below B w w') (n : Nat) : Below B w (w'.drewN n) := by
  induction n with
  | zero => exact h
  | succ n ih => exact ih.drew

theorem own_tok_cells {W : World} {B cap : Nat} {A : Option Addr} {ts : List Lx.Tok} (h : OwnToks W B A cap ts) {j : Nat} {y : LT} (hy : (ts.map LT.of)[j]? = some y) :
    ∃ g, A = some ⟨g, 0, none⟩ ∧ W.cell? ⟨g, j * 3, none⟩ = some (.int .u8 y.kind) ∧ W.cell? ⟨g, j * 3 + 1, none⟩ = some (.string y.text) ∧ W.cell? ⟨g, j * 3 + 2, none⟩ = some (.int .i64 y.at_) := by
  obtain ⟨g, hT, _, htin⟩ := toksIn_of_own h (by intro e; subst e; simp at hy)
  obtain ⟨h0, h1, h2⟩ := htin j y hy
  rw [Nat.zero_add] at h0 h1 h2
  exact ⟨g, hT, h0, h1, h2⟩

set_option maxRecDepth 100000 in
set_option maxHeartbeats 2000000 in
theorem gaps_ok (s : ByteArray) (p : Int) (hs : s.size ≤ 6000) (ts : List Lx.Tok) (gs : List (Nat × Nat)) (hR : Lx.read s.data.toList = .ok ts gs) (N : Int) (f : Nat)
    (hN : ((p < 0 ∨ (s.size : Int) ≤ p) ∧ N = 0 ∧ f = 3) ∨ ((0 ≤ p ∧ p < s.size) ∧ (∀ (i : Nat) y, (ts.map LT.of)[i]? = some y → hasAt p y = false) ∧ N = 0 ∧ f = 7) ∨
      ((0 ≤ p ∧ p < s.size) ∧ ∃ (j : Nat) (y : LT), (ts.map LT.of)[j]? = some y ∧ hasAt p y = true ∧ (∀ (i : Nat) z, i < j → (ts.map LT.of)[i]? = some z → hasAt p z = false) ∧ N = j ∧ f = 0))
    (htk : ∀ W, Env W → Calls Tryd.prog 25 #[.string s, .int .i64 p] W fun e w' => e = .returned (.tuple #[.int .i64 N, .int .i64 f]) ∧ Below W.heap.size W w') (w : World) (he : Env w) :
    Calls Tryd.prog 5 #[.string s, .int .i64 p] w fun e w' => e = .returned (.bool true) ∧ Below w.heap.size w w' := by
  have hs' : ¬ (6000 : Int) < s.size := by omega
  have hs0 : (s.size : Int) ≤ 6000 := by omega
  obtain ⟨_, _, h25⟩ := read_lined hR
  rw [← Lib.size_eq] at h25
  have hgp := fun W hE => lexGaps_any s (by omega) W hE
  have hrr := fun W => refRead_any s (by omega) W
  have hrg := fun W => refGaps_any s h25 ts gs hR W
  have hok := tokens_ok hR
  have hn9 := (read_small s.data.toList).2
  have hgl : gs.length ≤ 901 := by
    rw [hR] at hn9
    have hn9' : ts.length ≤ 900 := hn9
    rw [(Lx.read_gaps hR).1]
    have := gapsOf_len s.data.toList.length ts 0
    omega
  rw [hR] at hgp hrr hn9
  have hn9' : ts.length ≤ 900 := hn9
  have HGP := Lib.hid hgp
  have HTK := Lib.hid htk
  have HRR := Lib.hid hrr
  have HRG := Lib.hid hrg
  have HOK := Lib.hid hok
  have HN := Lib.hid hN
  have HK := Lib.hid (fun W hE => known_any W hE)
  have HE := Lib.hid he
  clear he hgp htk hrr hrg hR hok hN hn9
  go_enter Tryd.func5, Tryd.ntmps5
  go_wp2_with fail
  refine (HGP.out _ HE.out).mono ?_
  rintro e w1 ⟨⟨A, cap, rfl, ho1⟩, hb1⟩
  have HE1 := Lib.hid (HE.out.below hb1 HE.out.lt)
  simp only [Lx.Res.gs, Lx.Res.at_, Lx.Res.e] at ho1 ⊢
  go_wp2_with fail
  refine (HTK.out _ HE1.out).mono ?_
  rintro e w2 ⟨rfl, hb2⟩
  have HE2 := Lib.hid (HE1.out.below hb2 HE1.out.lt)
  have hB2 := hb1.trans (hb2.mono hb1.size)
  have ho2 := ownGaps_below ho1 hb2
  go_wp2_with fail
  refine (HRR.out _).mono ?_
  rintro e w3 ⟨⟨T, tcap, rfl, ht3⟩, hb3⟩
  have HE3 := Lib.hid (HE2.out.below hb3 HE2.out.lt)
  have hB3 := hB2.trans (hb3.mono hB2.size)
  have ho3 := ownGaps_below ho2 hb3
  simp only [Lx.Res.ts, Lx.Res.at_, Lx.Res.e] at ht3 ⊢
  clear hb1 hb2 hb3 hB2 HE HE1 HE2 ho1 ho2
  go_wp2_with fail
  refine (HRG.out _).mono ?_
  rintro e w4 ⟨⟨D, dcap, rfl, hd4⟩, hb4⟩
  have HE4 := Lib.hid (HE3.out.below hb4 HE3.out.lt)
  have hB4 := hB3.trans (hb4.mono hB3.size)
  have HO := Lib.hid (ownGaps_below ho3 hb4)
  have HT := Lib.hid (ownToks_below ht3 hb4)
  have HD := Lib.hid hd4
  clear hb4 hB3 HE3 ho3 ht3 hd4
  go_wp2_with fail
  go_loopw [14] (fun i wr => ∃ k : Nat, k ≤ gs.length ∧ i = .int .i64 k ∧ Below w4.heap.size w4 wr) (fun i _ => gs.length - (intOf i).toNat)
  case atStart => exact ⟨0, Nat.zero_le _, rfl, Below.refl _ _⟩
  case round =>
    obtain ⟨k, hk, rfl, hbr⟩ := hrel
    by_cases hlt : k < gs.length
    · have hlt' : (k : Int) < gs.length := by omega
      obtain ⟨x, hx⟩ : ∃ x, gs[k]? = some x := ⟨_, List.getElem?_eq_getElem hlt⟩
      obtain ⟨g1, hg1, c0, c1⟩ := own_gap_cells (ownGaps_below HO.out hbr) hx
      obtain ⟨g2, hg2, d0, d1⟩ := own_gap_cells (ownGaps_below HD.out hbr) hx
      subst hg1 hg2
      clear hx
      go_wp2_with fail
      go_region
      go_wp2_with fail
      go_roundw
      case rel => exact ⟨k + 1, by omega, by go_num, hbr.drew⟩
      case measure => simp [intOf]; omega
    · have hlt' : ¬ (k : Int) < gs.length := by omega
      have hB5 := hB4.trans (hbr.mono hB4.size)
      rcases HN.out with ⟨hp, hN0, hf⟩ | ⟨⟨hp0, hp1⟩, hall, hN0, hf⟩ | ⟨⟨hp0, hp1⟩, j, yj, hyj, hhit, hbefore, hN0, hf⟩
      · subst hN0 hf
        have HE5 := Lib.hid (HE4.out.below hbr HE4.out.lt)
        by_cases hp0 : p < 0
        · clear hp
          go_wp2_with fail
          refine (HK.out _ HE5.out).mono ?_
          rintro e w5 ⟨rfl, hb5⟩
          go_wp2
          go_ret
          exact ⟨rfl, hB5.trans (hb5.mono hB5.size)⟩
        · have hp1 : (s.size : Int) ≤ p := by omega
          clear hp
          go_wp2_with fail
          refine (HK.out _ HE5.out).mono ?_
          rintro e w5 ⟨rfl, hb5⟩
          go_wp2
          go_ret
          exact ⟨rfl, hB5.trans (hb5.mono hB5.size)⟩
      · subst hN0 hf
        have hp0' : ¬ p < 0 := by omega
        have hp1' : ¬ (s.size : Int) ≤ p := by omega
        have HALL := Lib.hid hall
        clear hall
        go_wp2_with fail
        go_loopw [15] (fun i wr2 => ∃ k : Nat, k ≤ ts.length ∧ i = .int .i64 k ∧ Below w4.heap.size w4 wr2) (fun i _ => ts.length - (intOf i).toNat)
        case atStart => exact ⟨0, Nat.zero_le _, rfl, hbr⟩
        case round =>
          clear hbr hlt hlt' hk hB5
          obtain ⟨k, hk, rfl, hbr2⟩ := hrel
          by_cases hlt : k < ts.length
          · have hlt' : (k : Int) < ts.length := by omega
            obtain ⟨y, hy⟩ : ∃ y, (ts.map LT.of)[k]? = some y := ⟨_, List.getElem?_eq_getElem (by simpa using hlt)⟩
            obtain ⟨g, hg, c0, c1, c2⟩ := own_tok_cells (ownToks_below HT.out hbr2) hy
            obtain ⟨ok1, ok2⟩ := HOK.out y (List.mem_of_getElem? hy)
            have hk0 : (0 : Int) ≤ k := by omega
            have hwr : IntKind.i64.wrap (y.at_ + (y.text.size : Int)) = y.at_ + (y.text.size : Int) := by rw [IntKind.wrap_i64]; omega
            have hys : (y.text.size : Int) ≤ 281474976710656 := by omega
            subst hg
            have hmiss : hasAt p y = false := HALL.out k y hy
            unfold hasAt at hmiss
            rcases hmm : decide (y.at_ ≤ p) with _ | _
            · have q1 : ¬ y.at_ ≤ p := by simpa using hmm
              clear q1 hmiss hy
              go_wp2_with fail
              go_quiet (fail)
              go_wp2_with fail
              go_roundw
              case rel => exact ⟨k + 1, by omega, by go_num, below_drewN hbr2 _⟩
              case measure => simp [intOf]; omega
            · have q1 : y.at_ ≤ p := by simpa using hmm
              rw [hmm, Bool.true_and] at hmiss
              have q2 : ¬ p < y.at_ + y.text.size := by simpa using hmiss
              have q2' : y.at_ + y.text.size ≤ p := by omega
              clear hmm hmiss hy
              go_wp2_with fail
              go_quiet (fail)
              go_wp2_with fail
              go_roundw
              case rel => exact ⟨k + 1, by omega, by go_num, below_drewN hbr2 _⟩
              case measure => simp [intOf]; omega

          · have hlt' : ¬ (k : Int) < ts.length := by omega
            have hB5 := hB4.trans (hbr2.mono hB4.size)
            have HE5 := Lib.hid (HE4.out.below hbr2 HE4.out.lt)
            go_wp2_with fail
            refine (HK.out _ HE5.out).mono ?_
            rintro e w5 ⟨rfl, hb5⟩
            go_wp2
            go_ret
            exact ⟨rfl, hB5.trans (hb5.mono hB5.size)⟩
      · subst hN0 hf
        have hp0' : ¬ p < 0 := by omega
        have hp1' : ¬ (s.size : Int) ≤ p := by omega
        have hjl : j < ts.length := by
          rcases Nat.lt_or_ge j ts.length with h | h
          · exact h
          · rw [List.getElem?_eq_none (by simpa using h)] at hyj; cases hyj
        have HBF := Lib.hid hbefore
        have HYJ := Lib.hid (And.intro hyj hhit)
        clear hbefore hyj hhit
        go_wp2_with fail
        go_loopw [15] (fun i wr2 => ∃ k : Nat, k ≤ j ∧ i = .int .i64 k ∧ Below w4.heap.size w4 wr2) (fun i _ => ts.length - (intOf i).toNat)
        case atStart => exact ⟨0, Nat.zero_le _, rfl, hbr⟩
        case round =>
          clear hbr hlt hlt' hk hB5
          obtain ⟨k, hk, rfl, hbr2⟩ := hrel
          by_cases hlt : k < j
          · have hlt' : (k : Int) < ts.length := by omega
            obtain ⟨y, hy⟩ : ∃ y, (ts.map LT.of)[k]? = some y := ⟨_, List.getElem?_eq_getElem (by simp; omega)⟩
            obtain ⟨g, hg, c0, c1, c2⟩ := own_tok_cells (ownToks_below HT.out hbr2) hy
            obtain ⟨ok1, ok2⟩ := HOK.out y (List.mem_of_getElem? hy)
            have hk0 : (0 : Int) ≤ k := by omega
            have hwr : IntKind.i64.wrap (y.at_ + (y.text.size : Int)) = y.at_ + (y.text.size : Int) := by rw [IntKind.wrap_i64]; omega
            have hys : (y.text.size : Int) ≤ 281474976710656 := by omega
            subst hg
            have hmiss : hasAt p y = false := HBF.out k y hlt hy
            unfold hasAt at hmiss
            rcases hmm : decide (y.at_ ≤ p) with _ | _
            · have q1 : ¬ y.at_ ≤ p := by simpa using hmm
              clear q1 hmiss hy
              go_wp2_with fail
              go_quiet (fail)
              go_wp2_with fail
              go_roundw
              case rel => exact ⟨k + 1, by omega, by go_num, below_drewN hbr2 _⟩
              case measure => simp [intOf]; omega
            · have q1 : y.at_ ≤ p := by simpa using hmm
              rw [hmm, Bool.true_and] at hmiss
              have q2 : ¬ p < y.at_ + y.text.size := by simpa using hmiss
              have q2' : y.at_ + y.text.size ≤ p := by omega
              clear hmm hmiss hy
              go_wp2_with fail
              go_quiet (fail)
              go_wp2_with fail
              go_roundw
              case rel => exact ⟨k + 1, by omega, by go_num, below_drewN hbr2 _⟩
              case measure => simp [intOf]; omega

          · have hkj : k = j := by omega
            subst hkj
            have hlt' : (k : Int) < ts.length := by omega
            obtain ⟨hy, hhit⟩ := HYJ.out
            obtain ⟨g, hg, c0, c1, c2⟩ := own_tok_cells (ownToks_below HT.out hbr2) hy
            obtain ⟨ok1, ok2⟩ := HOK.out yj (List.mem_of_getElem? hy)
            have hk0 : (0 : Int) ≤ k := by omega
            have hwr : IntKind.i64.wrap (yj.at_ + (yj.text.size : Int)) = yj.at_ + (yj.text.size : Int) := by rw [IntKind.wrap_i64]; omega
            have hys : (yj.text.size : Int) ≤ 281474976710656 := by omega
            subst hg
            unfold hasAt at hhit
            simp only [Bool.and_eq_true, decide_eq_true_eq] at hhit
            obtain ⟨q1, q2⟩ := hhit
            have HBE : Hid (∀ n, Below w.heap.size w (wr.drewN n) ∧ Env (wr.drewN n)) := fun n => ⟨below_drewN (hB4.trans (hbr2.mono hB4.size)) n, HE4.out.below (below_drewN hbr2 n) HE4.out.lt⟩
            clear hy
            go_wp2_with fail
            go_quiet (fail)
            go_wp2_with fail
            refine (HK.out _ (HBE.out _).2).mono ?_
            rintro e w5 ⟨rfl, hb5⟩
            go_wp2
            go_ret
            exact ⟨rfl, (HBE.out _).1.trans (hb5.mono (HBE.out _).1.size)⟩

theorem gaps_any (s : ByteArray) (p : Int) (hm : s.size ≤ maxLen) (w : World) (he : Env w) :
    Calls Tryd.prog 5 #[.string s, .int .i64 p] w fun e w' => e = .returned (.bool true) ∧ Below w.heap.size w w' := by
  by_cases h : 6000 < s.size
  · exact gaps_big s p hm h w he
  · cases hR : Lx.read s.data.toList with
    | bad k er => exact gaps_bad s p (by omega) k er hR w he
    | ok ts gs =>
      by_cases hp : p < 0 ∨ (s.size : Int) ≤ p
      · exact gaps_ok s p (by omega) ts gs hR 0 3 (.inl ⟨hp, rfl, rfl⟩) (fun W hE => token_out s (by omega) ts gs hR p hp W hE) w he
      · have hp0 : 0 ≤ p := by omega
        have hp1 : p < s.size := by omega
        rcases Lx.fidx_find (hasAt p) (ts.map LT.of) 0 with ⟨hf, hnone⟩ | ⟨j, x, hf, hx, hsome, hq, hj⟩
        · refine gaps_ok s p (by omega) ts gs hR 0 7 (.inr (.inl ⟨⟨hp0, hp1⟩, fun i y hy => ?_, rfl, rfl⟩)) (fun W hE => token_in s (by omega) ts gs hR p hp0 hp1 0 7 (.inl ⟨by omega, rfl, rfl⟩) W hE) w he
          have := List.find?_eq_none.1 hnone y (List.mem_of_getElem? hy)
          simpa using this
        · refine gaps_ok s p (by omega) ts gs hR j 0 (.inr (.inr ⟨⟨hp0, hp1⟩, j, x, hx, hq, fun i z hi hz => ?_, rfl, rfl⟩)) (fun W hE => token_in s (by omega) ts gs hR p hp0 hp1 j 0 (.inr ⟨by omega, by omega, rfl⟩) W hE) w he
          exact fidx_before (hasAt p) (ts.map LT.of) 0 j hf i z hi hz

end Go.Proofs.YtkhgmoljhehbnaaDoor
