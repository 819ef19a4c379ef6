/- The walk of the law LexWhole. -/
import Derived.Test.YtkhgmoljhehbnaaDoorH1
import Derived.Deep.QuietTactic
import Derived.BigQuiet
namespace Go.Proofs.YtkhgmoljhehbnaaDoor
open Go.RowKit

set_option maxRecDepth 100000 in
set_option maxHeartbeats 2000000 in
theorem whole_far (s : ByteArray) (hs : s.size ≤ 281474976710656) (h : 1200 < s.size ∨ (Lx.read s.data.toList).e ≠ 0) (w : World) (he : Env w) :
    Calls Tryd.prog 11 #[.string s] w fun e w' => e = .returned (.bool true) ∧ Below w.heap.size w w' := by
  have hmi : (s.size : Int) ≤ 281474976710656 := by omega
  have hrd := fun W hE => lexRead_any s hs W hE
  have hgp := fun W hE => lexGaps_any s hs W hE
  generalize Lx.read s.data.toList = R at hrd hgp h
  have HRD := Lib.hid hrd
  have HGP := Lib.hid hgp
  have HK := Lib.hid (fun W hE => known_any W hE)
  have HE := Lib.hid he
  clear he hrd hgp
  by_cases h12 : 1200 < s.size
  all_goals
    first
    | have h12' : (1200 : Int) < s.size := by omega
      clear h h12
    | have h12' : ¬ (1200 : Int) < s.size := by omega
      have her : R.e ≠ 0 := by rcases h with h | h; exact absurd h h12; exact h
      have herb : ((R.e : Int) == 0) = false := by rw [beq_eq_false_iff_ne]; omega
      have herb2 : ((R.e : Int) != 0) = true := by rw [bne, herb]; rfl
      clear h h12 her
    go_enter Tryd.func11, Tryd.ntmps11
    go_wp2_with fail
    refine (HRD.out _ HE.out).mono ?_
    rintro e w1 ⟨⟨A, cap, rfl, ho1⟩, hb1⟩
    have HE1 := Lib.hid (HE.out.below hb1 HE.out.lt)
    go_wp2_with fail
    refine (HGP.out _ HE1.out).mono ?_
    rintro e w2 ⟨⟨G, gcap, rfl, hg2⟩, hb2⟩
    have HE2 := Lib.hid (HE1.out.below hb2 HE1.out.lt)
    have hB2 := hb1.trans (hb2.mono hb1.size)
    clear hb1 hb2 ho1 hg2 HE HE1
    go_wp2_with fail
    refine (HK.out _ HE2.out).mono ?_
    rintro e w5 ⟨rfl, hb5⟩
    go_wp2
    go_ret
    exact ⟨rfl, hB2.trans (hb5.mono hB2.size)⟩

theorem own_tok_cells1 {W : World} {B cap : Nat} {A : Option Addr} {ts : List Lx.Tok} (h : OwnToks W B A cap ts) {j : Nat} {y : Lx.Tok} (hy : ts[j]? = some y) :
    ∃ g, A = some ⟨g, 0, none⟩ ∧ W.cell? ⟨g, j * 3, none⟩ = some (.int .u8 y.kind) ∧ W.cell? ⟨g, j * 3 + 1, none⟩ = some (.string (LT.of y).text) ∧ W.cell? ⟨g, j * 3 + 2, none⟩ = some (.int .i64 y.at_) :=
  own_tok_cells_h h (y := LT.of y) (by rw [List.getElem?_map, hy]; rfl)

set_option maxRecDepth 100000 in
set_option maxHeartbeats 4000000 in
theorem whole_ok (s : ByteArray) (hs : s.size ≤ 1200) (ts : List Lx.Tok) (gs : List (Nat × Nat)) (hR : Lx.read s.data.toList = .ok ts gs) (w : World) (he : Env w) :
    Calls Tryd.prog 11 #[.string s] w fun e w' => e = .returned (.bool true) ∧ Below w.heap.size w w' := by
  have hs' : ¬ (1200 : Int) < s.size := by omega
  have hs0 : (s.size : Int) ≤ 1200 := by omega
  have hrd := fun W hE => lexRead_any s (by omega) W hE
  have hgp := fun W hE => lexGaps_any s (by omega) W hE
  have hst := Lx.WAt.start hR
  have htk : ∀ (p : Nat) (N : Int) (f : Nat), p < s.size → ((Lx.fidx (hasAt (p : Int)) (ts.map LT.of) 0 = -1 ∧ N = 0 ∧ f = 7) ∨ (∃ n : Nat, Lx.fidx (hasAt (p : Int)) (ts.map LT.of) 0 = n ∧ N = n ∧ f = 0)) →
      ∀ W, Env W → Calls Tryd.prog 25 #[.string s, .int .i64 p] W fun e w' => e = .returned (.tuple #[.int .i64 N, .int .i64 f]) ∧ Below W.heap.size W w' := by
    intro p N f hp h W hE
    refine token_in s (by omega) ts gs hR p (by omega) (by omega) N f ?_ W hE
    rcases h with ⟨h1, h2, h3⟩ | ⟨n, h1, h2, h3⟩
    · exact .inl ⟨by rw [h1]; decide, h2, h3⟩
    · exact .inr ⟨by rw [h1]; omega, by rw [h1]; exact h2, h3⟩
  have hn9 := (read_small s.data.toList).2
  have hlen := Lib.size_eq s
  have hgl : gs.length ≤ 901 := by
    rw [hR] at hn9
    have hn9' : ts.length ≤ 900 := hn9
    rw [(Lx.read_gaps hR).1]
    have := gapsOf_len s.data.toList.length ts 0
    omega
  rw [hR] at hrd hgp hn9
  have hn9' : ts.length ≤ 900 := hn9
  have HRD := Lib.hid hrd
  have HGP := Lib.hid hgp
  have HTK := Lib.hid htk
  have HST := Lib.hid hst
  have HLEN := Lib.hid hlen
  have HK := Lib.hid (fun W hE => known_any W hE)
  have HE := Lib.hid he
  clear he hrd hgp htk hst hR hn9 hlen
  go_enter Tryd.func11, Tryd.ntmps11
  go_wp2_with fail
  refine (HRD.out _ HE.out).mono ?_
  rintro e w1 ⟨⟨A, cap, rfl, ho1⟩, hb1⟩
  have HE1 := Lib.hid (HE.out.below hb1 HE.out.lt)
  simp only [Lx.Res.ts, Lx.Res.at_, Lx.Res.e] at ho1 ⊢
  go_wp2_with fail
  refine (HGP.out _ HE1.out).mono ?_
  rintro e w2 ⟨⟨G, gcap, rfl, hg2⟩, hb2⟩
  have HE2 := Lib.hid (HE1.out.below hb2 HE1.out.lt)
  have hB2 := hb1.trans (hb2.mono hb1.size)
  simp only [Lx.Res.gs, Lx.Res.at_, Lx.Res.e] at hg2 ⊢
  have HO := Lib.hid (ownToks_below ho1 hb2)
  have HG := Lib.hid hg2
  clear hb1 hb2 ho1 hg2 HE HE1
  go_wp2_with fail
  go_loopw [9, 10, 11, 12] (fun va vn vk vg wr => ∃ (a n k : Nat) (b : Bool), va = .int .i64 a ∧ vn = .int .i64 n ∧ vk = .int .i64 k ∧ vg = .bool b ∧ Hid (Lx.WAt s.data.toList ts gs a n k b) ∧ Below w2.heap.size w2 wr) (fun va _ _ _ _ => s.size - (intOf va).toNat)
  case atStart => exact ⟨0, 0, 0, false, rfl, rfl, rfl, rfl, HST, Below.refl _ _⟩
  case round =>
    obtain ⟨a, n, k, b, rfl, rfl, rfl, rfl, HW, hbr⟩ := hrel
    have HEr := Lib.hid (HE2.out.below hbr HE2.out.lt)
    have hal := HW.out.al
    have hnl := HW.out.nl
    have hkl := HW.out.kl
    rw [← HLEN.out] at hal
    by_cases hlt : a < s.size
    · have hlt' : (a : Int) < s.size := by omega
      by_cases hg : 0 < Lx.gap (s.data.toList.drop a)
      · obtain ⟨hb0, hk1, hgk, hge, hW2⟩ := HW.out.gap hg
        subst hb0
        have hix := idx_gap HW.out hW2 (by omega)
        have haft := fun t ht => hW2.after n t (Nat.le_refl _) ht
        rw [← HLEN.out] at hge
        generalize Lx.gap (s.data.toList.drop a) = g at hg hgk hge hW2 haft
        have htok := HTK.out a 0 7 hlt (.inl ⟨hix, rfl, rfl⟩)
        obtain ⟨gb, hgb, c0, c1⟩ := own_gap_cells_h (ownGaps_below_h HG.out hbr) hgk
        subst hgb
        have HTOK := Lib.hid htok
        have HW2 := Lib.hid hW2
        have hk0 : (0 : Int) ≤ k := by omega
        have hk1' : (k : Int) < gs.length := by omega
        have hgt : (a : Int) < ((a + g : Nat) : Int) := by omega
        have hle : ((a + g : Nat) : Int) ≤ s.size := by omega
        clear hix htok hW2 hgk
        generalize a + g = a2 at c1 hgt hle HW2 haft hge
        by_cases hn : n < ts.length
        · have hn' : (n : Int) < ts.length := by omega
          have hn0 : (0 : Int) ≤ n := by omega
          obtain ⟨t, ht⟩ : ∃ t, ts[n]? = some t := ⟨_, List.getElem?_eq_getElem hn⟩
          have h2 := haft t ht
          obtain ⟨tb, htb, t0, t1, t2⟩ := own_tok_cells1 (ownToks_below HO.out hbr) ht
          subst htb
          have hne : ((t.at_ : Int) == a) = false := by rw [beq_eq_false_iff_ne]; omega
          clear haft ht
          go_wp2_with fail
          go_quiet (fail)
          go_wp2_with fail
          refine (HTOK.out _ (HEr.out.below (below_drewN_h (Below.refl _ _) _) HEr.out.lt)).mono ?_
          rintro e w5 ⟨rfl, hb5⟩
          have hb5' : Below w2.heap.size w2 w5 := (below_drewN_h hbr _).trans (hb5.mono hbr.size)
          have c1' := ((bcell hb5).1 _ _ (lt_of_cell c1)).trans c1
          clear hb5
          go_wp2_with fail
          go_roundw
          case rel => exact ⟨a2, n, k + 1, true, rfl, rfl, by go_num, rfl, HW2, hb5'⟩
          case measure => simp [intOf]; omega
        · have hn' : decide ((n : Int) < ts.length) = false := by simp; omega
          have hn'' : ¬ (n : Int) < ts.length := by omega
          clear haft
          go_wp2_with fail
          go_quiet (fail)
          go_wp2_with fail
          refine (HTOK.out _ (HEr.out.below (below_drewN_h (Below.refl _ _) _) HEr.out.lt)).mono ?_
          rintro e w5 ⟨rfl, hb5⟩
          have hb5' : Below w2.heap.size w2 w5 := (below_drewN_h hbr _).trans (hb5.mono hbr.size)
          have c1' := ((bcell hb5).1 _ _ (lt_of_cell c1)).trans c1
          clear hb5
          go_wp2_with fail
          go_roundw
          case rel => exact ⟨a2, n, k + 1, true, rfl, rfl, by go_num, rfl, HW2, hb5'⟩
          case measure => simp [intOf]; omega
      · obtain ⟨x, hx, hn, hxa, hpos, hxl, hxt, hW2⟩ := HW.out.tok (by rw [← HLEN.out]; exact hlt) (by omega)
        have hix := fun i hi => idx_tok HW.out hx hxa i hi
        have hxs : x.text.length = (LT.of x).text.size := by rw [Lib.size_eq, of_data]
        have hsl : ((s.extract a (a + (LT.of x).text.size)).toList == (LT.of x).text.toList) = true := by
          rw [Lib.toList_data, Lib.toList_data, extract_take, of_data, ← hxs, hxt]; simp
        have hemp : (LT.of x).text.toList.isEmpty = false := by
          rw [Lib.toList_data, of_data]
          cases hh : x.text with
          | nil => rw [hh] at hpos; simp at hpos
          | cons c r => rfl
        rw [← HLEN.out] at hxl
        rw [hxs] at hpos hxl hW2 hix
        obtain ⟨tb, htb, t0, t1, t2⟩ := own_tok_cells1 (ownToks_below HO.out hbr) hx
        subst htb
        rw [hxa] at t2
        have hcell : ∀ W, Below w2.heap.size w2 W → W.cell? ⟨tb, n * 3 + 1, none⟩ = some (.string (LT.of x).text) := by
          intro W hW
          obtain ⟨tb', htb', _, h1, _⟩ := own_tok_cells1 (ownToks_below HO.out hW) hx
          injection htb' with htb'
          injection htb' with htb'
          subst htb'
          exact h1
        generalize (LT.of x).text = tx at hsl hemp hpos hxl hW2 hix t1 hcell
        have HCELL := Lib.hid hcell
        have HW2 := Lib.hid hW2
        have HTOK : Hid (∀ i, i < tx.size → ∀ W, Env W → Calls Tryd.prog 25 #[.string s, .int .i64 ((a : Int) + (i : Int))] W fun e w' => e = .returned (.tuple #[.int .i64 n, .int .i64 0]) ∧ Below W.heap.size W w') := by
          show ∀ i, _ → ∀ W, _ → _
          intro i hi W hE
          have := HTK.out (a + i) n 0 (by omega) (.inr ⟨n, hix i hi, rfl, rfl⟩) W hE
          rwa [Int.natCast_add] at this
        have hn' : (n : Int) < ts.length := by omega
        have hn0 : (0 : Int) ≤ n := by omega
        have ha0 : (0 : Int) ≤ a := by omega
        have hxl' : (a : Int) + (tx.size : Int) ≤ s.size := by omega
        have hal' : (a : Int) ≤ (a : Int) + (tx.size : Int) := by omega
        have hwr : IntKind.i64.wrap ((a : Int) + (tx.size : Int)) = (a : Int) + (tx.size : Int) := by rw [IntKind.wrap_i64]; omega
        clear hx hxt hcell hW2 hix hxs hxa
        go_wp2_with fail
        go_quiet (fail)
        go_wp2_with fail
        go_loopw [13] (fun vi wr2 => ∃ i : Nat, i ≤ tx.size ∧ vi = .int .i64 i ∧ Below w2.heap.size w2 wr2) (fun vi _ => tx.size - (intOf vi).toNat)
        case atStart => exact ⟨0, Nat.zero_le _, rfl, below_drewN_h hbr _⟩
        case round =>
          clear hbr HEr t0 t1 t2
          obtain ⟨i, hi, rfl, hbr2⟩ := hrel
          have q1 := HCELL.out _ hbr2
          have HE3 := Lib.hid (HE2.out.below hbr2 HE2.out.lt)
          by_cases hil : i < tx.size
          · have hil' : (i : Int) < tx.size := by omega
            have hwi : IntKind.i64.wrap ((a : Int) + (i : Int)) = (a : Int) + (i : Int) := by rw [IntKind.wrap_i64]; omega
            have HT := Lib.hid (HTOK.out i hil)
            go_wp2_with fail
            refine (HT.out _ HE3.out).mono ?_
            rintro e w5 ⟨rfl, hb5⟩
            go_wp2_with fail
            go_roundw
            case rel => exact ⟨i + 1, by omega, by go_num, hbr2.trans (hb5.mono hbr2.size)⟩
            case measure => simp [intOf]; omega
          · have hil' : ¬ (i : Int) < tx.size := by omega
            go_wp2_with fail
            go_roundw
            case rel => exact ⟨a + tx.size, n + 1, k, false, by go_num, by go_num, rfl, rfl, HW2, hbr2⟩
            case measure => simp [intOf]; omega
    · have hlt' : ¬ (a : Int) < s.size := by omega
      obtain ⟨hn, hk⟩ := HW.out.stop (by rw [← HLEN.out]; omega)
      subst hn hk
      go_wp2_with fail
      refine (HK.out _ HEr.out).mono ?_
      rintro e w5 ⟨rfl, hb5⟩
      have hB5 := hB2.trans (hbr.mono hB2.size)
      go_wp2
      go_ret
      exact ⟨rfl, hB5.trans (hb5.mono hB5.size)⟩

theorem whole_any (s : ByteArray) (hs : s.size ≤ 281474976710656) (w : World) (he : Env w) :
    Calls Tryd.prog 11 #[.string s] w fun e w' => e = .returned (.bool true) ∧ Below w.heap.size w w' := by
  by_cases h : 1200 < s.size
  · exact whole_far s hs (.inl h) w he
  · cases hR : Lx.read s.data.toList with
    | bad k er => exact whole_far s hs (.inr (by rw [hR]; exact read_e _ k er hR)) w he
    | ok ts gs => exact whole_ok s (by omega) ts gs hR w he

end Go.Proofs.YtkhgmoljhehbnaaDoor
