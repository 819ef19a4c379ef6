/- The walks of the reference's Stands, Turned and Turn, of lex.Turn where something is refused, and of the law LexTurns. -/
import Derived.Test.YtkhgmoljhehbnaaDoorF1
import Derived.Test.YtkhgmoljhehbnaaDoorT5

namespace Go.Proofs.YtkhgmoljhehbnaaDoor
open Go.RowKit

theorem lt_small_m {l : Lx.B} {ts : List Lx.Tok} {gs : List (Nat × Nat)} (h : Lx.read l = .ok ts gs) : (∀ x ∈ ts.map LT.of, x.text.size ≤ 2500) ∧ (∀ x ∈ ts.map LT.of, x.kind < 256) ∧ (ts.map LT.of).length ≤ 900 := by
  obtain ⟨h1, h2⟩ := read_small l
  rw [h] at h1 h2
  obtain ⟨h3, _, _⟩ := read_lined h
  refine ⟨fun x hx => ?_, fun x hx => ?_, by rw [List.length_map]; exact h2⟩
  · obtain ⟨t, ht, rfl⟩ := List.mem_map.1 hx
    rw [Lib.size_eq, of_data]; exact h1 t ht
  · obtain ⟨t, ht, rfl⟩ := List.mem_map.1 hx
    have := (Lx.tok_prefix (h3 t ht)).2.2.2.1
    show t.kind < 256
    omega

set_option maxRecDepth 100000 in
set_option maxHeartbeats 4000000 in
theorem refStands_at (ls fr : List LT) (hn : ls.length ≤ 3000000) (a : Nat) (ha : a ≤ ls.length) (hm : fr.length ≤ 3000000) (b1 o1 cap1 b2 o2 cap2 : Nat) (w : World) (h1 : ToksIn w b1 o1 ls) (h2 : ToksIn w b2 o2 fr) :
    Calls Tryd.prog 87 #[.slice (some ⟨b1, o1, none⟩) ls.length cap1, .int .i64 a, .slice (some ⟨b2, o2, none⟩) fr.length cap2] w fun e w' => e = .returned (.bool (beginsP (ls.drop a) fr)) ∧ Below w.heap.size w w' := by
  have hw0 : IntKind.i64.wrap ((a : Int) + (fr.length : Int)) = (a : Int) + (fr.length : Int) := by rw [IntKind.wrap_i64]; omega
  have hbp : beginsP (ls.drop a) fr = (decide (a + fr.length ≤ ls.length) && eqL ((ls.drop a).take fr.length) fr) := by
    unfold beginsP
    rw [List.length_drop]
    congr 1
    simp; omega
  by_cases hlen : ls.length < a + fr.length
  · have hB : beginsP (ls.drop a) fr = false := by rw [hbp]; simp; omega
    have hlen' : (ls.length : Int) < (a : Int) + (fr.length : Int) := by omega
    rw [hB]
    clear hbp hB h1 h2
    go_enter Tryd.func87, Tryd.ntmps87
    go_wp2
    go_ret
    exact ⟨rfl, Below.refl _ _⟩
  · have hlen' : ¬ (ls.length : Int) < (a : Int) + (fr.length : Int) := by omega
    have hB : beginsP (ls.drop a) fr = eqL ((ls.drop a).take fr.length) fr := by rw [hbp]; simp; omega
    have hxl : ((ls.drop a).take fr.length).length = fr.length := by rw [List.length_take, List.length_drop]; omega
    have hget : ∀ k, k < fr.length → ((ls.drop a).take fr.length)[k]? = ls[a + k]? := by
      intro k hk
      rw [List.getElem?_take, if_pos hk, List.getElem?_drop]
    rw [hB]
    generalize hxs : (ls.drop a).take fr.length = xs at hxl hget ⊢
    have H1 := Lib.hid h1
    have H2 := Lib.hid h2
    have HG := Lib.hid hget
    have HXL := Lib.hid hxl
    clear h1 h2 hbp hB hget hxs hxl
    generalize hE : eqL xs fr = E
    have HE := Lib.hid hE
    clear hE
    go_enter Tryd.func87, Tryd.ntmps87
    go_wp2_with fail
    go_loopw [7] (fun vi wr => ∃ k : Nat, k ≤ fr.length ∧ vi = .int .i64 k ∧ Hid (eqL (xs.drop k) (fr.drop k) = E) ∧ Below w.heap.size w wr) (fun vi _ => fr.length - (intOf vi).toNat)
    case atStart => exact ⟨0, Nat.zero_le _, rfl, HE, Below.refl _ _⟩
    case round =>
      obtain ⟨k, hk, rfl, HJ, hbr⟩ := hrel
      have hzr := hbr.size
      by_cases hlt : k < fr.length
      · have hlt' : (k : Int) < fr.length := by omega
        obtain ⟨y, hy⟩ : ∃ y, fr[k]? = some y := ⟨_, List.getElem?_eq_getElem hlt⟩
        obtain ⟨t, ht⟩ : ∃ t, t = a + k := ⟨_, rfl⟩
        obtain ⟨x, hx⟩ : ∃ x, ls[t]? = some x := ⟨_, List.getElem?_eq_getElem (by omega)⟩
        have hxk : xs[k]? = some x := by rw [HG.out k hlt, ← ht]; exact hx
        have hst := eqL_at hxk hy
        have hJ := HJ.out
        rw [hst] at hJ
        have hcall := fun W => refSame_any x.kind y.kind x.text y.text x.at_ y.at_ W
        have hsb : sameL x y = sameB x.kind x.text y.kind y.text := rfl
        rw [← hsb] at hcall
        obtain ⟨x0, x1, x2⟩ := (H1.out.below hbr (fun h => H1.out.lt h)) t x hx
        obtain ⟨y0, y1, y2⟩ := (H2.out.below hbr (fun h => H2.out.lt h)) k y hy
        generalize sameL x y = q at hcall hJ
        have HCALL := Lib.hid hcall
        have HJ2 := Lib.hid hJ
        have hs1 : (a : Int) + (k : Int) = (t : Int) := by omega
        have hwr : IntKind.i64.wrap (t : Int) = (t : Int) := by rw [IntKind.wrap_i64]; omega
        have ht0 : (0 : Int) ≤ t := by omega
        have ht1 : (t : Int) < ls.length := by omega
        have hk0 : (0 : Int) ≤ k := by omega
        have hb1 : b1 < wr.drew.heap.size := lt_of_cell x0
        have hb2' : b2 < wr.drew.heap.size := lt_of_cell y0
        clear hx hy hxk hst hJ hcall hsb ht
        go_wp2_with fail
        go_region_held3 (fun W => W.cell? ⟨b1, o1 + t * 3, none⟩ = some (.int .u8 x.kind) ∧ W.cell? ⟨b1, o1 + t * 3 + 1, none⟩ = some (.string x.text) ∧ W.cell? ⟨b1, o1 + t * 3 + 2, none⟩ = some (.int .i64 x.at_) ∧ W.cell? ⟨b2, o2 + k * 3, none⟩ = some (.int .u8 y.kind) ∧ W.cell? ⟨b2, o2 + k * 3 + 1, none⟩ = some (.string y.text) ∧ W.cell? ⟨b2, o2 + k * 3 + 2, none⟩ = some (.int .i64 y.at_))
          (first
            | exact ⟨x0, x1, x2, y0, y1, y2⟩
            | exact ⟨((bcell hb2).1 _ _ hb1).trans x0, ((bcell hb2).1 _ _ hb1).trans x1, ((bcell hb2).1 _ _ hb1).trans x2, ((bcell hb2).1 _ _ hb2').trans y0, ((bcell hb2).1 _ _ hb2').trans y1, ((bcell hb2).1 _ _ hb2').trans y2⟩)
          ((first
            | (go_at_call 58; refine (HCALL.out wr.drew).mono ?_; rintro e w2 ⟨rfl, hb2⟩)))
        have hb : Below w.heap.size w w2 := hbr.drew.trans (hb2.mono hzr)
        clear x0 x1 x2 y0 y1 y2
        cases q with
        | false =>
          have HF : Hid (E = false) := Lib.hid (by rw [← HJ2.out]; rfl)
          go_wp2
          go_ret
          exact ⟨by rw [HF.out]; rfl, hb⟩
        | true =>
          have HN := Lib.hid (show eqL (xs.drop (k + 1)) (fr.drop (k + 1)) = E by rw [← HJ2.out]; rfl)
          go_wp2_with fail
          go_roundw
          case rel => exact ⟨k + 1, by omega, by go_num, HN, hb⟩
          case measure => simp [intOf]; omega
      · have hlt' : ¬ (k : Int) < fr.length := by omega
        have hkn : k = fr.length := by omega
        have HF : Hid (E = true) := Lib.hid (by
          rw [← HJ.out, hkn, List.drop_length, List.drop_eq_nil_of_le (by rw [HXL.out]; exact Nat.le_refl _)]
          rfl)
        go_wp2
        go_ret
        exact ⟨by rw [HF.out]; rfl, hbr⟩

/-- replacing, without a bound -/
def rtP (fr to_ : List LT) : Nat → List LT → List LT → Nat → List LT × Nat
  | 0, _, all, n => (all, n)
  | f + 1, l, all, n =>
    if 0 < l.length then
      if beginsP l fr then rtP fr to_ f (l.drop fr.length) (all ++ to_) (n + 1) else rtP fr to_ f (l.drop 1) (all ++ l.take 1) n
    else (all, n)

theorem rtP_ge (fr to_ : List LT) : ∀ (f : Nat) (l all : List LT) (n : Nat), all.length ≤ (rtP fr to_ f l all n).1.length
  | 0, _, _, _ => Nat.le_refl _
  | f + 1, l, all, n => by
    rw [rtP]
    split
    · split
      · have := rtP_ge fr to_ f (l.drop fr.length) (all ++ to_) (n + 1)
        rw [List.length_append] at this; omega
      · have := rtP_ge fr to_ f (l.drop 1) (all ++ l.take 1) n
        rw [List.length_append] at this; omega
    · exact Nat.le_refl _
/-- the bound only stops what is too long anyway -/
theorem replP_rtP (fr to_ : List LT) : ∀ (f : Nat) (l all : List LT) (n : Nat), replP fr to_ f l all n = rtP fr to_ f l all n ∨ (900 < (replP fr to_ f l all n).1.length ∧ 900 < (rtP fr to_ f l all n).1.length)
  | 0, _, _, _ => .inl rfl
  | f + 1, l, all, n => by
    by_cases hl : 0 < l.length
    · by_cases ha : all.length ≤ 900
      · rw [replP, rtP, if_pos ⟨hl, ha⟩, if_pos hl]
        split
        · exact replP_rtP fr to_ f _ _ _
        · exact replP_rtP fr to_ f _ _ _
      · right
        have := rtP_ge fr to_ (f + 1) l all n
        rw [replP, if_neg (by omega)]
        exact ⟨by show 900 < all.length; omega, by omega⟩
    · left
      rw [replP, rtP, if_neg (by omega), if_neg hl]

/-- replacing under way, without a bound -/
def RtAt (fr to_ : List LT) (R : List LT × Nat) (l all : List LT) (n : Nat) : Prop := ∃ f, l.length ≤ f ∧ rtP fr to_ f l all n = R
theorem RtAt.stop {fr to_ : List LT} {R : List LT × Nat} {l all : List LT} {n : Nat} (h : RtAt fr to_ R l all n) (hs : l.length = 0) : R = (all, n) := by
  obtain ⟨f, _, rfl⟩ := h
  cases f with
  | zero => rfl
  | succ f => rw [rtP, if_neg (by omega)]
theorem RtAt.hit {fr to_ : List LT} {R : List LT × Nat} {l all : List LT} {n : Nat} (h : RtAt fr to_ R l all n) (hs : 0 < l.length) (hf : 0 < fr.length) (hb : beginsP l fr = true) : RtAt fr to_ R (l.drop fr.length) (all ++ to_) (n + 1) := by
  obtain ⟨f, hl, rfl⟩ := h
  cases f with
  | zero => omega
  | succ f => exact ⟨f, by rw [List.length_drop]; omega, by rw [rtP, if_pos hs, if_pos hb]⟩
theorem RtAt.miss {fr to_ : List LT} {R : List LT × Nat} {l all : List LT} {n : Nat} (h : RtAt fr to_ R l all n) (hs : 0 < l.length) (hb : beginsP l fr = false) : RtAt fr to_ R (l.drop 1) (all ++ l.take 1) n := by
  obtain ⟨f, hl, rfl⟩ := h
  cases f with
  | zero => omega
  | succ f => exact ⟨f, by rw [List.length_drop]; omega, by rw [rtP, if_pos hs, if_neg (by rw [hb]; simp)]⟩


/-- append of a list that came in, whatever it is -/
theorem wpList_append_larg (w : World) {ops : Array Oper} {rest : List Oper} {o : Oper} {a : Act} {Q : Exit → Act → World → Prop} (hgd : o.guard = none) (x y : Operand)
    (ho : o.op = .call { callee := .builtin .append, args := #[x, y], argTypes := #[31, 31] }) (base : Nat) (A : Option Addr) (cap : Nat) (l m : List LT) (D : Option Addr) (c : Nat)
    (hx : a.eval x = .slice A l.length cap) (hy : a.eval y = .slice D m.length c) (hown : OwnLT w base A cap l) (hm : Arg w D m) (hD : D = none → c = 0) (hts : l.length + m.length ≤ 1000000) (hbase : base ≤ w.heap.size)
    (h : ∀ A' cap' w', OwnLT w' base A' cap' (l ++ m) → w.grownBy w' (Value.slice A l.length cap).ownBlock → wpList Tryd.prog ops Q rest (a.put o.dst (.slice A' (l ++ m).length cap')) w') : wpList Tryd.prog ops Q (o :: rest) a w := by
  by_cases hne : m = []
  · subst hne
    obtain ⟨i0, hi0, hz0, hz1, hz2⟩ := info_parts lex_info
    cases D with
    | none =>
      have hc := hD rfl
      subst hc
      refine wpList_append_own_none hgd x y 31 ho base 47 i0 3 Tryd.underlying31 hi0 _ l.length (ltRow l) hx hown hy ?_
      have := h A cap w (by rw [List.append_nil]; exact hown) ⟨rfl, rfl, rfl, Nat.le_refl _, fun _ _ _ => rfl⟩
      rwa [List.append_nil] at this
    | some d =>
      refine wpList_append_own w hgd x y 31 ho base 47 i0 _ 3 32 Tryd.underlying31 hi0 hz0 hz1 hz2 rfl (by decide) _ l.length (ltRow l) hx hown d 0 c [] hy rfl (fun j u h => by simp at h) (fun u h => by simp at h) (by simp only [maxLen, List.length_nil] at *; omega) (by simp only [List.length_nil] at *; omega) hbase ?_
      intro v' w' h2 h3 _
      have hf : ∃ A' cap', v' = .slice A' l.length cap' := by
        rcases h2.2 with ⟨hv, h0⟩ | ⟨g, cap', cur, hv, _⟩
        · exact ⟨none, 0, by rw [hv, show l.length = 0 by omega]⟩
        · exact ⟨_, _, hv⟩
      obtain ⟨A', cap', rfl⟩ := hf
      have := h A' cap' w' (by rw [List.append_nil]; simpa [OwnLT] using h2) h3
      rwa [List.append_nil] at this
  · obtain ⟨blk, off, rfl, hin⟩ := hm.at_ hne
    exact wpList_append_lt w hgd x y ho base A cap l m blk off c hx hy hown hin hts hbase h

set_option maxRecDepth 100000 in
set_option maxHeartbeats 4000000 in
theorem refTurned_at (ls fr to_ : List LT) (hn : ls.length ≤ 900) (hf0 : 0 < fr.length) (hfl : fr.length ≤ 900) (htl : to_.length ≤ 900) (b1 o1 cap1 b2 o2 cap2 : Nat) (D : Option Addr) (cap3 : Nat) (hD : D = none → cap3 = 0) (w : World)
    (h1 : ToksIn w b1 o1 ls) (h2 : ToksIn w b2 o2 fr) (h3 : Arg w D to_) :
    Calls Tryd.prog 61 #[.slice (some ⟨b1, o1, none⟩) ls.length cap1, .slice (some ⟨b2, o2, none⟩) fr.length cap2, .slice D to_.length cap3] w fun e w' => (∃ A' cap', e = .returned (.tuple #[.slice A' (rtP fr to_ ls.length ls [] 0).1.length cap', .int .i64 ((rtP fr to_ ls.length ls [] 0).2 : Nat)]) ∧ OwnLT w' w.heap.size A' cap' (rtP fr to_ ls.length ls [] 0).1) ∧ Below w.heap.size w w' := by
  have hst : RtAt fr to_ (rtP fr to_ ls.length ls [] 0) (ls.drop 0) [] 0 := ⟨ls.length, by simp, by simp⟩
  generalize rtP fr to_ ls.length ls [] 0 = R at hst ⊢
  have HST := Lib.hid hst
  have HSD := Lib.hid (fun a ha W h1 h2 => refStands_at ls fr (by omega) a ha (by omega) b1 o1 cap1 b2 o2 cap2 W h1 h2)
  have H1 := Lib.hid h1
  have H2 := Lib.hid h2
  have H3 := Lib.hid h3
  have HO0 := Lib.hid (ownLT_empty w w.heap.size (Nat.le_refl _))
  have hbp : ∀ a, beginsP (ls.drop a) fr = true → a + fr.length ≤ ls.length := by
    intro a hb
    unfold beginsP at hb
    simp only [Bool.and_eq_true, decide_eq_true_eq] at hb
    have := hb.1
    rw [List.length_drop] at this
    omega
  have HBP := Lib.hid hbp
  obtain ⟨f1, hf1⟩ : ∃ f1, fr.length = f1 + 1 := ⟨fr.length - 1, by omega⟩
  have hfw : IntKind.i64.wrap ((fr.length : Int) - 1) = (f1 : Int) := by rw [IntKind.wrap_i64]; omega
  have HF1 := Lib.hid hf1
  clear h1 h2 h3 hst hbp hf1
  go_enter Tryd.func61, Tryd.ntmps61
  go_wp2_with fail
  go_loopw [8, 9, 10] (fun vo vn va wr => ∃ (all : List LT) (A : Option Addr) (c n a : Nat), a ≤ ls.length ∧ n ≤ a ∧ all.length ≤ 900 * a ∧ va = .int .i64 a ∧ vn = .int .i64 n ∧ vo = .slice A all.length c ∧ Hid (OwnLT wr w.heap.size A c all) ∧ Hid (RtAt fr to_ R (ls.drop a) all n) ∧ Below w.heap.size w wr) (fun _ _ va _ => ls.length - (intOf va).toNat)
  case atStart => exact ⟨[], _, 0, 0, 0, Nat.zero_le _, Nat.le_refl _, Nat.le_refl _, rfl, rfl, rfl, HO0, HST, (Below.refl _ _).alloc (Nat.le_refl _) _⟩
  case round =>
    obtain ⟨all, A, c, n, a, hal, hna, hall, rfl, rfl, rfl, HO, HR, hbr⟩ := hrel
    have hzr := hbr.size
    by_cases hlt : a < ls.length
    · have hlt' : (a : Int) < ls.length := by omega
      have hdl : 0 < (ls.drop a).length := by rw [List.length_drop]; omega
      have hcall := HSD.out a hal _ (H1.out.below hbr (fun h => H1.out.lt h)) (H2.out.below hbr (fun h => H2.out.lt h))
      have hhit := fun h => HR.out.hit hdl hf0 h
      have hmiss := fun h => HR.out.miss hdl h
      have hbe := HBP.out a
      generalize beginsP (ls.drop a) fr = q at hcall hhit hmiss hbe
      have HCALL := Lib.hid hcall
      clear hcall hdl
      cases q with
      | true =>
        have hN := hhit rfl
        have hfit := hbe rfl
        rw [List.drop_drop] at hN
        have HN := Lib.hid hN
        have hw1 : IntKind.i64.wrap ((n : Int) + 1) = ((n + 1 : Nat) : Int) := by rw [IntKind.wrap_i64]; omega
        have hw2 : IntKind.i64.wrap ((a : Int) + (f1 : Int)) = ((a + f1 : Nat) : Int) := by have := HF1.out; rw [IntKind.wrap_i64]; omega
        have hw3 : IntKind.i64.wrap (((a + f1 : Nat) : Int) + 1) = ((a + fr.length : Nat) : Int) := by have := HF1.out; rw [IntKind.wrap_i64]; omega
        have hw4 : IntKind.i64.wrap ((a : Int) + (f1 : Int) + 1) = ((a + fr.length : Nat) : Int) := by have := HF1.out; rw [IntKind.wrap_i64]; omega
        clear hhit hmiss hbe hN
        go_wp2_with fail
        refine HCALL.out.mono ?_
        rintro e w2 ⟨rfl, hb2⟩
        have hbw2 : Below w.heap.size w w2 := hbr.trans (hb2.mono hzr)
        have HO2 := Lib.hid (HO.out.below hb2)
        have H32 := Lib.hid (H3.out.below (w' := w2) hbw2)
        have hz2 := hbw2.size
        have hmul : 900 * a ≤ 810000 := by omega
        clear hb2
        go_wp2_with (at_builtin; refine wpList_append_larg _ rfl _ _ rfl w.heap.size A c all to_ D cap3 rfl rfl HO2.out H32.out hD (by omega) hz2 ?_; intro A' cap' w3 hown3 hgrow3)
        go_roundw
        case rel =>
          refine ⟨all ++ to_, A', cap', n + 1, a + fr.length, hfit, by omega, by rw [List.length_append]; omega, by go_num, by go_num, by rw [List.length_append], Lib.hid hown3, HN, ?_⟩
          exact hbw2.grown hgrow3 hz2 (fun j hj => (HO2.out.lt j hj).1)
        case measure => simp [intOf]; omega
      | false =>
        have hN := hmiss rfl
        rw [List.drop_drop] at hN
        obtain ⟨x, hx⟩ : ∃ x, ls[a]? = some x := ⟨_, List.getElem?_eq_getElem hlt⟩
        have htk : (ls.drop a).take 1 = [x] := by
          rw [List.drop_eq_getElem_cons hlt]
          rw [List.getElem?_eq_getElem hlt] at hx
          injection hx with hx
          simp [hx]
        rw [htk] at hN
        have HN := Lib.hid hN
        have HX := Lib.hid hx
        clear hhit hmiss hbe hN htk hx
        go_wp2_with fail
        refine HCALL.out.mono ?_
        rintro e w2 ⟨rfl, hb2⟩
        have hbw2 : Below w.heap.size w w2 := hbr.trans (hb2.mono hzr)
        have HO2 := Lib.hid (HO.out.below hb2)
        have hz2 := hbw2.size
        obtain ⟨x0, x1, x2⟩ := (H1.out.below hbw2 (fun h => H1.out.lt h)) a x HX.out
        have hmul : 900 * a ≤ 810000 := by omega
        clear hb2
        go_wp2_with (at_builtin; refine wpList_append_lt _ rfl _ _ rfl w.heap.size A c all [x] w2.heap.size 0 1 rfl rfl (HO2.out.below ((Below.refl _ _).alloc (Nat.le_refl _) _)) (fun i y hy => by (cases i with | zero => (simp at hy; subst hy; simp) | succ i => (simp at hy))) (by simp; omega) (by simp; omega) ?_; intro A' cap' w3 hown3 hgrow3)
        go_roundw
        case rel =>
          refine ⟨all ++ [x], A', cap', n, a + 1, hlt, by omega, by rw [List.length_append, List.length_singleton]; omega, by go_num, rfl, by rw [List.length_append, List.length_singleton], Lib.hid hown3, HN, ?_⟩
          exact (hbw2.alloc hz2 _).grown hgrow3 (by simp; omega) (fun j hj => (HO2.out.lt j hj).1)
        case measure => simp [intOf]; omega
    · have hlt' : ¬ (a : Int) < ls.length := by omega
      have HE := Lib.hid (HR.out.stop (by rw [List.length_drop]; omega))
      clear HR
      go_wp2
      go_ret2
      exact ⟨⟨A, c, by rw [HE.out]; rfl, by rw [HE.out]; exact HO.out⟩, hbr⟩

set_option maxRecDepth 100000 in
set_option maxHeartbeats 1000000 in
theorem refTurned_none (fr to_ : List LT) (A C D : Option Addr) (c1 n2 c2 n3 c3 : Nat) (w : World) :
    Calls Tryd.prog 61 #[.slice A 0 c1, .slice C n2 c2, .slice D n3 c3] w fun e w' => (∃ A' cap', e = .returned (.tuple #[.slice A' (rtP fr to_ 0 [] [] 0).1.length cap', .int .i64 ((rtP fr to_ 0 [] [] 0).2 : Nat)]) ∧ OwnLT w' w.heap.size A' cap' (rtP fr to_ 0 [] [] 0).1) ∧ Below w.heap.size w w' := by
  have HO0 := Lib.hid (ownLT_empty w w.heap.size (Nat.le_refl _))
  show Calls Tryd.prog 61 #[.slice A 0 c1, .slice C n2 c2, .slice D n3 c3] w fun e w' => (∃ A' cap', e = .returned (.tuple #[.slice A' 0 cap', .int .i64 0]) ∧ OwnLT w' w.heap.size A' cap' []) ∧ Below w.heap.size w w'
  go_enter Tryd.func61, Tryd.ntmps61
  go_wp2_with fail
  go_loopw [8, 9, 10] (fun vo vn va wr => va = .int .i64 0 ∧ vn = .int .i64 0 ∧ vo = .slice (some ⟨w.heap.size, 0, none⟩) 0 0 ∧ Hid (OwnLT wr w.heap.size (some ⟨w.heap.size, 0, none⟩) 0 []) ∧ Below w.heap.size w wr) (fun _ _ _ _ => 0)
  case atStart => exact ⟨rfl, rfl, rfl, HO0, (Below.refl _ _).alloc (Nat.le_refl _) _⟩
  case round =>
    obtain ⟨rfl, rfl, rfl, HO, hbr⟩ := hrel
    go_wp2
    go_ret2
    exact ⟨⟨_, _, rfl, HO.out⟩, hbr⟩

theorem refTurned_any (ls fr to_ : List LT) (hn : ls.length ≤ 900) (hf0 : 0 < fr.length) (hfl : fr.length ≤ 900) (htl : to_.length ≤ 900) (A : Option Addr) (cap1 : Nat) (C : Option Addr) (cap2 : Nat) (D : Option Addr) (cap3 : Nat) (hD : D = none → cap3 = 0) (w : World)
    (h1 : Arg w A ls) (h2 : Arg w C fr) (h3 : Arg w D to_) :
    Calls Tryd.prog 61 #[.slice A ls.length cap1, .slice C fr.length cap2, .slice D to_.length cap3] w fun e w' => (∃ A' cap', e = .returned (.tuple #[.slice A' (rtP fr to_ ls.length ls [] 0).1.length cap', .int .i64 ((rtP fr to_ ls.length ls [] 0).2 : Nat)]) ∧ OwnLT w' w.heap.size A' cap' (rtP fr to_ ls.length ls [] 0).1) ∧ Below w.heap.size w w' := by
  by_cases hne : ls = []
  · subst hne
    exact refTurned_none fr to_ A C D cap1 fr.length cap2 to_.length cap3 w
  · obtain ⟨b1, o1, rfl, i1⟩ := h1.at_ hne
    obtain ⟨b2, o2, rfl, i2⟩ := h2.at_ (by intro e; rw [e] at hf0; simp at hf0)
    exact refTurned_at ls fr to_ hn hf0 hfl htl b1 o1 cap1 b2 o2 cap2 D cap3 hD w i1 i2 h3

theorem rtP_all (P : LT → Prop) (fr to_ : List LT) (ht : ∀ x ∈ to_, P x) : ∀ (f : Nat) (l all : List LT) (n : Nat), (∀ x ∈ l, P x) → (∀ x ∈ all, P x) → ∀ x ∈ (rtP fr to_ f l all n).1, P x
  | 0, _, _, _, _, h => h
  | f + 1, l, all, n, hl, h => by
    rw [rtP]
    split
    · split
      · refine rtP_all P fr to_ ht f _ _ _ (fun x hx => hl x (List.mem_of_mem_drop hx)) (fun x hx => ?_)
        rcases List.mem_append.1 hx with h1 | h1
        · exact h x h1
        · exact ht x h1
      · refine rtP_all P fr to_ ht f _ _ _ (fun x hx => hl x (List.mem_of_mem_drop hx)) (fun x hx => ?_)
        rcases List.mem_append.1 hx with h1 | h1
        · exact h x h1
        · exact hl x (List.mem_of_mem_take h1)
    · exact h
theorem rtP_len (fr to_ : List LT) (ht : to_.length ≤ 900) : ∀ (f : Nat) (l all : List LT) (n : Nat), (rtP fr to_ f l all n).1.length ≤ all.length + f * 901
  | 0, _, _, _ => by simp [rtP]
  | f + 1, l, all, n => by
    rw [rtP]
    split
    · split
      · have := rtP_len fr to_ ht f (l.drop fr.length) (all ++ to_) (n + 1)
        rw [List.length_append] at this
        omega
      · have := rtP_len fr to_ ht f (l.drop 1) (all ++ l.take 1) n
        rw [List.length_append, List.length_take] at this
        omega
    · show all.length ≤ _; omega


set_option maxRecDepth 100000 in
set_option maxHeartbeats 4000000 in
theorem rturn_bad (s : ByteArray) (hs : s.size ≤ 281474976710656) (fr to_ : List LT) (k er : Nat) (hR : Lx.read s.data.toList = .bad k er) (C : Option Addr) (cap2 : Nat) (D : Option Addr) (cap3 : Nat) (w : World) :
    Calls Tryd.prog 36 #[.string s, .slice C fr.length cap2, .slice D to_.length cap3] w fun e w' => e = .returned (.tuple #[.string ⟨#[]⟩, .int .i64 0, .int .i64 er]) ∧ Below w.heap.size w w' := by
  have her := read_e _ k er hR
  have herb : ((er : Int) == 0) = false := by rw [beq_eq_false_iff_ne]; omega
  have hrr := fun W => refRead_any s hs W
  rw [hR] at hrr
  have HRR := Lib.hid hrr
  clear hrr hR her
  go_enter Tryd.func36, Tryd.ntmps36
  go_wp2_with fail
  refine (HRR.out _).mono ?_
  rintro e w1 ⟨⟨A, cap, rfl, ho1⟩, hb1⟩
  simp only [Lx.Res.ts, Lx.Res.at_, Lx.Res.e, List.length_nil]
  clear ho1
  go_wp2
  go_ret3
  exact ⟨rfl, hb1⟩

set_option maxRecDepth 100000 in
set_option maxHeartbeats 4000000 in
theorem rturn_none (s : ByteArray) (hs : s.size ≤ 281474976710656) (fr to_ : List LT) (ts : List Lx.Tok) (gs : List (Nat × Nat)) (hR : Lx.read s.data.toList = .ok ts gs) (hf0 : fr.length = 0) (C : Option Addr) (cap2 : Nat) (D : Option Addr) (cap3 : Nat) (w : World) :
    Calls Tryd.prog 36 #[.string s, .slice C fr.length cap2, .slice D to_.length cap3] w fun e w' => e = .returned (.tuple #[.string ⟨#[]⟩, .int .i64 0, .int .i64 2]) ∧ Below w.heap.size w w' := by
  have hrr := fun W => refRead_any s hs W
  rw [hR] at hrr
  have HRR := Lib.hid hrr
  have hf0b : ((fr.length : Int) == 0) = true := by rw [hf0]; rfl
  clear hrr hR hf0
  go_enter Tryd.func36, Tryd.ntmps36
  go_wp2_with fail
  refine (HRR.out _).mono ?_
  rintro e w1 ⟨⟨A, cap, rfl, ho1⟩, hb1⟩
  simp only [Lx.Res.ts, Lx.Res.at_, Lx.Res.e] at ho1 ⊢
  clear ho1
  go_wp2
  go_ret3
  exact ⟨rfl, hb1⟩

set_option maxRecDepth 100000 in
set_option maxHeartbeats 4000000 in
theorem rturn_from (s : ByteArray) (hs : s.size ≤ 281474976710656) (fr to_ : List LT) (hfz : ∀ x ∈ fr, x.text.size ≤ 2500) (hfk : ∀ x ∈ fr, x.kind < 256) (hfn : fr.length ≤ 3000000) (hf0 : 0 < fr.length) (ts : List Lx.Tok) (gs : List (Nat × Nat)) (hR : Lx.read s.data.toList = .ok ts gs) (E : Nat) (hE : (writeP fr).2 = E) (hE0 : E ≠ 0) (C : Option Addr) (cap2 : Nat) (D : Option Addr) (cap3 : Nat) (w : World) (h2 : Arg w C fr) :
    Calls Tryd.prog 36 #[.string s, .slice C fr.length cap2, .slice D to_.length cap3] w fun e w' => e = .returned (.tuple #[.string ⟨#[]⟩, .int .i64 0, .int .i64 E]) ∧ Below w.heap.size w w' := by
  have hrr := fun W => refRead_any s hs W
  rw [hR] at hrr
  have ht1 := fun W h => refText_any fr hfz hfk hfn C cap2 W h
  rw [hE] at ht1
  generalize (⟨(writeP fr).1.toArray⟩ : ByteArray) = X1 at ht1
  have herb : ((E : Int) == 0) = false := by rw [beq_eq_false_iff_ne]; omega
  have hfb : ((fr.length : Int) == 0) = false := by rw [beq_eq_false_iff_ne]; omega
  have HRR := Lib.hid hrr
  have HT1 := Lib.hid ht1
  have H2 := Lib.hid h2
  clear hrr hR ht1 hE hE0 h2 hfz hfk
  go_enter Tryd.func36, Tryd.ntmps36
  go_wp2_with fail
  refine (HRR.out _).mono ?_
  rintro e w1 ⟨⟨A, cap, rfl, ho1⟩, hb1⟩
  simp only [Lx.Res.ts, Lx.Res.at_, Lx.Res.e] at ho1 ⊢
  clear ho1
  go_wp2_with fail
  refine (HT1.out _ (H2.out.below hb1)).mono ?_
  rintro e w2 ⟨rfl, hb2⟩
  have hB2 := hb1.trans (hb2.mono hb1.size)
  go_wp2
  go_ret3
  exact ⟨rfl, hB2⟩

set_option maxRecDepth 100000 in
set_option maxHeartbeats 4000000 in
theorem rturn_to (s : ByteArray) (hs : s.size ≤ 281474976710656) (fr to_ : List LT) (hfz : ∀ x ∈ fr, x.text.size ≤ 2500) (hfk : ∀ x ∈ fr, x.kind < 256) (hfn : fr.length ≤ 3000000) (hf0 : 0 < fr.length) (ts : List Lx.Tok) (gs : List (Nat × Nat)) (hR : Lx.read s.data.toList = .ok ts gs) (htz : ∀ x ∈ to_, x.text.size ≤ 2500) (htk : ∀ x ∈ to_, x.kind < 256) (htn : to_.length ≤ 3000000) (hE1 : (writeP fr).2 = 0) (E : Nat) (hE : (writeP to_).2 = E) (hE0 : E ≠ 0) (C : Option Addr) (cap2 : Nat) (D : Option Addr) (cap3 : Nat) (w : World) (h2 : Arg w C fr) (h3 : Arg w D to_) :
    Calls Tryd.prog 36 #[.string s, .slice C fr.length cap2, .slice D to_.length cap3] w fun e w' => e = .returned (.tuple #[.string ⟨#[]⟩, .int .i64 0, .int .i64 E]) ∧ Below w.heap.size w w' := by
  have hrr := fun W => refRead_any s hs W
  rw [hR] at hrr
  have ht1 := fun W h => refText_any fr hfz hfk hfn C cap2 W h
  have ht2 := fun W h => refText_any to_ htz htk htn D cap3 W h
  rw [hE1] at ht1
  rw [hE] at ht2
  generalize (⟨(writeP fr).1.toArray⟩ : ByteArray) = X1 at ht1
  generalize (⟨(writeP to_).1.toArray⟩ : ByteArray) = X2 at ht2
  have herb : ((E : Int) == 0) = false := by rw [beq_eq_false_iff_ne]; omega
  have hfb : ((fr.length : Int) == 0) = false := by rw [beq_eq_false_iff_ne]; omega
  have HRR := Lib.hid hrr
  have HT1 := Lib.hid ht1
  have HT2 := Lib.hid ht2
  have H2 := Lib.hid h2
  have H3 := Lib.hid h3
  clear hrr hR ht1 ht2 hE hE1 hE0 h2 h3 hfz hfk htz htk
  go_enter Tryd.func36, Tryd.ntmps36
  go_wp2_with fail
  refine (HRR.out _).mono ?_
  rintro e w1 ⟨⟨A, cap, rfl, ho1⟩, hb1⟩
  simp only [Lx.Res.ts, Lx.Res.at_, Lx.Res.e] at ho1 ⊢
  clear ho1
  go_wp2_with fail
  refine (HT1.out _ (H2.out.below hb1)).mono ?_
  rintro e w2 ⟨rfl, hb2⟩
  have hB2 := hb1.trans (hb2.mono hb1.size)
  go_wp2_with fail
  refine (HT2.out _ (H3.out.below hB2)).mono ?_
  rintro e w3 ⟨rfl, hb3⟩
  have hB3 := hB2.trans (hb3.mono hB2.size)
  go_wp2
  go_ret3
  exact ⟨rfl, hB3⟩

set_option maxRecDepth 100000 in
set_option maxHeartbeats 4000000 in
theorem rturn_ok (s : ByteArray) (hs : s.size ≤ 281474976710656) (fr to_ : List LT) (hfz : ∀ x ∈ fr, x.text.size ≤ 2500) (hfk : ∀ x ∈ fr, x.kind < 256) (hfn : fr.length ≤ 3000000) (hf0 : 0 < fr.length) (ts : List Lx.Tok) (gs : List (Nat × Nat)) (hR : Lx.read s.data.toList = .ok ts gs) (htz : ∀ x ∈ to_, x.text.size ≤ 2500) (htk : ∀ x ∈ to_, x.kind < 256) (htn : to_.length ≤ 3000000) (hf9 : fr.length ≤ 900) (ht9 : to_.length ≤ 900) (hE1 : (writeP fr).2 = 0) (hE2 : (writeP to_).2 = 0) (hE : (writeP (rtP fr to_ ts.length (ts.map LT.of) [] 0).1).2 = 0) (C : Option Addr) (cap2 : Nat) (D : Option Addr) (cap3 : Nat) (w : World) (hD : D = none → cap3 = 0) (h2 : Arg w C fr) (h3 : Arg w D to_) :
    Calls Tryd.prog 36 #[.string s, .slice C fr.length cap2, .slice D to_.length cap3] w fun e w' => e = .returned (.tuple #[.string ⟨(writeP (rtP fr to_ ts.length (ts.map LT.of) [] 0).1).1.toArray⟩, .int .i64 ((rtP fr to_ ts.length (ts.map LT.of) [] 0).2 : Nat), .int .i64 0]) ∧ Below w.heap.size w w' := by
  have hrr := fun W => refRead_any s hs W
  rw [hR] at hrr
  have ht1 := fun W h => refText_any fr hfz hfk hfn C cap2 W h
  have ht2 := fun W h => refText_any to_ htz htk htn D cap3 W h
  rw [hE1] at ht1
  rw [hE2] at ht2
  obtain ⟨l1, l2, l3⟩ := lt_small_m hR
  rw [List.length_map] at l3
  have htu := fun A cap W h1 h2 h3 => refTurned_any (ts.map LT.of) fr to_ (by rw [List.length_map]; exact l3) hf0 hf9 ht9 A cap C cap2 D cap3 hD W h1 h2 h3
  have hq1 := rtP_all (fun x => x.text.size ≤ 2500) fr to_ htz (ts.map LT.of).length (ts.map LT.of) [] 0 l1 (fun x hx => by simp at hx)
  have hq2 := rtP_all (fun x => x.kind < 256) fr to_ htk (ts.map LT.of).length (ts.map LT.of) [] 0 l2 (fun x hx => by simp at hx)
  have hq3 := rtP_len fr to_ ht9 (ts.map LT.of).length (ts.map LT.of) [] 0
  rw [List.length_map] at htu hq1 hq2 hq3
  simp only [List.length_nil] at hq3
  generalize rtP fr to_ ts.length (ts.map LT.of) [] 0 = Q at htu hq1 hq2 hq3 hE ⊢
  have ht3 := fun A cap W h => refText_any Q.1 hq1 hq2 (by omega) A cap W h
  rw [hE] at ht3
  generalize (⟨(writeP fr).1.toArray⟩ : ByteArray) = X1 at ht1
  generalize (⟨(writeP to_).1.toArray⟩ : ByteArray) = X2 at ht2
  generalize (⟨(writeP Q.1).1.toArray⟩ : ByteArray) = X3 at ht3 ⊢
  have hfb : ((fr.length : Int) == 0) = false := by rw [beq_eq_false_iff_ne]; omega
  have HRR := Lib.hid hrr
  have HT1 := Lib.hid ht1
  have HT2 := Lib.hid ht2
  have HT3 := Lib.hid ht3
  have HTU := Lib.hid htu
  have H2 := Lib.hid h2
  have H3 := Lib.hid h3
  clear hrr hR ht1 ht2 ht3 htu hE hE1 hE2 h2 h3 hfz hfk htz htk l1 l2 hq1 hq2 hD
  go_enter Tryd.func36, Tryd.ntmps36
  go_wp2_with fail
  refine (HRR.out _).mono ?_
  rintro e w1 ⟨⟨A, cap, rfl, ho1⟩, hb1⟩
  simp only [Lx.Res.ts, Lx.Res.at_, Lx.Res.e] at ho1 ⊢
  have ha1 := arg_of_own ho1
  clear ho1
  go_wp2_with fail
  refine (HT1.out _ (H2.out.below hb1)).mono ?_
  rintro e w2 ⟨rfl, hb2⟩
  have hB2 := hb1.trans (hb2.mono hb1.size)
  have ha2 := ha1.below hb2
  clear ha1
  go_wp2_with fail
  refine (HT2.out _ (H3.out.below hB2)).mono ?_
  rintro e w3 ⟨rfl, hb3⟩
  have hB3 := hB2.trans (hb3.mono hB2.size)
  have HA3 := Lib.hid (ha2.below hb3)
  clear ha2
  go_wp2_with fail
  refine (HTU.out _ _ _ HA3.out (H2.out.below hB3) (H3.out.below hB3)).mono ?_
  rintro e w4 ⟨⟨A4, c4, rfl, ho4⟩, hb4⟩
  have hB4 := hB3.trans (hb4.mono hB3.size)
  have HA4 := Lib.hid ho4.arg
  clear ho4
  go_wp2_with fail
  refine (HT3.out _ _ _ HA4.out).mono ?_
  rintro e w5 ⟨rfl, hb5⟩
  have hB5 := hB4.trans (hb5.mono hB4.size)
  go_wp2
  go_ret3
  exact ⟨rfl, hB5⟩

set_option maxRecDepth 100000 in
set_option maxHeartbeats 4000000 in
theorem rturn_all (s : ByteArray) (hs : s.size ≤ 281474976710656) (fr to_ : List LT) (hfz : ∀ x ∈ fr, x.text.size ≤ 2500) (hfk : ∀ x ∈ fr, x.kind < 256) (hfn : fr.length ≤ 3000000) (hf0 : 0 < fr.length) (ts : List Lx.Tok) (gs : List (Nat × Nat)) (hR : Lx.read s.data.toList = .ok ts gs) (htz : ∀ x ∈ to_, x.text.size ≤ 2500) (htk : ∀ x ∈ to_, x.kind < 256) (htn : to_.length ≤ 3000000) (hf9 : fr.length ≤ 900) (ht9 : to_.length ≤ 900) (hE1 : (writeP fr).2 = 0) (hE2 : (writeP to_).2 = 0) (E : Nat) (hE : (writeP (rtP fr to_ ts.length (ts.map LT.of) [] 0).1).2 = E) (hE0 : E ≠ 0) (C : Option Addr) (cap2 : Nat) (D : Option Addr) (cap3 : Nat) (w : World) (hD : D = none → cap3 = 0) (h2 : Arg w C fr) (h3 : Arg w D to_) :
    Calls Tryd.prog 36 #[.string s, .slice C fr.length cap2, .slice D to_.length cap3] w fun e w' => e = .returned (.tuple #[.string ⟨#[]⟩, .int .i64 0, .int .i64 E]) ∧ Below w.heap.size w w' := by
  have hrr := fun W => refRead_any s hs W
  rw [hR] at hrr
  have ht1 := fun W h => refText_any fr hfz hfk hfn C cap2 W h
  have ht2 := fun W h => refText_any to_ htz htk htn D cap3 W h
  rw [hE1] at ht1
  rw [hE2] at ht2
  obtain ⟨l1, l2, l3⟩ := lt_small_m hR
  rw [List.length_map] at l3
  have htu := fun A cap W h1 h2 h3 => refTurned_any (ts.map LT.of) fr to_ (by rw [List.length_map]; exact l3) hf0 hf9 ht9 A cap C cap2 D cap3 hD W h1 h2 h3
  have hq1 := rtP_all (fun x => x.text.size ≤ 2500) fr to_ htz (ts.map LT.of).length (ts.map LT.of) [] 0 l1 (fun x hx => by simp at hx)
  have hq2 := rtP_all (fun x => x.kind < 256) fr to_ htk (ts.map LT.of).length (ts.map LT.of) [] 0 l2 (fun x hx => by simp at hx)
  have hq3 := rtP_len fr to_ ht9 (ts.map LT.of).length (ts.map LT.of) [] 0
  rw [List.length_map] at htu hq1 hq2 hq3
  simp only [List.length_nil] at hq3
  generalize rtP fr to_ ts.length (ts.map LT.of) [] 0 = Q at htu hq1 hq2 hq3 hE
  have ht3 := fun A cap W h => refText_any Q.1 hq1 hq2 (by omega) A cap W h
  rw [hE] at ht3
  generalize (⟨(writeP fr).1.toArray⟩ : ByteArray) = X1 at ht1
  generalize (⟨(writeP to_).1.toArray⟩ : ByteArray) = X2 at ht2
  generalize (⟨(writeP Q.1).1.toArray⟩ : ByteArray) = X3 at ht3
  have hfb : ((fr.length : Int) == 0) = false := by rw [beq_eq_false_iff_ne]; omega
  have HRR := Lib.hid hrr
  have HT1 := Lib.hid ht1
  have HT2 := Lib.hid ht2
  have HT3 := Lib.hid ht3
  have HTU := Lib.hid htu
  have H2 := Lib.hid h2
  have H3 := Lib.hid h3
  clear hrr hR ht1 ht2 ht3 htu hE hE1 hE2 h2 h3 hfz hfk htz htk l1 l2 hq1 hq2 hD
  have herb : ((E : Int) == 0) = false := by rw [beq_eq_false_iff_ne]; omega
  clear hE0
  go_enter Tryd.func36, Tryd.ntmps36
  go_wp2_with fail
  refine (HRR.out _).mono ?_
  rintro e w1 ⟨⟨A, cap, rfl, ho1⟩, hb1⟩
  simp only [Lx.Res.ts, Lx.Res.at_, Lx.Res.e] at ho1 ⊢
  have ha1 := arg_of_own ho1
  clear ho1
  go_wp2_with fail
  refine (HT1.out _ (H2.out.below hb1)).mono ?_
  rintro e w2 ⟨rfl, hb2⟩
  have hB2 := hb1.trans (hb2.mono hb1.size)
  have ha2 := ha1.below hb2
  clear ha1
  go_wp2_with fail
  refine (HT2.out _ (H3.out.below hB2)).mono ?_
  rintro e w3 ⟨rfl, hb3⟩
  have hB3 := hB2.trans (hb3.mono hB2.size)
  have HA3 := Lib.hid (ha2.below hb3)
  clear ha2
  go_wp2_with fail
  refine (HTU.out _ _ _ HA3.out (H2.out.below hB3) (H3.out.below hB3)).mono ?_
  rintro e w4 ⟨⟨A4, c4, rfl, ho4⟩, hb4⟩
  have hB4 := hB3.trans (hb4.mono hB3.size)
  have HA4 := Lib.hid ho4.arg
  clear ho4
  go_wp2_with fail
  refine (HT3.out _ _ _ HA4.out).mono ?_
  rintro e w5 ⟨rfl, hb5⟩
  have hB5 := hB4.trans (hb5.mono hB4.size)
  go_wp2
  go_ret3
  exact ⟨rfl, hB5⟩

end Go.Proofs.YtkhgmoljhehbnaaDoor

namespace Go.Proofs.YtkhgmoljhehbnaaDoor
open Go.RowKit

set_option maxRecDepth 100000 in
set_option maxHeartbeats 8000000 in
theorem turn_bad (s : ByteArray) (hs : s.size ≤ 281474976710656) (fr to_ : List LT) (hR : (Lx.read s.data.toList).e ≠ 0) (C : Option Addr) (cap2 blk3 off3 cap3 : Nat) (w : World) (he : Env w) (_h2 : Arg w C fr) (_h3 : ToksIn w blk3 off3 to_) (_h3b : blk3 < w.heap.size) :
    Calls Tryd.prog 35 #[.string s, .slice C fr.length cap2, .slice (some ⟨blk3, off3, none⟩) to_.length cap3] w fun e w' => e = .returned (.tuple #[.string ⟨#[]⟩, .int .i64 0, .int .i64 (Lx.read s.data.toList).e]) ∧ Below w.heap.size w w' := by
  have hrd := rd_any s hs w he
  generalize Lx.read s.data.toList = R at hrd hR ⊢
  have herb : ((R.e : Int) == 0) = false := by rw [beq_eq_false_iff_ne]; omega
  have herb2 : ((R.e : Int) != 0) = true := by rw [bne, herb]; rfl
  have HRD := Lib.hid hrd
  clear hrd he hR
  go_enter Tryd.func35, Tryd.ntmps35
  go_wp2_with fail
  refine HRD.out.mono ?_
  rintro e w1 ⟨⟨A, cap, G, gcap, mo, so, q, sx, heq, k1, k2, k3⟩, hb⟩
  unfold rdV at heq
  subst heq
  have hz := hb.size
  clear k1 k2 k3
  go_wp2
  go_ret3
  exact ⟨rfl, hb.alloc hz _⟩

set_option maxRecDepth 100000 in
set_option maxHeartbeats 8000000 in
theorem turn_none (s : ByteArray) (hs : s.size ≤ 281474976710656) (fr to_ : List LT) (hR : (Lx.read s.data.toList).e = 0) (hf0 : fr.length = 0) (C : Option Addr) (cap2 blk3 off3 cap3 : Nat) (w : World) (he : Env w) (_h2 : Arg w C fr) (_h3 : ToksIn w blk3 off3 to_) (_h3b : blk3 < w.heap.size) :
    Calls Tryd.prog 35 #[.string s, .slice C fr.length cap2, .slice (some ⟨blk3, off3, none⟩) to_.length cap3] w fun e w' => e = .returned (.tuple #[.string ⟨#[]⟩, .int .i64 0, .int .i64 2]) ∧ Below w.heap.size w w' := by
  have hrd := rd_any s hs w he
  generalize Lx.read s.data.toList = R at hrd hR
  have hfb : ((fr.length : Int) == 0) = true := by rw [hf0]; rfl
  have HRD := Lib.hid hrd
  clear hrd he hf0
  go_enter Tryd.func35, Tryd.ntmps35
  go_wp2_with fail
  refine HRD.out.mono ?_
  rintro e w1 ⟨⟨A, cap, G, gcap, mo, so, q, sx, heq, k1, k2, k3⟩, hb⟩
  unfold rdV at heq
  rw [hR] at heq
  subst heq
  have hz := hb.size
  clear k1 k2 k3
  go_wp2
  go_ret3
  exact ⟨rfl, hb.alloc hz _⟩

set_option maxRecDepth 100000 in
set_option maxHeartbeats 8000000 in
theorem turn_from (s : ByteArray) (hs : s.size ≤ 281474976710656) (fr to_ : List LT) (hf : ∀ x ∈ fr, x.text.size ≤ 2500) (hfn : fr.length ≤ 3000000) (hf0 : 0 < fr.length) (hR : (Lx.read s.data.toList).e = 0) (E : Nat) (hE : (writeP fr).2 = E) (hE0 : E ≠ 0) (C : Option Addr) (cap2 blk3 off3 cap3 : Nat) (w : World) (he : Env w) (h2 : Arg w C fr) (_h3 : ToksIn w blk3 off3 to_) (h3b : blk3 < w.heap.size) :
    Calls Tryd.prog 35 #[.string s, .slice C fr.length cap2, .slice (some ⟨blk3, off3, none⟩) to_.length cap3] w fun e w' => e = .returned (.tuple #[.string ⟨#[]⟩, .int .i64 0, .int .i64 E]) ∧ Below w.heap.size w w' := by
  have hrd := rd_any s hs w he
  generalize Lx.read s.data.toList = R at hrd hR
  have W1 := fun bm bs A cap W hV hE hA => write_any fr hf hfn bm bs A cap W hV hE hA
  rw [hE] at W1
  generalize (writeP fr).1 = x1 at W1
  have herb : ((E : Int) == 0) = false := by rw [beq_eq_false_iff_ne]; omega
  have herb2 : ((E : Int) != 0) = true := by rw [bne, herb]; rfl
  have hfb : ((fr.length : Int) == 0) = false := by rw [beq_eq_false_iff_ne]; omega
  have HRD := Lib.hid hrd
  have HW1 := Lib.hid W1
  have HE := Lib.hid he
  have H2 := Lib.hid h2
  clear hrd W1 he h2 hf hE hE0
  go_enter Tryd.func35, Tryd.ntmps35
  go_wp2_with fail
  refine HRD.out.mono ?_
  rintro e w1 ⟨⟨A, cap, G, gcap, mo, so, q, sx, heq, k1, k2, k3⟩, hb⟩
  obtain ⟨bm, bs, rfl, rfl, rfl, hv⟩ := k3 hR
  unfold rdV at heq
  rw [hR] at heq
  subst heq
  have hz := hb.size
  have HO := Lib.hid (OwnLT.of k1)
  have HV := Lib.hid hv
  clear k1 k2 k3 hv
  -- the reader lies in a variable of its own
  have B1 := Blk.new w1 81 #[.slice A R.ts.length cap, .slice G R.gs.length gcap, .map (some bm), .slice (some ⟨bs, 0, none⟩) 26 26, .string sx]
  have hb1 : Below w.heap.size w (w1.alloc (.cells #[.slice A R.ts.length cap, .slice G R.gs.length gcap, .map (some bm), .slice (some ⟨bs, 0, none⟩) 26 26, .string sx] 81)) := hb.alloc hz _
  have HO1 := Lib.hid (HO.out.below ((Below.refl _ w1).alloc (Nat.le_refl _) (.cells #[.slice A R.ts.length cap, .slice G R.gs.length gcap, .map (some bm), .slice (some ⟨bs, 0, none⟩) 26 26, .string sx] 81)))
  have HV1 := Lib.hid (HV.out.alloc (.cells #[.slice A R.ts.length cap, .slice G R.gs.length gcap, .map (some bm), .slice (some ⟨bs, 0, none⟩) 26 26, .string sx] 81))
  have HE1 := Lib.hid (HE.out.below hb1 HE.out.lt)
  have h3b1 : blk3 < w.heap.size := h3b
  have hz1 := hb1.size
  clear HO HV hb
  go_wp2_with fail
  generalize w1.alloc (.cells #[.slice A R.ts.length cap, .slice G R.gs.length gcap, .map (some bm), .slice (some ⟨bs, 0, none⟩) 26 26, .string sx] 81) = Wa at *
  have hg := B1.lt
  refine (HW1.out bm bs C cap2 _ HV1.out HE1.out (H2.out.below hb1)).mono ?_
  rintro e w2 ⟨rfl, hb2⟩
  have hbw2 : Below w.heap.size w w2 := hb1.trans (hb2.mono hz1)
  go_wp2
  go_ret3
  exact ⟨rfl, hbw2⟩

set_option maxRecDepth 100000 in
set_option maxHeartbeats 8000000 in
theorem turn_to (s : ByteArray) (hs : s.size ≤ 281474976710656) (fr to_ : List LT) (hf : ∀ x ∈ fr, x.text.size ≤ 2500) (ht : ∀ x ∈ to_, x.text.size ≤ 2500) (hfn : fr.length ≤ 3000000) (htn : to_.length ≤ 3000000) (hf0 : 0 < fr.length) (hR : (Lx.read s.data.toList).e = 0) (hw1 : (writeP fr).2 = 0) (E : Nat) (hE : (writeP to_).2 = E) (hE0 : E ≠ 0) (C : Option Addr) (cap2 blk3 off3 cap3 : Nat) (w : World) (he : Env w) (h2 : Arg w C fr) (h3 : ToksIn w blk3 off3 to_) (h3b : blk3 < w.heap.size) :
    Calls Tryd.prog 35 #[.string s, .slice C fr.length cap2, .slice (some ⟨blk3, off3, none⟩) to_.length cap3] w fun e w' => e = .returned (.tuple #[.string ⟨#[]⟩, .int .i64 0, .int .i64 E]) ∧ Below w.heap.size w w' := by
  have hrd := rd_any s hs w he
  generalize Lx.read s.data.toList = R at hrd hR
  have W1 := fun bm bs A cap W hV hE hA => write_any fr hf hfn bm bs A cap W hV hE hA
  have W2 := fun bm bs A cap W hV hE hA => write_any to_ ht htn bm bs A cap W hV hE hA
  rw [hw1] at W1
  rw [hE] at W2
  generalize (writeP fr).1 = x1 at W1
  generalize (writeP to_).1 = x2 at W2
  have herb : ((E : Int) == 0) = false := by rw [beq_eq_false_iff_ne]; omega
  have herb2 : ((E : Int) != 0) = true := by rw [bne, herb]; rfl
  have hfb : ((fr.length : Int) == 0) = false := by rw [beq_eq_false_iff_ne]; omega
  have HRD := Lib.hid hrd
  have HW1 := Lib.hid W1
  have HW2 := Lib.hid W2
  have HE := Lib.hid he
  have H2 := Lib.hid h2
  have H3 := Lib.hid h3
  clear hrd W1 W2 he h2 h3 hf ht hw1 hE hE0
  go_enter Tryd.func35, Tryd.ntmps35
  go_wp2_with fail
  refine HRD.out.mono ?_
  rintro e w1 ⟨⟨A, cap, G, gcap, mo, so, q, sx, heq, k1, k2, k3⟩, hb⟩
  obtain ⟨bm, bs, rfl, rfl, rfl, hv⟩ := k3 hR
  unfold rdV at heq
  rw [hR] at heq
  subst heq
  have hz := hb.size
  have HO := Lib.hid (OwnLT.of k1)
  have HV := Lib.hid hv
  clear k1 k2 k3 hv
  -- the reader lies in a variable of its own
  have B1 := Blk.new w1 81 #[.slice A R.ts.length cap, .slice G R.gs.length gcap, .map (some bm), .slice (some ⟨bs, 0, none⟩) 26 26, .string sx]
  have hb1 : Below w.heap.size w (w1.alloc (.cells #[.slice A R.ts.length cap, .slice G R.gs.length gcap, .map (some bm), .slice (some ⟨bs, 0, none⟩) 26 26, .string sx] 81)) := hb.alloc hz _
  have HO1 := Lib.hid (HO.out.below ((Below.refl _ w1).alloc (Nat.le_refl _) (.cells #[.slice A R.ts.length cap, .slice G R.gs.length gcap, .map (some bm), .slice (some ⟨bs, 0, none⟩) 26 26, .string sx] 81)))
  have HV1 := Lib.hid (HV.out.alloc (.cells #[.slice A R.ts.length cap, .slice G R.gs.length gcap, .map (some bm), .slice (some ⟨bs, 0, none⟩) 26 26, .string sx] 81))
  have HE1 := Lib.hid (HE.out.below hb1 HE.out.lt)
  have h3b1 : blk3 < w.heap.size := h3b
  have hz1 := hb1.size
  clear HO HV hb
  go_wp2_with fail
  generalize w1.alloc (.cells #[.slice A R.ts.length cap, .slice G R.gs.length gcap, .map (some bm), .slice (some ⟨bs, 0, none⟩) 26 26, .string sx] 81) = Wa at *
  have hg := B1.lt
  refine (HW1.out bm bs C cap2 _ HV1.out HE1.out (H2.out.below hb1)).mono ?_
  rintro e w2 ⟨rfl, hb2⟩
  have B2 := B1.below hb2 hg
  have hbw2 : Below w.heap.size w w2 := hb1.trans (hb2.mono hz1)
  have HV2 := Lib.hid (HV1.out.below hb2)
  have HE2 := Lib.hid (HE1.out.below hb2 HE1.out.lt)
  have HO2 := Lib.hid (HO1.out.below hb2)
  have hg2 := B2.lt
  have hz2 := hbw2.size
  clear hb2 B1 HV1 HE1 HO1
  have c0 := B2.cell 0; have c2 := B2.cell 2; have c3 := B2.cell 3
  simp at c0 c2 c3
  go_wp2_with fail
  refine (HW2.out bm bs (some ⟨blk3, off3, none⟩) cap3 _ HV2.out HE2.out ⟨fun _ => ⟨blk3, off3, rfl, H3.out.below hbw2 (fun _ => h3b)⟩⟩).mono ?_
  rintro e w3 ⟨rfl, hb3⟩
  have hbw3 : Below w.heap.size w w3 := hbw2.trans (hb3.mono hz2)
  clear c0 c2 c3
  go_wp2
  go_ret3
  exact ⟨rfl, hbw3⟩

set_option maxRecDepth 100000 in
set_option maxHeartbeats 8000000 in
theorem turn_all (s : ByteArray) (hs : s.size ≤ 281474976710656) (fr to_ : List LT) (hf : ∀ x ∈ fr, x.text.size ≤ 2500) (ht : ∀ x ∈ to_, x.text.size ≤ 2500) (hfn : fr.length ≤ 900) (htn : to_.length ≤ 900) (hf0 : 0 < fr.length) (hR : (Lx.read s.data.toList).e = 0) (hw1 : (writeP fr).2 = 0) (hw2 : (writeP to_).2 = 0) (E : Nat) (hE : (writeP (turnP s.data.toList fr to_).1).2 = E) (hE0 : E ≠ 0) (C : Option Addr) (cap2 blk3 off3 cap3 : Nat) (w : World) (he : Env w) (h2 : Arg w C fr) (h3 : ToksIn w blk3 off3 to_) (h3b : blk3 < w.heap.size) :
    Calls Tryd.prog 35 #[.string s, .slice C fr.length cap2, .slice (some ⟨blk3, off3, none⟩) to_.length cap3] w fun e w' => e = .returned (.tuple #[.string ⟨#[]⟩, .int .i64 0, .int .i64 E]) ∧ Below w.heap.size w w' := by
  have hrd := rd_any s hs w he
  have hsm := read_texts s.data.toList
  have hln := (read_small s.data.toList).2
  have hTe : turnP s.data.toList fr to_ = replP fr to_ ((Lx.read s.data.toList).ts.map LT.of).length ((Lx.read s.data.toList).ts.map LT.of) [] 0 := rfl
  generalize turnP s.data.toList fr to_ = T at hE hTe
  generalize Lx.read s.data.toList = R at hrd hsm hln hR hTe
  have hTl : T.1.length ≤ 1800 := by rw [hTe]; exact replP_len fr to_ htn _ _ _ _ (by simp)
  have hTs : ∀ x ∈ T.1, x.text.size ≤ 2500 := by rw [hTe]; exact replP_small 2500 fr to_ ht _ _ _ _ hsm (by simp)
  have hwr := fun (l : List LT) (hl : ∀ x ∈ l, x.text.size ≤ 2500) (hn : l.length ≤ 3000000) (hz : (writeP l).2 = 0) bm bs A cap W hV hE hA => by
    have := write_any l hl hn bm bs A cap W hV hE hA
    rw [hz] at this
    exact this
  have W1 := fun bm bs A cap W hV hE hA => hwr fr hf (by omega) hw1 bm bs A cap W hV hE hA
  have W2 := fun bm bs A cap W hV hE hA => hwr to_ ht (by omega) hw2 bm bs A cap W hV hE hA
  have W3 := fun bm bs A cap W hV hE hA => write_any T.1 hTs (by omega) bm bs A cap W hV hE hA
  rw [hE] at W3
  have RP := fun A cap hcap hA W h1 h2 h3 h3b => replace_any (R.ts.map LT.of) fr to_ (by simp; omega) hf0 (by omega) htn A cap C cap2 blk3 off3 cap3 hcap hA W h1 h2 h3 h3b
  rw [← hTe] at RP
  rw [List.length_map] at RP
  generalize (writeP fr).1 = x1 at W1
  generalize (writeP to_).1 = x2 at W2
  generalize (writeP T.1).1 = x3 at W3
  have hfb : ((fr.length : Int) == 0) = false := by rw [beq_eq_false_iff_ne]; omega
  have herb : ((E : Int) == 0) = false := by rw [beq_eq_false_iff_ne]; omega
  have herb2 : ((E : Int) != 0) = true := by rw [bne, herb]; rfl
  have HRD := Lib.hid hrd
  have HW1 := Lib.hid W1
  have HW2 := Lib.hid W2
  have HW3 := Lib.hid W3
  have HRP := Lib.hid RP
  have HE := Lib.hid he
  have H2 := Lib.hid h2
  have H3 := Lib.hid h3
  clear hrd W1 W2 W3 RP he h2 h3 hwr hTe hTs hf ht hsm hw1 hw2 hE hE0
  go_enter Tryd.func35, Tryd.ntmps35
  go_wp2_with fail
  refine HRD.out.mono ?_
  rintro e w1 ⟨⟨A, cap, G, gcap, mo, so, q, sx, heq, k1, k2, k3⟩, hb⟩
  obtain ⟨bm, bs, rfl, rfl, rfl, hv⟩ := k3 hR
  unfold rdV at heq
  rw [hR] at heq
  subst heq
  have hz := hb.size
  have HO := Lib.hid (OwnLT.of k1)
  have HV := Lib.hid hv
  clear k1 k2 k3 hv
  -- the reader lies in a variable of its own
  have B1 := Blk.new w1 81 #[.slice A R.ts.length cap, .slice G R.gs.length gcap, .map (some bm), .slice (some ⟨bs, 0, none⟩) 26 26, .string sx]
  have hb1 : Below w.heap.size w (w1.alloc (.cells #[.slice A R.ts.length cap, .slice G R.gs.length gcap, .map (some bm), .slice (some ⟨bs, 0, none⟩) 26 26, .string sx] 81)) := hb.alloc hz _
  have HO1 := Lib.hid (HO.out.below ((Below.refl _ w1).alloc (Nat.le_refl _) (.cells #[.slice A R.ts.length cap, .slice G R.gs.length gcap, .map (some bm), .slice (some ⟨bs, 0, none⟩) 26 26, .string sx] 81)))
  have HV1 := Lib.hid (HV.out.alloc (.cells #[.slice A R.ts.length cap, .slice G R.gs.length gcap, .map (some bm), .slice (some ⟨bs, 0, none⟩) 26 26, .string sx] 81))
  have HE1 := Lib.hid (HE.out.below hb1 HE.out.lt)
  have h3b1 : blk3 < w.heap.size := h3b
  have hz1 := hb1.size
  clear HO HV hb
  go_wp2_with fail
  generalize w1.alloc (.cells #[.slice A R.ts.length cap, .slice G R.gs.length gcap, .map (some bm), .slice (some ⟨bs, 0, none⟩) 26 26, .string sx] 81) = Wa at *
  have hg := B1.lt
  refine (HW1.out bm bs C cap2 _ HV1.out HE1.out (H2.out.below hb1)).mono ?_
  rintro e w2 ⟨rfl, hb2⟩
  have B2 := B1.below hb2 hg
  have hbw2 : Below w.heap.size w w2 := hb1.trans (hb2.mono hz1)
  have HV2 := Lib.hid (HV1.out.below hb2)
  have HE2 := Lib.hid (HE1.out.below hb2 HE1.out.lt)
  have HO2 := Lib.hid (HO1.out.below hb2)
  have hg2 := B2.lt
  have hz2 := hbw2.size
  clear hb2 B1 HV1 HE1 HO1
  have c0 := B2.cell 0; have c2 := B2.cell 2; have c3 := B2.cell 3
  simp at c0 c2 c3
  go_wp2_with fail
  refine (HW2.out bm bs (some ⟨blk3, off3, none⟩) cap3 _ HV2.out HE2.out ⟨fun _ => ⟨blk3, off3, rfl, H3.out.below hbw2 (fun _ => h3b)⟩⟩).mono ?_
  rintro e w3 ⟨rfl, hb3⟩
  have B3 := B2.below hb3 hg2
  have hbw3 : Below w.heap.size w w3 := hbw2.trans (hb3.mono hz2)
  have HV3 := Lib.hid (HV2.out.below hb3)
  have HE3 := Lib.hid (HE2.out.below hb3 HE2.out.lt)
  have HO3 := Lib.hid (HO2.out.below hb3)
  have hg3 := B3.lt
  have hz3 := hbw3.size
  clear c0 c2 c3 hb3 B2 HV2 HE2 HO2
  have c0 := B3.cell 0; have c2 := B3.cell 2; have c3 := B3.cell 3
  simp at c0 c2 c3
  have hle := HO3.out.le
  simp only [List.length_map] at hle
  go_wp2_with fail
  refine (HRP.out A cap hle.1 hle.2 _ HO3.out.arg (H2.out.below hbw3) (H3.out.below hbw3 (fun _ => h3b)) (by omega)).mono ?_
  rintro e w4 ⟨⟨A4, cap4, rfl, hown4⟩, hb4⟩
  have B4 := B3.below hb4 hg3
  have hbw4 : Below w.heap.size w w4 := hbw3.trans (hb4.mono hz3)
  have HV4 := Lib.hid (HV3.out.below hb4)
  have HE4 := Lib.hid (HE3.out.below hb4 HE3.out.lt)
  have HO4 := Lib.hid hown4
  have hz4 := hbw4.size
  clear c0 c2 c3 hb4 B3 HV3 HE3 HO3 hown4 hle
  have c0 := B4.cell 0; have c2 := B4.cell 2; have c3 := B4.cell 3
  simp at c0 c2 c3
  go_wp2_with fail
  refine (HW3.out bm bs A4 cap4 _ HV4.out HE4.out HO4.out.arg).mono ?_
  rintro e w5 ⟨rfl, hb5⟩
  have hbw5 : Below w.heap.size w w5 := hbw4.trans (hb5.mono hz4)
  clear c0 c2 c3
  go_wp2
  go_ret3
  exact ⟨rfl, hbw5⟩


/-- Turn, plainly -/
def turnR (l : Lx.B) (fr to_ : List LT) : Lx.B × Nat × Nat := match Lx.read l with
  | .bad _ er => ([], 0, er)
  | .ok ts _ =>
    if fr.length = 0 then ([], 0, 2) else if (writeP fr).2 ≠ 0 then ([], 0, (writeP fr).2) else if (writeP to_).2 ≠ 0 then ([], 0, (writeP to_).2) else
    if (writeP (rtP fr to_ ts.length (ts.map LT.of) [] 0).1).2 ≠ 0 then ([], 0, (writeP (rtP fr to_ ts.length (ts.map LT.of) [] 0).1).2)
    else ((writeP (rtP fr to_ ts.length (ts.map LT.of) [] 0).1).1, (rtP fr to_ ts.length (ts.map LT.of) [] 0).2, 0)
def turnVal (x : Lx.B × Nat × Nat) : Value := .tuple #[.string ⟨x.1.toArray⟩, .int .i64 (x.2.1 : Nat), .int .i64 (x.2.2 : Nat)]

theorem write_len {l : List LT} (h : (writeP l).2 = 0) : l.length ≤ 900 := by
  unfold writeP at h
  split at h
  · cases h
  · omega

theorem refTurn_any (s : ByteArray) (hs : s.size ≤ 281474976710656) (fr to_ : List LT) (hfz : ∀ x ∈ fr, x.text.size ≤ 2500) (hfk : ∀ x ∈ fr, x.kind < 256) (hfn : fr.length ≤ 3000000) (htz : ∀ x ∈ to_, x.text.size ≤ 2500) (htk : ∀ x ∈ to_, x.kind < 256) (htn : to_.length ≤ 3000000)
    (C : Option Addr) (cap2 : Nat) (D : Option Addr) (cap3 : Nat) (hD : D = none → cap3 = 0) (w : World) (h2 : Arg w C fr) (h3 : Arg w D to_) :
    Calls Tryd.prog 36 #[.string s, .slice C fr.length cap2, .slice D to_.length cap3] w fun e w' => e = .returned (turnVal (turnR s.data.toList fr to_)) ∧ Below w.heap.size w w' := by
  unfold turnR
  cases hR : Lx.read s.data.toList with
  | bad k er => exact rturn_bad s hs fr to_ k er hR C cap2 D cap3 w
  | ok ts gs =>
    simp only
    by_cases hf0 : fr.length = 0
    · rw [if_pos hf0]; exact rturn_none s hs fr to_ ts gs hR hf0 C cap2 D cap3 w
    · rw [if_neg hf0]
      by_cases h1 : (writeP fr).2 ≠ 0
      · rw [if_pos h1]; exact rturn_from s hs fr to_ hfz hfk hfn (by omega) ts gs hR _ rfl h1 C cap2 D cap3 w h2
      · rw [if_neg h1]
        have h1' : (writeP fr).2 = 0 := by omega
        by_cases h4 : (writeP to_).2 ≠ 0
        · rw [if_pos h4]; exact rturn_to s hs fr to_ hfz hfk hfn (by omega) ts gs hR htz htk htn h1' _ rfl h4 C cap2 D cap3 w h2 h3
        · rw [if_neg h4]
          have h4' : (writeP to_).2 = 0 := by omega
          by_cases h5 : (writeP (rtP fr to_ ts.length (ts.map LT.of) [] 0).1).2 ≠ 0
          · rw [if_pos h5]; exact rturn_all s hs fr to_ hfz hfk hfn (by omega) ts gs hR htz htk htn (write_len h1') (write_len h4') h1' h4' _ rfl h5 C cap2 D cap3 w hD h2 h3
          · rw [if_neg h5]; exact rturn_ok s hs fr to_ hfz hfk hfn (by omega) ts gs hR htz htk htn (write_len h1') (write_len h4') h1' h4' (by omega) C cap2 D cap3 w hD h2 h3

theorem lexTurn_any (s : ByteArray) (hs : s.size ≤ 281474976710656) (fr to_ : List LT) (hfz : ∀ x ∈ fr, x.text.size ≤ 2500) (hfn : fr.length ≤ 3000000) (htz : ∀ x ∈ to_, x.text.size ≤ 2500) (htn : to_.length ≤ 3000000)
    (C : Option Addr) (cap2 blk3 off3 cap3 : Nat) (w : World) (he : Env w) (h2 : Arg w C fr) (h3 : ToksIn w blk3 off3 to_) (h3b : blk3 < w.heap.size) :
    Calls Tryd.prog 35 #[.string s, .slice C fr.length cap2, .slice (some ⟨blk3, off3, none⟩) to_.length cap3] w fun e w' => e = .returned (turnVal (turnR s.data.toList fr to_)) ∧ Below w.heap.size w w' := by
  unfold turnR
  cases hR : Lx.read s.data.toList with
  | bad k er =>
    have h := turn_bad s hs fr to_ (by rw [hR]; exact read_e _ k er hR) C cap2 blk3 off3 cap3 w he h2 h3 h3b
    rw [hR] at h
    exact h
  | ok ts gs =>
    have hRe : (Lx.read s.data.toList).e = 0 := by rw [hR]; rfl
    simp only
    by_cases hf0 : fr.length = 0
    · rw [if_pos hf0]; exact turn_none s hs fr to_ hRe hf0 C cap2 blk3 off3 cap3 w he h2 h3 h3b
    · rw [if_neg hf0]
      by_cases h1 : (writeP fr).2 ≠ 0
      · rw [if_pos h1]; exact turn_from s hs fr to_ hfz hfn (by omega) hRe _ rfl h1 C cap2 blk3 off3 cap3 w he h2 h3 h3b
      · rw [if_neg h1]
        have h1' : (writeP fr).2 = 0 := by omega
        by_cases h4 : (writeP to_).2 ≠ 0
        · rw [if_pos h4]; exact turn_to s hs fr to_ hfz htz hfn htn (by omega) hRe h1' _ rfl h4 C cap2 blk3 off3 cap3 w he h2 h3 h3b
        · rw [if_neg h4]
          have h4' : (writeP to_).2 = 0 := by omega
          have hT : turnP s.data.toList fr to_ = replP fr to_ ts.length (ts.map LT.of) [] 0 := by
            unfold turnP; rw [hR]; simp [Lx.Res.ts]
          rcases replP_rtP fr to_ ts.length (ts.map LT.of) [] 0 with heq | ⟨g1, g2⟩
          · rw [heq] at hT
            rw [← hT]
            by_cases h5 : (writeP (turnP s.data.toList fr to_).1).2 ≠ 0
            · rw [if_pos h5]; exact turn_all s hs fr to_ hfz htz (write_len h1') (write_len h4') (by omega) hRe h1' h4' _ rfl h5 C cap2 blk3 off3 cap3 w he h2 h3 h3b
            · rw [if_neg h5]; exact turn_ok s hs fr to_ hfz htz (write_len h1') (write_len h4') (by omega) hRe h1' h4' (by omega) C cap2 blk3 off3 cap3 w he h2 h3 h3b
          · rw [← hT] at g1
            have w1 : writeP (turnP s.data.toList fr to_).1 = ([], 5) := by unfold writeP; rw [if_pos g1]
            have w2 : writeP (rtP fr to_ ts.length (ts.map LT.of) [] 0).1 = ([], 5) := by unfold writeP; rw [if_pos g2]
            rw [w2]
            exact turn_all s hs fr to_ hfz htz (write_len h1') (write_len h4') (by omega) hRe h1' h4' 5 (by rw [w1]) (by decide) C cap2 blk3 off3 cap3 w he h2 h3 h3b

def OwnIs2 (ts : List LT) (w w' : World) (e : Ending) : Prop := ∃ g c, e = .returned (.slice (some ⟨g, 0, none⟩) ts.length c) ∧ OwnLT w' w.heap.size (some ⟨g, 0, none⟩) c ts

set_option maxHeartbeats 1000000 in
theorem own_nil2 (w : World) : Calls Tryd.prog 33 #[.slice none 0 0] w fun e w' => OwnIs2 [] w w' e ∧ Below w.heap.size w w' := by
  have HO := Lib.hid (ownLT_empty w w.heap.size (Nat.le_refl _))
  obtain ⟨i0, hi0, hz0, hz1, hz2⟩ := info_parts lex_info
  go_enter Tryd.func33, Tryd.ntmps33
  go_wp2_with (at_builtin; refine wpList_append_own_none rfl _ _ 31 rfl w.heap.size 47 i0 3 Tryd.underlying31 hi0 _ 0 [] rfl HO.out rfl ?_)
  go_ret
  exact ⟨⟨_, _, rfl, HO.out⟩, (Below.refl _ _).alloc (Nat.le_refl _) _⟩

set_option maxHeartbeats 1000000 in
theorem own_empty2 (a : Addr) (cap : Nat) (w : World) : Calls Tryd.prog 33 #[.slice (some a) 0 cap] w fun e w' => OwnIs2 [] w w' e ∧ Below w.heap.size w w' := by
  have HO := Lib.hid (ownLT_empty w w.heap.size (Nat.le_refl _))
  obtain ⟨i0, hi0, hz0, hz1, hz2⟩ := info_parts lex_info
  go_enter Tryd.func33, Tryd.ntmps33
  go_wp2_with (at_builtin; refine wpList_append_own _ rfl _ _ 31 rfl w.heap.size 47 i0 _ 3 32 Tryd.underlying31 hi0 hz0 hz1 hz2 rfl (by decide) _ 0 [] rfl HO.out a 0 cap [] rfl rfl (fun j u h => by simp at h) (fun u h => by simp at h) (by simp [maxLen]) (by simp) (by simp) ?_; intro v' w2 hown2 hgrow2 hnil)
  go_ret
  have hf : ∃ g cap', v' = .slice (some ⟨g, 0, none⟩) 0 cap' := by
    rcases hown2.2 with ⟨hv, h0⟩ | ⟨g, cap', cur, hv, _⟩
    · have := (hnil.1 hv).1
      cases this
    · exact ⟨_, _, hv⟩
  obtain ⟨g, cap', rfl⟩ := hf
  refine ⟨⟨g, cap', rfl, hown2⟩, ?_⟩
  exact ((Below.refl _ _).alloc (Nat.le_refl _) _).grown hgrow2 (by simp) (fun j hj => (HO.out.lt j hj).1)

theorem own_any2 (ts : List LT) (hn : ts.length ≤ 100000) (A : Option Addr) (cap : Nat) (hA : A = none → cap = 0) (w : World) (ht : Arg w A ts) :
    Calls Tryd.prog 33 #[.slice A ts.length cap] w fun e w' => OwnIs2 ts w w' e ∧ Below w.heap.size w w' := by
  by_cases hne : ts = []
  · subst hne
    cases A with
    | none => rw [hA rfl]; exact own_nil2 w
    | some a => exact own_empty2 a cap w
  · obtain ⟨b1, o1, rfl, i1⟩ := ht.at_ hne
    refine (own_at ts hn b1 o1 cap w i1).mono ?_
    rintro e w' ⟨⟨A', c, rfl, ho⟩, hb⟩
    refine ⟨?_, hb⟩
    obtain ⟨g, c', hv, _, _⟩ := ho.form (List.length_pos_iff.2 hne)
    injection hv with h1 _ h3
    subst h1 h3
    exact ⟨g, c, rfl, ho⟩

theorem own_toks {w : World} {B g c : Nat} {ts : List LT} (h : OwnLT w B (some ⟨g, 0, none⟩) c ts) : ToksIn w g 0 ts ∧ g < w.heap.size := by
  refine ⟨fun i x hx => ?_, (h.lt g rfl).2⟩
  obtain ⟨blk, off, he, hin⟩ := h.arg.at_ (by intro e; subst e; simp at hx)
  injection he with he
  injection he with h1 h2
  subst h1 h2
  exact hin i x hx

set_option maxHeartbeats 2000000 in
theorem turns_far (s : ByteArray) (hm : s.size ≤ maxLen) (fr to_ : List LT) (hfm : fr.length ≤ maxLen) (hfz : ∀ x ∈ fr, x.text.size ≤ maxLen) (htm : to_.length ≤ maxLen) (htz : ∀ x ∈ to_, x.text.size ≤ maxLen) (h : 1200 < s.size ∨ vastP fr = true ∨ vastP to_ = true)
    (C : Option Addr) (cap2 : Nat) (D : Option Addr) (cap3 : Nat) (w : World) (he : Env w) (h2 : Arg w C fr) (h3 : Arg w D to_) :
    Calls Tryd.prog 8 #[.string s, .slice C fr.length cap2, .slice D to_.length cap3] w fun e w' => e = .returned (.bool true) ∧ Below w.heap.size w w' := by
  have hmi : (s.size : Int) ≤ 9223372036854775807 := by unfold maxLen at hm; omega
  have hv1 := vast_any fr hfm hfz C cap2 w h2
  have hv2 := vast_any to_ htm htz D cap3 w h3
  have HK := Lib.hid (fun W hE => known_any W hE)
  have HE := Lib.hid he
  clear he h2 h3 hfz htz
  by_cases h12 : 1200 < s.size
  · have h12' : (1200 : Int) < s.size := by omega
    clear hv1 hv2 h
    go_enter Tryd.func8, Tryd.ntmps8
    go_wp2_with fail
    refine (HK.out _ HE.out).mono ?_
    rintro e w1 ⟨rfl, hb⟩
    go_wp2
    go_ret
    exact ⟨rfl, hb⟩
  · have h12' : ¬ (1200 : Int) < s.size := by omega
    cases hq : vastP fr with
    | true =>
      rw [hq] at hv1
      have HV1 := Lib.hid hv1
      clear hv1 hv2 h hq
      go_enter Tryd.func8, Tryd.ntmps8
      go_wp2_with fail
      refine HV1.out.mono ?_
      rintro e w1 ⟨rfl, rfl⟩
      go_wp2_with fail
      refine (HK.out _ HE.out).mono ?_
      rintro e w1 ⟨rfl, hb⟩
      go_wp2
      go_ret
      exact ⟨rfl, hb⟩
    | false =>
      have hq2 : vastP to_ = true := by rcases h with h | h | h; exact absurd h h12; rw [hq] at h; cases h; exact h
      rw [hq] at hv1
      rw [hq2] at hv2
      have HV1 := Lib.hid hv1
      have HV2 := Lib.hid hv2
      clear hv1 hv2 h hq hq2
      go_enter Tryd.func8, Tryd.ntmps8
      go_wp2_with fail
      refine HV1.out.mono ?_
      rintro e w1 ⟨rfl, rfl⟩
      go_wp2_with fail
      refine HV2.out.mono ?_
      rintro e w1 ⟨rfl, rfl⟩
      go_wp2_with fail
      refine (HK.out _ HE.out).mono ?_
      rintro e w1 ⟨rfl, hb⟩
      go_wp2
      go_ret
      exact ⟨rfl, hb⟩

set_option maxRecDepth 100000 in
set_option maxHeartbeats 4000000 in
theorem turns_near (s : ByteArray) (hs : s.size ≤ 1200) (fr to_ : List LT) (hfm : fr.length ≤ maxLen) (hfz0 : ∀ x ∈ fr, x.text.size ≤ maxLen) (hfk : ∀ x ∈ fr, x.kind < 256) (htm : to_.length ≤ maxLen) (htz0 : ∀ x ∈ to_, x.text.size ≤ maxLen) (htk : ∀ x ∈ to_, x.kind < 256)
    (hq1 : vastP fr = false) (hq2 : vastP to_ = false) (C : Option Addr) (cap2 : Nat) (hC : C = none → cap2 = 0) (D : Option Addr) (cap3 : Nat) (hD : D = none → cap3 = 0) (w : World) (he : Env w) (h2 : Arg w C fr) (h3 : Arg w D to_) :
    Calls Tryd.prog 8 #[.string s, .slice C fr.length cap2, .slice D to_.length cap3] w fun e w' => e = .returned (.bool true) ∧ Below w.heap.size w w' := by
  have h12' : ¬ (1200 : Int) < s.size := by omega
  have hs0 : (s.size : Int) ≤ 1200 := by omega
  obtain ⟨_, hfn, hf60⟩ := vastP_false hq1
  obtain ⟨_, htn, ht60⟩ := vastP_false hq2
  have hfz : ∀ x ∈ fr, x.text.size ≤ 2500 := fun x hx => by have := hf60 x hx; omega
  have htz : ∀ x ∈ to_, x.text.size ≤ 2500 := fun x hx => by have := ht60 x hx; omega
  have hv1 := vast_any fr hfm hfz0 C cap2 w h2
  have hv2 := vast_any to_ htm htz0 D cap3 w h3
  rw [hq1] at hv1
  rw [hq2] at hv2
  have how1 := fun W hT => own_any2 fr (by omega) C cap2 hC W hT
  have how2 := fun W hT => own_any2 to_ (by omega) D cap3 hD W hT
  have hlt := fun C' c2 b3 o3 c3 W hE hA hT hB => lexTurn_any s (by omega) fr to_ hfz (by omega) htz (by omega) C' c2 b3 o3 c3 W hE hA hT hB
  have hrt := fun W hA hB => refTurn_any s (by omega) fr to_ hfz hfk (by omega) htz htk (by omega) C cap2 D cap3 hD W hA hB
  have hs1 := fun A1 c1 A2 c2 W h1 h2 => same_any fr (by omega) A1 A2 c1 c2 W h1 h2
  have hs2 := fun A1 c1 A2 c2 W h1 h2 => same_any to_ (by omega) A1 A2 c1 c2 W h1 h2
  generalize turnR s.data.toList fr to_ = R at hlt hrt
  unfold turnVal at hlt hrt
  generalize (⟨R.1.toArray⟩ : ByteArray) = X at hlt hrt
  generalize R.2.1 = mm at hlt hrt
  generalize R.2.2 = er at hlt hrt
  have HV1 := Lib.hid hv1
  have HV2 := Lib.hid hv2
  have HW1 := Lib.hid how1
  have HW2 := Lib.hid how2
  have HLT := Lib.hid hlt
  have HRT := Lib.hid hrt
  have HS1 := Lib.hid hs1
  have HS2 := Lib.hid hs2
  have HK := Lib.hid (fun W hE => known_any W hE)
  have HE := Lib.hid he
  have H2 := Lib.hid h2
  have H3 := Lib.hid h3
  clear he h2 h3 hfz htz hfz0 htz0 hv1 hv2 how1 how2 hlt hrt hs1 hs2 hf60 ht60 hfk htk hq1 hq2 hC hD
  go_enter Tryd.func8, Tryd.ntmps8
  go_wp2_with fail
  refine HV1.out.mono ?_
  rintro e w1 ⟨rfl, rfl⟩
  go_wp2_with fail
  refine HV2.out.mono ?_
  rintro e w1 ⟨rfl, rfl⟩
  go_wp2_with fail
  refine (HW1.out _ H2.out).mono ?_
  rintro e w1 ⟨⟨g1, c1, rfl, ho1⟩, hb1⟩
  have HE1 := Lib.hid (HE.out.below hb1 HE.out.lt)
  have ha1 := ho1.arg
  clear ho1
  go_wp2_with fail
  refine (HW2.out _ (H3.out.below hb1)).mono ?_
  rintro e w2 ⟨⟨g2, c2, rfl, ho2⟩, hb2⟩
  have HE2 := Lib.hid (HE1.out.below hb2 HE1.out.lt)
  have hB2 := hb1.trans (hb2.mono hb1.size)
  have HA2 := Lib.hid (ha1.below hb2)
  obtain ⟨hy2, hg2⟩ := own_toks ho2
  have HY2 := Lib.hid hy2
  have HYA := Lib.hid ho2.arg
  clear ha1 ho2 hy2 hb1 hb2 HE HE1
  go_wp2_with fail
  refine (HLT.out _ _ _ _ _ _ HE2.out HA2.out HY2.out hg2).mono ?_
  rintro e w3 ⟨rfl, hb3⟩
  have HE3 := Lib.hid (HE2.out.below hb3 HE2.out.lt)
  have hB3 := hB2.trans (hb3.mono hB2.size)
  have HA3 := Lib.hid (HA2.out.below hb3)
  have HYA3 := Lib.hid (HYA.out.below hb3)
  clear HA2 HYA HE2 hb3
  go_wp2_with fail
  refine (HRT.out _ (H2.out.below hB3) (H3.out.below hB3)).mono ?_
  rintro e w4 ⟨rfl, hb4⟩
  have HE4 := Lib.hid (HE3.out.below hb4 HE3.out.lt)
  have hB4 := hB3.trans (hb4.mono hB3.size)
  have HA4 := Lib.hid (HA3.out.below hb4)
  have HYA4 := Lib.hid (HYA3.out.below hb4)
  clear HA3 HYA3 HE3 hb4
  go_wp2_with fail
  refine (HS1.out _ _ _ _ _ HA4.out (H2.out.below hB4)).mono ?_
  rintro e w5 ⟨rfl, hb5⟩
  have HE5 := Lib.hid (HE4.out.below hb5 HE4.out.lt)
  have hB5 := hB4.trans (hb5.mono hB4.size)
  have HYA5 := Lib.hid (HYA4.out.below hb5)
  clear HA4 HYA4 HE4 hb5
  go_wp2_with fail
  refine (HS2.out _ _ _ _ _ HYA5.out (H3.out.below hB5)).mono ?_
  rintro e w6 ⟨rfl, hb6⟩
  have HE6 := Lib.hid (HE5.out.below hb6 HE5.out.lt)
  have hB6 := hB5.trans (hb6.mono hB5.size)
  clear HYA5 HE5 hb6
  go_wp2_with fail
  refine (HK.out _ HE6.out).mono ?_
  rintro e w7 ⟨rfl, hb7⟩
  go_wp2
  go_ret
  exact ⟨rfl, hB6.trans (hb7.mono hB6.size)⟩

theorem turns_any (s : ByteArray) (hm : s.size ≤ maxLen) (fr to_ : List LT) (hfm : fr.length ≤ maxLen) (hfz : ∀ x ∈ fr, x.text.size ≤ maxLen) (hfk : ∀ x ∈ fr, x.kind < 256) (htm : to_.length ≤ maxLen) (htz : ∀ x ∈ to_, x.text.size ≤ maxLen) (htk : ∀ x ∈ to_, x.kind < 256)
    (C : Option Addr) (cap2 : Nat) (hC : C = none → cap2 = 0) (D : Option Addr) (cap3 : Nat) (hD : D = none → cap3 = 0) (w : World) (he : Env w) (h2 : Arg w C fr) (h3 : Arg w D to_) :
    Calls Tryd.prog 8 #[.string s, .slice C fr.length cap2, .slice D to_.length cap3] w fun e w' => e = .returned (.bool true) ∧ Below w.heap.size w w' := by
  by_cases h : 1200 < s.size ∨ vastP fr = true ∨ vastP to_ = true
  · exact turns_far s hm fr to_ hfm hfz htm htz h C cap2 D cap3 w he h2 h3
  · have hq1 : vastP fr = false := by cases hh : vastP fr with | false => rfl | true => exact absurd (.inr (.inl hh)) h
    have hq2 : vastP to_ = false := by cases hh : vastP to_ with | false => rfl | true => exact absurd (.inr (.inr hh)) h
    have hs : s.size ≤ 1200 := by
      rcases Nat.lt_or_ge 1200 s.size with hh | hh
      · exact absurd (.inl hh) h
      · exact hh
    exact turns_near s hs fr to_ hfm hfz hfk htm htz htk hq1 hq2 C cap2 hC D cap3 hD w he h2 h3

end Go.Proofs.YtkhgmoljhehbnaaDoor
