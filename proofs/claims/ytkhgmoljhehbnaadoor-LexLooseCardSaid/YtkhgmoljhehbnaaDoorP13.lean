/- LexLoose, proved: whatever text and bytes it is given, it returns true; and its tied card. No condition. -/
import Derived.Test.YtkhgmoljhehbnaaDoorN4
import Derived.Test.YtkhgmoljhehbnaaDoorP2
import Derived.Test.YtkhgmoljhehbnaaDoorTie
import Derived.Test.YtkhgmoljhehbnaaDoorCards
import Derived.SevenTiedAt
import Derived.Deep.RegionWith
import Derived.Deep.QuietTactic
import Derived.BigQuiet
import Derived.Deep.RegionLaw
namespace Go.Proofs.YtkhgmoljhehbnaaDoor
open Go.RowKit

set_option maxHeartbeats 1000000 in
theorem loose_far (s : ByteArray) (hs : s.size ≤ 281474976710656) (h : 1200 < s.size ∨ (Lx.read s.data.toList).e ≠ 0) (pick gap : Nat) (w : World) (he : Env w) :
    Calls Tryd.prog 10 #[.string s, .int .u8 pick, .int .u8 gap] w fun e w' => e = .returned (.bool true) ∧ Below w.heap.size w w' := by
  have hmi : (s.size : Int) ≤ 281474976710656 := by omega
  have hrd := fun W hE => lexRead_any s hs W hE
  generalize Lx.read s.data.toList = R at hrd h
  have HRD := Lib.hid hrd
  have HK := Lib.hid (fun W hE => known_any W hE)
  have HE := Lib.hid he
  clear he hrd
  by_cases h12 : 1200 < s.size
  all_goals
    first
    | have h12' : (1200 : Int) < s.size := by omega
      clear h h12
    | have h12' : ¬ (1200 : Int) < s.size := by omega
      have her : R.e ≠ 0 := by rcases h with h | h; exact absurd h h12; exact h
      have herb : ((R.e : Int) == 0) = false := by rw [beq_eq_false_iff_ne]; omega
      have herb2 : ((R.e : Int) != 0) = true := by rw [bne, herb]; rfl
      clear h h12 her
    go_enter Tryd.func10, Tryd.ntmps10
    go_wp2_with fail
    refine (HRD.out _ HE.out).mono ?_
    rintro e w1 ⟨⟨A, cap, rfl, ho1⟩, hb1⟩
    have HE1 := Lib.hid (HE.out.below hb1 HE.out.lt)
    clear ho1 HE
    go_wp2_with fail
    refine (HK.out _ HE1.out).mono ?_
    rintro e w5 ⟨rfl, hb5⟩
    go_wp2
    go_ret
    exact ⟨rfl, hb1.trans (hb5.mono hb1.size)⟩

theorem below_drewN_u {B : Nat} {w w' : World} (h : Below B w w') (n : Nat) : Below B w (w'.drewN n) := by
  induction n with
  | zero => exact h
  | succ n ih => exact ih.drew

/-- append of whole numbers inside of a region that draws its order -/
theorem step_append_ints {w : World} {ops : Array Oper} {o : Oper} {a : Act} {K : Act → World → Prop} {Q : Exit → Act → World → Prop} {E : Prop} (hgd : o.guard = none) (x y : Operand)
    (ho : o.op = .call { callee := .builtin .append, args := #[x, y], argTypes := #[63, 63] }) (base : Nat) (A : Option Addr) (cap : Nat) (ls m : List Nat) (b : Nat) (hm0 : 0 < m.length)
    (hx : a.eval x = .slice A ls.length cap) (hy : a.eval y = .slice (some ⟨b, 0, none⟩) m.length m.length) (hown : OwnInts w base A cap ls) (h0 : ∀ (i n : Nat), m[i]? = some n → w.cell? ⟨b, i, none⟩ = some (.int .i64 n)) (hts : ls.length + m.length ≤ 10000000) (hbase : base ≤ w.heap.size)
    (h : ∀ A' cap' w', OwnInts w' base A' cap' (ls ++ m) → w.grownBy w' (Value.slice A ls.length cap).ownBlock → K (a.put o.dst (.slice A' (ls ++ m).length cap')) w') :
    if Region.wanted o (yielded ops a.tmps) = true then Oper.wp Tryd.prog o a w K Q else E := by
  have hw : Region.wanted o (yielded ops a.tmps) = true := by simp [Region.wanted, hgd]
  rw [if_pos hw]
  obtain ⟨i0, hi0, hz0, hz1, hz2⟩ := info_parts int_info
  refine wp_append_own w x y 63 ho base 3 i0 _ 1 8 Tryd.underlying63 hi0 hz0 hz1 hz2 rfl (by decide) _ ls.length (ls.map (fun n : Nat => Value.int .i64 (n : Int))) hx hown ⟨b, 0, none⟩ m.length m.length (m.map (fun n : Nat => Value.int .i64 (n : Int))) hy (by simp) ?_ ?_ (by simp only [maxLen]; omega) (by omega) hbase ?_
  · intro k u hk
    rw [List.getElem?_map] at hk
    obtain ⟨n, hn, rfl⟩ := Option.map_eq_some_iff.1 hk
    rw [add_eq, Nat.zero_add]; exact h0 k n hn
  · intro u hu
    obtain ⟨n, _, rfl⟩ := List.mem_map.1 hu
    rfl
  · intro v' w' h2 h3 _
    obtain ⟨g, cap', hv, _, _⟩ := h2.form (by omega)
    subst hv
    have := h (some ⟨g, 0, none⟩) cap' w' (by unfold OwnInts; rw [List.map_append, List.length_append]; exact h2) h3
    rwa [List.length_append] at this

/-- the edges of tokens, and the text's beginning -/
def EdgeIn (ts : List LT) (n : Nat) : Prop := n = 0 ∨ ∃ t ∈ ts, (n : Int) = t.at_ ∨ (n : Int) = t.at_ + t.text.size

theorem ownInts_one (w : World) (base n : Nat) (h : base ≤ w.heap.size) : OwnInts (w.alloc (.cells #[.int .i64 n] 3)) base (some ⟨w.heap.size, 0, none⟩) 1 [n] :=
  ⟨by simp, .inr ⟨w.heap.size, 1, #[.int .i64 n], rfl, h, heap_alloc_new w _, Nat.le_refl _, by decide, rfl, by simp⟩⟩

set_option maxRecDepth 100000 in
set_option maxHeartbeats 4000000 in
theorem loose_ok (s : ByteArray) (hs : s.size ≤ 1200) (ts : List Lx.Tok) (gs : List (Nat × Nat)) (hR : Lx.read s.data.toList = .ok ts gs) (pick gap : Nat) (hpk : pick < 256) (hgp : gap < 256) (w : World) (he : Env w) :
    Calls Tryd.prog 10 #[.string s, .int .u8 pick, .int .u8 gap] w fun e w' => e = .returned (.bool true) ∧ Below w.heap.size w w' := by
  have hs' : ¬ (1200 : Int) < s.size := by omega
  have hs0 : (s.size : Int) ≤ 1200 := by omega
  have hrd := fun W hE => lexRead_any s (by omega) W hE
  have hn9 := (read_small s.data.toList).2
  rw [hR] at hrd hn9
  have hn9' : ts.length ≤ 900 := hn9
  have hend := okBytes_read hR
  rw [← Lib.size_eq] at hend
  obtain ⟨L, hL⟩ : ∃ L : List LT, L = ts.map LT.of := ⟨_, rfl⟩
  have hLn : L.length ≤ 900 := by rw [hL, List.length_map]; exact hn9'
  have hLt : ∀ (k : Nat) y, L[k]? = some y → ∃ a : Nat, y.at_ = a ∧ a + y.text.size ≤ s.size := by
    intro k y hy
    rw [hL] at hy
    obtain ⟨t, ht, rfl⟩ := of_get_u hy
    exact ⟨t.at_, rfl, by have := hend t (List.mem_of_getElem? ht); rw [Lib.size_eq, of_data]; exact this⟩
  -- the text with one gap more
  have hput : ∀ (g : Lx.B) (n : Nat), g ∈ Lx.moreTexts → EdgeIn L n → n ≤ s.size ∧ ∀ W, Env W → Calls Tryd.prog 19 #[.string (s.extract 0 n ++ ⟨g.toArray⟩ ++ s.extract n s.size)] W fun e w' => (∃ A xs cap, e = .returned (.tuple #[.slice A (xs : List LT).length cap, .int .i64 0, .int .i64 0]) ∧ xs.length ≤ 900 ∧ Arg w' A xs ∧ eqL xs L = true) ∧ Below W.heap.size W w' := by
    intro g n hg hn
    have hn2 : n = 0 ∨ ∃ t ∈ ts, n = t.at_ ∨ n = t.at_ + t.text.length := by
      rcases hn with h | ⟨y, hy, h⟩
      · exact .inl h
      · rw [hL] at hy
        obtain ⟨t, ht, rfl⟩ := List.mem_map.1 hy
        refine .inr ⟨t, ht, ?_⟩
        have e1 : (LT.of t).at_ = (t.at_ : Int) := rfl
        have e2 : (LT.of t).text.size = t.text.length := by rw [Lib.size_eq, of_data]
        rw [e1, e2] at h
        omega
    obtain ⟨h1, pl, gs', h2, h3⟩ := read_put hR (by rw [← Lib.size_eq]; exact hs) g hg n hn2
    rw [← Lib.size_eq] at h1
    refine ⟨h1, fun W hE => ?_⟩
    have hd : (s.extract 0 n ++ ⟨g.toArray⟩ ++ s.extract n s.size).data.toList = s.data.toList.take n ++ (g ++ s.data.toList.drop n) := by
      rw [append_data, append_data, Lib.extract_from_zero]
      have := extract_take s n (s.size - n)
      rw [show n + (s.size - n) = s.size by omega] at this
      have e : (s.data.toList.drop n).take (s.size - n) = s.data.toList.drop n := List.take_of_length_le (by rw [List.length_drop, ← Lib.size_eq]; omega)
      rw [this, e]
      simp
    have hz : (s.extract 0 n ++ ⟨g.toArray⟩ ++ s.extract n s.size).size ≤ 281474976710656 := by
      have h4 := (Lx.more_okBytes g hg).2.1
      rw [Lib.size_eq, hd]
      simp only [List.length_append, List.length_take, List.length_drop, ← Lib.size_eq]
      omega
    refine (lexRead_any _ hz W hE).mono ?_
    rintro e w' ⟨⟨A, cap, rfl, ho⟩, hb⟩
    have hn := (read_small (s.extract 0 n ++ ⟨g.toArray⟩ ++ s.extract n s.size).data.toList).2
    rw [hd, h2] at ho hn ⊢
    exact ⟨⟨A, pl.map LT.of, cap, by rw [List.length_map]; rfl, by rw [List.length_map]; exact hn, (OwnLT.of ho).arg, by rw [hL]; exact (eqL_sim _ _).2 h3⟩, hb⟩
  have hal := fun (xs : List LT) (hn : xs.length ≤ 900) (hq : eqL xs L = true) A C c1 c2 W h1 h2 => (lawAlike_any xs L (by omega) A C c1 c2 W h1 h2).mono (R' := fun e w' => e = .returned (.bool true) ∧ Below W.heap.size W w') (by rw [hq]; exact fun _ _ h => h)
  have hlen : ts.length = L.length := by rw [hL, List.length_map]
  have hown : ∀ (w1 : World) (A : Option Addr) (cap : Nat), OwnToks w1 w.heap.size A cap ts → OwnLT w1 w.heap.size A cap L := fun w1 A cap h => by rw [hL]; exact OwnLT.of h
  obtain ⟨g, hg⟩ : ∃ g, Lx.moreTexts[gap % 5]? = some g := ⟨_, List.getElem?_eq_getElem (show gap % 5 < Lx.moreTexts.length from Nat.mod_lt _ (by decide))⟩
  have hgm := List.mem_of_getElem? hg
  have hgz : (⟨g.toArray⟩ : ByteArray).size ≤ 9 := by rw [Lib.size_eq]; exact (Lx.more_okBytes g hgm).2.1
  have HRD := Lib.hid hrd
  have HLT := Lib.hid hLt
  have HPUT := Lib.hid (fun n hn => hput g n hgm hn)
  have HAL := Lib.hid hal
  have HLEN := Lib.hid hlen
  have HOWN := Lib.hid hown
  have HG := Lib.hid hg
  have HK := Lib.hid (fun W hE => known_any W hE)
  have HE := Lib.hid he
  have hgI : (gap : Int) < 256 := by omega
  clear he hrd hR hn9 hn9' hend hL hLt hput hal hlen hown hg hgm
  go_enter Tryd.func10, Tryd.ntmps10
  go_wp2_with fail
  refine (HRD.out _ HE.out).mono ?_
  rintro e w1 ⟨⟨A, cap, rfl, ho1⟩, hb1⟩
  have HE1 := Lib.hid (HE.out.below hb1 HE.out.lt)
  have HO1 := Lib.hid (HOWN.out _ _ _ ho1)
  have hl9 : ts.length ≤ 900 := by rw [HLEN.out]; exact hLn
  simp only [Lx.Res.ts, Lx.Res.at_, Lx.Res.e, HLEN.out]
  clear HE HRD HOWN ho1
  have z := lit_get Lx.moreTexts (#[.string ⟨#[32]⟩, .string ⟨#[10]⟩, .string ⟨#[126, 32, 97, 10]⟩, .string ⟨#[32, 10, 32]⟩, .string ⟨#[10, 126, 32, 100, 101, 102, 32, 40, 10]⟩] : Array Value) rfl w1 _ rfl (gap % 5) g HG.out
  have hi0 := ownInts_one (w1.alloc (.cells (#[.string ⟨#[32]⟩, .string ⟨#[10]⟩, .string ⟨#[126, 32, 97, 10]⟩, .string ⟨#[32, 10, 32]⟩, .string ⟨#[10, 126, 32, 100, 101, 102, 32, 40, 10]⟩] : Array Value) 9)) w1.heap.size 0 (by simp)
  simp only [World.size_alloc] at hi0
  have HI0 := Lib.hid hi0
  have HB0 := Lib.hid (((Below.refl _ w1).alloc (Nat.le_refl _) (.cells (#[.string ⟨#[32]⟩, .string ⟨#[10]⟩, .string ⟨#[126, 32, 97, 10]⟩, .string ⟨#[32, 10, 32]⟩, .string ⟨#[10, 126, 32, 100, 101, 102, 32, 40, 10]⟩] : Array Value) 9)).alloc (by simp) (.cells #[.int .i64 0] 3))
  clear hi0
  go_wp2_with fail
  go_loopw [11, 12] (fun vp vi wr => ∃ (k : Nat) (ls : List Nat) (A5 : Option Addr) (cap5 : Nat), k ≤ L.length ∧ ls.length = 2 * k + 1 ∧ vi = .int .i64 k ∧ vp = .slice A5 ls.length cap5 ∧ Hid (∀ n ∈ ls, EdgeIn L n) ∧ Hid (OwnInts wr w1.heap.size A5 cap5 ls) ∧ Below w1.heap.size w1 wr) (fun _ vi _ => L.length - (intOf vi).toNat)
  case atStart => exact ⟨0, [0], _, 1, Nat.zero_le _, rfl, rfl, rfl, Lib.hid (fun n hn => by rw [List.mem_singleton] at hn; exact .inl hn), HI0, HB0.out⟩
  case round =>
    clear z
    obtain ⟨k, ls, A5, cap5, hk, hlk, rfl, rfl, HLS, HOI, hbr⟩ := hrel
    have hzr := hbr.size
    have HLK := Lib.hid hlk
    have hl18 : ls.length ≤ 1801 := by omega
    clear hlk
    by_cases hlt : k < L.length
    · have hlt' : (k : Int) < L.length := by omega
      have hk0 : (0 : Int) ≤ k := by omega
      obtain ⟨y, hy⟩ : ∃ y, L[k]? = some y := ⟨_, List.getElem?_eq_getElem hlt⟩
      obtain ⟨a, ha, hae⟩ := HLT.out k y hy
      obtain ⟨b, o, rfl, hin⟩ := (HO1.out.below hbr).arg.at_ (fun e => by rw [e] at hlt; simp at hlt)
      obtain ⟨x0, x1, x2⟩ := hin k y hy
      rw [ha] at x2
      obtain ⟨q, hq⟩ : ∃ q, q = a + y.text.size := ⟨_, rfl⟩
      have hd : decide ((a : Int) < 0) = false := decide_eq_false (by omega)
      have hq1 : (a : Int) + (y.text.size : Int) = (q : Int) := by omega
      have hq2 : IntKind.i64.wrap (q : Int) = (q : Int) := by rw [IntKind.wrap_i64]; omega
      have hq3 : decide ((s.size : Int) < (q : Int)) = false := decide_eq_false (by omega)
      have hq4 : ¬ (s.size : Int) < (q : Int) := by omega
      have HN : Hid (∀ n ∈ ls ++ [a, q], EdgeIn L n) := by
        show ∀ n ∈ ls ++ [a, q], _
        intro n hn
        have hm := List.mem_of_getElem? hy
        rcases List.mem_append.1 hn with h | h
        · exact HLS.out n h
        · simp at h
          rcases h with rfl | rfl
          · exact .inr ⟨y, hm, .inl ha.symm⟩
          · exact .inr ⟨y, hm, .inr (by rw [ha]; exact hq1.symm)⟩
      clear hin hy ha hq hae
      go_wp2_with fail
      go_quiet (fail)
      go_wp2_with fail
      generalize hWN : wr.drewN _ = W at *
      have hbW : Below wr.heap.size wr W := by rw [← hWN]; exact below_drewN_u (Below.refl _ _) _
      have hzW := hbW.size
      have y1 := ((bcell hbW).1 _ _ (lt_of_cell x1)).trans x1
      have y2 := ((bcell hbW).1 _ _ (lt_of_cell x2)).trans x2
      have HOW := Lib.hid (ownInts_below HOI.out hbW)
      have hbR := hbr.trans (hbW.mono hzr)
      clear x0 x1 x2 hWN hbW HOI hbr
      go_region_law (go_loud (refine step_append_ints rfl _ _ rfl w1.heap.size A5 cap5 ls [a, q] W.heap.size (by simp) rfl rfl (World.ownsRow.drew (ownInts_below HOW.out ((Below.refl _ _).alloc (Nat.le_refl _) _))) (fun i n hi => by (rcases i with _ | _ | i <;> simp at hi <;> subst hi <;> simp)) (by simp; omega) (by simp; omega) ?_; intro A' cap' w3 hown3 hgrow3))
      all_goals
        go_wp2_with fail
        go_roundw
        case rel =>
          refine ⟨k + 1, ls ++ [a, q], A', cap', hlt, by have := HLK.out; simp; omega, by go_num, by simp, HN, Lib.hid hown3, ?_⟩
          exact ((hbR.alloc hbR.size _).drew).grown hgrow3 (by simp; have := hbR.size; omega) (fun j hj => (HOW.out.lt j hj).1)
        case measure => simp [intOf]; omega
    · have hlt' : ¬ (k : Int) < L.length := by omega
      have hBr := hb1.trans (hbr.mono hb1.size)
      have HEr := Lib.hid (HE1.out.below hbr HE1.out.lt)
      have HOr := Lib.hid (HO1.out.below hbr)
      have hpos : 0 < ls.length := by have := HLK.out; omega
      obtain ⟨q, hq⟩ : ∃ q, q = pick % ls.length := ⟨_, rfl⟩
      have hqm : (pick : Int) % (ls.length : Int) = (q : Int) := by rw [hq]; omega
      have hlz : ((ls.length : Int) == 0) = false := by rw [beq_eq_false_iff_ne]; omega
      have hlz2 : ¬ (ls.length : Int) = 0 := by omega
      have hql : q < ls.length := by rw [hq]; exact Nat.mod_lt _ hpos
      obtain ⟨n, hn⟩ : ∃ n, ls[q]? = some n := ⟨_, List.getElem?_eq_getElem hql⟩
      obtain ⟨hnS, hcall⟩ := HPUT.out n (HLS.out n (List.mem_of_getElem? hn))
      obtain ⟨g5, hg5, hc5⟩ := ownInts_get HOI.out hn
      subst hg5
      have hqI : (q : Int) < ls.length := by omega
      have hq0 : (0 : Int) ≤ q := by omega
      have hn0 : (0 : Int) ≤ n := by omega
      have hn1 : (n : Int) ≤ s.size := by omega
      have hpkI : (pick : Int) < 256 := by omega
      have HT := Lib.hid hcall
      have hz1 : (s.extract 0 n).size + (⟨g.toArray⟩ : ByteArray).size ≤ 281474976710656 := by rw [ByteArray.size_extract]; omega
      have hz2 : (s.extract 0 n ++ ⟨g.toArray⟩).size + (s.extract n s.size).size ≤ 281474976710656 := by rw [ByteArray.size_append, ByteArray.size_extract, ByteArray.size_extract]; omega
      have hgl : g.length ≤ 9 := by rw [Lib.size_eq] at hgz; exact hgz
      have hz3 : ¬ 9223372036854775807 < min n s.size + g.length := by omega
      have hz4 : ¬ 9223372036854775807 < min n s.size + g.length + (s.size - n) := by omega
      clear hq hn hcall HLS HOI HPUT HO1 HLT hbr
      go_wp2_with fail
      go_region_with (go_at_call 19; refine (HT.out _ (HEr.out.below (Below.refl _ _).drew HEr.out.lt)).mono ?_; rintro e w9 ⟨⟨A9, xs9, cap9, rfl, hn9, ha9, hq9⟩, hb9⟩)
      have hB9 : Below w.heap.size w w9 := hBr.drew.trans (hb9.mono (by simp; exact hBr.size))
      have HE9 := Lib.hid (HEr.out.below ((Below.refl _ _).drew.trans hb9) HEr.out.lt)
      have HO9 := Lib.hid (HOr.out.below ((Below.refl _ _).drew.trans hb9))
      have HA9 := Lib.hid ha9
      have HQ9 := Lib.hid hq9
      clear hb9 HEr HOr HT ha9 hq9
      go_wp2_with fail
      refine (HAL.out xs9 hn9 HQ9.out _ _ _ _ _ HA9.out HO9.out.arg).mono ?_
      rintro e w10 ⟨rfl, hb10⟩
      have hB10 := hB9.trans (hb10.mono hB9.size)
      have HE10 := Lib.hid (HE9.out.below hb10 HE9.out.lt)
      go_wp2_with fail
      refine (HK.out _ HE10.out).mono ?_
      rintro e w11 ⟨rfl, hb11⟩
      go_wp2
      go_ret
      exact ⟨rfl, hB10.trans (hb11.mono hB10.size)⟩

theorem loose_any (s : ByteArray) (hs : s.size ≤ 281474976710656) (pick gap : Nat) (hpk : pick < 256) (hgp : gap < 256) (w : World) (he : Env w) :
    Calls Tryd.prog 10 #[.string s, .int .u8 pick, .int .u8 gap] w fun e w' => e = .returned (.bool true) ∧ Below w.heap.size w w' := by
  by_cases h : 1200 < s.size
  · exact loose_far s hs (.inl h) pick gap w he
  · cases hR : Lx.read s.data.toList with
    | bad k er => exact loose_far s hs (.inr (by rw [hR]; exact read_e _ k er hR)) pick gap w he
    | ok ts gs => exact loose_ok s (by omega) ts gs hR pick gap hpk hgp w he

end Go.Proofs.YtkhgmoljhehbnaaDoor

namespace Go.Proofs.YtkhgmoljhehbnaaDoor
open Go.ChangeShapes Go.WideShapes Go.ChangeAt Go.RowKit

theorem loose_door (os : Os) (args : Array Value) : laidMetH Tryd.prog Rows.lexLooseRow.laid ((World.doorLaid Tryd.prog 400 os).forCall (fun _ _ => 0) ⟨#[], args, []⟩).memory :=
  laidMetH_of_parts3 (fuel := 8) (laidMet_of_run' 8 (by kernel_rfl) (by kernel_rfl)) (by kernel_rfl) (by kernel_rfl)
theorem loose_env {W : World} (h : laidMetH Tryd.prog Rows.lexLooseRow.laid W) : Env W := kinds_env h

set_option maxRecDepth 100000 in
theorem loose_lifted (os : Os) (started : os.Started) (H : Type) (enc : TypeId × Value → H) :
    ReturnsInHanded {} Tryd.checked os 10 .any (fun w args => (Rows.lexLooseSpec.pre enc Tryd.prog Tryd.f10 [] false w args ∧ laidMetH Tryd.prog Rows.lexLooseRow.laid w) ∧ sizedMet enc Tryd.prog Tryd.f10 (OpenSpec.ofChange Rows.lexLooseSpec) false w args)
      (Rows.lexLooseSpec.post enc Tryd.prog Tryd.f10 false true false false) := by
  refine returnsInHanded_of_change_and (C := Tryd.checked) (X := fun w _ => laidMetH Tryd.prog Rows.lexLooseRow.laid w) (fun _ _ _ hh h => h.of_heap hh) own_knob started (by kernel_rfl) Tryd.func10
    (ChangeSpec.witness_shaped (enc := enc) (C := Tryd.checked) (os := os) (X := fun w _ => laidMetH Tryd.prog Rows.lexLooseRow.laid w) false (World.doorLaid Tryd.prog 400 os) #[.string ⟨#[]⟩, .int .u8 0, .int .u8 0] 8 rfl (World.shaped_of_RefB (by kernel_rfl) (by kernel_rfl)) (by kernel_rfl) (by kernel_rfl) (by kernel_rfl) (loose_door os _)) ?_
  intro W base args ds gs before hval0 hW _ hwt hL _
  have hval : ∀ (j : Nat) t v, Tryd.f10.params[j]? = some t → args[j]? = some v → Value.okWide Tryd.prog W .any base t v := hval0
  have hW' := hW
  obtain ⟨p, q, hA0, hV, rfl, hfz, hnd⟩ := hW
  have hA : DataW.TrodAll enc Tryd.prog W 0 (fun _ => true) true Tryd.f10.params.toList args.toList ds p := hA0
  rw [Tryd.params10] at hA hval
  obtain ⟨v0, v1, v2, d0, d1, d2, p0, p1, p2, rfl, rfl, rfl, h0, h1, h2⟩ := trodAll_three hA
  obtain ⟨rfl, rfl⟩ := trodVars_none hV
  obtain ⟨n, rfl⟩ := okWide_int Tryd.underlying5 (hval 1 5 v1 rfl rfl)
  obtain ⟨f1, hf1⟩ := h1
  obtain ⟨n', e1, e2, wn⟩ := DataW.trod_int Tryd.underlying5 hf1
  simp only [Value.cells] at e1
  injection e1 with e1 _
  injection e1 with _ e1
  subst e1
  injection e2 with e2 e3
  subst e2 e3
  have rn : 0 ≤ n ∧ n < 256 := by have h1 : IntKind.u8.min = 0 := rfl; have h2 : IntKind.u8.max = 255 := rfl; simp [Lit.wf] at wn; omega
  obtain ⟨nn, rfl⟩ : ∃ m : Nat, n = m := ⟨n.toNat, by omega⟩
  obtain ⟨m, rfl⟩ := okWide_int Tryd.underlying5 (hval 2 5 v2 rfl rfl)
  obtain ⟨f2, hf2⟩ := h2
  obtain ⟨m', e1, e2, wm⟩ := DataW.trod_int Tryd.underlying5 hf2
  simp only [Value.cells] at e1
  injection e1 with e1 _
  injection e1 with _ e1
  subst e1
  injection e2 with e2 e3
  subst e2 e3
  have rm : 0 ≤ m ∧ m < 256 := by have h1 : IntKind.u8.min = 0 := rfl; have h2 : IntKind.u8.max = 255 := rfl; simp [Lit.wf] at wm; omega
  obtain ⟨mm, rfl⟩ : ∃ k : Nat, m = k := ⟨m.toNat, by omega⟩
  obtain ⟨s, rfl, rfl, rfl, hs⟩ := ChangeMaps.open_string Tryd.underlying9 (hval 0 9 v0 rfl rfl) h0
  clear hA0 hval0 hA hV
  simp only [List.append_nil] at hW'
  have hs48 : s.size ≤ 281474976710656 := by
    have hp : Tryd.f10.params.toList = [9, 5, 5] := by rw [Tryd.params10]
    have hv : Rows.lexLooseSpec.plain.varTypes Tryd.checked.prog = [] := rfl
    rw [hp, hv] at hwt
    simp [DataW.weightsEach, DataW.weights, reachBytes] at hwt
    have h2 : s.size ≤ 140737488351232 := of_decide_eq_true hwt
    omega
  refine (loose_any s hs48 nn mm (by omega) (by omega) W (loose_env hL)).mono fun e W' ⟨he, hb⟩ => ?_
  subst he
  refine ⟨_, rfl, post_plain (ds := [.lit (.string s.data.toList), .lit (.int .u8 nn), .lit (.int .u8 mm)]) (gs := []) (by simpa using hW') (fun _ _ _ => trodAll_mk1 (shut_bool Tryd.underlying4 _)) (fun sp => ?_) (fun _ => rfl) hb (ok_one (by kernel_rfl) rfl (okWide_bool_mk Tryd.underlying4 _))⟩
  exact trodAll_mk3 (p := []) (p' := []) (p'' := []) (ChangeMaps.shut_string (enc := enc) (w := W') (base := 0) (sp := sp) (held := true) Tryd.underlying9 hs) ⟨_, trod_int_mk 0 Tryd.underlying5 wn⟩ ⟨_, trod_int_mk 0 Tryd.underlying5 wm⟩

theorem lexLoose_holds : Rows.LexLooseSaid :=
  OpenClaim.holds_of_wide 10 Tryd.f10 rfl rfl rfl rfl rfl rfl rfl ⟨rfl, rfl, rfl, rfl, rfl⟩ rfl rfl rfl rfl rfl (by kernel_rfl) Tryd.func10 (by kernel_rfl)
    (of_decide_eq_true (by kernel_rfl)) (by unfold Func.isWrapper; first | (rw [if_pos (by decide +kernel)]; kernel_rfl) | (rw [if_neg (by decide +kernel)]; exact ⟨rfl, rfl⟩))
    (fun os started H enc _ => loose_lifted os started H enc)

theorem lexLoose_card : Rows.LexLooseCardSaid :=
  Claim7.holds_tied_plain_at .later [] [.data, .data, .data, .sentinel, .sentinel] true (true, "f51a4df611f266c61089f3f16e5fd496e205699899bcbcf703f8f4943d053c1c") true
    lexLoose_holds (fun _ h => by cases h) (by kernel_rfl) (fun _ h => by cases h) lexLoose_row_tie rfl ⟨rfl, rfl⟩ (by kernel_rfl) rfl
    (fun f fn hf hfn => by
      obtain rfl : f = 10 := Option.some.inj ((show Tryd.prog.funcNamed "floodgate/floodgatelaw01.LexLoose" = some 10 by kernel_rfl).symm.trans hf) |>.symm
      obtain rfl : fn = Tryd.f10 := (Option.some.inj (Tryd.func10.symm.trans hfn)).symm
      exact ⟨by kernel_rfl, fun j t ht => by
        rw [Tryd.params10] at ht
        have hm : t ∈ [9, 5, 5] := by simpa using Array.mem_of_getElem? ht
        have hall : ([9, 5, 5].all fun u => !Tryd.prog.wantsStandIn u) = true := by kernel_rfl
        exact (show Tryd.prog.wantsStandIn t = false by simpa using List.all_eq_true.1 hall t hm)⟩)
    (by kernel_rfl)
end Go.Proofs.YtkhgmoljhehbnaaDoor
