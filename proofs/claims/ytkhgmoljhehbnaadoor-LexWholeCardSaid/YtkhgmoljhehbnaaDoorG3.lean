/- The walk of lex.Token. -/
import Derived.Test.YtkhgmoljhehbnaaDoorG2
import Derived.Test.YtkhgmoljhehbnaaDoorK2
import Derived.Test.YtkhgmoljhehbnaaDoorE3
namespace Go.Proofs.YtkhgmoljhehbnaaDoor
open Go.RowKit

/-- whether a token has the byte at a place -/
def hasAt (p : Int) (x : LT) : Bool := decide (x.at_ ≤ p) && decide (p < x.at_ + x.text.size)

set_option maxHeartbeats 1000000 in
theorem tok1_any (k : Nat) (t : ByteArray) (a p : Int) (ha : 0 ≤ a) (hb : a + t.size ≤ 281474976710656) (qb : Nat) (w : World) (hq : w.cell? ⟨qb, 0, none⟩ = some (.int .i64 p)) :
    Calls Tryd.prog 52 #[.agg #[.int .u8 k, .string t, .int .i64 a], .pointer (some ⟨qb, 0, none⟩)] w fun e w' => e = .returned (.bool (decide (a ≤ p) && decide (p < a + t.size))) ∧ Below w.heap.size w w' := by
  have ht : (t.size : Int) ≤ 281474976710656 := by omega
  have hq' : (w.alloc (.cells #[.int .u8 k, .string t, .int .i64 a] 47)).cell? ⟨qb, 0, none⟩ = some (.int .i64 p) := (cell_al _ _ (lt_of_cell hq)).trans hq
  by_cases h1 : a ≤ p
  · by_cases h2 : p < a + t.size
    · have e1 : (decide (a ≤ p) && decide (p < a + t.size)) = true := by simp [h1, h2]
      rw [e1]
      go_enter Tryd.func52, Tryd.ntmps52
      go_wp2
      go_ret
      exact ⟨rfl, (Below.refl _ _).alloc (Nat.le_refl _) _⟩
    · have e1 : (decide (a ≤ p) && decide (p < a + t.size)) = false := by simp [h2]
      rw [e1]
      go_enter Tryd.func52, Tryd.ntmps52
      go_wp2
      go_ret
      exact ⟨rfl, (Below.refl _ _).alloc (Nat.le_refl _) _⟩
  · have e1 : (decide (a ≤ p) && decide (p < a + t.size)) = false := by simp [h1]
    rw [e1]
    go_enter Tryd.func52, Tryd.ntmps52
    go_wp2
    go_ret
    exact ⟨rfl, (Below.refl _ _).alloc (Nat.le_refl _) _⟩

theorem tok1_lt (p : Int) (x : LT) (ha : 0 ≤ x.at_) (hb : x.at_ + x.text.size ≤ 281474976710656) (qb : Nat) (w : World) (hq : w.cell? ⟨qb, 0, none⟩ = some (.int .i64 p)) :
    Calls Tryd.prog 52 #[.agg #[.int .u8 x.kind, .string x.text, .int .i64 x.at_], .pointer (some ⟨qb, 0, none⟩)] w fun e w' => e = .returned (.bool (hasAt p x)) ∧ Below w.heap.size w w' :=
  tok1_any x.kind x.text x.at_ p ha hb qb w hq

set_option maxRecDepth 100000 in
set_option maxHeartbeats 2000000 in
theorem indexTok_at (p : Int) (ts : List LT) (hn : ts.length ≤ 3000000) (hok : ∀ x ∈ ts, 0 ≤ x.at_ ∧ x.at_ + x.text.size ≤ 281474976710656) (b off cap : Nat) (qb : Nat) (w : World) (hq : w.cell? ⟨qb, 0, none⟩ = some (.int .i64 p)) (ht : ToksIn w b off ts) :
    Calls Tryd.prog 51 #[.slice (some ⟨b, off, none⟩) ts.length cap, .func (.func 52) #[] #[.pointer (some ⟨qb, 0, none⟩)]] w fun e w' => e = .returned (.int .i64 (Lx.fidx (hasAt p) ts 0)) ∧ Below w.heap.size w w' := by
  have HT := Lib.hid ht
  have HOK := Lib.hid hok
  have hblk : ts ≠ [] → b < w.heap.size := fun h => ht.lt h
  have HC : Hid (∀ wr, Below w.heap.size w wr → wr.cell? ⟨qb, 0, none⟩ = some (.int .i64 p)) := fun wr hb => ((bcell hb).1 _ _ (lt_of_cell hq)).trans hq
  have eg : ∀ args w, (callFunc 52 args).run Tryd.prog w = .ok (.enter 52 args) w := enters_of Tryd.func52 (by kernel_rfl) rfl
  clear ht hok hq
  go_enter Tryd.func51, Tryd.ntmps51
  go_wp2_with fail
  go_loopw [5, 8] (fun _ i wr => ∃ j : Nat, j ≤ ts.length ∧ i = .int .i64 j ∧ Below w.heap.size w wr ∧ Hid (∀ i y, i < j → ts[i]? = some y → hasAt p y = false)) (fun _ i _ => ts.length - (intOf i).toNat)
  case atStart => exact ⟨0, Nat.zero_le _, rfl, Below.refl _ _, fun i y hi => absurd hi (by omega)⟩
  case round =>
    obtain ⟨j, hj, rfl, hbw, HJ⟩ := hrel
    have hzw := hbw.size
    by_cases hlt : j < ts.length
    · have hlt' : (j : Int) < ts.length := by omega
      obtain ⟨x, hx⟩ : ∃ x, ts[j]? = some x := ⟨_, List.getElem?_eq_getElem hlt⟩
      obtain ⟨x0, x1, x2⟩ := (HT.out.below hbw hblk) j x hx
      have hkx := HOK.out x (List.mem_of_getElem? hx)
      have hcall := tok1_lt p x hkx.1 hkx.2 qb wr (HC.out wr hbw)
      have HX := Lib.hid hx
      cases hpx : hasAt p x
      · rw [hpx] at hcall
        have HP := Lib.hid hpx
        have HCALL := Lib.hid hcall
        clear hpx hcall hx hkx
        go_wp2_with fail
        refine HCALL.out.mono ?_
        rintro e w2 ⟨rfl, hb2⟩
        go_wp2_with fail
        go_roundw
        case rel =>
          refine ⟨j + 1, by omega, by go_num, hbw.trans (hb2.mono hzw), fun i y hi hy => ?_⟩
          by_cases e : i = j
          · subst e; rw [HX.out] at hy; cases hy; exact HP.out
          · exact HJ.out i y (by omega) hy
        case measure => simp [intOf]; omega
      · rw [hpx] at hcall
        have HP := Lib.hid hpx
        have HCALL := Lib.hid hcall
        clear hpx hcall hx hkx
        go_wp2_with fail
        refine HCALL.out.mono ?_
        rintro e w2 ⟨rfl, hb2⟩
        go_wp2
        go_ret
        refine ⟨?_, hbw.trans (hb2.mono hzw)⟩
        rw [Lx.fidx_hit _ ts 0 j x HX.out HP.out HJ.out, Nat.zero_add]
        rfl
    · have hjn : j = ts.length := by omega
      subst hjn
      go_wp2
      go_ret
      refine ⟨?_, hbw⟩
      rw [Lx.fidx_miss _ ts 0 (fun y hy => by
        obtain ⟨i, hi, rfl⟩ := List.getElem_of_mem hy
        exact HJ.out i _ hi (List.getElem?_eq_getElem hi))]
      rfl

set_option maxRecDepth 100000 in
theorem indexTok_none (v : Value) (A : Option Addr) (cap : Nat) (w : World) :
    Calls Tryd.prog 51 #[.slice A 0 cap, v] w fun e w' => e = .returned (.int .i64 (-1)) ∧ w' = w := by
  go_enter Tryd.func51, Tryd.ntmps51
  go_wp2_with fail
  go_loopw [5, 8] (fun _ i wr => i = .int .i64 0 ∧ wr = w) (fun _ _ _ => 0)
  case atStart => exact ⟨rfl, rfl⟩
  case round =>
    obtain ⟨rfl, rfl⟩ := hrel
    go_wp2
    go_ret
    exact ⟨rfl, rfl⟩

theorem indexTok_any (p : Int) (ts : List LT) (hn : ts.length ≤ 3000000) (hok : ∀ x ∈ ts, 0 ≤ x.at_ ∧ x.at_ + x.text.size ≤ 281474976710656) (A : Option Addr) (cap : Nat) (qb : Nat) (w : World) (hq : w.cell? ⟨qb, 0, none⟩ = some (.int .i64 p)) (ht : Arg w A ts) :
    Calls Tryd.prog 51 #[.slice A ts.length cap, .func (.func 52) #[] #[.pointer (some ⟨qb, 0, none⟩)]] w fun e w' => e = .returned (.int .i64 (Lx.fidx (hasAt p) ts 0)) ∧ Below w.heap.size w w' := by
  by_cases hne : ts = []
  · subst hne
    refine (indexTok_none _ A cap w).mono ?_
    rintro e w' ⟨rfl, rfl⟩
    exact ⟨rfl, Below.refl _ _⟩
  · obtain ⟨b1, o1, rfl, i1⟩ := ht.at_ hne
    exact indexTok_at p ts hn hok b1 o1 cap qb w hq i1

theorem tokens_ok {l : Lx.B} {ts : List Lx.Tok} {gs : List (Nat × Nat)} (h : Lx.read l = .ok ts gs) : ∀ x ∈ ts.map LT.of, 0 ≤ x.at_ ∧ x.at_ + x.text.size ≤ 281474976710656 := by
  obtain ⟨_, h1⟩ := Lx.read_gaps h
  obtain ⟨_, _, h2⟩ := read_lined h
  intro x hx
  obtain ⟨t, ht, rfl⟩ := List.mem_map.1 hx
  have h3 := h1 t ht
  have h4 : (LT.of t).text.size = t.text.length := by rw [Lib.size_eq, of_data]
  have h5 : (LT.of t).at_ = (t.at_ : Int) := rfl
  rw [h4, h5]
  omega

set_option maxHeartbeats 2000000 in
theorem token_bad (s : ByteArray) (hs : s.size ≤ 281474976710656) (k er : Nat) (hR : Lx.read s.data.toList = .bad k er) (p : Int) (w : World) (he : Env w) :
    Calls Tryd.prog 25 #[.string s, .int .i64 p] w fun e w' => e = .returned (.tuple #[.int .i64 0, .int .i64 er]) ∧ Below w.heap.size w w' := by
  have her := read_e _ k er hR
  have herb : ((er : Int) == 0) = false := by rw [beq_eq_false_iff_ne]; omega
  have hrd := fun W hE => rd_any s hs W hE
  rw [hR] at hrd
  have HRD := Lib.hid hrd
  have HE := Lib.hid (he.alloc (.cells #[.int .i64 p] 3))
  clear he hrd hR
  go_enter Tryd.func25, Tryd.ntmps25
  go_wp2_with fail
  refine (HRD.out _ HE.out).mono ?_
  rintro e w1 ⟨⟨A, cap, G, gcap, mo, so, q, sx, heq, _, _, _⟩, hb1⟩
  unfold rdV at heq
  simp only [Lx.Res.ts, Lx.Res.gs, Lx.Res.at_, Lx.Res.e] at heq
  subst heq
  have hz := hb1.size
  simp only [World.size_alloc] at hz hb1
  have hB : Below w.heap.size w w1 := ((Below.refl _ _).alloc (Nat.le_refl _) _).trans (hb1.mono (by omega))
  clear hb1
  go_wp2
  go_ret2
  exact ⟨rfl, hB.alloc (by omega) _⟩

set_option maxHeartbeats 2000000 in
theorem token_out (s : ByteArray) (hs : s.size ≤ 281474976710656) (ts : List Lx.Tok) (gs : List (Nat × Nat)) (hR : Lx.read s.data.toList = .ok ts gs) (p : Int) (hp : p < 0 ∨ (s.size : Int) ≤ p) (w : World) (he : Env w) :
    Calls Tryd.prog 25 #[.string s, .int .i64 p] w fun e w' => e = .returned (.tuple #[.int .i64 0, .int .i64 3]) ∧ Below w.heap.size w w' := by
  have hm : (s.size : Int) ≤ 281474976710656 := by omega
  have hrd := fun W hE => rd_any s hs W hE
  rw [hR] at hrd
  have HRD := Lib.hid hrd
  have HE := Lib.hid (he.alloc (.cells #[.int .i64 p] 3))
  clear he hrd hR
  by_cases h0 : p < 0
  · clear hp
    go_enter Tryd.func25, Tryd.ntmps25
    go_wp2_with fail
    refine (HRD.out _ HE.out).mono ?_
    rintro e w1 ⟨⟨A, cap, G, gcap, mo, so, q, sx, heq, _, _, _⟩, hb1⟩
    unfold rdV at heq
    simp only [Lx.Res.ts, Lx.Res.gs, Lx.Res.at_, Lx.Res.e] at heq
    subst heq
    have hz := hb1.size
    have hc : w1.cell? ⟨w.heap.size, 0, none⟩ = some (.int .i64 p) := ((bcell hb1).1 _ _ (by simp)).trans (by simp)
    simp only [World.size_alloc] at hz hb1
    have hB : Below w.heap.size w w1 := ((Below.refl _ _).alloc (Nat.le_refl _) _).trans (hb1.mono (by omega))
    have hcc : (w1.alloc (.cells #[.slice A ts.length cap, .slice G gs.length gcap, .map mo, .slice so q q, .string sx] 81)).cell? ⟨w.heap.size, 0, none⟩ = some (.int .i64 p) := (cell_al _ _ (by omega)).trans hc
    clear hb1
    go_wp2
    go_ret2
    exact ⟨rfl, hB.alloc (by omega) _⟩
  · have hge : (s.size : Int) ≤ p := by omega
    clear hp
    go_enter Tryd.func25, Tryd.ntmps25
    go_wp2_with fail
    refine (HRD.out _ HE.out).mono ?_
    rintro e w1 ⟨⟨A, cap, G, gcap, mo, so, q, sx, heq, _, _, _⟩, hb1⟩
    unfold rdV at heq
    simp only [Lx.Res.ts, Lx.Res.gs, Lx.Res.at_, Lx.Res.e] at heq
    subst heq
    have hz := hb1.size
    have hc : w1.cell? ⟨w.heap.size, 0, none⟩ = some (.int .i64 p) := ((bcell hb1).1 _ _ (by simp)).trans (by simp)
    simp only [World.size_alloc] at hz hb1
    have hB : Below w.heap.size w w1 := ((Below.refl _ _).alloc (Nat.le_refl _) _).trans (hb1.mono (by omega))
    have hcc : (w1.alloc (.cells #[.slice A ts.length cap, .slice G gs.length gcap, .map mo, .slice so q q, .string sx] 81)).cell? ⟨w.heap.size, 0, none⟩ = some (.int .i64 p) := (cell_al _ _ (by omega)).trans hc
    clear hb1
    go_wp2
    go_ret2
    exact ⟨rfl, hB.alloc (by omega) _⟩

set_option maxHeartbeats 2000000 in
theorem token_in (s : ByteArray) (hs : s.size ≤ 281474976710656) (ts : List Lx.Tok) (gs : List (Nat × Nat)) (hR : Lx.read s.data.toList = .ok ts gs) (p : Int) (h0 : 0 ≤ p) (hp : p < s.size) (N : Int) (f : Nat)
    (hN : (Lx.fidx (hasAt p) (ts.map LT.of) 0 < 0 ∧ N = 0 ∧ f = 7) ∨ (0 ≤ Lx.fidx (hasAt p) (ts.map LT.of) 0 ∧ N = Lx.fidx (hasAt p) (ts.map LT.of) 0 ∧ f = 0)) (w : World) (he : Env w) :
    Calls Tryd.prog 25 #[.string s, .int .i64 p] w fun e w' => e = .returned (.tuple #[.int .i64 N, .int .i64 f]) ∧ Below w.heap.size w w' := by
  have hm : (s.size : Int) ≤ 281474976710656 := by omega
  have hq1 : ¬ p < 0 := by omega
  have hq2 : ¬ (s.size : Int) ≤ p := by omega
  have hrd := fun W hE => rd_any s hs W hE
  have hn9 := (read_small s.data.toList).2
  rw [hR] at hrd hn9
  have hn9' : ts.length ≤ 900 := hn9
  have hix := fun A cap qb W hq ha => indexTok_any p (ts.map LT.of) (by rw [List.length_map]; omega) (tokens_ok hR) A cap qb W hq ha
  rw [List.length_map] at hix
  generalize Lx.fidx (hasAt p) (ts.map LT.of) 0 = F at hix hN
  have HRD := Lib.hid hrd
  have HIX := Lib.hid hix
  have HE := Lib.hid (he.alloc (.cells #[.int .i64 p] 3))
  clear he hrd hR hix hn9
  rcases hN with ⟨hF, rfl, rfl⟩ | ⟨hF, rfl, rfl⟩
  all_goals
    go_enter Tryd.func25, Tryd.ntmps25
    go_wp2_with fail
    refine (HRD.out _ HE.out).mono ?_
    rintro e w1 ⟨⟨A, cap, G, gcap, mo, so, q, sx, heq, ho, _, _⟩, hb1⟩
    unfold rdV at heq
    simp only [Lx.Res.ts, Lx.Res.gs, Lx.Res.at_, Lx.Res.e] at heq ho
    subst heq
    have hz := hb1.size
    have hc : w1.cell? ⟨w.heap.size, 0, none⟩ = some (.int .i64 p) := ((bcell hb1).1 _ _ (by simp)).trans (by simp)
    simp only [World.size_alloc] at hz hb1
    have hB : Below w.heap.size w w1 := ((Below.refl _ _).alloc (Nat.le_refl _) _).trans (hb1.mono (by omega))
    have hcc : (w1.alloc (.cells #[.slice A ts.length cap, .slice G gs.length gcap, .map mo, .slice so q q, .string sx] 81)).cell? ⟨w.heap.size, 0, none⟩ = some (.int .i64 p) := (cell_al _ _ (by omega)).trans hc
    have HC : Hid (∀ W, Below w1.heap.size w1 W → W.cell? ⟨w.heap.size, 0, none⟩ = some (.int .i64 p)) := fun W hW => ((bcell hW).1 _ _ (lt_of_cell hc)).trans hc
    have ha := arg_of_own ho
    have HA : Hid (∀ W, Below w1.heap.size w1 W → Arg W A (ts.map LT.of)) := fun W hW => ha.below hW
    clear hb1 ho ha
    go_wp2_with fail
    refine (HIX.out A cap w.heap.size _ (HC.out _ ((Below.refl _ _).alloc (Nat.le_refl _) _)) (HA.out _ ((Below.refl _ _).alloc (Nat.le_refl _) _))).mono ?_
    rintro e w2 ⟨rfl, hb2⟩
    have hB2 := (hB.alloc (by omega) _).trans (hb2.mono (by simp; omega))
    clear hb2 hc hcc
    go_wp2
    go_ret2
    exact ⟨rfl, hB2⟩

end Go.Proofs.YtkhgmoljhehbnaaDoor
