/- Layer 6, the program: the text of a picture: value, structure, list, one in the other. -/
import Derived.Test.YtacggbpgillbaaaGreatDoorTy
namespace Ce
/-- written as far as the text is not too long -/
def Wr (bs T bs' : List UInt8) : Prop := bs' = bs ++ T ∨ (2500 < bs'.length ∧ 2500 < (bs ++ T).length)
theorem Wr.nil (bs : List UInt8) : Wr bs [] bs := .inl (List.append_nil _).symm
theorem Wr.more {bs T U a b : List UInt8} (h : Wr bs T a) (k : Wr a U b) (hle : a.length ≤ b.length) : Wr bs (T ++ U) b := by
  rcases h with rfl | ⟨h1, h2⟩
  · rcases k with rfl | ⟨k1, k2⟩
    · exact .inl (by rw [List.append_assoc])
    · exact .inr ⟨k1, by rw [← List.append_assoc]; exact k2⟩
  · exact .inr ⟨by omega, by rw [← List.append_assoc, List.length_append]; omega⟩
theorem Wr.exact (bs T : List UInt8) : Wr bs T (bs ++ T) := .inl rfl
theorem Wr.full {bs T U a : List UInt8} (h : Wr bs T a) (hf : 2500 < a.length) : Wr bs (T ++ U) a := by
  refine .inr ⟨hf, ?_⟩
  rw [← List.append_assoc, List.length_append]
  rcases h with rfl | ⟨_, h2⟩
  · omega
  · omega
theorem Wr.short {bs T a : List UInt8} (h : Wr bs T a) (hf : ¬ 2500 < a.length) : a = bs ++ T := by
  rcases h with h | ⟨h1, _⟩
  · exact h
  · exact absurd h1 hf
theorem joinT_snoc (f : V → List UInt8) : ∀ (l : List V) (v : V), joinT f (l ++ [v]) = joinT f l ++ ((if l = [] then [] else [44, 32]) ++ f v)
  | [], v => rfl
  | [x], v => by simp [joinT]
  | x :: y :: r, v => by
    have ih := joinT_snoc f (y :: r) v
    rw [List.cons_append] at ih
    rw [if_neg (by simp)] at ih ⊢
    have h1 : joinT f (x :: y :: (r ++ [v])) = f x ++ [44, 32] ++ joinT f (y :: (r ++ [v])) := rfl
    have h2 : joinT f (x :: y :: r) = f x ++ [44, 32] ++ joinT f (y :: r) := rfl
    rw [List.cons_append, List.cons_append, h1, h2, ih]
    simp only [List.append_assoc]
theorem joinT_step (f : V → List UInt8) {l : List V} {k : Nat} {v : V} (h : l[k]? = some v) : joinT f (l.take (k + 1)) = joinT f (l.take k) ++ ((if k = 0 then [] else [44, 32]) ++ f v) := by
  have hk := (List.getElem?_eq_some_iff.1 h).1
  rw [List.take_add_one, h, Option.toList_some, joinT_snoc]
  by_cases h0 : k = 0
  · subst h0; simp
  · rw [if_neg h0, if_neg (by intro e; have := congrArg List.length e; rw [List.length_take, List.length_nil] at this; omega)]
theorem joinT_rest (f : V → List UInt8) (l : List V) : ∀ (j k : Nat), l.length = k + j → ∃ U, joinT f l = joinT f (l.take k) ++ U
  | 0, k, h => ⟨[], by rw [List.take_of_length_le (by omega), List.append_nil]⟩
  | j + 1, k, h => by
    have hx : l[k]? = some l[k] := List.getElem?_eq_getElem (by omega)
    obtain ⟨U, hU⟩ := joinT_rest f l j (k + 1) (by omega)
    rw [joinT_step f hx] at hU
    exact ⟨_, by rw [hU, List.append_assoc]⟩
end Ce
namespace Go.Proofs.YtacggbpgillbaaaGreatDoor
open Go.RowKit Go.El

/-- what a piece of the text leaves -/
def WrPost (w0 : World) (b : Nat) (C : Option Addr) (nc cc : Nat) (bs T : List UInt8) (bound : Nat) (w w' : World) : Prop :=
  (∃ bs', ShAt w' w0.heap.size b C nc cc bs' ∧ Ce.Wr bs T bs' ∧ bs.length ≤ bs'.length ∧ bs'.length ≤ max bs.length bound) ∧ Below w0.heap.size w w' ∧ Keeps3 w w'
/-- a value that can be shown without a table -/
def Shown (nc : Nat) (v : Ce.V) : Prop := Ce.isValue v nc = true ∧ v.k ≠ 1 ∧ v.k ≠ 5
def ListC (p : Ce.Pic) (w0 : World) (b : Nat) (C : Option Addr) (cc d : Nat) : Prop := ∀ (l : List Ce.V) (A : Option Addr) (cap : Nat) (bs : List UInt8) (w : World), Below w0.heap.size w0 w → l.length ≤ 1000 → (∀ v ∈ l, Shown p.cells.length v) → ValE.Arg w0 A l → ShAt w w0.heap.size b C p.cells.length cc bs → bs.length ≤ 2600 →
  Calls Tryz.prog 101 #[.pointer (some ⟨b, 0, none⟩), .slice A l.length cap, .int .i64 d] w fun e w' => e = .returned (.tuple #[]) ∧ WrPost w0 b C p.cells.length cc bs (Ce.joinT (Ce.text p d) l) (2520 + d) w w'
def StructC (p : Ce.Pic) (w0 : World) (b : Nat) (C : Option Addr) (cc d : Nat) : Prop := ∀ (n : Nat) (bs : List UInt8) (w : World), Below w0.heap.size w0 w → n < p.cells.length → ShAt w w0.heap.size b C p.cells.length cc bs → bs.length ≤ 2502 →
  Calls Tryz.prog 170 #[.pointer (some ⟨b, 0, none⟩), .int .i64 n, .int .i64 d] w fun e w' => e = .returned (.tuple #[]) ∧ WrPost w0 b C p.cells.length cc bs (Ce.text p d (Ce.vref n)) (2520 + d) w w'
def ValC (p : Ce.Pic) (w0 : World) (b : Nat) (C : Option Addr) (cc d : Nat) : Prop := ∀ (v : Ce.V) (bs : List UInt8) (w : World), Below w0.heap.size w0 w → Shown p.cells.length v → ShAt w w0.heap.size b C p.cells.length cc bs → bs.length ≤ 2502 →
  Calls Tryz.prog 148 #[.pointer (some ⟨b, 0, none⟩), .agg #[.int .u8 v.k, .int .i64 v.n], .int .i64 d] w fun e w' => e = .returned (.tuple #[]) ∧ WrPost w0 b C p.cells.length cc bs (Ce.text p d v) (2520 + d) w w'

set_option maxRecDepth 100000 in
set_option maxHeartbeats 2000000 in
theorem struct_zero (p : Ce.Pic) (w0 : World) (b : Nat) (C : Option Addr) (cc : Nat) : StructC p w0 b C cc 0 := by
  intro n bs w hb hn hs hl
  have hT : Ce.text p 0 (Ce.vref n) = [46, 46] := rfl
  rw [hT]
  have HW := Lib.hid (swriteString_any w0.heap.size b C p.cells.length cc bs [46, 46] w hs (by simp; omega) hb.size)
  generalize p.cells.length = nc at *
  clear hs hT
  go_enter Tryz.func170, Tryz.ntmps170
  go_wp2_with fail
  refine HW.out.mono ?_
  rintro e w1 ⟨⟨m, rfl⟩, hs1, hb1, hk1⟩
  have HP : Hid (WrPost w0 b C nc cc bs [46, 46] (2520 + 0) w w1) := Lib.hid ⟨⟨_, hs1, Ce.Wr.exact _ _, by simp, by simp; omega⟩, hb1, hk1⟩
  clear hs1 hb1 hk1
  go_wp2
  first | go_end0 | refine bodyPost_ret (results_none rfl _ _ _) rfl ?_
  exact ⟨rfl, HP.out⟩

set_option maxRecDepth 100000 in
set_option maxHeartbeats 4000000 in
theorem struct_succ (p : Ce.Pic) (w0 : World) (b : Nat) (C : Option Addr) (cc d : Nat) (hd : d ≤ 12) (hC : LsAt w0 C p.cells) (hlen : ∀ s ∈ p.cells, s.length ≤ 1000) (hall : ∀ s ∈ p.cells, ∀ v ∈ s, Shown p.cells.length v) (hL : ListC p w0 b C cc d) : StructC p w0 b C cc (d + 1) := by
  intro n bs w hb hn hs hl
  obtain ⟨s, hsn⟩ : ∃ s, p.cells[n]? = some s := ⟨_, List.getElem?_eq_getElem hn⟩
  have hT : Ce.text p (d + 1) (Ce.vref n) = [91] ++ Ce.joinT (Ce.text p d) s ++ [93] := by
    rw [Ce.text]
    rw [if_neg (by simp [Ce.vref]), if_neg (by simp [Ce.vref]), if_neg (by simp [Ce.vref]), if_neg (by simp [Ce.vref]), if_pos (by simp [Ce.vref])]
    have : p.cells.getD (Ce.vref n).n.toNat [] = s := by
      simp [Ce.vref, List.getD_eq_getElem?_getD, hsn]
    rw [this]
  rw [hT]
  have hms : s ∈ p.cells := List.mem_of_getElem? hsn
  obtain ⟨bc, oc, A1, c1, rfl, hbc, y0, P1⟩ := hC.at_ hsn
  have HY := Lib.hid y0
  have HLI := Lib.hid (fun bs' W hbW hsW hlW => hL s A1 c1 bs' W hbW (hlen s hms) (hall s hms) P1.arg hsW hlW)
  have HW1 := Lib.hid (swriteByte_any w0.heap.size b (some ⟨bc, oc, none⟩) p.cells.length cc bs 91 w hs (by omega) hb.size)
  have HW2 := Lib.hid (fun bs' W hsW hl' hbW => swriteByte_any w0.heap.size b (some ⟨bc, oc, none⟩) p.cells.length cc bs' 93 W hsW hl' hbW)
  have hn0 : (0 : Int) ≤ (n : Int) := by omega
  have hn1 : (n : Int) < (p.cells.length : Int) := by omega
  have hdz : ((d : Int) + 1 == 0) = false := beq_eq_false_iff_ne.2 (by omega)
  have hdd : IntKind.i64.wrap ((d : Int) + 1 - 1) = d := by rw [IntKind.wrap_i64]; omega
  have hdw : IntKind.i64.wrap (d : Int) = d := by rw [IntKind.wrap_i64]; omega
  have HB := Lib.hid hb
  have HS := Lib.hid hs
  have hd12 : (d : Int) ≤ 12 := by omega
  generalize Ce.joinT (Ce.text p d) s = J at *
  generalize p.cells.length = nc at *
  clear hT hsn hms hL hlen hall hC P1 y0 hb hs
  have hcast : ((d + 1 : Nat) : Int) = (d : Int) + 1 := by omega
  rw [hcast]
  clear hcast
  go_enter Tryz.func170, Tryz.ntmps170
  go_wp2_with fail
  refine HW1.out.mono ?_
  rintro e w1 ⟨rfl, hs1, hb1, hk1⟩
  have HB1 := Lib.hid (HB.out.trans hb1)
  have HS1 := Lib.hid hs1
  have HK1 := Lib.hid hk1
  have HBL1 := Lib.hid hb1
  obtain ⟨_, pp, AA, capp, hbk, _, _⟩ := hs1
  have c2 := hbk.cell 2
  dsimp at c2
  have y1 := ((bcell HB1.out).1 _ _ hbc).trans HY.out
  clear hb1 hk1 hbk
  go_wp2_with fail
  refine (HLI.out (bs ++ [91]) _ HB1.out HS1.out (by simp; omega)).mono ?_
  rintro e w2 ⟨rfl, ⟨bs2, hs2, hwr2, hle2, hmx2⟩, hb2, hk2⟩
  have hmx : bs2.length ≤ 2520 + d := by simp at hmx2; omega
  simp only [List.length_append, List.length_singleton] at hle2
  have HB2 := Lib.hid (HB1.out.trans hb2)
  have HP2 : Hid (ShAt w2 w0.heap.size b (some ⟨bc, oc, none⟩) nc cc bs2 ∧ Ce.Wr (bs ++ [91]) J bs2) := Lib.hid ⟨hs2, hwr2⟩
  have HBL2 := Lib.hid (HBL1.out.trans hb2)
  have HK2 := Lib.hid (HK1.out.trans hk2)
  clear c2 y1 hs2 hwr2 hb2 hk2 hmx2
  go_wp2_with fail
  refine (HW2.out bs2 _ HP2.out.1 (by omega) HB2.out.size).mono ?_
  rintro e w3 ⟨rfl, hs3, hb3, hk3⟩
  have HP : Hid (WrPost w0 b (some ⟨bc, oc, none⟩) nc cc bs ([91] ++ J ++ [93]) (2520 + (d + 1)) w w3) := Lib.hid ⟨⟨_, hs3, by
    have h1 := ((Ce.Wr.exact bs [91]).more HP2.out.2 (by simp; omega)).more (Ce.Wr.exact bs2 [93]) (by simp)
    exact h1, by simp; omega, by simp; omega⟩, HBL2.out.trans hb3, HK2.out.trans hk3⟩
  clear hs3 hb3 hk3
  go_wp2
  first | go_end0 | refine bodyPost_ret (results_none rfl _ _ _) rfl ?_
  exact ⟨rfl, HP.out⟩

set_option maxRecDepth 100000 in
set_option maxHeartbeats 4000000 in
theorem value_of_struct (p : Ce.Pic) (w0 : World) (b : Nat) (C : Option Addr) (cc d : Nat) (hS : StructC p w0 b C cc d) : ValC p w0 b C cc d := by
  intro v bs w hb hv hs hl
  obtain ⟨k, n⟩ := v
  obtain ⟨hv1, hv2, hv3⟩ := hv
  dsimp only at hv2 hv3 ⊢
  have hba : Below w.heap.size w (w.alloc (.cells #[.int .u8 k, .int .i64 n] 26)) := (Below.refl _ _).alloc (Nat.le_refl _) _
  have hb0 : Below w0.heap.size w (w.alloc (.cells #[.int .u8 k, .int .i64 n] 26)) := hba.mono hb.size
  have HBE := Lib.hid (hb.trans hb0)
  have HB0 := Lib.hid hb0
  have HK0 := Lib.hid (Keeps3.below hba)
  have HS0 := Lib.hid (hs.below hba)
  have HBX := Lib.hid (Blk.new w 26 #[.int .u8 k, .int .i64 n])
  have HWS := Lib.hid (fun t (ht : t.length ≤ 10) => swriteString_any w0.heap.size b C p.cells.length cc bs t _ HS0.out (by omega) HBE.out.size)
  have HFIN : Hid (∀ t w1, t.length ≤ 10 → ShAt w1 w0.heap.size b C p.cells.length cc (bs ++ t) → Below w0.heap.size (w.alloc (.cells #[.int .u8 k, .int .i64 n] 26)) w1 → Keeps3 (w.alloc (.cells #[.int .u8 k, .int .i64 n] 26)) w1 → WrPost w0 b C p.cells.length cc bs t (2520 + d) w w1) := Lib.hid fun t w1 ht h1 h2 h3 =>
    ⟨⟨_, h1, Ce.Wr.exact _ _, by simp, by simp; omega⟩, HB0.out.trans h2, HK0.out.trans h3⟩
  clear hba hb0 hs hb
  by_cases h0 : k = 0
  · subst h0
    have hT : Ce.text p d ⟨0, n⟩ = [63] := by rw [Ce.text.eq_def]; simp
    rw [hT]
    have HW := Lib.hid (swriteByte_any w0.heap.size b C p.cells.length cc bs 63 _ HS0.out (by omega) HBE.out.size)
    generalize p.cells.length = nc at *
    clear hT hv1 hS HWS
    go_enter Tryz.func148, Tryz.ntmps148
    go_wp2_with fail
    refine HW.out.mono ?_
    rintro e w1 ⟨rfl, hs1, hb1, hk1⟩
    have HP := Lib.hid (HFIN.out [63] w1 (by simp) hs1 hb1 hk1)
    clear hs1 hb1 hk1
    go_wp2
    first | go_end0 | refine bodyPost_ret (results_none rfl _ _ _) rfl ?_
    exact ⟨rfl, HP.out⟩
  have g0 : (k == 0) = false := beq_eq_false_iff_ne.2 h0
  have g1 : (k == 1) = false := beq_eq_false_iff_ne.2 hv2
  by_cases h2 : k = 2
  · subst h2
    have hT : Ce.text p d ⟨2, n⟩ = boolText (n == 1) := by
      rw [Ce.text.eq_def]
      simp only [show ¬ (2 : Int) = 1 by omega, if_false, if_true]
      unfold boolText
      by_cases hn : n = 1 <;> simp [hn]
    rw [hT]
    have HFB := Lib.hid (fun W => formatBool_any (n == 1) W)
    have hbt : (boolText (n == 1)).length ≤ 10 := by
      unfold boolText; split <;> simp
    have HBT := Lib.hid hbt
    generalize boolText (n == 1) = T at *
    have HW := Lib.hid (fun W (h : ShAt W w0.heap.size b C p.cells.length cc bs) (hb : w0.heap.size ≤ W.heap.size) => swriteString_any w0.heap.size b C p.cells.length cc bs T W h (by omega) hb)
    generalize p.cells.length = nc at *
    have x1 := HBX.out.cell 1
    dsimp at x1
    clear hT hv1 hS HWS hbt g0 g1 h0 hv2 hv3
    go_enter Tryz.func148, Tryz.ntmps148
    go_wp2_with fail
    generalize hWA : w.alloc (.cells #[.int .u8 2, .int .i64 n] 26) = WA at *
    clear hWA
    go_region_held3 (fun W => W.cell? ⟨w.heap.size, 1, none⟩ = some (.int .i64 n))
      (go_keep)
      (first
        | (go_at_call 169; refine (HFB.out _).mono ?_; rintro e w1 ⟨rfl, rfl⟩)
        | (go_at_call 147; refine (HW.out WA.drew (HS0.out.below (Below.refl _ _).drew) HBE.out.size).mono ?_; rintro e w2 ⟨⟨m, rfl⟩, hs1, hb1, hk1⟩
           have hb1 : Below w0.heap.size WA w2 := (Below.refl _ _).drew.trans hb1
           have hk1 : Keeps3 WA w2 := (Keeps3.below (Below.refl _ _).drew).trans hk1
           have x1 := (hk1.blk HBX.out (by decide) (by decide)).cell 1
           dsimp at x1))
    have HP := Lib.hid (HFIN.out T w2 HBT.out hs1 hb1 hk1)
    clear hs1 hb1 hk1 x1
    go_wp2
    first | go_end0 | refine bodyPost_ret (results_none rfl _ _ _) rfl ?_
    exact ⟨rfl, HP.out⟩
  have g2 : (k == 2) = false := beq_eq_false_iff_ne.2 h2
  by_cases h3 : k = 3
  · subst h3
    have hT : Ce.text p d ⟨3, n⟩ = [110, 105, 108] := by rw [Ce.text.eq_def]; simp
    rw [hT]
    have HW := Lib.hid (HWS.out [110, 105, 108] (by simp))
    generalize p.cells.length = nc at *
    clear hT hv1 hS HWS
    go_enter Tryz.func148, Tryz.ntmps148
    go_wp2_with fail
    refine HW.out.mono ?_
    rintro e w1 ⟨⟨m, rfl⟩, hs1, hb1, hk1⟩
    have HP := Lib.hid (HFIN.out [110, 105, 108] w1 (by simp) hs1 hb1 hk1)
    clear hs1 hb1 hk1
    go_wp2
    first | go_end0 | refine bodyPost_ret (results_none rfl _ _ _) rfl ?_
    exact ⟨rfl, HP.out⟩
  have g3 : (k == 3) = false := beq_eq_false_iff_ne.2 h3
  have g5 : (k == 5) = false := beq_eq_false_iff_ne.2 hv3
  have h4 : k = 4 := by
    unfold Ce.isValue at hv1
    rw [if_neg h0, if_neg hv2, if_neg h2, if_neg h3] at hv1
    by_cases h4 : k = 4
    · exact h4
    · rw [if_neg h4, if_neg hv3] at hv1; cases hv1
  subst h4
  have hnn : 0 ≤ n ∧ n < p.cells.length := by
    unfold Ce.isValue at hv1
    simp at hv1
    omega
  obtain ⟨j, rfl⟩ : ∃ j : Nat, n = j := ⟨n.toNat, by omega⟩
  have HST := Lib.hid (hS j bs _ HBE.out (by omega) HS0.out hl)
  rw [show (⟨4, (j : Int)⟩ : Ce.V) = Ce.vref j from rfl]
  generalize Ce.text p d (Ce.vref j) = T at *
  generalize p.cells.length = nc at *
  clear hv1 hS HWS h0 hv2 h2 h3 hv3
  go_enter Tryz.func148, Tryz.ntmps148
  go_wp2_with fail
  refine HST.out.mono ?_
  rintro e w1 ⟨rfl, ⟨bs', k1, k2, k3, k4⟩, hb1, hk1⟩
  have HP : Hid (WrPost w0 b C nc cc bs T (2520 + d) w w1) := Lib.hid ⟨⟨bs', k1, k2, k3, k4⟩, HB0.out.trans hb1, HK0.out.trans hk1⟩
  clear k1 k2 k3 k4 hb1 hk1
  go_wp2
  first | go_end0 | refine bodyPost_ret (results_none rfl _ _ _) rfl ?_
  exact ⟨rfl, HP.out⟩
end Go.Proofs.YtacggbpgillbaaaGreatDoor
