/- Layer 5: the walk of the law RegionFills. -/
import Derived.Test.YthagelnimmfhbaaRt
import Derived.Deep.RegionWith
namespace Rg
theorem fill_len (l : List Pt) (n : Nat) : (fill l n).length = n := by simp [fill]
theorem fill_at (l : List Pt) (n i : Nat) (h : i < n) : (fill l n)[i]? = some (optI (who l n i)) := by simp [fill, h]
end Rg
namespace Go.Proofs.Ythagelnimmfhbaa
open Go.RowKit Go.El

theorem optI_eq (x : Option Nat) : Rg.optI x = leastV x := by cases x <;> rfl
theorem who_code (hC : WhoC) (l : List Rg.Pt) (hl : l.length ≤ maxLen) (s c : Int) (n k : Nat) (hR : Rg.whoR l s c = (n, k)) (A : Option Addr) (cap : Nat) (w : World) (ha : PtE.Arg w A l) : Calls Try.prog 30 #[.slice A l.length cap, .int .i64 s, .int .i64 c] w fun e w' =>
  e = .returned (.tuple #[.int .i64 n, .int .i64 k]) ∧ Below w.heap.size w w' := by
  have := hC l hl A cap s c w ha
  rw [hR] at this
  exact this
theorem fill_code (hC : FillC) (l : List Rg.Pt) (hl : l.length ≤ maxLen) (s : Int) (L : List Int) (k m : Nat) (hm : L.length = m) (hR : Rg.fillR l s = (L, k)) (A : Option Addr) (cap : Nat) (w : World) (ha : PtE.Arg w A l) : Calls Try.prog 31 #[.slice A l.length cap, .int .i64 s] w fun e w' =>
  (∃ B c, e = .returned (.tuple #[.slice B m c, .int .i64 k]) ∧ OwnI w' w.heap.size B c L) ∧ Below w.heap.size w w' := by
  have := hC l hl A cap s w ha
  rw [hR] at this
  subst hm
  exact this

set_option maxRecDepth 100000 in
set_option maxHeartbeats 4000000 in
theorem fil_many (h : Prg) (l : List Rg.Pt) (hl : l.length ≤ maxLen) (A : Option Addr) (cap : Nat) (s c : Int) (hn : 6 < l.length ∧ l.length ≤ 12 ∨ 24 < l.length) (w : World) (_ : PtE.Arg w A l) :
    Calls Try.prog 6 #[.slice A l.length cap, .int .i64 s, .int .i64 c] w fun e w' => e = .returned (.bool true) ∧ Below w.heap.size w w' := by
  have hm : (l.length : Int) ≤ 9223372036854775807 := by unfold maxLen at hl; omega
  have HK := Lib.hid (fun W => known_any h W)
  clear h hl
  have hn' : ((6 : Int) < l.length ∧ (l.length : Int) ≤ 12) ∨ ((6 : Int) < l.length ∧ ¬ (l.length : Int) ≤ 12 ∧ (24 : Int) < l.length) := by omega
  clear hn
  rcases hn' with ⟨h1, h2⟩ | ⟨h1, h2, h3⟩
  all_goals
    go_enter Try.func6, Try.ntmps6
    have hB0 : Below w.heap.size w w := Below.refl _ _
    go_wp2_with fail
    refine (HK.out _).mono ?_
    rintro e w1 ⟨rfl, hb1⟩
    have hB1 := hB0.trans (hb1.mono hB0.size)
    clear hb1
    go_wp2
    go_ret
    exact ⟨rfl, hB1⟩

set_option maxRecDepth 100000 in
set_option maxHeartbeats 4000000 in
theorem fil_inv (h : Prg) (l : List Rg.Pt) (hl : l.length ≤ maxLen) (A : Option Addr) (cap : Nat) (hA : A = none → cap = 0) (s c : Int) (hn : l.length ≤ 6 ∨ (12 < l.length ∧ l.length ≤ 24)) (q : Bool) (hq : Rg.valid l = q) (hqf : q = false) (w : World) (ha : PtE.Arg w A l) :
    Calls Try.prog 6 #[.slice A l.length cap, .int .i64 s, .int .i64 c] w fun e w' => e = .returned (.bool true) ∧ Below w.heap.size w w' := by
  have hm : (l.length : Int) ≤ 9223372036854775807 := by unfold maxLen at hl; omega
  have HK := Lib.hid (fun W => known_any h W)
  have HW := Lib.hid (fun A cc W ha => who_code h.who l hl s c 0 2 (by unfold Rg.whoR; rw [hq, hqf]; rfl) A cc W ha)
  have HF := Lib.hid (fun A cc W ha => fill_code h.fill l hl s [] 2 0 rfl (by unfold Rg.fillR; rw [hq, hqf]; rfl) A cc W ha)
  subst hqf
  have HV := Lib.hid (fun A c W h => valid_of l _ hq hl A c W h)
  have HO := Lib.hid (fun W h => own_any l (by omega) A cap hA W h)
  have HP := Lib.hid (fun A C c1 c2 W h1 h2 => parts_any l (by omega) A C c1 c2 W h1 h2)
  have HL := Lib.hid (Arg.stay ha)
  have hn' : (l.length : Int) ≤ 6 ∨ (¬ (l.length : Int) ≤ 6 ∧ ¬ (l.length : Int) ≤ 12 ∧ ¬ (24 : Int) < l.length) := by omega
  clear h hl ha hn hA hq
  rcases hn' with h6 | ⟨h6, h12, h24⟩
  all_goals
    go_enter Try.func6, Try.ntmps6
    have hB0 : Below w.heap.size w w := Below.refl _ _
    go_wp2_with fail
    refine (HO.out _ HL.out.at_).mono ?_
    rintro e w1 ⟨⟨X, cx, rfl, hox⟩, hb1⟩
    have HL := Lib.hid (HL.out.step hb1)
    have hB1 := hB0.trans (hb1.mono hB0.size)
    clear hb1
    have HX := Lib.hid (Arg.stay (Own.arg hox))
    clear hox
    go_wp2_with fail
    refine (HW.out _ _ _ HX.out.at_).mono ?_
    rintro e w2 ⟨rfl, hb2⟩
    have HL := Lib.hid (HL.out.step hb2)
    have HX := Lib.hid (HX.out.step hb2)
    have hB2 := hB1.trans (hb2.mono hB1.size)
    clear hb2 hB1
    go_wp2_with fail
    refine (HF.out _ _ _ HX.out.at_).mono ?_
    rintro e w3 ⟨⟨B1, c1, rfl, ho1⟩, hb3⟩
    have HL := Lib.hid (HL.out.step hb3)
    have HX := Lib.hid (HX.out.step hb3)
    have hB3 := hB2.trans (hb3.mono hB2.size)
    clear hb3 hB2
    have SF := Lib.hid (Own.stay ho1)
    clear ho1
    go_wp2_with fail
    refine (HP.out _ _ _ _ _ HX.out.at_ HL.out.at_).mono ?_
    rintro e w4 ⟨rfl, hb4⟩
    have HL := Lib.hid (HL.out.step hb4)
    have HX := Lib.hid (HX.out.step hb4)
    have SF := Lib.hid (SF.out.step hb4)
    have hB4 := hB3.trans (hb4.mono hB3.size)
    clear hb4 hB3
    go_wp2_with fail
    refine (HV.out _ _ _ HL.out.at_).mono ?_
    rintro e w5 ⟨rfl, hb5⟩
    have HL := Lib.hid (HL.out.step hb5)
    have HX := Lib.hid (HX.out.step hb5)
    have SF := Lib.hid (SF.out.step hb5)
    have hB5 := hB4.trans (hb5.mono hB4.size)
    clear hb5 hB4
    clear HX
    go_wp2_with fail
    refine (HK.out _).mono ?_
    rintro e w6 ⟨rfl, hb6⟩
    have HL := Lib.hid (HL.out.step hb6)
    have SF := Lib.hid (SF.out.step hb6)
    have hB6 := hB5.trans (hb6.mono hB5.size)
    clear hb6 hB5
    go_wp2
    go_ret
    exact ⟨rfl, hB6⟩

set_option maxRecDepth 100000 in
set_option maxHeartbeats 4000000 in
theorem fil_out (h : Prg) (l : List Rg.Pt) (hl : l.length ≤ maxLen) (A : Option Addr) (cap : Nat) (hA : A = none → cap = 0) (s c : Int) (hn : l.length ≤ 6 ∨ (12 < l.length ∧ l.length ≤ 24)) (q : Bool) (hq : Rg.valid l = q) (hqf : q = true) (hs : Rg.inS s = false) (w : World) (ha : PtE.Arg w A l) :
    Calls Try.prog 6 #[.slice A l.length cap, .int .i64 s, .int .i64 c] w fun e w' => e = .returned (.bool true) ∧ Below w.heap.size w w' := by
  have hm : (l.length : Int) ≤ 9223372036854775807 := by unfold maxLen at hl; omega
  have HK := Lib.hid (fun W => known_any h W)
  have HW := Lib.hid (fun A cc W ha => who_code h.who l hl s c 0 3 (by unfold Rg.whoR; rw [hq, hqf, hs]; rfl) A cc W ha)
  have HF := Lib.hid (fun A cc W ha => fill_code h.fill l hl s [] 3 0 rfl (by unfold Rg.fillR; rw [hq, hqf, hs]; rfl) A cc W ha)
  have HS := Lib.hid (Rg.inS_not' hs)
  clear hs
  subst hqf
  have HV := Lib.hid (fun A c W h => valid_of l _ hq hl A c W h)
  have HO := Lib.hid (fun W h => own_any l (by omega) A cap hA W h)
  have HP := Lib.hid (fun A C c1 c2 W h1 h2 => parts_any l (by omega) A C c1 c2 W h1 h2)
  have HL := Lib.hid (Arg.stay ha)
  have hn' : (l.length : Int) ≤ 6 ∨ (¬ (l.length : Int) ≤ 6 ∧ ¬ (l.length : Int) ≤ 12 ∧ ¬ (24 : Int) < l.length) := by omega
  clear h hl ha hn hA hq
  rcases hn' with h6 | ⟨h6, h12, h24⟩
  all_goals
    go_enter Try.func6, Try.ntmps6
    have hB0 : Below w.heap.size w w := Below.refl _ _
    go_wp2_with fail
    refine (HO.out _ HL.out.at_).mono ?_
    rintro e w1 ⟨⟨X, cx, rfl, hox⟩, hb1⟩
    have HL := Lib.hid (HL.out.step hb1)
    have hB1 := hB0.trans (hb1.mono hB0.size)
    clear hb1
    have HX := Lib.hid (Arg.stay (Own.arg hox))
    clear hox
    go_wp2_with fail
    refine (HW.out _ _ _ HX.out.at_).mono ?_
    rintro e w2 ⟨rfl, hb2⟩
    have HL := Lib.hid (HL.out.step hb2)
    have HX := Lib.hid (HX.out.step hb2)
    have hB2 := hB1.trans (hb2.mono hB1.size)
    clear hb2 hB1
    go_wp2_with fail
    refine (HF.out _ _ _ HX.out.at_).mono ?_
    rintro e w3 ⟨⟨B1, c1, rfl, ho1⟩, hb3⟩
    have HL := Lib.hid (HL.out.step hb3)
    have HX := Lib.hid (HX.out.step hb3)
    have hB3 := hB2.trans (hb3.mono hB2.size)
    clear hb3 hB2
    have SF := Lib.hid (Own.stay ho1)
    clear ho1
    go_wp2_with fail
    refine (HP.out _ _ _ _ _ HX.out.at_ HL.out.at_).mono ?_
    rintro e w4 ⟨rfl, hb4⟩
    have HL := Lib.hid (HL.out.step hb4)
    have HX := Lib.hid (HX.out.step hb4)
    have SF := Lib.hid (SF.out.step hb4)
    have hB4 := hB3.trans (hb4.mono hB3.size)
    clear hb4 hB3
    go_wp2_with fail
    refine (HV.out _ _ _ HL.out.at_).mono ?_
    rintro e w5 ⟨rfl, hb5⟩
    have HL := Lib.hid (HL.out.step hb5)
    have HX := Lib.hid (HX.out.step hb5)
    have SF := Lib.hid (SF.out.step hb5)
    have hB5 := hB4.trans (hb5.mono hB4.size)
    clear hb5 hB4
    clear HX
    rcases HS.out with hs | ⟨hns, hs⟩
    all_goals
      go_wp2_with fail
      refine (HK.out _).mono ?_
      rintro e w6 ⟨rfl, hb6⟩
      have HL := Lib.hid (HL.out.step hb6)
      have SF := Lib.hid (SF.out.step hb6)
      have hB6 := hB5.trans (hb6.mono hB5.size)
      clear hb6 hB5
      go_wp2
      go_ret
      exact ⟨rfl, hB6⟩

set_option maxRecDepth 100000 in
set_option maxHeartbeats 4000000 in
theorem fil_cell (h : Prg) (l : List Rg.Pt) (hl : l.length ≤ maxLen) (A : Option Addr) (cap : Nat) (hA : A = none → cap = 0) (s c : Int) (hn : l.length ≤ 6 ∨ (12 < l.length ∧ l.length ≤ 24)) (q : Bool) (hq : Rg.valid l = q) (hqf : q = true) (hs : Rg.inS s = true) (hc : ¬ (0 ≤ c ∧ c < s)) (w : World) (ha : PtE.Arg w A l) :
    Calls Try.prog 6 #[.slice A l.length cap, .int .i64 s, .int .i64 c] w fun e w' => e = .returned (.bool true) ∧ Below w.heap.size w w' := by
  have hm : (l.length : Int) ≤ 9223372036854775807 := by unfold maxLen at hl; omega
  have HK := Lib.hid (fun W => known_any h W)
  have hsi := (Rg.inS_iff s).1 hs
  obtain ⟨n, rfl⟩ : ∃ n : Nat, s = n := ⟨s.toNat, by omega⟩
  have h0' : ¬ (n : Int) < 0 := by omega
  have h1' : ¬ (100 : Int) < n := by omega
  have HF := Lib.hid (fun A cc W ha => fill_code h.fill l hl n (Rg.fill l n) 0 n (Rg.fill_len l n) (by unfold Rg.fillR; rw [hq, hqf, hs]; rfl) A cc W ha)
  have HAT := Lib.hid (fun i (hi : i < n) => (Rg.fill_at l n i hi).trans (by rw [optI_eq]))
  have HRW := Lib.hid (fun (k : Nat) (hk : k < n) A cc W ha => refWho_any l (hq.trans hqf) A cc n k (by omega) (by omega) (by omega) (by omega) W ha)
  have HW := Lib.hid (fun A cc W ha => who_code h.who l hl n c 0 3 (by
    have hb : (decide (0 ≤ c) && decide (c < (n : Int))) = false := by
      rcases Classical.not_and_iff_not_or_not.1 hc with h | h
      · rw [decide_eq_false h]; rfl
      · rw [decide_eq_false h, Bool.and_false]
    unfold Rg.whoR
    rw [hq, hqf, hs, hb]; rfl) A cc W ha)
  have HC : Hid (c < 0 ∨ (¬ c < 0 ∧ (n : Int) ≤ c)) := Lib.hid (by omega)
  clear hs hsi hc
  subst hqf
  generalize Rg.fill l n = L at HF HAT
  have HV := Lib.hid (fun A c W h => valid_of l _ hq hl A c W h)
  have HO := Lib.hid (fun W h => own_any l (by omega) A cap hA W h)
  have HP := Lib.hid (fun A C c1 c2 W h1 h2 => parts_any l (by omega) A C c1 c2 W h1 h2)
  have HL := Lib.hid (Arg.stay ha)
  have hn' : (l.length : Int) ≤ 6 ∨ (¬ (l.length : Int) ≤ 6 ∧ ¬ (l.length : Int) ≤ 12 ∧ ¬ (24 : Int) < l.length) := by omega
  clear h hl ha hn hA hq
  rcases hn' with h6 | ⟨h6, h12, h24⟩
  all_goals
    go_enter Try.func6, Try.ntmps6
    have hB0 : Below w.heap.size w w := Below.refl _ _
    go_wp2_with fail
    refine (HO.out _ HL.out.at_).mono ?_
    rintro e w1 ⟨⟨X, cx, rfl, hox⟩, hb1⟩
    have HL := Lib.hid (HL.out.step hb1)
    have hB1 := hB0.trans (hb1.mono hB0.size)
    clear hb1
    have HX := Lib.hid (Arg.stay (Own.arg hox))
    clear hox
    go_wp2_with fail
    refine (HW.out _ _ _ HX.out.at_).mono ?_
    rintro e w2 ⟨rfl, hb2⟩
    have HL := Lib.hid (HL.out.step hb2)
    have HX := Lib.hid (HX.out.step hb2)
    have hB2 := hB1.trans (hb2.mono hB1.size)
    clear hb2 hB1
    go_wp2_with fail
    refine (HF.out _ _ _ HX.out.at_).mono ?_
    rintro e w3 ⟨⟨B1, c1, rfl, ho1⟩, hb3⟩
    have HL := Lib.hid (HL.out.step hb3)
    have HX := Lib.hid (HX.out.step hb3)
    have hB3 := hB2.trans (hb3.mono hB2.size)
    clear hb3 hB2
    have SF := Lib.hid (Own.stay ho1)
    clear ho1
    go_wp2_with fail
    refine (HP.out _ _ _ _ _ HX.out.at_ HL.out.at_).mono ?_
    rintro e w4 ⟨rfl, hb4⟩
    have HL := Lib.hid (HL.out.step hb4)
    have HX := Lib.hid (HX.out.step hb4)
    have SF := Lib.hid (SF.out.step hb4)
    have hB4 := hB3.trans (hb4.mono hB3.size)
    clear hb4 hB3
    go_wp2_with fail
    refine (HV.out _ _ _ HL.out.at_).mono ?_
    rintro e w5 ⟨rfl, hb5⟩
    have HL := Lib.hid (HL.out.step hb5)
    have HX := Lib.hid (HX.out.step hb5)
    have SF := Lib.hid (SF.out.step hb5)
    have hB5 := hB4.trans (hb5.mono hB4.size)
    clear hb5 hB4
    clear HX
    go_wp2_with fail
    have HB := Lib.hid hB5
    clear hB5
    obtain ⟨wo, rfl⟩ : ∃ wo : World, wo = w5 := ⟨_, rfl⟩
    go_loopw [12] (fun i wr => ∃ k : Nat, k ≤ n ∧ i = .int .i64 k ∧ Below wo.heap.size wo wr) (fun i _ => n - (intOf i).toNat)
    case atStart => exact ⟨0, Nat.zero_le _, rfl, Below.refl _ _⟩
    case round =>
      obtain ⟨k, hk, rfl, hbi⟩ := hrel
      have hzi := hbi.size
      by_cases hlt : k < n
      · have hlt' : (k : Int) < n := by omega
        have hx := HAT.out k hlt
        obtain ⟨gF, rfl, _, hgF, hinF⟩ := Own.in_ (SF.out _ hbi) (by intro e; rw [e] at hx; cases hx)
        have x0 : wr.cell? ⟨gF, k, none⟩ = some (.int .i64 (leastV (Rg.who l n k))) := by have := IntE.at1 hinF hx; rwa [Nat.zero_add] at this
        have HWC := Lib.hid (fun A c W ha => HRW.out k hlt A c W ha)
        have HLX := Lib.hid (HL.out.step hbi)
        generalize leastV (Rg.who l n k) = v at x0 HWC
        have hxx : (v == v) = true := beq_self_eq_true v
        have hxy : (v != v) = false := by rw [bne, hxx]; rfl
        clear hx hinF
        have hBx : Below wr.heap.size wr wr.drew := (Below.refl _ _).drew
        go_wp2_with fail
        go_region_with (first
          | (go_at_call 32; refine (HWC.out _ _ _ (HLX.out _ (Below.refl _ _).drew)).mono ?_; rintro e wc ⟨rfl, hbc⟩; have x0 := ((bcell hbc).1 _ _ hgF).trans x0; have hBx := hBx.trans (hbc.mono hBx.size)))
        all_goals
          go_wp2
          go_roundw
          case rel => exact ⟨k + 1, by omega, by go_num, hbi.trans (hBx.mono hzi)⟩
          case measure => simp [intOf]; omega
      · have hlt' : ¬ (k : Int) < n := by omega
        have hkn : k = n := by omega
        have HL := Lib.hid (HL.out.step hbi)
        have SF := Lib.hid (SF.out.step hbi)
        have hB := HB.out.trans (hbi.mono HB.out.size)
        clear hbi HB
        clear HL SF
        rcases HC.out with hc | ⟨hnc, hc⟩
        all_goals
          go_wp2_with fail
          refine (HK.out _).mono ?_
          rintro e w6 ⟨rfl, hb6⟩
          have hB6 := hB.trans (hb6.mono hB.size)
          clear hb6 hB
          go_wp2
          go_ret
          exact ⟨rfl, hB6⟩

set_option maxRecDepth 100000 in
set_option maxHeartbeats 4000000 in
theorem fil_none (h : Prg) (l : List Rg.Pt) (hl : l.length ≤ maxLen) (A : Option Addr) (cap : Nat) (hA : A = none → cap = 0) (s c : Int) (hn : l.length ≤ 6 ∨ (12 < l.length ∧ l.length ≤ 24)) (q : Bool) (hq : Rg.valid l = q) (hqf : q = true) (hs : Rg.inS s = true) (hc : 0 ≤ c ∧ c < s) (hwm : Rg.who l s c = none) (w : World) (ha : PtE.Arg w A l) :
    Calls Try.prog 6 #[.slice A l.length cap, .int .i64 s, .int .i64 c] w fun e w' => e = .returned (.bool true) ∧ Below w.heap.size w w' := by
  have hm : (l.length : Int) ≤ 9223372036854775807 := by unfold maxLen at hl; omega
  have HK := Lib.hid (fun W => known_any h W)
  have hsi := (Rg.inS_iff s).1 hs
  obtain ⟨n, rfl⟩ : ∃ n : Nat, s = n := ⟨s.toNat, by omega⟩
  have h0' : ¬ (n : Int) < 0 := by omega
  have h1' : ¬ (100 : Int) < n := by omega
  have HF := Lib.hid (fun A cc W ha => fill_code h.fill l hl n (Rg.fill l n) 0 n (Rg.fill_len l n) (by unfold Rg.fillR; rw [hq, hqf, hs]; rfl) A cc W ha)
  have HAT := Lib.hid (fun i (hi : i < n) => (Rg.fill_at l n i hi).trans (by rw [optI_eq]))
  have HRW := Lib.hid (fun (k : Nat) (hk : k < n) A cc W ha => refWho_any l (hq.trans hqf) A cc n k (by omega) (by omega) (by omega) (by omega) W ha)
  obtain ⟨m, rfl⟩ : ∃ m : Nat, c = m := ⟨c.toNat, by omega⟩
  have HMN : Hid (m < n) := Lib.hid (by omega)
  have HW := Lib.hid (fun A cc W ha => who_code h.who l hl n m 0 7 (by
    unfold Rg.whoR
    rw [hq, hqf, hs, decide_eq_true (show (0 : Int) ≤ m by omega), decide_eq_true (show (m : Int) < n by omega), hwm]; rfl) A cc W ha)
  have HWM := Lib.hid hwm
  clear hs hsi hc hwm
  subst hqf
  generalize Rg.fill l n = L at HF HAT
  have HV := Lib.hid (fun A c W h => valid_of l _ hq hl A c W h)
  have HO := Lib.hid (fun W h => own_any l (by omega) A cap hA W h)
  have HP := Lib.hid (fun A C c1 c2 W h1 h2 => parts_any l (by omega) A C c1 c2 W h1 h2)
  have HL := Lib.hid (Arg.stay ha)
  have hn' : (l.length : Int) ≤ 6 ∨ (¬ (l.length : Int) ≤ 6 ∧ ¬ (l.length : Int) ≤ 12 ∧ ¬ (24 : Int) < l.length) := by omega
  clear h hl ha hn hA hq
  rcases hn' with h6 | ⟨h6, h12, h24⟩
  all_goals
    go_enter Try.func6, Try.ntmps6
    have hB0 : Below w.heap.size w w := Below.refl _ _
    go_wp2_with fail
    refine (HO.out _ HL.out.at_).mono ?_
    rintro e w1 ⟨⟨X, cx, rfl, hox⟩, hb1⟩
    have HL := Lib.hid (HL.out.step hb1)
    have hB1 := hB0.trans (hb1.mono hB0.size)
    clear hb1
    have HX := Lib.hid (Arg.stay (Own.arg hox))
    clear hox
    go_wp2_with fail
    refine (HW.out _ _ _ HX.out.at_).mono ?_
    rintro e w2 ⟨rfl, hb2⟩
    have HL := Lib.hid (HL.out.step hb2)
    have HX := Lib.hid (HX.out.step hb2)
    have hB2 := hB1.trans (hb2.mono hB1.size)
    clear hb2 hB1
    go_wp2_with fail
    refine (HF.out _ _ _ HX.out.at_).mono ?_
    rintro e w3 ⟨⟨B1, c1, rfl, ho1⟩, hb3⟩
    have HL := Lib.hid (HL.out.step hb3)
    have HX := Lib.hid (HX.out.step hb3)
    have hB3 := hB2.trans (hb3.mono hB2.size)
    clear hb3 hB2
    have SF := Lib.hid (Own.stay ho1)
    clear ho1
    go_wp2_with fail
    refine (HP.out _ _ _ _ _ HX.out.at_ HL.out.at_).mono ?_
    rintro e w4 ⟨rfl, hb4⟩
    have HL := Lib.hid (HL.out.step hb4)
    have HX := Lib.hid (HX.out.step hb4)
    have SF := Lib.hid (SF.out.step hb4)
    have hB4 := hB3.trans (hb4.mono hB3.size)
    clear hb4 hB3
    go_wp2_with fail
    refine (HV.out _ _ _ HL.out.at_).mono ?_
    rintro e w5 ⟨rfl, hb5⟩
    have HL := Lib.hid (HL.out.step hb5)
    have HX := Lib.hid (HX.out.step hb5)
    have SF := Lib.hid (SF.out.step hb5)
    have hB5 := hB4.trans (hb5.mono hB4.size)
    clear hb5 hB4
    clear HX
    go_wp2_with fail
    have HB := Lib.hid hB5
    clear hB5
    obtain ⟨wo, rfl⟩ : ∃ wo : World, wo = w5 := ⟨_, rfl⟩
    go_loopw [12] (fun i wr => ∃ k : Nat, k ≤ n ∧ i = .int .i64 k ∧ Below wo.heap.size wo wr) (fun i _ => n - (intOf i).toNat)
    case atStart => exact ⟨0, Nat.zero_le _, rfl, Below.refl _ _⟩
    case round =>
      obtain ⟨k, hk, rfl, hbi⟩ := hrel
      have hzi := hbi.size
      by_cases hlt : k < n
      · have hlt' : (k : Int) < n := by omega
        have hx := HAT.out k hlt
        obtain ⟨gF, rfl, _, hgF, hinF⟩ := Own.in_ (SF.out _ hbi) (by intro e; rw [e] at hx; cases hx)
        have x0 : wr.cell? ⟨gF, k, none⟩ = some (.int .i64 (leastV (Rg.who l n k))) := by have := IntE.at1 hinF hx; rwa [Nat.zero_add] at this
        have HWC := Lib.hid (fun A c W ha => HRW.out k hlt A c W ha)
        have HLX := Lib.hid (HL.out.step hbi)
        generalize leastV (Rg.who l n k) = v at x0 HWC
        have hxx : (v == v) = true := beq_self_eq_true v
        have hxy : (v != v) = false := by rw [bne, hxx]; rfl
        clear hx hinF
        have hBx : Below wr.heap.size wr wr.drew := (Below.refl _ _).drew
        go_wp2_with fail
        go_region_with (first
          | (go_at_call 32; refine (HWC.out _ _ _ (HLX.out _ (Below.refl _ _).drew)).mono ?_; rintro e wc ⟨rfl, hbc⟩; have x0 := ((bcell hbc).1 _ _ hgF).trans x0; have hBx := hBx.trans (hbc.mono hBx.size)))
        all_goals
          go_wp2
          go_roundw
          case rel => exact ⟨k + 1, by omega, by go_num, hbi.trans (hBx.mono hzi)⟩
          case measure => simp [intOf]; omega
      · have hlt' : ¬ (k : Int) < n := by omega
        have hkn : k = n := by omega
        have HL := Lib.hid (HL.out.step hbi)
        have SF := Lib.hid (SF.out.step hbi)
        have hB := HB.out.trans (hbi.mono HB.out.size)
        clear hbi HB
        have hx := HAT.out m HMN.out
        obtain ⟨gF, rfl, _, hgF, hinF⟩ := Own.in_ SF.out.at_ (by intro e; rw [e] at hx; cases hx)
        have x0 : wr.cell? ⟨gF, m, none⟩ = some (.int .i64 (leastV (Rg.who l n m))) := by have := IntE.at1 hinF hx; rwa [Nat.zero_add] at this
        rw [HWM.out] at x0
        simp only [leastV] at x0
        have hmn := HMN.out
        have hc0 : ¬ (m : Int) < 0 := by omega
        have hc1 : ¬ (n : Int) ≤ m := by omega
        have hc2 : (m : Int) < n := by omega
        clear hx hinF
        clear HL SF
        go_wp2_with fail
        refine (HK.out _).mono ?_
        rintro e w6 ⟨rfl, hb6⟩
        have hB6 := hB.trans (hb6.mono hB.size)
        clear hb6 hB
        go_wp2
        go_ret
        exact ⟨rfl, hB6⟩

set_option maxRecDepth 100000 in
set_option maxHeartbeats 4000000 in
theorem fil_some (h : Prg) (l : List Rg.Pt) (hl : l.length ≤ maxLen) (A : Option Addr) (cap : Nat) (hA : A = none → cap = 0) (s c : Int) (hn : l.length ≤ 6 ∨ (12 < l.length ∧ l.length ≤ 24)) (q : Bool) (hq : Rg.valid l = q) (hqf : q = true) (hs : Rg.inS s = true) (hc : 0 ≤ c ∧ c < s) (j : Nat) (hwm : Rg.who l s c = some j) (w : World) (ha : PtE.Arg w A l) :
    Calls Try.prog 6 #[.slice A l.length cap, .int .i64 s, .int .i64 c] w fun e w' => e = .returned (.bool true) ∧ Below w.heap.size w w' := by
  have hm : (l.length : Int) ≤ 9223372036854775807 := by unfold maxLen at hl; omega
  have HK := Lib.hid (fun W => known_any h W)
  have hsi := (Rg.inS_iff s).1 hs
  obtain ⟨n, rfl⟩ : ∃ n : Nat, s = n := ⟨s.toNat, by omega⟩
  have h0' : ¬ (n : Int) < 0 := by omega
  have h1' : ¬ (100 : Int) < n := by omega
  have HF := Lib.hid (fun A cc W ha => fill_code h.fill l hl n (Rg.fill l n) 0 n (Rg.fill_len l n) (by unfold Rg.fillR; rw [hq, hqf, hs]; rfl) A cc W ha)
  have HAT := Lib.hid (fun i (hi : i < n) => (Rg.fill_at l n i hi).trans (by rw [optI_eq]))
  have HRW := Lib.hid (fun (k : Nat) (hk : k < n) A cc W ha => refWho_any l (hq.trans hqf) A cc n k (by omega) (by omega) (by omega) (by omega) W ha)
  obtain ⟨m, rfl⟩ : ∃ m : Nat, c = m := ⟨c.toNat, by omega⟩
  have HMN : Hid (m < n) := Lib.hid (by omega)
  have HW := Lib.hid (fun A cc W ha => who_code h.who l hl n m j 0 (by
    unfold Rg.whoR
    rw [hq, hqf, hs, decide_eq_true (show (0 : Int) ≤ m by omega), decide_eq_true (show (m : Int) < n by omega), hwm]; rfl) A cc W ha)
  have HWM := Lib.hid hwm
  clear hs hsi hc hwm
  have hj0 : ¬ (j : Int) < 0 := by omega
  subst hqf
  generalize Rg.fill l n = L at HF HAT
  have HV := Lib.hid (fun A c W h => valid_of l _ hq hl A c W h)
  have HO := Lib.hid (fun W h => own_any l (by omega) A cap hA W h)
  have HP := Lib.hid (fun A C c1 c2 W h1 h2 => parts_any l (by omega) A C c1 c2 W h1 h2)
  have HL := Lib.hid (Arg.stay ha)
  have hn' : (l.length : Int) ≤ 6 ∨ (¬ (l.length : Int) ≤ 6 ∧ ¬ (l.length : Int) ≤ 12 ∧ ¬ (24 : Int) < l.length) := by omega
  clear h hl ha hn hA hq
  rcases hn' with h6 | ⟨h6, h12, h24⟩
  all_goals
    go_enter Try.func6, Try.ntmps6
    have hB0 : Below w.heap.size w w := Below.refl _ _
    go_wp2_with fail
    refine (HO.out _ HL.out.at_).mono ?_
    rintro e w1 ⟨⟨X, cx, rfl, hox⟩, hb1⟩
    have HL := Lib.hid (HL.out.step hb1)
    have hB1 := hB0.trans (hb1.mono hB0.size)
    clear hb1
    have HX := Lib.hid (Arg.stay (Own.arg hox))
    clear hox
    go_wp2_with fail
    refine (HW.out _ _ _ HX.out.at_).mono ?_
    rintro e w2 ⟨rfl, hb2⟩
    have HL := Lib.hid (HL.out.step hb2)
    have HX := Lib.hid (HX.out.step hb2)
    have hB2 := hB1.trans (hb2.mono hB1.size)
    clear hb2 hB1
    go_wp2_with fail
    refine (HF.out _ _ _ HX.out.at_).mono ?_
    rintro e w3 ⟨⟨B1, c1, rfl, ho1⟩, hb3⟩
    have HL := Lib.hid (HL.out.step hb3)
    have HX := Lib.hid (HX.out.step hb3)
    have hB3 := hB2.trans (hb3.mono hB2.size)
    clear hb3 hB2
    have SF := Lib.hid (Own.stay ho1)
    clear ho1
    go_wp2_with fail
    refine (HP.out _ _ _ _ _ HX.out.at_ HL.out.at_).mono ?_
    rintro e w4 ⟨rfl, hb4⟩
    have HL := Lib.hid (HL.out.step hb4)
    have HX := Lib.hid (HX.out.step hb4)
    have SF := Lib.hid (SF.out.step hb4)
    have hB4 := hB3.trans (hb4.mono hB3.size)
    clear hb4 hB3
    go_wp2_with fail
    refine (HV.out _ _ _ HL.out.at_).mono ?_
    rintro e w5 ⟨rfl, hb5⟩
    have HL := Lib.hid (HL.out.step hb5)
    have HX := Lib.hid (HX.out.step hb5)
    have SF := Lib.hid (SF.out.step hb5)
    have hB5 := hB4.trans (hb5.mono hB4.size)
    clear hb5 hB4
    clear HX
    go_wp2_with fail
    have HB := Lib.hid hB5
    clear hB5
    obtain ⟨wo, rfl⟩ : ∃ wo : World, wo = w5 := ⟨_, rfl⟩
    go_loopw [12] (fun i wr => ∃ k : Nat, k ≤ n ∧ i = .int .i64 k ∧ Below wo.heap.size wo wr) (fun i _ => n - (intOf i).toNat)
    case atStart => exact ⟨0, Nat.zero_le _, rfl, Below.refl _ _⟩
    case round =>
      obtain ⟨k, hk, rfl, hbi⟩ := hrel
      have hzi := hbi.size
      by_cases hlt : k < n
      · have hlt' : (k : Int) < n := by omega
        have hx := HAT.out k hlt
        obtain ⟨gF, rfl, _, hgF, hinF⟩ := Own.in_ (SF.out _ hbi) (by intro e; rw [e] at hx; cases hx)
        have x0 : wr.cell? ⟨gF, k, none⟩ = some (.int .i64 (leastV (Rg.who l n k))) := by have := IntE.at1 hinF hx; rwa [Nat.zero_add] at this
        have HWC := Lib.hid (fun A c W ha => HRW.out k hlt A c W ha)
        have HLX := Lib.hid (HL.out.step hbi)
        generalize leastV (Rg.who l n k) = v at x0 HWC
        have hxx : (v == v) = true := beq_self_eq_true v
        have hxy : (v != v) = false := by rw [bne, hxx]; rfl
        clear hx hinF
        have hBx : Below wr.heap.size wr wr.drew := (Below.refl _ _).drew
        go_wp2_with fail
        go_region_with (first
          | (go_at_call 32; refine (HWC.out _ _ _ (HLX.out _ (Below.refl _ _).drew)).mono ?_; rintro e wc ⟨rfl, hbc⟩; have x0 := ((bcell hbc).1 _ _ hgF).trans x0; have hBx := hBx.trans (hbc.mono hBx.size)))
        all_goals
          go_wp2
          go_roundw
          case rel => exact ⟨k + 1, by omega, by go_num, hbi.trans (hBx.mono hzi)⟩
          case measure => simp [intOf]; omega
      · have hlt' : ¬ (k : Int) < n := by omega
        have hkn : k = n := by omega
        have HL := Lib.hid (HL.out.step hbi)
        have SF := Lib.hid (SF.out.step hbi)
        have hB := HB.out.trans (hbi.mono HB.out.size)
        clear hbi HB
        have hx := HAT.out m HMN.out
        obtain ⟨gF, rfl, _, hgF, hinF⟩ := Own.in_ SF.out.at_ (by intro e; rw [e] at hx; cases hx)
        have x0 : wr.cell? ⟨gF, m, none⟩ = some (.int .i64 (leastV (Rg.who l n m))) := by have := IntE.at1 hinF hx; rwa [Nat.zero_add] at this
        rw [HWM.out] at x0
        simp only [leastV] at x0
        have hmn := HMN.out
        have hc0 : ¬ (m : Int) < 0 := by omega
        have hc1 : ¬ (n : Int) ≤ m := by omega
        have hc2 : (m : Int) < n := by omega
        clear hx hinF
        clear HL SF
        go_wp2_with fail
        refine (HK.out _).mono ?_
        rintro e w6 ⟨rfl, hb6⟩
        have hB6 := hB.trans (hb6.mono hB.size)
        clear hb6 hB
        go_wp2
        go_ret
        exact ⟨rfl, hB6⟩

theorem fills_law (h : Prg) (l : List Rg.Pt) (hl : l.length ≤ maxLen) (A : Option Addr) (cap : Nat) (hA : A = none → cap = 0) (s c : Int) (w : World) (ha : PtE.Arg w A l) :
    Calls Try.prog 6 #[.slice A l.length cap, .int .i64 s, .int .i64 c] w fun e w' => e = .returned (.bool true) ∧ Below w.heap.size w w' := by
  by_cases hn : 6 < l.length ∧ l.length ≤ 12 ∨ 24 < l.length
  · exact fil_many h l hl A cap s c hn w ha
  · have hn' : l.length ≤ 6 ∨ (12 < l.length ∧ l.length ≤ 24) := by omega
    cases hq : Rg.valid l with
    | false => exact fil_inv h l hl A cap hA s c hn' false hq rfl w ha
    | true =>
      cases hs : Rg.inS s with
      | false => exact fil_out h l hl A cap hA s c hn' true hq rfl hs w ha
      | true =>
        by_cases hc : 0 ≤ c ∧ c < s
        · cases hd : Rg.who l s c with
          | none => exact fil_none h l hl A cap hA s c hn' true hq rfl hs hc hd w ha
          | some n => exact fil_some h l hl A cap hA s c hn' true hq rfl hs hc n hd w ha
        · exact fil_cell h l hl A cap hA s c hn' true hq rfl hs hc w ha

end Go.Proofs.Ythagelnimmfhbaa
