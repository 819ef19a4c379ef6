/- Layer 5: the walk of the law RegionLeast. -/
import Derived.Test.YthagelnimmfhbaaRu
namespace Go.Proofs.Ythagelnimmfhbaa
open Go.RowKit Go.El

theorem lawValid_of (l : List Rg.Pt) (q : Bool) (hq : (decide (l.length ≤ 6) && Rg.valid l) = q) (hl : l.length ≤ maxLen) (A : Option Addr) (cap : Nat) (w : World) (h : PtE.Arg w A l) :
    Calls Try.prog 33 #[.slice A l.length cap] w fun e w' => e = .returned (.bool q) ∧ Below w.heap.size w w' := hq ▸ lawValid_any l hl A cap w h

set_option maxRecDepth 100000 in
set_option maxHeartbeats 4000000 in
theorem lea_inv (h : Prg) (l : List Rg.Pt) (hl : l.length ≤ maxLen) (A : Option Addr) (cap : Nat) (hq : (decide (l.length ≤ 6) && Rg.valid l) = false) (w : World) (ha : PtE.Arg w A l) :
    Calls Try.prog 11 #[.slice A l.length cap] w fun e w' => e = .returned (.bool true) ∧ Below w.heap.size w w' := by
  have HK := Lib.hid (fun W => known_any h W)
  have HV := Lib.hid (lawValid_of l _ hq hl A cap w ha)
  clear h hl ha hq
  go_enter Try.func11, Try.ntmps11
  have hB0 : Below w.heap.size w w := Below.refl _ _
  go_wp2_with fail
  refine (HV.out).mono ?_
  rintro e w1 ⟨rfl, hb1⟩
  have hB1 := hB0.trans (hb1.mono hB0.size)
  clear hb1
  go_wp2_with fail
  refine (HK.out _).mono ?_
  rintro e w2 ⟨rfl, hb2⟩
  have hB2 := hB1.trans (hb2.mono hB1.size)
  clear hb2 hB1
  go_wp2
  go_ret
  exact ⟨rfl, hB2⟩

set_option maxRecDepth 100000 in
set_option maxHeartbeats 4000000 in
theorem lea_none (h : Prg) (l : List Rg.Pt) (hl : l.length ≤ maxLen) (A : Option Addr) (cap : Nat) (hA : A = none → cap = 0) (hq : (decide (l.length ≤ 6) && Rg.valid l) = true) (hd : Rg.least l = none) (w : World) (ha : PtE.Arg w A l) :
    Calls Try.prog 11 #[.slice A l.length cap] w fun e w' => e = .returned (.bool true) ∧ Below w.heap.size w w' := by
  have HK := Lib.hid (fun W => known_any h W)
  have hq2 : Rg.valid l = true := by rw [Bool.and_eq_true] at hq; exact hq.2
  have HV := Lib.hid (fun A c W h => lawValid_of l _ hq hl A c W h)
  have hsp := Rg.least_spec l
  have hlen := (Rg.valid_iff l).1 hq2
  have HO := Lib.hid (fun W h => own_any l (by omega) A cap hA W h)
  have HL := Lib.hid (Arg.stay ha)
  have HS := Lib.hid (fun A c W ha => sizes_code h.sizes l hl (Rg.sizes l) 0 (by unfold Rg.sizesR; rw [hq2]; rfl) A c W ha)
  have HE := Lib.hid (fun A c W ha => least_code h.least l hl 0 7 (by unfold Rg.leastR; rw [hq2, hd]; rfl) A c W ha)
  have HLB := Lib.hid (Rg.sizes_last l (hsp.2 hd))
  clear hd
  clear h hl ha hA hq hq2 hsp hlen
  go_enter Try.func11, Try.ntmps11
  have hB0 : Below w.heap.size w w := Below.refl _ _
  go_wp2_with fail
  refine (HV.out _ _ _ HL.out.at_).mono ?_
  rintro e w1 ⟨rfl, hb1⟩
  have HL := Lib.hid (HL.out.step hb1)
  have hB1 := hB0.trans (hb1.mono hB0.size)
  clear hb1
  go_wp2_with fail
  refine (HO.out _ HL.out.at_).mono ?_
  rintro e w2 ⟨⟨X, cx, rfl, hox⟩, hb2⟩
  have HL := Lib.hid (HL.out.step hb2)
  have hB2 := hB1.trans (hb2.mono hB1.size)
  clear hb2 hB1
  go_wp2_with fail
  refine (HE.out _ _ _ (Own.arg hox)).mono ?_
  rintro e w3 ⟨rfl, hb3⟩
  have HL := Lib.hid (HL.out.step hb3)
  have hB3 := hB2.trans (hb3.mono hB2.size)
  clear hb3 hB2 hox
  go_wp2_with fail
  refine (HO.out _ HL.out.at_).mono ?_
  rintro e w4 ⟨⟨Y, cy, rfl, hoy⟩, hb4⟩
  have HL := Lib.hid (HL.out.step hb4)
  have hB4 := hB3.trans (hb4.mono hB3.size)
  clear hb4 hB3
  go_wp2_with fail
  refine (HS.out _ _ _ (Own.arg hoy)).mono ?_
  rintro e w5 ⟨⟨B1, c1, rfl, ho1⟩, hb5⟩
  have HL := Lib.hid (HL.out.step hb5)
  have hB5 := hB4.trans (hb5.mono hB4.size)
  clear hb5 hB4 hoy
  rcases HLB.out with hnil | ⟨n, hn, hn100⟩
  · rw [hnil] at ho1 ⊢
    simp only [List.length_nil]
    clear HL
    clear ho1
    go_wp2_with fail
    refine (HK.out _).mono ?_
    rintro e w6 ⟨rfl, hb6⟩
    have hB6 := hB5.trans (hb6.mono hB5.size)
    clear hb6 hB5
    go_wp2
    go_ret
    exact ⟨rfl, hB6⟩
  ·
    obtain ⟨m, hm⟩ : ∃ m, (Rg.sizes l).length = m + 1 := ⟨(Rg.sizes l).length - 1, by have := (List.getElem?_eq_some_iff.1 hn).1; omega⟩
    have hn2 : (iv (Rg.sizes l))[m]? = some (n : Int) := by
      unfold iv
      rw [List.getElem?_map, show m = (Rg.sizes l).length - 1 by omega, hn]; rfl
    have hml : m ≤ 200 := by have := Rg.sizesK_len l 101; have : (Rg.sizes l).length ≤ 101 := this; omega
    obtain ⟨gS, rfl, _, hgS, hinS⟩ := Own.in_ ho1 (by intro e; rw [e] at hn2; cases hn2)
    have x0 : w5.cell? ⟨gS, m, none⟩ = some (.int .i64 n) := by have := IntE.at1 hinS hn2; rwa [Nat.zero_add] at this
    rw [hm]
    have hm1 : (m : Int) + 1 - 1 = m := by omega
    have hm2 : IntKind.i64.wrap (m : Int) = m := IntWalk.i64_in _ (by omega)
    have hm3 : (((m : Int) + 1) == 0) = false := by rw [beq_eq_false_iff_ne]; omega
    have hm4 : (n : Int) < 100 := by omega
    have hm5 : (m : Int) < (m : Int) + 1 := by omega
    have hm6 : (0 : Int) ≤ m := by omega
    clear hn hn2 hm hinS ho1
    clear HL
    go_wp2_with fail
    refine (HK.out _).mono ?_
    rintro e w6 ⟨rfl, hb6⟩
    have hB6 := hB5.trans (hb6.mono hB5.size)
    clear hb6 hB5
    go_wp2
    go_ret
    exact ⟨rfl, hB6⟩

set_option maxRecDepth 100000 in
set_option maxHeartbeats 4000000 in
theorem lea_zero (h : Prg) (l : List Rg.Pt) (hl : l.length ≤ maxLen) (A : Option Addr) (cap : Nat) (hA : A = none → cap = 0) (hq : (decide (l.length ≤ 6) && Rg.valid l) = true) (hd : Rg.least l = some 0) (w : World) (ha : PtE.Arg w A l) :
    Calls Try.prog 11 #[.slice A l.length cap] w fun e w' => e = .returned (.bool true) ∧ Below w.heap.size w w' := by
  have HK := Lib.hid (fun W => known_any h W)
  have hq2 : Rg.valid l = true := by rw [Bool.and_eq_true] at hq; exact hq.2
  have HV := Lib.hid (fun A c W h => lawValid_of l _ hq hl A c W h)
  have hsp := Rg.least_spec l
  have hlen := (Rg.valid_iff l).1 hq2
  have HO := Lib.hid (fun W h => own_any l (by omega) A cap hA W h)
  have HL := Lib.hid (Arg.stay ha)
  have HS := Lib.hid (fun A c W ha => sizes_code h.sizes l hl (Rg.sizes l) 0 (by unfold Rg.sizesR; rw [hq2]; rfl) A c W ha)
  obtain ⟨hn100, hall, hbelow⟩ := hsp.1 _ hd
  have HE := Lib.hid (fun A c W ha => least_code h.least l hl 0 0 (by unfold Rg.leastR; rw [hq2, hd]; rfl) A c W ha)
  have HF := Lib.hid (fun A c W ha => first_code h.first l hl (0 : Nat) 0 0 0 7 (by unfold Rg.firstR; rw [hq2, (Rg.inS_iff _).2 (by omega), Int.toNat_natCast, Rg.first_none l _ hall]; rfl) A c W ha)
  have hmany := Rg.sizesK_many l 0 101 (fun j h1 h2 => hall j h1 (by omega))
  have hmany : 101 - 0 ≤ (Rg.sizes l).length := hmany
  have hmany2 : (100 : Int) - (0 : Nat) < (Rg.sizes l).length := by omega
  have hsl : (Rg.sizes l).length ≤ 101 := Rg.sizesK_len l 101
  have hmany3 : (100 : Int) < (Rg.sizes l).length := by omega
  clear hd hall hbelow hmany hmany2
  generalize Rg.sizes l = S at HS hsl hmany3
  clear h hl ha hA hq hq2 hsp hlen
  go_enter Try.func11, Try.ntmps11
  have hB0 : Below w.heap.size w w := Below.refl _ _
  go_wp2_with fail
  refine (HV.out _ _ _ HL.out.at_).mono ?_
  rintro e w1 ⟨rfl, hb1⟩
  have HL := Lib.hid (HL.out.step hb1)
  have hB1 := hB0.trans (hb1.mono hB0.size)
  clear hb1
  go_wp2_with fail
  refine (HO.out _ HL.out.at_).mono ?_
  rintro e w2 ⟨⟨X, cx, rfl, hox⟩, hb2⟩
  have HL := Lib.hid (HL.out.step hb2)
  have hB2 := hB1.trans (hb2.mono hB1.size)
  clear hb2 hB1
  go_wp2_with fail
  refine (HE.out _ _ _ (Own.arg hox)).mono ?_
  rintro e w3 ⟨rfl, hb3⟩
  have HL := Lib.hid (HL.out.step hb3)
  have hB3 := hB2.trans (hb3.mono hB2.size)
  clear hb3 hB2 hox
  go_wp2_with fail
  refine (HO.out _ HL.out.at_).mono ?_
  rintro e w4 ⟨⟨Y, cy, rfl, hoy⟩, hb4⟩
  have HL := Lib.hid (HL.out.step hb4)
  have hB4 := hB3.trans (hb4.mono hB3.size)
  clear hb4 hB3
  go_wp2_with fail
  refine (HS.out _ _ _ (Own.arg hoy)).mono ?_
  rintro e w5 ⟨⟨B1, c1, rfl, ho1⟩, hb5⟩
  have HL := Lib.hid (HL.out.step hb5)
  have hB5 := hB4.trans (hb5.mono hB4.size)
  clear hb5 hB4 hoy
  clear ho1
  go_wp2_with fail
  refine (HO.out _ HL.out.at_).mono ?_
  rintro e w6 ⟨⟨Z, cz, rfl, hoz⟩, hb6⟩
  have HL := Lib.hid (HL.out.step hb6)
  have hB6 := hB5.trans (hb6.mono hB5.size)
  clear hb6 hB5
  go_wp2_with fail
  refine (HF.out _ _ _ (Own.arg hoz)).mono ?_
  rintro e w7 ⟨rfl, hb7⟩
  have HL := Lib.hid (HL.out.step hb7)
  have hB7 := hB6.trans (hb7.mono hB6.size)
  clear hb7 hB6 hoz
  have hb8 : Below w7.heap.size w7 (w7.alloc (Obj.cells #[.int .i64 0, .int .i64 0, .int .u8 0] 41)) := (Below.refl _ _).alloc (Nat.le_refl _) _
  have HL := Lib.hid (HL.out.step hb8)
  have hB8 := hB7.trans (hb8.mono hB7.size)
  clear hb8 hB7
  clear HL
  go_wp2_with fail
  refine (HK.out _).mono ?_
  rintro e w9 ⟨rfl, hb9⟩
  go_wp2
  go_ret
  exact ⟨rfl, hB8.trans (hb9.mono hB8.size)⟩

set_option maxRecDepth 100000 in
set_option maxHeartbeats 4000000 in
theorem lea_succ (h : Prg) (l : List Rg.Pt) (hl : l.length ≤ maxLen) (A : Option Addr) (cap : Nat) (hA : A = none → cap = 0) (hq : (decide (l.length ≤ 6) && Rg.valid l) = true) (N m : Nat) (hN : N = m + 1) (hd : Rg.least l = some N) (b : Int) (k : Nat) (hf2 : Rg.first l m = some (m, b, k)) (w : World) (ha : PtE.Arg w A l) :
    Calls Try.prog 11 #[.slice A l.length cap] w fun e w' => e = .returned (.bool true) ∧ Below w.heap.size w w' := by
  have HK := Lib.hid (fun W => known_any h W)
  have hq2 : Rg.valid l = true := by rw [Bool.and_eq_true] at hq; exact hq.2
  have HV := Lib.hid (fun A c W h => lawValid_of l _ hq hl A c W h)
  have hsp := Rg.least_spec l
  have hlen := (Rg.valid_iff l).1 hq2
  have HO := Lib.hid (fun W h => own_any l (by omega) A cap hA W h)
  have HL := Lib.hid (Arg.stay ha)
  have HS := Lib.hid (fun A c W ha => sizes_code h.sizes l hl (Rg.sizes l) 0 (by unfold Rg.sizesR; rw [hq2]; rfl) A c W ha)
  obtain ⟨hn100, hall, hbelow⟩ := hsp.1 _ hd
  have HE := Lib.hid (fun A c W ha => least_code h.least l hl N 0 (by unfold Rg.leastR; rw [hq2, hd]; rfl) A c W ha)
  have HF := Lib.hid (fun A c W ha => first_code h.first l hl (N : Nat) 0 0 0 7 (by unfold Rg.firstR; rw [hq2, (Rg.inS_iff _).2 (by omega), Int.toNat_natCast, Rg.first_none l _ hall]; rfl) A c W ha)
  have hmany := Rg.sizesK_many l N 101 (fun j h1 h2 => hall j h1 (by omega))
  have hmany : 101 - N ≤ (Rg.sizes l).length := hmany
  have hmany2 : (100 : Int) - (N : Nat) < (Rg.sizes l).length := by omega
  have hsl : (Rg.sizes l).length ≤ 101 := Rg.sizesK_len l 101
  have HF2 := Lib.hid (fun A c W ha => first_code h.first l hl (m : Nat) m b k 0 (by unfold Rg.firstR; rw [hq2, (Rg.inS_iff _).2 (by omega), Int.toNat_natCast, hf2]; rfl) A c W ha)
  have hm0 : decide ((N : Int) < 0) = false := decide_eq_false (by omega)
  have hm1 : decide ((100 : Int) < N) = false := decide_eq_false (by omega)
  have hm2 : decide (0 < N) = true := decide_eq_true (by omega)
  have hm2a : 0 < N := by omega
  have hm3 : (N : Int) - 1 = m := by omega
  have hm4 : IntKind.i64.wrap (m : Int) = m := IntWalk.i64_in _ (by omega)
  have hm5 : ((m : Int) == m) = true := beq_self_eq_true _
  have hm6 : ((m : Int) != m) = false := by rw [bne, hm5]; rfl
  clear hd hall hbelow hmany hf2 hN
  generalize Rg.sizes l = S at HS hsl hmany2
  clear h hl ha hA hq hq2 hsp hlen
  go_enter Try.func11, Try.ntmps11
  have hB0 : Below w.heap.size w w := Below.refl _ _
  go_wp2_with fail
  refine (HV.out _ _ _ HL.out.at_).mono ?_
  rintro e w1 ⟨rfl, hb1⟩
  have HL := Lib.hid (HL.out.step hb1)
  have hB1 := hB0.trans (hb1.mono hB0.size)
  clear hb1
  go_wp2_with fail
  refine (HO.out _ HL.out.at_).mono ?_
  rintro e w2 ⟨⟨X, cx, rfl, hox⟩, hb2⟩
  have HL := Lib.hid (HL.out.step hb2)
  have hB2 := hB1.trans (hb2.mono hB1.size)
  clear hb2 hB1
  go_wp2_with fail
  refine (HE.out _ _ _ (Own.arg hox)).mono ?_
  rintro e w3 ⟨rfl, hb3⟩
  have HL := Lib.hid (HL.out.step hb3)
  have hB3 := hB2.trans (hb3.mono hB2.size)
  clear hb3 hB2 hox
  go_wp2_with fail
  refine (HO.out _ HL.out.at_).mono ?_
  rintro e w4 ⟨⟨Y, cy, rfl, hoy⟩, hb4⟩
  have HL := Lib.hid (HL.out.step hb4)
  have hB4 := hB3.trans (hb4.mono hB3.size)
  clear hb4 hB3
  go_wp2_with fail
  refine (HS.out _ _ _ (Own.arg hoy)).mono ?_
  rintro e w5 ⟨⟨B1, c1, rfl, ho1⟩, hb5⟩
  have HL := Lib.hid (HL.out.step hb5)
  have hB5 := hB4.trans (hb5.mono hB4.size)
  clear hb5 hB4 hoy
  clear ho1
  go_wp2_with fail
  refine (HO.out _ HL.out.at_).mono ?_
  rintro e w6 ⟨⟨Z, cz, rfl, hoz⟩, hb6⟩
  have HL := Lib.hid (HL.out.step hb6)
  have hB6 := hB5.trans (hb6.mono hB5.size)
  clear hb6 hB5
  go_wp2_with fail
  refine (HF.out _ _ _ (Own.arg hoz)).mono ?_
  rintro e w7 ⟨rfl, hb7⟩
  have HL := Lib.hid (HL.out.step hb7)
  have hB7 := hB6.trans (hb7.mono hB6.size)
  clear hb7 hB6 hoz
  have hb8 : Below w7.heap.size w7 (w7.alloc (Obj.cells #[.int .i64 0, .int .i64 0, .int .u8 0] 41)) := (Below.refl _ _).alloc (Nat.le_refl _) _
  have HL := Lib.hid (HL.out.step hb8)
  have hB8 := hB7.trans (hb8.mono hB7.size)
  clear hb8 hB7
  go_wp2_with fail
  refine (HO.out _ HL.out.at_).mono ?_
  rintro e w9 ⟨⟨V, cv, rfl, hov⟩, hb9⟩
  have HL := Lib.hid (HL.out.step hb9)
  have hB9 := hB8.trans (hb9.mono hB8.size)
  clear hb9 hB8
  go_wp2_with fail
  refine (HF2.out _ _ _ (Own.arg hov)).mono ?_
  rintro e w10 ⟨rfl, hb10⟩
  have HL := Lib.hid (HL.out.step hb10)
  have hB10 := hB9.trans (hb10.mono hB9.size)
  clear hb10 hB9 hov
  have hb11 : Below w10.heap.size w10 (w10.alloc (Obj.cells #[.int .i64 (m : Int), .int .i64 b, .int .u8 k] 41)) := (Below.refl _ _).alloc (Nat.le_refl _) _
  have HL := Lib.hid (HL.out.step hb11)
  have hB11 := hB10.trans (hb11.mono hB10.size)
  clear hb11 hB10
  clear HL
  go_wp2_with fail
  refine (HK.out _).mono ?_
  rintro e w12 ⟨rfl, hb12⟩
  go_wp2
  go_ret
  exact ⟨rfl, hB11.trans (hb12.mono hB11.size)⟩

theorem least_law (h : Prg) (l : List Rg.Pt) (hl : l.length ≤ maxLen) (A : Option Addr) (cap : Nat) (hA : A = none → cap = 0) (w : World) (ha : PtE.Arg w A l) :
    Calls Try.prog 11 #[.slice A l.length cap] w fun e w' => e = .returned (.bool true) ∧ Below w.heap.size w w' := by
  cases hq : (decide (l.length ≤ 6) && Rg.valid l) with
  | false => exact lea_inv h l hl A cap hq w ha
  | true =>
    cases hd : Rg.least l with
    | none => exact lea_none h l hl A cap hA hq hd w ha
    | some n =>
      cases n with
      | zero => exact lea_zero h l hl A cap hA hq hd w ha
      | succ m =>
        obtain ⟨h1, _, h3⟩ := (Rg.least_spec l).1 _ hd
        obtain ⟨b, k, hf2⟩ := Rg.first_some l m (by omega) (h3 (by omega))
        exact lea_succ h l hl A cap hA hq (m + 1) m rfl hd b k hf2 w ha

end Go.Proofs.Ythagelnimmfhbaa
