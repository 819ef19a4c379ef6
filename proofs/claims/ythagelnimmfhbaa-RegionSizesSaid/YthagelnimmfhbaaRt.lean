/- Layer 5: the walk of the law RegionSizes. -/
import Derived.Test.YthagelnimmfhbaaRs
namespace Go.Proofs.Ythagelnimmfhbaa
open Go.RowKit Go.El

theorem sizes_code (hC : SizesC) (l : List Rg.Pt) (hl : l.length ≤ maxLen) (L : List Nat) (k : Nat) (hR : Rg.sizesR l = (L, k)) (A : Option Addr) (cap : Nat) (w : World) (ha : PtE.Arg w A l) : Calls Try.prog 24 #[.slice A l.length cap] w fun e w' =>
  (∃ B c, e = .returned (.tuple #[.slice B L.length c, .int .i64 k]) ∧ OwnI w' w.heap.size B c (iv L)) ∧ Below w.heap.size w w' := by
  have := hC l hl A cap w ha
  rw [hR] at this
  exact this
theorem least_code (hC : LeastC) (l : List Rg.Pt) (hl : l.length ≤ maxLen) (n k : Nat) (hR : Rg.leastR l = (n, k)) (A : Option Addr) (cap : Nat) (w : World) (ha : PtE.Arg w A l) : Calls Try.prog 25 #[.slice A l.length cap] w fun e w' =>
  e = .returned (.tuple #[.int .i64 n, .int .i64 k]) ∧ Below w.heap.size w w' := by
  have := hC l hl A cap w ha
  rw [hR] at this
  exact this
theorem slim_code (hC : SlimC) (l : List Rg.Pt) (hl : l.length ≤ maxLen) (L : List Rg.Pt) (k : Nat) (hR : Rg.slimR l = (L, k)) (A : Option Addr) (cap : Nat) (w : World) (ha : PtE.Arg w A l) : Calls Try.prog 26 #[.slice A l.length cap] w fun e w' =>
  (∃ B c, e = .returned (.tuple #[.slice B L.length c, .int .i64 k]) ∧ OwnP w' w.heap.size B c L) ∧ Below w.heap.size w w' := by
  have := hC l hl A cap w ha
  rw [hR] at this
  exact this

set_option maxRecDepth 100000 in
set_option maxHeartbeats 4000000 in
theorem szl_many (h : Prg) (l : List Rg.Pt) (hl : l.length ≤ maxLen) (A : Option Addr) (cap : Nat) (hn : 6 < l.length ∧ l.length ≤ 12 ∨ 24 < l.length) (w : World) (_ : PtE.Arg w A l) :
    Calls Try.prog 5 #[.slice A l.length cap] w fun e w' => e = .returned (.bool true) ∧ Below w.heap.size w w' := by
  have hm : (l.length : Int) ≤ 9223372036854775807 := by unfold maxLen at hl; omega
  have HK := Lib.hid (fun W => known_any h W)
  clear h hl
  have hn' : ((6 : Int) < l.length ∧ (l.length : Int) ≤ 12) ∨ ((6 : Int) < l.length ∧ ¬ (l.length : Int) ≤ 12 ∧ (24 : Int) < l.length) := by omega
  clear hn
  rcases hn' with ⟨h1, h2⟩ | ⟨h1, h2, h3⟩
  all_goals
    go_enter Try.func5, Try.ntmps5
    have hB0 : Below w.heap.size w w := Below.refl _ _
    go_wp2_with fail
    refine (HK.out _).mono ?_
    rintro e w1 ⟨rfl, hb1⟩
    have hB1 := hB0.trans (hb1.mono hB0.size)
    clear hb1
    go_wp2
    go_ret
    exact ⟨rfl, hB1⟩

set_option maxRecDepth 100000 in
set_option maxHeartbeats 4000000 in
theorem szl_inv (h : Prg) (l : List Rg.Pt) (hl : l.length ≤ maxLen) (A : Option Addr) (cap : Nat) (hA : A = none → cap = 0) (hn : l.length ≤ 6 ∨ (12 < l.length ∧ l.length ≤ 24)) (q : Bool) (hq : Rg.valid l = q) (hqf : q = false) (w : World) (ha : PtE.Arg w A l) :
    Calls Try.prog 5 #[.slice A l.length cap] w fun e w' => e = .returned (.bool true) ∧ Below w.heap.size w w' := by
  have hm : (l.length : Int) ≤ 9223372036854775807 := by unfold maxLen at hl; omega
  have HK := Lib.hid (fun W => known_any h W)
  have HS := Lib.hid (fun A c W ha => sizes_code h.sizes l hl [] 2 (by unfold Rg.sizesR; rw [hq, hqf]; rfl) A c W ha)
  have HE := Lib.hid (fun A c W ha => least_code h.least l hl 0 2 (by unfold Rg.leastR; rw [hq, hqf]; rfl) A c W ha)
  have HI := Lib.hid (fun A c W ha => slim_code h.slim l hl [] 2 (by unfold Rg.slimR; rw [hq, hqf]; rfl) A c W ha)
  subst hqf
  have HV := Lib.hid (fun A c W h => valid_of l _ hq hl A c W h)
  have HO := Lib.hid (fun W h => own_any l (by omega) A cap hA W h)
  have HP := Lib.hid (fun A C c1 c2 W h1 h2 => parts_any l (by omega) A C c1 c2 W h1 h2)
  have HL := Lib.hid (Arg.stay ha)
  have hn' : (l.length : Int) ≤ 6 ∨ (¬ (l.length : Int) ≤ 6 ∧ ¬ (l.length : Int) ≤ 12 ∧ ¬ (24 : Int) < l.length) := by omega
  clear h hl ha hn hA hq
  rcases hn' with h6 | ⟨h6, h12, h24⟩
  all_goals
    go_enter Try.func5, Try.ntmps5
    have hB0 : Below w.heap.size w w := Below.refl _ _
    go_wp2_with fail
    refine (HO.out _ HL.out.at_).mono ?_
    rintro e w1 ⟨⟨X, cx, rfl, hox⟩, hb1⟩
    have HL := Lib.hid (HL.out.step hb1)
    have hB1 := hB0.trans (hb1.mono hB0.size)
    clear hb1
    have HX := Lib.hid (Arg.stay (Own.arg hox))
    clear hox
    go_wp2_with fail
    refine (HS.out _ _ _ HX.out.at_).mono ?_
    rintro e w2 ⟨⟨B1, c1, rfl, ho1⟩, hb2⟩
    have HL := Lib.hid (HL.out.step hb2)
    have HX := Lib.hid (HX.out.step hb2)
    have hB2 := hB1.trans (hb2.mono hB1.size)
    clear hb2 hB1
    have SS := Lib.hid (Own.stay ho1)
    clear ho1
    go_wp2_with fail
    refine (HE.out _ _ _ HX.out.at_).mono ?_
    rintro e w3 ⟨rfl, hb3⟩
    have HL := Lib.hid (HL.out.step hb3)
    have HX := Lib.hid (HX.out.step hb3)
    have SS := Lib.hid (SS.out.step hb3)
    have hB3 := hB2.trans (hb3.mono hB2.size)
    clear hb3 hB2
    go_wp2_with fail
    refine (HI.out _ _ _ HX.out.at_).mono ?_
    rintro e w4 ⟨⟨B2, c2, rfl, ho2⟩, hb4⟩
    have HL := Lib.hid (HL.out.step hb4)
    have HX := Lib.hid (HX.out.step hb4)
    have SS := Lib.hid (SS.out.step hb4)
    have hB4 := hB3.trans (hb4.mono hB3.size)
    clear hb4 hB3
    have SP := Lib.hid (Own.stay ho2)
    clear ho2
    go_wp2_with fail
    refine (HP.out _ _ _ _ _ HX.out.at_ HL.out.at_).mono ?_
    rintro e w5 ⟨rfl, hb5⟩
    have HL := Lib.hid (HL.out.step hb5)
    have HX := Lib.hid (HX.out.step hb5)
    have SS := Lib.hid (SS.out.step hb5)
    have SP := Lib.hid (SP.out.step hb5)
    have hB5 := hB4.trans (hb5.mono hB4.size)
    clear hb5 hB4
    go_wp2_with fail
    refine (HV.out _ _ _ HL.out.at_).mono ?_
    rintro e w6 ⟨rfl, hb6⟩
    have HL := Lib.hid (HL.out.step hb6)
    have HX := Lib.hid (HX.out.step hb6)
    have SS := Lib.hid (SS.out.step hb6)
    have SP := Lib.hid (SP.out.step hb6)
    have hB6 := hB5.trans (hb6.mono hB5.size)
    clear hb6 hB5
    go_wp2_with fail
    refine (HK.out _).mono ?_
    rintro e w7 ⟨rfl, hb7⟩
    have HL := Lib.hid (HL.out.step hb7)
    have HX := Lib.hid (HX.out.step hb7)
    have SS := Lib.hid (SS.out.step hb7)
    have SP := Lib.hid (SP.out.step hb7)
    have hB7 := hB6.trans (hb7.mono hB6.size)
    clear hb7 hB6
    go_wp2
    go_ret
    exact ⟨rfl, hB7⟩

set_option maxRecDepth 100000 in
set_option maxHeartbeats 4000000 in
theorem szl_none (h : Prg) (l : List Rg.Pt) (hl : l.length ≤ maxLen) (A : Option Addr) (cap : Nat) (hA : A = none → cap = 0) (hn : l.length ≤ 6 ∨ (12 < l.length ∧ l.length ≤ 24)) (q : Bool) (hq : Rg.valid l = q) (hqf : q = true) (hd : Rg.least l = none) (w : World) (ha : PtE.Arg w A l) :
    Calls Try.prog 5 #[.slice A l.length cap] w fun e w' => e = .returned (.bool true) ∧ Below w.heap.size w w' := by
  have hm : (l.length : Int) ≤ 9223372036854775807 := by unfold maxLen at hl; omega
  have HK := Lib.hid (fun W => known_any h W)
  have HS := Lib.hid (fun A c W ha => sizes_code h.sizes l hl (Rg.sizes l) 0 (by unfold Rg.sizesR; rw [hq, hqf]; rfl) A c W ha)
  have HE := Lib.hid (fun A c W ha => least_code h.least l hl 0 7 (by unfold Rg.leastR; rw [hq, hqf, hd]; rfl) A c W ha)
  have HI := Lib.hid (fun A c W ha => slim_code h.slim l hl (Rg.slim l) 0 (by unfold Rg.slimR; rw [hq, hqf]; rfl) A c W ha)
  have HRS := Lib.hid (fun A c W ha => refSizes_any l (hq.trans hqf) A c W ha)
  have HRI := Lib.hid (fun A c W ha => refSlim_any l (hq.trans hqf) A c W ha)
  have hre := fun A c W ha => refLeast_any l (hq.trans hqf) A c W ha
  rw [hd] at hre
  have HRE : Hid (∀ A c W (_ : PtE.Arg W A l), Calls Try.prog 29 #[.slice A l.length c] W fun e w' => e = .returned (.int .i64 (-1)) ∧ Below W.heap.size W w') := Lib.hid hre
  have hsm := fun A C c1 c2 W h1 h2 => same_any (iv (Rg.sizes l)) (by rw [iv_len]; exact Nat.le_trans (Rg.sizesK_len l 101) (by omega)) A C c1 c2 W h1 h2
  rw [iv_len] at hsm
  have HSM := Lib.hid hsm
  have HP2 := Lib.hid (fun A C c1 c2 W h1 h2 => parts_any (Rg.slim l) (by have := Rg.slim_len l; omega) A C c1 c2 W h1 h2)
  clear hd hre hsm
  subst hqf
  generalize Rg.sizes l = L at HS HRS HSM
  generalize Rg.slim l = R at HI HRI HP2
  have HV := Lib.hid (fun A c W h => valid_of l _ hq hl A c W h)
  have HO := Lib.hid (fun W h => own_any l (by omega) A cap hA W h)
  have HP := Lib.hid (fun A C c1 c2 W h1 h2 => parts_any l (by omega) A C c1 c2 W h1 h2)
  have HL := Lib.hid (Arg.stay ha)
  have hn' : (l.length : Int) ≤ 6 ∨ (¬ (l.length : Int) ≤ 6 ∧ ¬ (l.length : Int) ≤ 12 ∧ ¬ (24 : Int) < l.length) := by omega
  clear h hl ha hn hA hq
  rcases hn' with h6 | ⟨h6, h12, h24⟩
  all_goals
    go_enter Try.func5, Try.ntmps5
    have hB0 : Below w.heap.size w w := Below.refl _ _
    go_wp2_with fail
    refine (HO.out _ HL.out.at_).mono ?_
    rintro e w1 ⟨⟨X, cx, rfl, hox⟩, hb1⟩
    have HL := Lib.hid (HL.out.step hb1)
    have hB1 := hB0.trans (hb1.mono hB0.size)
    clear hb1
    have HX := Lib.hid (Arg.stay (Own.arg hox))
    clear hox
    go_wp2_with fail
    refine (HS.out _ _ _ HX.out.at_).mono ?_
    rintro e w2 ⟨⟨B1, c1, rfl, ho1⟩, hb2⟩
    have HL := Lib.hid (HL.out.step hb2)
    have HX := Lib.hid (HX.out.step hb2)
    have hB2 := hB1.trans (hb2.mono hB1.size)
    clear hb2 hB1
    have SS := Lib.hid (Own.stay ho1)
    clear ho1
    go_wp2_with fail
    refine (HE.out _ _ _ HX.out.at_).mono ?_
    rintro e w3 ⟨rfl, hb3⟩
    have HL := Lib.hid (HL.out.step hb3)
    have HX := Lib.hid (HX.out.step hb3)
    have SS := Lib.hid (SS.out.step hb3)
    have hB3 := hB2.trans (hb3.mono hB2.size)
    clear hb3 hB2
    go_wp2_with fail
    refine (HI.out _ _ _ HX.out.at_).mono ?_
    rintro e w4 ⟨⟨B2, c2, rfl, ho2⟩, hb4⟩
    have HL := Lib.hid (HL.out.step hb4)
    have HX := Lib.hid (HX.out.step hb4)
    have SS := Lib.hid (SS.out.step hb4)
    have hB4 := hB3.trans (hb4.mono hB3.size)
    clear hb4 hB3
    have SP := Lib.hid (Own.stay ho2)
    clear ho2
    go_wp2_with fail
    refine (HP.out _ _ _ _ _ HX.out.at_ HL.out.at_).mono ?_
    rintro e w5 ⟨rfl, hb5⟩
    have HL := Lib.hid (HL.out.step hb5)
    have HX := Lib.hid (HX.out.step hb5)
    have SS := Lib.hid (SS.out.step hb5)
    have SP := Lib.hid (SP.out.step hb5)
    have hB5 := hB4.trans (hb5.mono hB4.size)
    clear hb5 hB4
    go_wp2_with fail
    refine (HV.out _ _ _ HL.out.at_).mono ?_
    rintro e w6 ⟨rfl, hb6⟩
    have HL := Lib.hid (HL.out.step hb6)
    have HX := Lib.hid (HX.out.step hb6)
    have SS := Lib.hid (SS.out.step hb6)
    have SP := Lib.hid (SP.out.step hb6)
    have hB6 := hB5.trans (hb6.mono hB5.size)
    clear hb6 hB5
    go_wp2_with fail
    refine (HRS.out _ _ _ HL.out.at_).mono ?_
    rintro e w7 ⟨⟨B3, c3, rfl, ho3⟩, hb7⟩
    have HL := Lib.hid (HL.out.step hb7)
    have HX := Lib.hid (HX.out.step hb7)
    have SS := Lib.hid (SS.out.step hb7)
    have SP := Lib.hid (SP.out.step hb7)
    have hB7 := hB6.trans (hb7.mono hB6.size)
    clear hb7 hB6
    have S3 := Lib.hid (Own.stay ho3)
    clear ho3
    go_wp2_with fail
    refine (HSM.out _ _ _ _ _ SS.out.at_.arg S3.out.at_.arg).mono ?_
    rintro e w8 ⟨rfl, hb8⟩
    have HL := Lib.hid (HL.out.step hb8)
    have HX := Lib.hid (HX.out.step hb8)
    have SS := Lib.hid (SS.out.step hb8)
    have SP := Lib.hid (SP.out.step hb8)
    have S3 := Lib.hid (S3.out.step hb8)
    have hB8 := hB7.trans (hb8.mono hB7.size)
    clear hb8 hB7
    clear SS S3
    go_wp2_with fail
    refine (HRI.out _ _ _ HL.out.at_).mono ?_
    rintro e w9 ⟨⟨B4, c4, rfl, ho4⟩, hb9⟩
    have HL := Lib.hid (HL.out.step hb9)
    have HX := Lib.hid (HX.out.step hb9)
    have SP := Lib.hid (SP.out.step hb9)
    have hB9 := hB8.trans (hb9.mono hB8.size)
    clear hb9 hB8
    have S4 := Lib.hid (Own.stay ho4)
    clear ho4
    go_wp2_with fail
    refine (HP2.out _ _ _ _ _ SP.out.at_.arg S4.out.at_.arg).mono ?_
    rintro e w10 ⟨rfl, hb10⟩
    have HL := Lib.hid (HL.out.step hb10)
    have HX := Lib.hid (HX.out.step hb10)
    have SP := Lib.hid (SP.out.step hb10)
    have S4 := Lib.hid (S4.out.step hb10)
    have hB10 := hB9.trans (hb10.mono hB9.size)
    clear hb10 hB9
    clear SP S4
    go_wp2_with fail
    refine (HRE.out _ _ _ HL.out.at_).mono ?_
    rintro e w11 ⟨rfl, hb11⟩
    have HL := Lib.hid (HL.out.step hb11)
    have HX := Lib.hid (HX.out.step hb11)
    have hB11 := hB10.trans (hb11.mono hB10.size)
    clear hb11 hB10
    go_wp2_with fail
    refine (HK.out _).mono ?_
    rintro e w12 ⟨rfl, hb12⟩
    have HL := Lib.hid (HL.out.step hb12)
    have HX := Lib.hid (HX.out.step hb12)
    have hB12 := hB11.trans (hb12.mono hB11.size)
    clear hb12 hB11
    go_wp2
    go_ret
    exact ⟨rfl, hB12⟩

set_option maxRecDepth 100000 in
set_option maxHeartbeats 4000000 in
theorem szl_some (h : Prg) (l : List Rg.Pt) (hl : l.length ≤ maxLen) (A : Option Addr) (cap : Nat) (hA : A = none → cap = 0) (hn : l.length ≤ 6 ∨ (12 < l.length ∧ l.length ≤ 24)) (q : Bool) (hq : Rg.valid l = q) (hqf : q = true) (n : Nat) (hd : Rg.least l = some n) (w : World) (ha : PtE.Arg w A l) :
    Calls Try.prog 5 #[.slice A l.length cap] w fun e w' => e = .returned (.bool true) ∧ Below w.heap.size w w' := by
  have hm : (l.length : Int) ≤ 9223372036854775807 := by unfold maxLen at hl; omega
  have HK := Lib.hid (fun W => known_any h W)
  have HS := Lib.hid (fun A c W ha => sizes_code h.sizes l hl (Rg.sizes l) 0 (by unfold Rg.sizesR; rw [hq, hqf]; rfl) A c W ha)
  have HE := Lib.hid (fun A c W ha => least_code h.least l hl n 0 (by unfold Rg.leastR; rw [hq, hqf, hd]; rfl) A c W ha)
  have HI := Lib.hid (fun A c W ha => slim_code h.slim l hl (Rg.slim l) 0 (by unfold Rg.slimR; rw [hq, hqf]; rfl) A c W ha)
  have HRS := Lib.hid (fun A c W ha => refSizes_any l (hq.trans hqf) A c W ha)
  have HRI := Lib.hid (fun A c W ha => refSlim_any l (hq.trans hqf) A c W ha)
  have hre := fun A c W ha => refLeast_any l (hq.trans hqf) A c W ha
  rw [hd] at hre
  have HRE : Hid (∀ A c W (_ : PtE.Arg W A l), Calls Try.prog 29 #[.slice A l.length c] W fun e w' => e = .returned (.int .i64 n) ∧ Below W.heap.size W w') := Lib.hid hre
  have hsm := fun A C c1 c2 W h1 h2 => same_any (iv (Rg.sizes l)) (by rw [iv_len]; exact Nat.le_trans (Rg.sizesK_len l 101) (by omega)) A C c1 c2 W h1 h2
  rw [iv_len] at hsm
  have HSM := Lib.hid hsm
  have HP2 := Lib.hid (fun A C c1 c2 W h1 h2 => parts_any (Rg.slim l) (by have := Rg.slim_len l; omega) A C c1 c2 W h1 h2)
  have hn0 : (0 : Int) ≤ n := by omega
  clear hd hre hsm
  subst hqf
  generalize Rg.sizes l = L at HS HRS HSM
  generalize Rg.slim l = R at HI HRI HP2
  have HV := Lib.hid (fun A c W h => valid_of l _ hq hl A c W h)
  have HO := Lib.hid (fun W h => own_any l (by omega) A cap hA W h)
  have HP := Lib.hid (fun A C c1 c2 W h1 h2 => parts_any l (by omega) A C c1 c2 W h1 h2)
  have HL := Lib.hid (Arg.stay ha)
  have hn' : (l.length : Int) ≤ 6 ∨ (¬ (l.length : Int) ≤ 6 ∧ ¬ (l.length : Int) ≤ 12 ∧ ¬ (24 : Int) < l.length) := by omega
  clear h hl ha hn hA hq
  rcases hn' with h6 | ⟨h6, h12, h24⟩
  all_goals
    go_enter Try.func5, Try.ntmps5
    have hB0 : Below w.heap.size w w := Below.refl _ _
    go_wp2_with fail
    refine (HO.out _ HL.out.at_).mono ?_
    rintro e w1 ⟨⟨X, cx, rfl, hox⟩, hb1⟩
    have HL := Lib.hid (HL.out.step hb1)
    have hB1 := hB0.trans (hb1.mono hB0.size)
    clear hb1
    have HX := Lib.hid (Arg.stay (Own.arg hox))
    clear hox
    go_wp2_with fail
    refine (HS.out _ _ _ HX.out.at_).mono ?_
    rintro e w2 ⟨⟨B1, c1, rfl, ho1⟩, hb2⟩
    have HL := Lib.hid (HL.out.step hb2)
    have HX := Lib.hid (HX.out.step hb2)
    have hB2 := hB1.trans (hb2.mono hB1.size)
    clear hb2 hB1
    have SS := Lib.hid (Own.stay ho1)
    clear ho1
    go_wp2_with fail
    refine (HE.out _ _ _ HX.out.at_).mono ?_
    rintro e w3 ⟨rfl, hb3⟩
    have HL := Lib.hid (HL.out.step hb3)
    have HX := Lib.hid (HX.out.step hb3)
    have SS := Lib.hid (SS.out.step hb3)
    have hB3 := hB2.trans (hb3.mono hB2.size)
    clear hb3 hB2
    go_wp2_with fail
    refine (HI.out _ _ _ HX.out.at_).mono ?_
    rintro e w4 ⟨⟨B2, c2, rfl, ho2⟩, hb4⟩
    have HL := Lib.hid (HL.out.step hb4)
    have HX := Lib.hid (HX.out.step hb4)
    have SS := Lib.hid (SS.out.step hb4)
    have hB4 := hB3.trans (hb4.mono hB3.size)
    clear hb4 hB3
    have SP := Lib.hid (Own.stay ho2)
    clear ho2
    go_wp2_with fail
    refine (HP.out _ _ _ _ _ HX.out.at_ HL.out.at_).mono ?_
    rintro e w5 ⟨rfl, hb5⟩
    have HL := Lib.hid (HL.out.step hb5)
    have HX := Lib.hid (HX.out.step hb5)
    have SS := Lib.hid (SS.out.step hb5)
    have SP := Lib.hid (SP.out.step hb5)
    have hB5 := hB4.trans (hb5.mono hB4.size)
    clear hb5 hB4
    go_wp2_with fail
    refine (HV.out _ _ _ HL.out.at_).mono ?_
    rintro e w6 ⟨rfl, hb6⟩
    have HL := Lib.hid (HL.out.step hb6)
    have HX := Lib.hid (HX.out.step hb6)
    have SS := Lib.hid (SS.out.step hb6)
    have SP := Lib.hid (SP.out.step hb6)
    have hB6 := hB5.trans (hb6.mono hB5.size)
    clear hb6 hB5
    go_wp2_with fail
    refine (HRS.out _ _ _ HL.out.at_).mono ?_
    rintro e w7 ⟨⟨B3, c3, rfl, ho3⟩, hb7⟩
    have HL := Lib.hid (HL.out.step hb7)
    have HX := Lib.hid (HX.out.step hb7)
    have SS := Lib.hid (SS.out.step hb7)
    have SP := Lib.hid (SP.out.step hb7)
    have hB7 := hB6.trans (hb7.mono hB6.size)
    clear hb7 hB6
    have S3 := Lib.hid (Own.stay ho3)
    clear ho3
    go_wp2_with fail
    refine (HSM.out _ _ _ _ _ SS.out.at_.arg S3.out.at_.arg).mono ?_
    rintro e w8 ⟨rfl, hb8⟩
    have HL := Lib.hid (HL.out.step hb8)
    have HX := Lib.hid (HX.out.step hb8)
    have SS := Lib.hid (SS.out.step hb8)
    have SP := Lib.hid (SP.out.step hb8)
    have S3 := Lib.hid (S3.out.step hb8)
    have hB8 := hB7.trans (hb8.mono hB7.size)
    clear hb8 hB7
    clear SS S3
    go_wp2_with fail
    refine (HRI.out _ _ _ HL.out.at_).mono ?_
    rintro e w9 ⟨⟨B4, c4, rfl, ho4⟩, hb9⟩
    have HL := Lib.hid (HL.out.step hb9)
    have HX := Lib.hid (HX.out.step hb9)
    have SP := Lib.hid (SP.out.step hb9)
    have hB9 := hB8.trans (hb9.mono hB8.size)
    clear hb9 hB8
    have S4 := Lib.hid (Own.stay ho4)
    clear ho4
    go_wp2_with fail
    refine (HP2.out _ _ _ _ _ SP.out.at_.arg S4.out.at_.arg).mono ?_
    rintro e w10 ⟨rfl, hb10⟩
    have HL := Lib.hid (HL.out.step hb10)
    have HX := Lib.hid (HX.out.step hb10)
    have SP := Lib.hid (SP.out.step hb10)
    have S4 := Lib.hid (S4.out.step hb10)
    have hB10 := hB9.trans (hb10.mono hB9.size)
    clear hb10 hB9
    clear SP S4
    go_wp2_with fail
    refine (HRE.out _ _ _ HL.out.at_).mono ?_
    rintro e w11 ⟨rfl, hb11⟩
    have HL := Lib.hid (HL.out.step hb11)
    have HX := Lib.hid (HX.out.step hb11)
    have hB11 := hB10.trans (hb11.mono hB10.size)
    clear hb11 hB10
    go_wp2_with fail
    refine (HK.out _).mono ?_
    rintro e w12 ⟨rfl, hb12⟩
    have HL := Lib.hid (HL.out.step hb12)
    have HX := Lib.hid (HX.out.step hb12)
    have hB12 := hB11.trans (hb12.mono hB11.size)
    clear hb12 hB11
    go_wp2
    go_ret
    exact ⟨rfl, hB12⟩

theorem sizes_law (h : Prg) (l : List Rg.Pt) (hl : l.length ≤ maxLen) (A : Option Addr) (cap : Nat) (hA : A = none → cap = 0) (w : World) (ha : PtE.Arg w A l) :
    Calls Try.prog 5 #[.slice A l.length cap] w fun e w' => e = .returned (.bool true) ∧ Below w.heap.size w w' := by
  by_cases hn : 6 < l.length ∧ l.length ≤ 12 ∨ 24 < l.length
  · exact szl_many h l hl A cap hn w ha
  · have hn' : l.length ≤ 6 ∨ (12 < l.length ∧ l.length ≤ 24) := by omega
    cases hq : Rg.valid l with
    | false => exact szl_inv h l hl A cap hA hn' false hq rfl w ha
    | true =>
      cases hd : Rg.least l with
      | none => exact szl_none h l hl A cap hA hn' true hq rfl hd w ha
      | some n => exact szl_some h l hl A cap hA hn' true hq rfl n hd w ha

end Go.Proofs.Ythagelnimmfhbaa
