/- Layer 5: the walk of the law RegionMisses. -/
import Derived.Test.YthagelnimmfhbaaRr
namespace Go.Proofs.Ythagelnimmfhbaa
open Go.RowKit Go.El

theorem boxedM {W : World} {a b : Int} {k : Nat} : Stay (fun V => (V.cell? ⟨W.heap.size, 0, none⟩ = some (.int .i64 a) ∧ V.cell? ⟨W.heap.size, 1, none⟩ = some (.int .i64 b) ∧ V.cell? ⟨W.heap.size, 2, none⟩ = some (.int .u8 k))) (W.alloc (Obj.cells #[.int .i64 a, .int .i64 b, .int .u8 k] 41)) :=
  fun _ hb => by
    have h := fun j => ((bcell hb).1 W.heap.size j (by simp)).trans (cell_of_row _ W.heap.size j _ _ _ (heap_alloc_new W _))
    exact ⟨h 0, h 1, h 2⟩
theorem misses_code (hC : MissesC) (l : List Rg.Pt) (hl : l.length ≤ maxLen) (s : Int) (L : List (Int × Nat)) (k : Nat) (hR : Rg.missesR l s = (L, k)) (A : Option Addr) (cap : Nat) (w : World) (ha : PtE.Arg w A l) : Calls Try.prog 18 #[.slice A l.length cap, .int .i64 s] w fun e w' =>
  (∃ B c, e = .returned (.tuple #[.slice B L.length c, .int .i64 k]) ∧ OwnM w' w.heap.size B c (mv s L)) ∧ Below w.heap.size w w' := by
  have := hC l hl A cap s w ha
  rw [hR] at this
  exact this
theorem first_code (hC : FirstC) (l : List Rg.Pt) (hl : l.length ≤ maxLen) (s : Int) (a b : Int) (q k : Nat) (hR : Rg.firstR l s = ((a, b, q), k)) (A : Option Addr) (cap : Nat) (w : World) (ha : PtE.Arg w A l) : Calls Try.prog 19 #[.slice A l.length cap, .int .i64 s] w fun e w' =>
  e = .returned (.tuple #[.agg #[.int .i64 a, .int .i64 b, .int .u8 q], .int .i64 k]) ∧ Below w.heap.size w w' := by
  have := hC l hl A cap s w ha
  rw [hR] at this
  exact this

set_option maxRecDepth 100000 in
set_option maxHeartbeats 4000000 in
theorem msl_many (h : Prg) (l : List Rg.Pt) (hl : l.length ≤ maxLen) (A : Option Addr) (cap : Nat) (s : Int) (hn : 6 < l.length ∧ l.length ≤ 12 ∨ 24 < l.length) (w : World) (_ : PtE.Arg w A l) :
    Calls Try.prog 4 #[.slice A l.length cap, .int .i64 s] w fun e w' => e = .returned (.bool true) ∧ Below w.heap.size w w' := by
  have hm : (l.length : Int) ≤ 9223372036854775807 := by unfold maxLen at hl; omega
  have HK := Lib.hid (fun W => known_any h W)
  clear h hl
  have hn' : ((6 : Int) < l.length ∧ (l.length : Int) ≤ 12) ∨ ((6 : Int) < l.length ∧ ¬ (l.length : Int) ≤ 12 ∧ (24 : Int) < l.length) := by omega
  clear hn
  rcases hn' with ⟨h1, h2⟩ | ⟨h1, h2, h3⟩
  all_goals
    go_enter Try.func4, Try.ntmps4
    have hB0 : Below w.heap.size w w := Below.refl _ _
    go_wp2_with fail
    refine (HK.out _).mono ?_
    rintro e w1 ⟨rfl, hb1⟩
    have hB1 := hB0.trans (hb1.mono hB0.size)
    clear hb1
    go_wp2
    go_ret
    exact ⟨rfl, hB1⟩

set_option maxRecDepth 100000 in
set_option maxHeartbeats 4000000 in
theorem msl_inv (h : Prg) (l : List Rg.Pt) (hl : l.length ≤ maxLen) (A : Option Addr) (cap : Nat) (hA : A = none → cap = 0) (s : Int) (hn : l.length ≤ 6 ∨ (12 < l.length ∧ l.length ≤ 24)) (q : Bool) (hq : Rg.valid l = q) (hqf : q = false) (w : World) (ha : PtE.Arg w A l) :
    Calls Try.prog 4 #[.slice A l.length cap, .int .i64 s] w fun e w' => e = .returned (.bool true) ∧ Below w.heap.size w w' := by
  have hm : (l.length : Int) ≤ 9223372036854775807 := by unfold maxLen at hl; omega
  have HK := Lib.hid (fun W => known_any h W)
  have HM := Lib.hid (fun A c W ha => misses_code h.misses l hl s [] 2 (by unfold Rg.missesR; rw [hq, hqf]; rfl) A c W ha)
  have HF := Lib.hid (fun A c W ha => first_code h.first l hl s 0 0 0 2 (by unfold Rg.firstR; rw [hq, hqf]; rfl) A c W ha)
  subst hqf
  have HV := Lib.hid (fun A c W h => valid_of l _ hq hl A c W h)
  have HO := Lib.hid (fun W h => own_any l (by omega) A cap hA W h)
  have HP := Lib.hid (fun A C c1 c2 W h1 h2 => parts_any l (by omega) A C c1 c2 W h1 h2)
  have HL := Lib.hid (Arg.stay ha)
  have hn' : (l.length : Int) ≤ 6 ∨ (¬ (l.length : Int) ≤ 6 ∧ ¬ (l.length : Int) ≤ 12 ∧ ¬ (24 : Int) < l.length) := by omega
  clear h hl ha hn hA hq
  rcases hn' with h6 | ⟨h6, h12, h24⟩
  all_goals
    go_enter Try.func4, Try.ntmps4
    have hB0 : Below w.heap.size w w := Below.refl _ _
    go_wp2_with fail
    refine (HO.out _ HL.out.at_).mono ?_
    rintro e w1 ⟨⟨X, cx, rfl, hox⟩, hb1⟩
    have HL := Lib.hid (HL.out.step hb1)
    have hB1 := hB0.trans (hb1.mono hB0.size)
    clear hb1
    have HX := Lib.hid (Arg.stay (Own.arg hox))
    clear hox
    go_wp2_with fail
    refine (HM.out _ _ _ HX.out.at_).mono ?_
    rintro e w2 ⟨⟨B1, c1, rfl, ho1⟩, hb2⟩
    have HL := Lib.hid (HL.out.step hb2)
    have HX := Lib.hid (HX.out.step hb2)
    have hB2 := hB1.trans (hb2.mono hB1.size)
    clear hb2 hB1
    have SM := Lib.hid (Own.stay ho1)
    clear ho1
    go_wp2_with fail
    refine (HF.out _ _ _ HX.out.at_).mono ?_
    rintro e w3 ⟨rfl, hb3⟩
    have HL := Lib.hid (HL.out.step hb3)
    have HX := Lib.hid (HX.out.step hb3)
    have SM := Lib.hid (SM.out.step hb3)
    have hB3 := hB2.trans (hb3.mono hB2.size)
    clear hb3 hB2
    go_wp2_with fail
    have hb4 : Below w3.heap.size w3 (w3.alloc (Obj.cells #[.int .i64 0, .int .i64 0, .int .u8 0] 41)) := (Below.refl _ _).alloc (Nat.le_refl _) _
    have HL := Lib.hid (HL.out.step hb4)
    have HX := Lib.hid (HX.out.step hb4)
    have SM := Lib.hid (SM.out.step hb4)
    have hB4 := hB3.trans (hb4.mono hB3.size)
    clear hb4 hB3
    have SF := Lib.hid (boxedM (W := w3) (a := 0) (b := 0) (k := 0))
    refine (HP.out _ _ _ _ _ HX.out.at_ HL.out.at_).mono ?_
    rintro e w5 ⟨rfl, hb5⟩
    have HL := Lib.hid (HL.out.step hb5)
    have HX := Lib.hid (HX.out.step hb5)
    have SM := Lib.hid (SM.out.step hb5)
    have SF := Lib.hid (SF.out.step hb5)
    have hB5 := hB4.trans (hb5.mono hB4.size)
    clear hb5 hB4
    go_wp2_with fail
    refine (HV.out _ _ _ HL.out.at_).mono ?_
    rintro e w6 ⟨rfl, hb6⟩
    have HL := Lib.hid (HL.out.step hb6)
    have HX := Lib.hid (HX.out.step hb6)
    have SM := Lib.hid (SM.out.step hb6)
    have SF := Lib.hid (SF.out.step hb6)
    have hB6 := hB5.trans (hb6.mono hB5.size)
    clear hb6 hB5
    obtain ⟨y0, y1, y2⟩ := SF.out.at_
    go_wp2_with fail
    refine (HK.out _).mono ?_
    rintro e w7 ⟨rfl, hb7⟩
    have HL := Lib.hid (HL.out.step hb7)
    have HX := Lib.hid (HX.out.step hb7)
    have SM := Lib.hid (SM.out.step hb7)
    have SF := Lib.hid (SF.out.step hb7)
    have hB7 := hB6.trans (hb7.mono hB6.size)
    clear hb7 hB6
    go_wp2
    go_ret
    exact ⟨rfl, hB7⟩

set_option maxRecDepth 100000 in
set_option maxHeartbeats 4000000 in
theorem msl_out (h : Prg) (l : List Rg.Pt) (hl : l.length ≤ maxLen) (A : Option Addr) (cap : Nat) (hA : A = none → cap = 0) (s : Int) (hn : l.length ≤ 6 ∨ (12 < l.length ∧ l.length ≤ 24)) (q : Bool) (hq : Rg.valid l = q) (hqf : q = true) (hs : Rg.inS s = false) (w : World) (ha : PtE.Arg w A l) :
    Calls Try.prog 4 #[.slice A l.length cap, .int .i64 s] w fun e w' => e = .returned (.bool true) ∧ Below w.heap.size w w' := by
  have hm : (l.length : Int) ≤ 9223372036854775807 := by unfold maxLen at hl; omega
  have HK := Lib.hid (fun W => known_any h W)
  have HM := Lib.hid (fun A c W ha => misses_code h.misses l hl s [] 3 (by unfold Rg.missesR; rw [hq, hqf, hs]; rfl) A c W ha)
  have HF := Lib.hid (fun A c W ha => first_code h.first l hl s 0 0 0 3 (by unfold Rg.firstR; rw [hq, hqf, hs]; rfl) A c W ha)
  have HS := Lib.hid (Rg.inS_not' hs)
  clear hs
  subst hqf
  have HV := Lib.hid (fun A c W h => valid_of l _ hq hl A c W h)
  have HO := Lib.hid (fun W h => own_any l (by omega) A cap hA W h)
  have HP := Lib.hid (fun A C c1 c2 W h1 h2 => parts_any l (by omega) A C c1 c2 W h1 h2)
  have HL := Lib.hid (Arg.stay ha)
  have hn' : (l.length : Int) ≤ 6 ∨ (¬ (l.length : Int) ≤ 6 ∧ ¬ (l.length : Int) ≤ 12 ∧ ¬ (24 : Int) < l.length) := by omega
  clear h hl ha hn hA hq
  rcases hn' with h6 | ⟨h6, h12, h24⟩
  all_goals
    go_enter Try.func4, Try.ntmps4
    have hB0 : Below w.heap.size w w := Below.refl _ _
    go_wp2_with fail
    refine (HO.out _ HL.out.at_).mono ?_
    rintro e w1 ⟨⟨X, cx, rfl, hox⟩, hb1⟩
    have HL := Lib.hid (HL.out.step hb1)
    have hB1 := hB0.trans (hb1.mono hB0.size)
    clear hb1
    have HX := Lib.hid (Arg.stay (Own.arg hox))
    clear hox
    go_wp2_with fail
    refine (HM.out _ _ _ HX.out.at_).mono ?_
    rintro e w2 ⟨⟨B1, c1, rfl, ho1⟩, hb2⟩
    have HL := Lib.hid (HL.out.step hb2)
    have HX := Lib.hid (HX.out.step hb2)
    have hB2 := hB1.trans (hb2.mono hB1.size)
    clear hb2 hB1
    have SM := Lib.hid (Own.stay ho1)
    clear ho1
    go_wp2_with fail
    refine (HF.out _ _ _ HX.out.at_).mono ?_
    rintro e w3 ⟨rfl, hb3⟩
    have HL := Lib.hid (HL.out.step hb3)
    have HX := Lib.hid (HX.out.step hb3)
    have SM := Lib.hid (SM.out.step hb3)
    have hB3 := hB2.trans (hb3.mono hB2.size)
    clear hb3 hB2
    go_wp2_with fail
    have hb4 : Below w3.heap.size w3 (w3.alloc (Obj.cells #[.int .i64 0, .int .i64 0, .int .u8 0] 41)) := (Below.refl _ _).alloc (Nat.le_refl _) _
    have HL := Lib.hid (HL.out.step hb4)
    have HX := Lib.hid (HX.out.step hb4)
    have SM := Lib.hid (SM.out.step hb4)
    have hB4 := hB3.trans (hb4.mono hB3.size)
    clear hb4 hB3
    have SF := Lib.hid (boxedM (W := w3) (a := 0) (b := 0) (k := 0))
    refine (HP.out _ _ _ _ _ HX.out.at_ HL.out.at_).mono ?_
    rintro e w5 ⟨rfl, hb5⟩
    have HL := Lib.hid (HL.out.step hb5)
    have HX := Lib.hid (HX.out.step hb5)
    have SM := Lib.hid (SM.out.step hb5)
    have SF := Lib.hid (SF.out.step hb5)
    have hB5 := hB4.trans (hb5.mono hB4.size)
    clear hb5 hB4
    go_wp2_with fail
    refine (HV.out _ _ _ HL.out.at_).mono ?_
    rintro e w6 ⟨rfl, hb6⟩
    have HL := Lib.hid (HL.out.step hb6)
    have HX := Lib.hid (HX.out.step hb6)
    have SM := Lib.hid (SM.out.step hb6)
    have SF := Lib.hid (SF.out.step hb6)
    have hB6 := hB5.trans (hb6.mono hB5.size)
    clear hb6 hB5
    rcases HS.out with hs | ⟨hns, hs⟩
    all_goals
      obtain ⟨y0, y1, y2⟩ := SF.out.at_
      go_wp2_with fail
      refine (HK.out _).mono ?_
      rintro e w7 ⟨rfl, hb7⟩
      have HL := Lib.hid (HL.out.step hb7)
      have HX := Lib.hid (HX.out.step hb7)
      have SM := Lib.hid (SM.out.step hb7)
      have SF := Lib.hid (SF.out.step hb7)
      have hB7 := hB6.trans (hb7.mono hB6.size)
      clear hb7 hB6
      go_wp2
      go_ret
      exact ⟨rfl, hB7⟩

set_option maxRecDepth 100000 in
set_option maxHeartbeats 4000000 in
theorem msl_none (h : Prg) (l : List Rg.Pt) (hl : l.length ≤ maxLen) (A : Option Addr) (cap : Nat) (hA : A = none → cap = 0) (s : Int) (hn : l.length ≤ 6 ∨ (12 < l.length ∧ l.length ≤ 24)) (q : Bool) (hq : Rg.valid l = q) (hqf : q = true) (hs : Rg.inS s = true) (hd : Rg.first l s.toNat = none) (w : World) (ha : PtE.Arg w A l) :
    Calls Try.prog 4 #[.slice A l.length cap, .int .i64 s] w fun e w' => e = .returned (.bool true) ∧ Below w.heap.size w w' := by
  have hm : (l.length : Int) ≤ 9223372036854775807 := by unfold maxLen at hl; omega
  have HK := Lib.hid (fun W => known_any h W)
  have hsi := (Rg.inS_iff s).1 hs
  obtain ⟨n, rfl⟩ : ∃ n : Nat, s = n := ⟨s.toNat, by omega⟩
  have hd' : Rg.first l n = none := hd
  clear hd
  have h0' : ¬ (n : Int) < 0 := by omega
  have h1' : ¬ (100 : Int) < n := by omega
  have HM := Lib.hid (fun A c W ha => misses_code h.misses l hl n (Rg.misses l n) 0 (by unfold Rg.missesR; rw [hq, hqf, hs]; rfl) A c W ha)
  have HF := Lib.hid (fun A c W ha => first_code h.first l hl n 0 0 0 7 (by unfold Rg.firstR; rw [hq, hqf, hs, Int.toNat_natCast, hd']; rfl) A c W ha)
  have HR := Lib.hid (fun A c W ha => refMisses_any l (hq.trans hqf) A c n (by omega) (by omega) W ha)
  have hrf := fun A c W ha => refFirst_any l (hq.trans hqf) A c n (by omega) W ha
  rw [hd'] at hrf
  have HRF : Hid (∀ A c W (_ : PtE.Arg W A l), Calls Try.prog 23 #[.slice A l.length c, .int .i64 n] W fun e w' => e = .returned (.tuple #[.agg #[.int .i64 0, .int .i64 0, .int .u8 0], .bool false]) ∧ Below W.heap.size W w') := Lib.hid hrf
  have hml : (mv n (Rg.misses l n)).length ≤ 3000000 := by rw [mv_len]; have := Rg.missK_len l n 401; exact Nat.le_trans this (by omega)
  have hsm := fun A C c1 c2 W h1 h2 => misses_any (mv n (Rg.misses l n)) hml A C c1 c2 W h1 h2
  rw [mv_len] at hsm
  have HSM := Lib.hid hsm
  clear hs hsi hd' hrf hsm hml
  subst hqf
  generalize Rg.misses l n = L at HM HR HSM
  have HV := Lib.hid (fun A c W h => valid_of l _ hq hl A c W h)
  have HO := Lib.hid (fun W h => own_any l (by omega) A cap hA W h)
  have HP := Lib.hid (fun A C c1 c2 W h1 h2 => parts_any l (by omega) A C c1 c2 W h1 h2)
  have HL := Lib.hid (Arg.stay ha)
  have hn' : (l.length : Int) ≤ 6 ∨ (¬ (l.length : Int) ≤ 6 ∧ ¬ (l.length : Int) ≤ 12 ∧ ¬ (24 : Int) < l.length) := by omega
  clear h hl ha hn hA hq
  rcases hn' with h6 | ⟨h6, h12, h24⟩
  all_goals
    go_enter Try.func4, Try.ntmps4
    have hB0 : Below w.heap.size w w := Below.refl _ _
    go_wp2_with fail
    refine (HO.out _ HL.out.at_).mono ?_
    rintro e w1 ⟨⟨X, cx, rfl, hox⟩, hb1⟩
    have HL := Lib.hid (HL.out.step hb1)
    have hB1 := hB0.trans (hb1.mono hB0.size)
    clear hb1
    have HX := Lib.hid (Arg.stay (Own.arg hox))
    clear hox
    go_wp2_with fail
    refine (HM.out _ _ _ HX.out.at_).mono ?_
    rintro e w2 ⟨⟨B1, c1, rfl, ho1⟩, hb2⟩
    have HL := Lib.hid (HL.out.step hb2)
    have HX := Lib.hid (HX.out.step hb2)
    have hB2 := hB1.trans (hb2.mono hB1.size)
    clear hb2 hB1
    have SM := Lib.hid (Own.stay ho1)
    clear ho1
    go_wp2_with fail
    refine (HF.out _ _ _ HX.out.at_).mono ?_
    rintro e w3 ⟨rfl, hb3⟩
    have HL := Lib.hid (HL.out.step hb3)
    have HX := Lib.hid (HX.out.step hb3)
    have SM := Lib.hid (SM.out.step hb3)
    have hB3 := hB2.trans (hb3.mono hB2.size)
    clear hb3 hB2
    go_wp2_with fail
    have hb4 : Below w3.heap.size w3 (w3.alloc (Obj.cells #[.int .i64 0, .int .i64 0, .int .u8 0] 41)) := (Below.refl _ _).alloc (Nat.le_refl _) _
    have HL := Lib.hid (HL.out.step hb4)
    have HX := Lib.hid (HX.out.step hb4)
    have SM := Lib.hid (SM.out.step hb4)
    have hB4 := hB3.trans (hb4.mono hB3.size)
    clear hb4 hB3
    have SF := Lib.hid (boxedM (W := w3) (a := 0) (b := 0) (k := 0))
    refine (HP.out _ _ _ _ _ HX.out.at_ HL.out.at_).mono ?_
    rintro e w5 ⟨rfl, hb5⟩
    have HL := Lib.hid (HL.out.step hb5)
    have HX := Lib.hid (HX.out.step hb5)
    have SM := Lib.hid (SM.out.step hb5)
    have SF := Lib.hid (SF.out.step hb5)
    have hB5 := hB4.trans (hb5.mono hB4.size)
    clear hb5 hB4
    go_wp2_with fail
    refine (HV.out _ _ _ HL.out.at_).mono ?_
    rintro e w6 ⟨rfl, hb6⟩
    have HL := Lib.hid (HL.out.step hb6)
    have HX := Lib.hid (HX.out.step hb6)
    have SM := Lib.hid (SM.out.step hb6)
    have SF := Lib.hid (SF.out.step hb6)
    have hB6 := hB5.trans (hb6.mono hB5.size)
    clear hb6 hB5
    go_wp2_with fail
    refine (HR.out _ _ _ HL.out.at_).mono ?_
    rintro e w7 ⟨⟨B2, c2, rfl, ho2⟩, hb7⟩
    have HL := Lib.hid (HL.out.step hb7)
    have HX := Lib.hid (HX.out.step hb7)
    have SM := Lib.hid (SM.out.step hb7)
    have SF := Lib.hid (SF.out.step hb7)
    have hB7 := hB6.trans (hb7.mono hB6.size)
    clear hb7 hB6
    have SR := Lib.hid (Own.stay ho2)
    clear ho2
    go_wp2_with fail
    refine (HSM.out _ _ _ _ _ SM.out.at_.arg SR.out.at_.arg).mono ?_
    rintro e w8 ⟨rfl, hb8⟩
    have HL := Lib.hid (HL.out.step hb8)
    have HX := Lib.hid (HX.out.step hb8)
    have SM := Lib.hid (SM.out.step hb8)
    have SF := Lib.hid (SF.out.step hb8)
    have SR := Lib.hid (SR.out.step hb8)
    have hB8 := hB7.trans (hb8.mono hB7.size)
    clear hb8 hB7
    clear SM SR
    go_wp2_with fail
    refine (HRF.out _ _ _ HL.out.at_).mono ?_
    rintro e w9 ⟨rfl, hb9⟩
    have HL := Lib.hid (HL.out.step hb9)
    have HX := Lib.hid (HX.out.step hb9)
    have SF := Lib.hid (SF.out.step hb9)
    have hB9 := hB8.trans (hb9.mono hB8.size)
    clear hb9 hB8
    have hb10 : Below w9.heap.size w9 (w9.alloc (Obj.cells #[.int .i64 0, .int .i64 0, .int .u8 0] 41)) := (Below.refl _ _).alloc (Nat.le_refl _) _
    have HL := Lib.hid (HL.out.step hb10)
    have HX := Lib.hid (HX.out.step hb10)
    have SF := Lib.hid (SF.out.step hb10)
    have hB10 := hB9.trans (hb10.mono hB9.size)
    clear hb10 hB9
    have SG := Lib.hid (boxedM (W := w9) (a := 0) (b := 0) (k := 0))
    obtain ⟨y0, y1, y2⟩ := SF.out.at_
    obtain ⟨z0, z1, z2⟩ := SG.out.at_
    go_wp2_with fail
    refine (HK.out _).mono ?_
    rintro e w11 ⟨rfl, hb11⟩
    go_wp2
    go_ret
    exact ⟨rfl, hB10.trans (hb11.mono hB10.size)⟩

set_option maxRecDepth 100000 in
set_option maxHeartbeats 4000000 in
theorem msl_some (h : Prg) (l : List Rg.Pt) (hl : l.length ≤ maxLen) (A : Option Addr) (cap : Nat) (hA : A = none → cap = 0) (s : Int) (hn : l.length ≤ 6 ∨ (12 < l.length ∧ l.length ≤ 24)) (q : Bool) (hq : Rg.valid l = q) (hqf : q = true) (hs : Rg.inS s = true) (a : Nat) (b : Int) (k : Nat) (hd : Rg.first l s.toNat = some (a, b, k)) (w : World) (ha : PtE.Arg w A l) :
    Calls Try.prog 4 #[.slice A l.length cap, .int .i64 s] w fun e w' => e = .returned (.bool true) ∧ Below w.heap.size w w' := by
  have hm : (l.length : Int) ≤ 9223372036854775807 := by unfold maxLen at hl; omega
  have HK := Lib.hid (fun W => known_any h W)
  have hsi := (Rg.inS_iff s).1 hs
  obtain ⟨n, rfl⟩ : ∃ n : Nat, s = n := ⟨s.toNat, by omega⟩
  have hd' : Rg.first l n = some (a, b, k) := hd
  clear hd
  have h0' : ¬ (n : Int) < 0 := by omega
  have h1' : ¬ (100 : Int) < n := by omega
  have HM := Lib.hid (fun A c W ha => misses_code h.misses l hl n (Rg.misses l n) 0 (by unfold Rg.missesR; rw [hq, hqf, hs]; rfl) A c W ha)
  have HF := Lib.hid (fun A c W ha => first_code h.first l hl n a b k 0 (by unfold Rg.firstR; rw [hq, hqf, hs, Int.toNat_natCast, hd']; rfl) A c W ha)
  have HR := Lib.hid (fun A c W ha => refMisses_any l (hq.trans hqf) A c n (by omega) (by omega) W ha)
  have hrf := fun A c W ha => refFirst_any l (hq.trans hqf) A c n (by omega) W ha
  rw [hd'] at hrf
  have HRF : Hid (∀ A c W (_ : PtE.Arg W A l), Calls Try.prog 23 #[.slice A l.length c, .int .i64 n] W fun e w' => e = .returned (.tuple #[.agg #[.int .i64 a, .int .i64 b, .int .u8 k], .bool true]) ∧ Below W.heap.size W w') := Lib.hid hrf
  have hml : (mv n (Rg.misses l n)).length ≤ 3000000 := by rw [mv_len]; have := Rg.missK_len l n 401; exact Nat.le_trans this (by omega)
  have hsm := fun A C c1 c2 W h1 h2 => misses_any (mv n (Rg.misses l n)) hml A C c1 c2 W h1 h2
  rw [mv_len] at hsm
  have HSM := Lib.hid hsm
  clear hs hsi hd' hrf hsm hml
  subst hqf
  generalize Rg.misses l n = L at HM HR HSM
  have HV := Lib.hid (fun A c W h => valid_of l _ hq hl A c W h)
  have HO := Lib.hid (fun W h => own_any l (by omega) A cap hA W h)
  have HP := Lib.hid (fun A C c1 c2 W h1 h2 => parts_any l (by omega) A C c1 c2 W h1 h2)
  have HL := Lib.hid (Arg.stay ha)
  have hn' : (l.length : Int) ≤ 6 ∨ (¬ (l.length : Int) ≤ 6 ∧ ¬ (l.length : Int) ≤ 12 ∧ ¬ (24 : Int) < l.length) := by omega
  clear h hl ha hn hA hq
  rcases hn' with h6 | ⟨h6, h12, h24⟩
  all_goals
    go_enter Try.func4, Try.ntmps4
    have hB0 : Below w.heap.size w w := Below.refl _ _
    go_wp2_with fail
    refine (HO.out _ HL.out.at_).mono ?_
    rintro e w1 ⟨⟨X, cx, rfl, hox⟩, hb1⟩
    have HL := Lib.hid (HL.out.step hb1)
    have hB1 := hB0.trans (hb1.mono hB0.size)
    clear hb1
    have HX := Lib.hid (Arg.stay (Own.arg hox))
    clear hox
    go_wp2_with fail
    refine (HM.out _ _ _ HX.out.at_).mono ?_
    rintro e w2 ⟨⟨B1, c1, rfl, ho1⟩, hb2⟩
    have HL := Lib.hid (HL.out.step hb2)
    have HX := Lib.hid (HX.out.step hb2)
    have hB2 := hB1.trans (hb2.mono hB1.size)
    clear hb2 hB1
    have SM := Lib.hid (Own.stay ho1)
    clear ho1
    go_wp2_with fail
    refine (HF.out _ _ _ HX.out.at_).mono ?_
    rintro e w3 ⟨rfl, hb3⟩
    have HL := Lib.hid (HL.out.step hb3)
    have HX := Lib.hid (HX.out.step hb3)
    have SM := Lib.hid (SM.out.step hb3)
    have hB3 := hB2.trans (hb3.mono hB2.size)
    clear hb3 hB2
    go_wp2_with fail
    have hb4 : Below w3.heap.size w3 (w3.alloc (Obj.cells #[.int .i64 a, .int .i64 b, .int .u8 k] 41)) := (Below.refl _ _).alloc (Nat.le_refl _) _
    have HL := Lib.hid (HL.out.step hb4)
    have HX := Lib.hid (HX.out.step hb4)
    have SM := Lib.hid (SM.out.step hb4)
    have hB4 := hB3.trans (hb4.mono hB3.size)
    clear hb4 hB3
    have SF := Lib.hid (boxedM (W := w3) (a := a) (b := b) (k := k))
    refine (HP.out _ _ _ _ _ HX.out.at_ HL.out.at_).mono ?_
    rintro e w5 ⟨rfl, hb5⟩
    have HL := Lib.hid (HL.out.step hb5)
    have HX := Lib.hid (HX.out.step hb5)
    have SM := Lib.hid (SM.out.step hb5)
    have SF := Lib.hid (SF.out.step hb5)
    have hB5 := hB4.trans (hb5.mono hB4.size)
    clear hb5 hB4
    go_wp2_with fail
    refine (HV.out _ _ _ HL.out.at_).mono ?_
    rintro e w6 ⟨rfl, hb6⟩
    have HL := Lib.hid (HL.out.step hb6)
    have HX := Lib.hid (HX.out.step hb6)
    have SM := Lib.hid (SM.out.step hb6)
    have SF := Lib.hid (SF.out.step hb6)
    have hB6 := hB5.trans (hb6.mono hB5.size)
    clear hb6 hB5
    go_wp2_with fail
    refine (HR.out _ _ _ HL.out.at_).mono ?_
    rintro e w7 ⟨⟨B2, c2, rfl, ho2⟩, hb7⟩
    have HL := Lib.hid (HL.out.step hb7)
    have HX := Lib.hid (HX.out.step hb7)
    have SM := Lib.hid (SM.out.step hb7)
    have SF := Lib.hid (SF.out.step hb7)
    have hB7 := hB6.trans (hb7.mono hB6.size)
    clear hb7 hB6
    have SR := Lib.hid (Own.stay ho2)
    clear ho2
    go_wp2_with fail
    refine (HSM.out _ _ _ _ _ SM.out.at_.arg SR.out.at_.arg).mono ?_
    rintro e w8 ⟨rfl, hb8⟩
    have HL := Lib.hid (HL.out.step hb8)
    have HX := Lib.hid (HX.out.step hb8)
    have SM := Lib.hid (SM.out.step hb8)
    have SF := Lib.hid (SF.out.step hb8)
    have SR := Lib.hid (SR.out.step hb8)
    have hB8 := hB7.trans (hb8.mono hB7.size)
    clear hb8 hB7
    clear SM SR
    go_wp2_with fail
    refine (HRF.out _ _ _ HL.out.at_).mono ?_
    rintro e w9 ⟨rfl, hb9⟩
    have HL := Lib.hid (HL.out.step hb9)
    have HX := Lib.hid (HX.out.step hb9)
    have SF := Lib.hid (SF.out.step hb9)
    have hB9 := hB8.trans (hb9.mono hB8.size)
    clear hb9 hB8
    have hb10 : Below w9.heap.size w9 (w9.alloc (Obj.cells #[.int .i64 a, .int .i64 b, .int .u8 k] 41)) := (Below.refl _ _).alloc (Nat.le_refl _) _
    have HL := Lib.hid (HL.out.step hb10)
    have HX := Lib.hid (HX.out.step hb10)
    have SF := Lib.hid (SF.out.step hb10)
    have hB10 := hB9.trans (hb10.mono hB9.size)
    clear hb10 hB9
    have SG := Lib.hid (boxedM (W := w9) (a := a) (b := b) (k := k))
    obtain ⟨y0, y1, y2⟩ := SF.out.at_
    obtain ⟨z0, z1, z2⟩ := SG.out.at_
    go_wp2_with fail
    refine (HK.out _).mono ?_
    rintro e w11 ⟨rfl, hb11⟩
    go_wp2
    go_ret
    exact ⟨rfl, hB10.trans (hb11.mono hB10.size)⟩

theorem misses_law (h : Prg) (l : List Rg.Pt) (hl : l.length ≤ maxLen) (A : Option Addr) (cap : Nat) (hA : A = none → cap = 0) (s : Int) (w : World) (ha : PtE.Arg w A l) :
    Calls Try.prog 4 #[.slice A l.length cap, .int .i64 s] w fun e w' => e = .returned (.bool true) ∧ Below w.heap.size w w' := by
  by_cases hn : 6 < l.length ∧ l.length ≤ 12 ∨ 24 < l.length
  · exact msl_many h l hl A cap s hn w ha
  · have hn' : l.length ≤ 6 ∨ (12 < l.length ∧ l.length ≤ 24) := by omega
    cases hq : Rg.valid l with
    | false => exact msl_inv h l hl A cap hA s hn' false hq rfl w ha
    | true =>
      cases hs : Rg.inS s with
      | false => exact msl_out h l hl A cap hA s hn' true hq rfl hs w ha
      | true =>
        cases hd : Rg.first l s.toNat with
        | none => exact msl_none h l hl A cap hA s hn' true hq rfl hs hd w ha
        | some x => exact msl_some h l hl A cap hA s hn' true hq rfl hs x.1 x.2.1 x.2.2 hd w ha

end Go.Proofs.Ythagelnimmfhbaa
