/- Layer 5: the walk of the laws' known, if the program's functions give what they are to give. -/
import Derived.Test.YthagelnimmfhbaaRp
import Derived.Deep.DeepCutAuto
import Derived.Deep.RegionWith
namespace Go.Proofs.Ythagelnimmfhbaa
open Go.RowKit Go.El

structure Prg : Prop where
  cells : CellsC
  who : WhoC
  slim : SlimC
  least : LeastC
  sizes : SizesC
  first : FirstC
  fill : FillC
  misses : MissesC

theorem least_samp (h : LeastC) (A : Option Addr) (cap : Nat) (w : World) (ha : PtE.Arg w A samp) : Calls Try.prog 25 #[.slice A 3 cap] w fun e w' => e = .returned (.tuple #[.int .i64 2, .int .i64 0]) ∧ Below w.heap.size w w' := by
  have := h samp (by simp [samp, maxLen]) A cap w ha
  rw [n1] at this
  exact this
theorem sizes_samp (h : SizesC) (A : Option Addr) (cap : Nat) (w : World) (ha : PtE.Arg w A samp) : Calls Try.prog 24 #[.slice A 3 cap] w fun e w' => (∃ B c L, e = .returned (.tuple #[.slice B 99 c, .int .i64 0]) ∧ OwnI w' w.heap.size B c L ∧ L.length = 99 ∧ L[0]? = some 2) ∧ Below w.heap.size w w' := by
  have := h samp (by simp [samp, maxLen]) A cap w ha
  obtain ⟨e1, e2, e3⟩ := n2
  generalize Rg.sizesR samp = R at this e1 e2 e3
  obtain ⟨L, r⟩ := R
  simp only at e1 e2 e3 this
  subst e3
  rw [e1] at this
  refine this.mono ?_
  rintro e w' ⟨⟨B, c, he, ho⟩, hb⟩
  refine ⟨⟨B, c, iv L, he, ho, by rw [iv_len]; exact e1, ?_⟩, hb⟩
  unfold iv
  rw [List.getElem?_map, e2]
  rfl
theorem first_samp (h : FirstC) (s : Int) (R : (Int × Int × Nat) × Nat) (hR : Rg.firstR samp s = R) (A : Option Addr) (cap : Nat) (w : World) (ha : PtE.Arg w A samp) : Calls Try.prog 19 #[.slice A 3 cap, .int .i64 s] w fun e w' => e = .returned (.tuple #[missV R.1, .int .i64 (R.2 : Nat)]) ∧ Below w.heap.size w w' := by
  have := h samp (by simp [samp, maxLen]) A cap s w ha
  rw [hR] at this
  exact this
theorem first_samp0 (h : FirstC) (A : Option Addr) (cap : Nat) (w : World) (ha : PtE.Arg w A samp) : Calls Try.prog 19 #[.slice A 3 cap, .int .i64 0] w fun e w' => e = .returned (.tuple #[.agg #[.int .i64 0, .int .i64 0, .int .u8 3], .int .i64 0]) ∧ Below w.heap.size w w' := first_samp h 0 _ n3 A cap w ha
theorem first_samp1 (h : FirstC) (A : Option Addr) (cap : Nat) (w : World) (ha : PtE.Arg w A samp) : Calls Try.prog 19 #[.slice A 3 cap, .int .i64 1] w fun e w' => e = .returned (.tuple #[.agg #[.int .i64 1, .int .i64 1, .int .u8 3], .int .i64 0]) ∧ Below w.heap.size w w' := first_samp h 1 _ n4 A cap w ha
theorem first_samp2 (h : FirstC) (A : Option Addr) (cap : Nat) (w : World) (ha : PtE.Arg w A samp) : Calls Try.prog 19 #[.slice A 3 cap, .int .i64 2] w fun e w' => e = .returned (.tuple #[.agg #[.int .i64 0, .int .i64 0, .int .u8 0], .int .i64 7]) ∧ Below w.heap.size w w' := first_samp h 2 _ n8 A cap w ha
theorem fill_samp (h : FillC) (A : Option Addr) (cap : Nat) (w : World) (ha : PtE.Arg w A samp) : Calls Try.prog 31 #[.slice A 3 cap, .int .i64 4] w fun e w' => (∃ B c, e = .returned (.tuple #[.slice B 4 c, .int .i64 0]) ∧ OwnI w' w.heap.size B c [0, 1, 2, 2]) ∧ Below w.heap.size w w' := by
  have := h samp (by simp [samp, maxLen]) A cap 4 w ha
  rw [n5] at this
  exact this
theorem misses_samp (h : MissesC) (A : Option Addr) (cap : Nat) (w : World) (ha : PtE.Arg w A samp2) : Calls Try.prog 18 #[.slice A 2 cap, .int .i64 3] w fun e w' => (∃ B c, e = .returned (.tuple #[.slice B 2 c, .int .i64 0]) ∧ OwnM w' w.heap.size B c [(3, 2, 2), (3, 3, 3)]) ∧ Below w.heap.size w w' := by
  have := h samp2 (by simp [samp2, maxLen]) A cap 3 w ha
  rw [n6] at this
  exact this
theorem sizes_samp3 (h : SizesC) (A : Option Addr) (cap : Nat) (w : World) (ha : PtE.Arg w A samp3) : Calls Try.prog 24 #[.slice A 3 cap] w fun e w' => (∃ B c, e = .returned (.tuple #[.slice B 2 c, .int .i64 0]) ∧ OwnI w' w.heap.size B c [4, 5]) ∧ Below w.heap.size w w' := by
  have := h samp3 (by simp [samp3, maxLen]) A cap w ha
  rw [n7] at this
  exact this

set_option maxRecDepth 100000 in
set_option maxHeartbeats 4000000 in
theorem known_any (h : Prg) (w : World) : Calls Try.prog 14 #[] w fun e w' => e = .returned (.bool true) ∧ Below w.heap.size w w' := by
  have H1 := Lib.hid (fun A cap w ha => least_samp h.least A cap w ha)
  have H2 := Lib.hid (fun A cap w ha => sizes_samp h.sizes A cap w ha)
  have H3 := Lib.hid (fun A cap w ha => first_samp0 h.first A cap w ha)
  have H4 := Lib.hid (fun A cap w ha => first_samp1 h.first A cap w ha)
  have H5 := Lib.hid (fun A cap w ha => fill_samp h.fill A cap w ha)
  have H6 := Lib.hid (fun A cap w ha => misses_samp h.misses A cap w ha)
  have H7 := Lib.hid (fun A cap w ha => sizes_samp3 h.sizes A cap w ha)
  have H8 := Lib.hid (fun A cap w ha => first_samp2 h.first A cap w ha)
  clear h
  go_enter Try.func14, Try.ntmps14
  have hB0 : Below w.heap.size w w := Below.refl _ _
  go_wp2_with fail
  refine (sample_any _).mono ?_
  rintro e w1 ⟨⟨g1, rfl, ha1⟩, hb1⟩
  have hB1 := hB0.trans (hb1.mono hB0.size)
  clear hb1
  go_wp2_with fail
  refine (H1.out _ _ _ ha1).mono ?_
  rintro e w2 ⟨rfl, hb2⟩
  have hB2 := hB1.trans (hb2.mono hB1.size)
  clear hb2 hB1 ha1
  go_wp2_with fail
  refine (sample_any _).mono ?_
  rintro e w3 ⟨⟨g3, rfl, ha3⟩, hb3⟩
  have hB3 := hB2.trans (hb3.mono hB2.size)
  clear hb3 hB2
  go_wp2_with fail
  refine (H2.out _ _ _ ha3).mono ?_
  rintro e w4 ⟨⟨B4, c4, L4, rfl, ho4, hl4, h04⟩, hb4⟩
  have hB4 := hB3.trans (hb4.mono hB3.size)
  clear hb4 hB3 ha3
  have HL4 := Lib.hid hl4
  have H04 := Lib.hid h04
  have S4 := Lib.hid (Own.stay ho4)
  clear ho4 hl4 h04
  go_wp2_with fail
  refine (sample_any _).mono ?_
  rintro e w5 ⟨⟨g5, rfl, ha5⟩, hb5⟩
  have S4 := Lib.hid (S4.out.step hb5)
  have hB5 := hB4.trans (hb5.mono hB4.size)
  clear hb5 hB4
  go_wp2_with fail
  refine (H3.out _ _ _ ha5).mono ?_
  rintro e w6 ⟨rfl, hb6⟩
  have S4 := Lib.hid (S4.out.step hb6)
  have hB6 := hB5.trans (hb6.mono hB5.size)
  clear hb6 hB5 ha5
  have hb6a : Below w6.heap.size w6 (w6.alloc (Obj.cells #[.int .i64 0, .int .i64 0, .int .u8 3] 41)) := (Below.refl _ _).alloc (Nat.le_refl _) _
  have S4 := Lib.hid (S4.out.step hb6a)
  have hB6a := hB6.trans (hb6a.mono hB6.size)
  have k0 : (w6.alloc (Obj.cells #[.int .i64 0, .int .i64 0, .int .u8 3] 41)).cell? ⟨w6.heap.size, 0, none⟩ = some (.int .i64 0) := cell_of_row _ _ 0 _ _ _ (heap_alloc_new w6 (Obj.cells #[.int .i64 0, .int .i64 0, .int .u8 3] 41))
  have k1 : (w6.alloc (Obj.cells #[.int .i64 0, .int .i64 0, .int .u8 3] 41)).cell? ⟨w6.heap.size, 1, none⟩ = some (.int .i64 0) := cell_of_row _ _ 1 _ _ _ (heap_alloc_new w6 (Obj.cells #[.int .i64 0, .int .i64 0, .int .u8 3] 41))
  have k2 : (w6.alloc (Obj.cells #[.int .i64 0, .int .i64 0, .int .u8 3] 41)).cell? ⟨w6.heap.size, 2, none⟩ = some (.int .u8 3) := cell_of_row _ _ 2 _ _ _ (heap_alloc_new w6 (Obj.cells #[.int .i64 0, .int .i64 0, .int .u8 3] 41))
  have S6 := Lib.hid (((Stay.cell k0).and (Stay.cell k1)).and (Stay.cell k2))
  clear hb6a hB6 k0 k1 k2
  go_wp2_with fail
  refine (sample_any _).mono ?_
  rintro e w7 ⟨⟨g7, rfl, ha7⟩, hb7⟩
  have S4 := Lib.hid (S4.out.step hb7)
  have S6 := Lib.hid (S6.out.step hb7)
  have hB7 := hB6a.trans (hb7.mono hB6a.size)
  clear hb7 hB6a
  go_wp2_with fail
  refine (H4.out _ _ _ ha7).mono ?_
  rintro e w8 ⟨rfl, hb8⟩
  have S4 := Lib.hid (S4.out.step hb8)
  have S6 := Lib.hid (S6.out.step hb8)
  have hB8 := hB7.trans (hb8.mono hB7.size)
  clear hb8 hB7 ha7
  have hb8a : Below w8.heap.size w8 (w8.alloc (Obj.cells #[.int .i64 1, .int .i64 1, .int .u8 3] 41)) := (Below.refl _ _).alloc (Nat.le_refl _) _
  have S4 := Lib.hid (S4.out.step hb8a)
  have S6 := Lib.hid (S6.out.step hb8a)
  have hB8a := hB8.trans (hb8a.mono hB8.size)
  have k0 : (w8.alloc (Obj.cells #[.int .i64 1, .int .i64 1, .int .u8 3] 41)).cell? ⟨w8.heap.size, 0, none⟩ = some (.int .i64 1) := cell_of_row _ _ 0 _ _ _ (heap_alloc_new w8 (Obj.cells #[.int .i64 1, .int .i64 1, .int .u8 3] 41))
  have k1 : (w8.alloc (Obj.cells #[.int .i64 1, .int .i64 1, .int .u8 3] 41)).cell? ⟨w8.heap.size, 1, none⟩ = some (.int .i64 1) := cell_of_row _ _ 1 _ _ _ (heap_alloc_new w8 (Obj.cells #[.int .i64 1, .int .i64 1, .int .u8 3] 41))
  have k2 : (w8.alloc (Obj.cells #[.int .i64 1, .int .i64 1, .int .u8 3] 41)).cell? ⟨w8.heap.size, 2, none⟩ = some (.int .u8 3) := cell_of_row _ _ 2 _ _ _ (heap_alloc_new w8 (Obj.cells #[.int .i64 1, .int .i64 1, .int .u8 3] 41))
  have S8 := Lib.hid (((Stay.cell k0).and (Stay.cell k1)).and (Stay.cell k2))
  clear hb8a hB8 k0 k1 k2
  go_wp2_with fail
  refine (sample_any _).mono ?_
  rintro e w9 ⟨⟨g9, rfl, ha9⟩, hb9⟩
  have S4 := Lib.hid (S4.out.step hb9)
  have S6 := Lib.hid (S6.out.step hb9)
  have S8 := Lib.hid (S8.out.step hb9)
  have hB9 := hB8a.trans (hb9.mono hB8a.size)
  clear hb9 hB8a
  go_wp2_with fail
  refine (H5.out _ _ _ ha9).mono ?_
  rintro e w10 ⟨⟨B10, c10, rfl, ho10⟩, hb10⟩
  have S4 := Lib.hid (S4.out.step hb10)
  have S6 := Lib.hid (S6.out.step hb10)
  have S8 := Lib.hid (S8.out.step hb10)
  have hB10 := hB9.trans (hb10.mono hB9.size)
  clear hb10 hB9 ha9
  have S10 := Lib.hid (Own.stay ho10)
  clear ho10
  go_wp2_with fail
  have hb10a : Below w10.heap.size w10 ((w10.alloc (.cells #[.bool true, .int .i64 1] 23)).alloc (.cells #[.bool false, .int .i64 0, .bool true, .int .i64 1, .int .i64 2, .bool false, .int .i64 1, .bool true, .int .i64 0, .int .i64 1] 25)) := ((Below.refl _ _).alloc (Nat.le_refl _) _).alloc (by simp) _
  have S4 := Lib.hid (S4.out.step hb10a)
  have S6 := Lib.hid (S6.out.step hb10a)
  have S8 := Lib.hid (S8.out.step hb10a)
  have S10 := Lib.hid (S10.out.step hb10a)
  have hB10a := hB10.trans (hb10a.mono hB10.size)
  have k0 : (w10.alloc (.cells #[.bool true, .int .i64 1] 23)).cell? ⟨w10.heap.size, 0, none⟩ = some (.bool true) := cell_of_row _ _ 0 _ _ _ (heap_alloc_new w10 _)
  have k1 : (w10.alloc (.cells #[.bool true, .int .i64 1] 23)).cell? ⟨w10.heap.size, 1, none⟩ = some (.int .i64 1) := cell_of_row _ _ 1 _ _ _ (heap_alloc_new w10 _)
  have SB := Lib.hid ((((Stay.cell k0).and (Stay.cell k1)).alloc (.cells #[.bool false, .int .i64 0, .bool true, .int .i64 1, .int .i64 2, .bool false, .int .i64 1, .bool true, .int .i64 0, .int .i64 1] 25)))
  clear hb10a hB10 k0 k1
  refine (H6.out _ _ _ (row_arg (K := PtE) (by simp) rfl)).mono ?_
  rintro e w11 ⟨⟨B11, c11, rfl, ho11⟩, hb11⟩
  have S4 := Lib.hid (S4.out.step hb11)
  have S6 := Lib.hid (S6.out.step hb11)
  have S8 := Lib.hid (S8.out.step hb11)
  have S10 := Lib.hid (S10.out.step hb11)
  have SB := Lib.hid (SB.out.step hb11)
  have S11 := Lib.hid (Own.stay ho11)
  have hB11 := hB10a.trans (hb11.mono hB10a.size)
  clear hb11 hB10a ho11
  go_upto_region 8 with (fail)
  have z0 : w11.cell? ⟨w10.heap.size, 0, none⟩ = some (.bool true) := SB.out.at_.1
  have z1 : w11.cell? ⟨w10.heap.size, 1, none⟩ = some (.int .i64 1) := SB.out.at_.2
  have hz11 : w10.heap.size < w11.heap.size := lt_of_cell z0
  clear SB
  have hBx : Below w11.heap.size w11 w11.drew := (Below.refl _ _).drew
  go_cut [14, 15] (fun a b wx => ∃ (B : Option Addr) (c : Nat), a = .slice B 2 c ∧ b = .int .i64 0 ∧ Hid (IntE.Arg wx B [4, 5]) ∧ Below w11.heap.size w11 wx)
  case first =>
    clear S4 S6 S8 S10 S11 H1 H2 H3 H4 H5 H6 H8 hB11
    go_region_with (first
      | (go_at_call 40; refine (cell_any _ _).mono ?_; rintro e wc ⟨rfl, hbc⟩; have z0 := ((bcell hbc).1 _ _ hz11).trans z0; have z1 := ((bcell hbc).1 _ _ hz11).trans z1; have hz11 := Nat.lt_of_lt_of_le hz11 hbc.size; have hBx := hBx.trans (hbc.mono hBx.size))
      | (go_at_call 24; refine (H7.out _ _ _ (row_arg (K := PtE) (by simp) rfl)).mono ?_; rintro e wz ⟨⟨B, c, rfl, hoz⟩, hbz⟩; have hBx := (hBx.alloc hBx.size _).trans (hbz.mono (Nat.le_trans hBx.size (by simp)))))
    all_goals (go_wp2_with fail; go_meet; exact ⟨B, c, rfl, rfl, Lib.hid hoz.arg, hBx⟩)
  case rest =>
    obtain ⟨B13, c13, rfl, rfl, HA13, hb13⟩ := hcut
    clear z0 z1 hz11 hBx
    have S13 := Lib.hid (Arg.stay HA13.out)
    have S4 := Lib.hid (S4.out.step hb13)
    have S6 := Lib.hid (S6.out.step hb13)
    have S8 := Lib.hid (S8.out.step hb13)
    have S10 := Lib.hid (S10.out.step hb13)
    have S11 := Lib.hid (S11.out.step hb13)
    have hB13 := hB11.trans (hb13.mono hB11.size)
    clear hb13 hB11 HA13
    go_wp2_with fail
    refine (sample_any _).mono ?_
    rintro e w14 ⟨⟨g14, rfl, ha14⟩, hb14⟩
    have S4 := Lib.hid (S4.out.step hb14)
    have S6 := Lib.hid (S6.out.step hb14)
    have S8 := Lib.hid (S8.out.step hb14)
    have S10 := Lib.hid (S10.out.step hb14)
    have S11 := Lib.hid (S11.out.step hb14)
    have S13 := Lib.hid (S13.out.step hb14)
    have hB14 := hB13.trans (hb14.mono hB13.size)
    clear hb14 hB13
    go_wp2_with fail
    refine (H8.out _ _ _ ha14).mono ?_
    rintro e w15 ⟨rfl, hb15⟩
    have S4 := Lib.hid (S4.out.step hb15)
    have S6 := Lib.hid (S6.out.step hb15)
    have S8 := Lib.hid (S8.out.step hb15)
    have S10 := Lib.hid (S10.out.step hb15)
    have S11 := Lib.hid (S11.out.step hb15)
    have S13 := Lib.hid (S13.out.step hb15)
    have hB15 := hB14.trans (hb15.mono hB14.size)
    have hb15a : Below w15.heap.size w15 (w15.alloc (Obj.cells #[.int .i64 0, .int .i64 0, .int .u8 0] 41)) := (Below.refl _ _).alloc (Nat.le_refl _) _
    have S4 := Lib.hid (S4.out.step hb15a)
    have S6 := Lib.hid (S6.out.step hb15a)
    have S8 := Lib.hid (S8.out.step hb15a)
    have S10 := Lib.hid (S10.out.step hb15a)
    have S11 := Lib.hid (S11.out.step hb15a)
    have S13 := Lib.hid (S13.out.step hb15a)
    have hB15a := hB15.trans (hb15a.mono hB15.size)
    clear hb15 hb15a hB15 hB14 ha14
    go_upto_region 10 with (fail)
    generalize w15.alloc (Obj.cells #[.int .i64 0, .int .i64 0, .int .u8 0] 41) = W at *
    obtain ⟨g4, rfl, _, _, hin4⟩ := Own.in_ S4.out.at_ (by intro e; have := H04.out; rw [e] at this; cases this)
    have l0 : W.cell? ⟨g4, 0, none⟩ = some (.int .i64 2) := IntE.at1 hin4 H04.out
    have b60 : W.cell? ⟨w6.heap.size, 0, none⟩ = some (.int .i64 0) := S6.out.at_.1.1
    have b61 : W.cell? ⟨w6.heap.size, 1, none⟩ = some (.int .i64 0) := S6.out.at_.1.2
    have b62 : W.cell? ⟨w6.heap.size, 2, none⟩ = some (.int .u8 3) := S6.out.at_.2
    have b80 : W.cell? ⟨w8.heap.size, 0, none⟩ = some (.int .i64 1) := S8.out.at_.1.1
    have b81 : W.cell? ⟨w8.heap.size, 1, none⟩ = some (.int .i64 1) := S8.out.at_.1.2
    have b82 : W.cell? ⟨w8.heap.size, 2, none⟩ = some (.int .u8 3) := S8.out.at_.2
    obtain ⟨g11, rfl, _, _, hin11⟩ := Own.in_ S11.out.at_ (by simp)
    obtain ⟨m00, m01, m02⟩ := MissE.at3 hin11 (k := 0) rfl
    obtain ⟨m10, m11, m12⟩ := MissE.at3 hin11 (k := 1) rfl
    simp only [Nat.zero_mul, Nat.zero_add, Nat.one_mul, Nat.reduceAdd] at m00 m01 m02 m10 m11 m12
    clear hin4 hin11 S4 S6 S8 S11
    have HSM := Lib.hid (fun (l : List Int) (h : l.length ≤ 3000000) A C c1 c2 W h1 h2 => same_any l h A C c1 c2 W h1 h2)
    have hw : Below W.heap.size W (W.alloc (.cells #[.int .i64 0, .int .i64 1, .int .i64 2, .int .i64 2] 3)) := (Below.refl _ _).alloc (Nat.le_refl _) _
    have hA := row_arg (K := IntE) (W := W) (t := 3) (cs := #[.int .i64 0, .int .i64 1, .int .i64 2, .int .i64 2]) (l := [0, 1, 2, 2]) rfl rfl
    have HA := Lib.hid hA
    have HF := Lib.hid ((S10.out.step hw).at_.arg)
    have S13 := Lib.hid (S13.out.step hw)
    have hz0 := lt_of_cell m00
    have hB16 := hB15a.trans (hw.mono hB15a.size)
    clear hA S10
    go_wp2_with fail
    refine (HSM.out [0, 1, 2, 2] (by simp) _ _ _ _ _ HF.out HA.out).mono ?_
    rintro e w16 ⟨rfl, hb16⟩
    have S13 := Lib.hid (S13.out.step hb16)
    have hB16 := hB16.trans (hb16.mono hB16.size)
    have hw := hw.trans (hb16.mono hw.size)
    have m00 := ((bcell hw).1 _ _ hz0).trans m00
    have m01 := ((bcell hw).1 _ _ hz0).trans m01
    have m02 := ((bcell hw).1 _ _ hz0).trans m02
    have m10 := ((bcell hw).1 _ _ hz0).trans m10
    have m11 := ((bcell hw).1 _ _ hz0).trans m11
    have m12 := ((bcell hw).1 _ _ hz0).trans m12
    clear HA HF hb16 hw l0 b60 b61 b62 b80 b81 b82
    have hw : Below w16.heap.size w16 (w16.alloc (.cells #[.int .i64 4, .int .i64 5] 3)) := (Below.refl _ _).alloc (Nat.le_refl _) _
    have HA := Lib.hid (row_arg (K := IntE) (W := w16) (t := 3) (cs := #[.int .i64 4, .int .i64 5]) (l := [4, 5]) rfl rfl)
    have HF := Lib.hid ((S13.out.step hw).at_)
    have hB16 := hB16.trans (hw.mono hB16.size)
    clear hw S13
    go_wp2_with fail
    refine (HSM.out [4, 5] (by simp) _ _ _ _ _ HF.out HA.out).mono ?_
    rintro e w17 ⟨rfl, hb17⟩
    go_wp2
    go_ret
    exact ⟨rfl, hB16.trans (hb17.mono hB16.size)⟩

end Go.Proofs.Ythagelnimmfhbaa
