/- Layer 6: the walk of the law CellsReckons. -/
import Derived.Test.YtacggbpgillbaaaGreatDoorSo
namespace Go.Proofs.YtacggbpgillbaaaGreatDoor
open Go.RowKit Go.El

def OperandsC : Prop := ∀ (s : ByteArray) (w : World), s.size ≤ 100 → Calls Tryz.prog 22 #[.string s] w fun e w' => e = .returned (.int .i64 (Ce.operands s.data.toList)) ∧ Below w.heap.size w w'

set_option maxRecDepth 100000 in
set_option maxHeartbeats 2000000 in
theorem reckons_out (h : Prg) (s : ByteArray) (l : List Ce.V) (hs : s.size ≤ maxLen) (hl : l.length ≤ maxLen) (ho : 20 < s.size ∨ ¬ 20 < s.size ∧ 5 < l.length) (A : Option Addr) (cap : Nat) (w : World) :
    Calls Tryz.prog 3 #[.string s, .slice A l.length cap] w fun e w' => e = .returned (.bool true) ∧ Below w.heap.size w w' := by
  have HAW := Lib.hid (fun W => awake_any h W)
  have hs' : (s.size : Int) ≤ 9223372036854775807 := by unfold maxLen at hs; omega
  have hl' : (l.length : Int) ≤ 9223372036854775807 := by unfold maxLen at hl; omega
  generalize l.length = n at *
  rcases ho with ho | ⟨ho1, ho⟩
  · have ho' : (20 : Int) < s.size := by omega
    clear h hs hl
    go_enter Tryz.func3, Tryz.ntmps3
    go_wp2_with fail
    refine (HAW.out _).mono ?_
    rintro e w1 ⟨rfl, hb1⟩
    go_wp2
    go_ret
    exact ⟨rfl, hb1⟩
  · have ho1' : ¬ (20 : Int) < s.size := by omega
    have ho' : (5 : Int) < n := by omega
    clear h hs hl
    go_enter Tryz.func3, Tryz.ntmps3
    go_wp2_with fail
    refine (HAW.out _).mono ?_
    rintro e w1 ⟨rfl, hb1⟩
    go_wp2
    go_ret
    exact ⟨rfl, hb1⟩

set_option maxRecDepth 100000 in
set_option maxHeartbeats 4000000 in
theorem reckons_in (h : Prg) (hop : OperandsC) (s : ByteArray) (l : List Ce.V) (hs : s.size ≤ 20) (hl : l.length ≤ 5) (A : Option Addr) (cap : Nat) (hA : A = none → cap = 0) (w : World) (ha : ValE.Arg w A l) :
    Calls Tryz.prog 3 #[.string s, .slice A l.length cap] w fun e w' => e = .returned (.bool true) ∧ Below w.heap.size w w' := by
  have HAW := Lib.hid (fun W => awake_any h W)
  have HVL := Lib.hid (values_any l (by omega) A cap hA w ha)
  have HPC := Lib.hid (fun A c W hh => h.prim s l A c W (by omega) (by omega) hh)
  have HPR := Lib.hid (fun A c W hh => prim6_any s l (by omega) A c W hh)
  have HOC := Lib.hid (fun W => hop s W (by omega))
  have HOR := Lib.hid (fun W => operands_any s W)
  have HSV := Lib.hid (fun A C c1 c2 W h1 h2 => sameValues_eq l (by unfold maxLen; omega) A C c1 c2 W h1 h2)
  have HL := Lib.hid (Arg.stay ha)
  have hs1 : ¬ (20 : Int) < s.size := by omega
  have hl1 : ¬ (5 : Int) < l.length := by omega
  generalize Ce.prim s.data.toList l = R at *
  generalize Ce.operands s.data.toList = o at *
  obtain ⟨⟨rk, rn⟩, re⟩ := R
  dsimp only at HPC HPR
  clear h hop hs hl hA ha
  go_enter Tryz.func3, Tryz.ntmps3
  have hB0 : Below w.heap.size w w := Below.refl _ _
  go_wp2_with fail
  refine (HVL.out).mono ?_
  rintro e w1 ⟨⟨X, cx, rfl, hox⟩, hb1⟩
  have HL := Lib.hid (HL.out.step hb1)
  have hB1 := hB0.trans (hb1.mono hB0.size)
  clear hb1
  have SX := Lib.hid (Own.stay hox)
  go_wp2_with fail
  refine (HPC.out _ _ _ (SlAt.of_own SX.out.at_)).mono ?_
  rintro e w2 ⟨rfl, hb2⟩
  have HL := Lib.hid (HL.out.step hb2)
  have SX := Lib.hid (SX.out.step hb2)
  have hB2 := hB1.trans (hb2.mono hB1.size)
  clear hb2 hB1 hox
  have hb2a : Below w2.heap.size w2 (w2.alloc (.cells #[.int .u8 rk, .int .i64 rn] 26)) := (Below.refl _ _).alloc (Nat.le_refl _) _
  have HL := Lib.hid (HL.out.step hb2a)
  have SX := Lib.hid (SX.out.step hb2a)
  have hB2a := hB2.trans (hb2a.mono hB2.size)
  clear hb2a hB2
  have SA := Lib.hid (box2 (W := w2) (v := .int .u8 rk) (u := .int .i64 rn) (t := 26))
  go_wp2_with fail
  refine (HPR.out _ _ _ HL.out.at_).mono ?_
  rintro e w3 ⟨rfl, hb3⟩
  have HL := Lib.hid (HL.out.step hb3)
  have SX := Lib.hid (SX.out.step hb3)
  have SA := Lib.hid (SA.out.step hb3)
  have hB3 := hB2a.trans (hb3.mono hB2a.size)
  clear hb3 hB2a
  obtain ⟨a0, a1⟩ := SA.out.at_
  have hla : w2.heap.size < w3.heap.size := lt_of_cell a0
  have hb3a : Below w3.heap.size w3 (w3.alloc (.cells #[.int .u8 rk, .int .i64 rn] 26)) := (Below.refl _ _).alloc (Nat.le_refl _) _
  have SX := Lib.hid (SX.out.step hb3a)
  have HL := Lib.hid (HL.out.step hb3a)
  have hB3a := hB3.trans (hb3a.mono hB3.size)
  clear hb3a hB3 SA
  go_wp2_with fail
  refine (HOC.out _).mono ?_
  rintro e w4 ⟨rfl, hb4⟩
  have HL := Lib.hid (HL.out.step hb4)
  have SX := Lib.hid (SX.out.step hb4)
  have hB4 := hB3a.trans (hb4.mono hB3a.size)
  clear hb4 hB3a
  go_wp2_with fail
  refine (HOR.out _).mono ?_
  rintro e w5 ⟨rfl, hb5⟩
  have HL := Lib.hid (HL.out.step hb5)
  have SX := Lib.hid (SX.out.step hb5)
  have hB5 := hB4.trans (hb5.mono hB4.size)
  clear hb5 hB4
  go_wp2_with fail
  refine (HSV.out _ _ _ _ _ (Own.arg SX.out.at_) HL.out.at_).mono ?_
  rintro e w6 ⟨rfl, hb6⟩
  have HL := Lib.hid (HL.out.step hb6)
  have SX := Lib.hid (SX.out.step hb6)
  have hB6 := hB5.trans (hb6.mono hB5.size)
  clear hb6 hB5
  go_wp2_with fail
  refine (HAW.out _).mono ?_
  rintro e w7 ⟨rfl, hb7⟩
  have HL := Lib.hid (HL.out.step hb7)
  have SX := Lib.hid (SX.out.step hb7)
  have hB7 := hB6.trans (hb7.mono hB6.size)
  clear hb7 hB6
  go_wp2
  go_ret
  exact ⟨rfl, hB7⟩

theorem reckons_any (h : Prg) (hop : OperandsC) (s : ByteArray) (l : List Ce.V) (hs : s.size ≤ maxLen) (hl : l.length ≤ maxLen) (A : Option Addr) (cap : Nat) (hA : A = none → cap = 0) (w : World) (ha : ValE.Arg w A l) :
    Calls Tryz.prog 3 #[.string s, .slice A l.length cap] w fun e w' => e = .returned (.bool true) ∧ Below w.heap.size w w' := by
  by_cases h1 : 20 < s.size
  · exact reckons_out h s l hs hl (.inl h1) A cap w
  · by_cases h2 : 5 < l.length
    · exact reckons_out h s l hs hl (.inr ⟨h1, h2⟩) A cap w
    · exact reckons_in h hop s l (by omega) (by omega) A cap hA w ha
end Go.Proofs.YtacggbpgillbaaaGreatDoor
