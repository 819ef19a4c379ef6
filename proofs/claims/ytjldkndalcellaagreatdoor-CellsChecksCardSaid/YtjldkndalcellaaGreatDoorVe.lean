/- CellsChecks: the walk of the law: whatever the memory, it returns true. -/
import Derived.Test.YtjldkndalcellaaGreatDoorSo
import Derived.Test.YtjldkndalcellaaGreatDoorYp
import Derived.Test.YtjldkndalcellaaGreatDoorYq
namespace Go.Proofs.YtjldkndalcellaaGreatDoor
open Go.RowKit Go.El

set_option maxRecDepth 100000 in
set_option maxHeartbeats 4000000 in
theorem checks_any (h : Prg) (m : Ce.Mem) (hm : Bgm m) (A : Option Addr) (cap : Nat) (w : World) (hv : MemAt w A m) :
    Calls Tryz.prog 3 #[.agg #[.slice A m.length cap]] w fun e w' => e = .returned (.bool true) ∧ Below w.heap.size w w' := by
  have HAW := Lib.hid (fun W => awake_any h W)
  have hb0 : Below w.heap.size w (w.alloc (Obj.cells #[.slice A m.length cap] 24)) := (Below.refl _ _).alloc (Nat.le_refl _) _
  have HTH := Lib.hid (thin_any m hm A cap _ (hv.below hb0))
  have HS0 := Lib.hid ((hv.stay.step hb0).and (box1 (W := w) (v := .slice A m.length cap) (t := 24)))
  have HB0 := Lib.hid hb0
  have HCP := Lib.hid (fun (hz : Sz m) W (hh : MemAt W A m) => copy6_any m hz A cap W hh)
  have HCK := Lib.hid (fun (hz : Sz m) B c W (hh : MemAt W B m) => check_any m hz B c W hh)
  have HHO := Lib.hid (fun (hz : Sz m) B c W (hh : MemAt W B m) => holes_any m hz B c W hh)
  have HHR := Lib.hid (fun (hz : Sz m) B c W (hh : MemAt W B m) => holes6_any m hz B c W hh)
  have HCR := Lib.hid (fun (hz : Sz m) B c W (hh : MemAt W B m) => check6_any m hz B c W hh)
  have HSM := Lib.hid (fun (hz : Sz m) B C c d W (hh : MemAt W B m) (h2 : MemAt W C m) => same6_any m hz B C c d W hh h2)
  have HHL : Hid ((Ce.holes m).length ≤ 40000) := Lib.hid (by
    cases hq : Ce.memOk m with
    | false => rw [Ce.holes_not hq]; simp
    | true =>
      rw [Ce.holes_ok hq]
      unfold Ce.memOk at hq
      rw [Bool.and_eq_true, Bool.and_eq_true] at hq
      have h1 : m.length ≤ 400 := of_decide_eq_true hq.1
      have := Ce.holesK_len 100 0 m fun s hs => by
        have := List.all_eq_true.1 hq.2.1 s hs
        unfold Ce.stOk at this
        rw [Bool.and_eq_true, Bool.and_eq_true] at this
        exact of_decide_eq_true this.1.1
      have := Nat.mul_le_mul_right 100 h1
      omega)
  generalize m.length = n at *
  generalize Ce.check m = E at *
  generalize Ce.holes m = L at *
  clear h hm hv hb0
  go_enter Tryz.func3, Tryz.ntmps3
  go_wp2_with fail
  refine HTH.out.mono ?_
  rintro e w1 ⟨⟨b, rfl, hb⟩, hb1⟩
  have HS1 := Lib.hid (HS0.out.step hb1)
  have HB1 := Lib.hid (HB0.out.trans (hb1.mono HB0.out.size))
  clear hb1 HS0 HB0 HTH
  cases b with
  | false =>
    clear hb
    go_wp2_with fail
    refine (HAW.out _).mono ?_
    rintro e w2 ⟨rfl, hb2⟩
    go_wp2
    go_ret
    exact ⟨rfl, HB1.out.trans (hb2.mono HB1.out.size)⟩
  | true =>
    have HZ := Lib.hid (thin_sz (hb rfl))
    clear hb
    have HCP := Lib.hid (HCP.out HZ.out)
    have HCK := Lib.hid (HCK.out HZ.out)
    have HHO := Lib.hid (HHO.out HZ.out)
    have HHR := Lib.hid (HHR.out HZ.out)
    have HCR := Lib.hid (HCR.out HZ.out)
    have HSM := Lib.hid (HSM.out HZ.out)
    clear HZ
    obtain ⟨mA, x0⟩ := HS1.out.at_
    have HMA := Lib.hid mA
    clear mA
    go_wp2_with fail
    refine (HCP.out _ HMA.out).mono ?_
    rintro e w2 ⟨⟨B, c, hs, rfl, hmo⟩, hb2⟩
    have hb3 : Below w2.heap.size w2 (w2.alloc (.cells #[.slice B n c] 24)) := (Below.refl _ _).alloc (Nat.le_refl _) _
    have HS3 := Lib.hid ((((HS1.out.step hb2).step hb3).and (hmo.at_.stay.step hb3)).and (box1 (W := w2) (v := .slice B n c) (t := 24)))
    have HB3 := Lib.hid ((HB1.out.trans (hb2.mono HB1.out.size)).trans (hb3.mono (HB1.out.trans (hb2.mono HB1.out.size)).size))
    clear hb2 hb3 hmo HS1 HB1 HMA x0 HCP
    go_wp2_with fail
    generalize w2.alloc (.cells #[.slice B n c] 24) = W3 at *
    have HALL : Hid (∀ W, Below W3.heap.size W3 W → W.cell? ⟨w.heap.size, 0, none⟩ = some (.slice A n cap) ∧ W.cell? ⟨w2.heap.size, 0, none⟩ = some (.slice B n c)) := Lib.hid fun W hb => ⟨(HS3.out W hb).1.1.2, (HS3.out W hb).2⟩
    have HMB := Lib.hid fun W (hb : Below W3.heap.size W3 W) => (HS3.out W hb).1.2
    have HMA := Lib.hid fun W (hb : Below W3.heap.size W3 W) => (HS3.out W hb).1.1.1
    obtain ⟨a0, b0⟩ := HALL.out _ (Below.refl _ _)
    have hX : Below W3.heap.size W3 W3.drew := (Below.refl _ _).drew
    clear HS3
    go_region_held3 (fun W => W.cell? ⟨w.heap.size, 0, none⟩ = some (.slice A n cap) ∧ W.cell? ⟨w2.heap.size, 0, none⟩ = some (.slice B n c))
      (go_keep)
      (first
        | (go_at_call 12; refine (HCK.out _ _ _ (HMB.out _ hX)).mono ?_; rintro e wq ⟨rfl, hbq⟩; have hX : Below W3.heap.size W3 wq := hX.trans (hbq.mono hX.size); obtain ⟨a0, b0⟩ := HALL.out _ hX; clear hbq)
        | (go_at_call 13; refine (HHO.out _ _ _ (HMB.out _ hX)).mono ?_; rintro e wq ⟨⟨P, cp, rfl, hop⟩, hbq⟩; have SP := Lib.hid (Arg.stay (Own.arg hop)); have hX : Below W3.heap.size W3 wq := hX.trans (hbq.mono hX.size); obtain ⟨a0, b0⟩ := HALL.out _ hX; clear hbq hop)
        | (go_at_call 14; refine (HHR.out _ _ _ (HMA.out _ hX)).mono ?_; rintro e wr ⟨⟨Q, cq, rfl, hoq⟩, hbq⟩; have SP := Lib.hid (SP.out.step hbq); have SQ := Lib.hid (Arg.stay (Own.arg hoq)); have hX : Below W3.heap.size W3 wr := hX.trans (hbq.mono hX.size); obtain ⟨a0, b0⟩ := HALL.out _ hX; clear hbq hoq))
    all_goals
      have HB4 := Lib.hid (HB3.out.trans (hX.mono HB3.out.size))
      have HB3 := HB4
      clear HB4
      have hL : (L.length : Int) ≤ 40000 := by have := HHL.out; omega
      go_wp2_with fail
      refine (HCR.out _ _ _ (HMA.out _ hX)).mono ?_
      rintro e w5 ⟨rfl, hb5⟩
      have hX5 : Below W3.heap.size W3 w5 := hX.trans (hb5.mono hX.size)
      have SP := Lib.hid (SP.out.step hb5)
      have SQ := Lib.hid (SQ.out.step hb5)
      have HB5 := Lib.hid (HB3.out.trans (hb5.mono HB3.out.size))
      clear hb5 a0 b0 hX HB3
      obtain ⟨a0, b0⟩ := HALL.out _ hX5
      go_wp2_with fail
      refine (HSM.out _ _ _ _ _ (HMB.out _ hX5) (HMA.out _ hX5)).mono ?_
      rintro e w6 ⟨rfl, hb6⟩
      have SP := Lib.hid (SP.out.step hb6)
      have SQ := Lib.hid (SQ.out.step hb6)
      have HB6 := Lib.hid (HB5.out.trans (hb6.mono HB5.out.size))
      clear hb6 a0 b0 hX5 HB5 HALL HMA HMB HCR HSM HHR HHO HCK
      go_wp2_with fail
      go_loopw [7] (fun i wr => ∃ k : Nat, k ≤ L.length ∧ i = .int .i64 k ∧ Hid (Below w6.heap.size w6 wr)) (fun i _ => L.length - (intOf i).toNat)
      case atStart => exact ⟨0, Nat.zero_le _, rfl, Lib.hid (Below.refl _ _)⟩
      case round =>
        obtain ⟨k, hk, rfl, HBV⟩ := hrel
        by_cases hlt : k < L.length
        · have hlt' : (k : Int) < L.length := by omega
          obtain ⟨x, hx⟩ : ∃ x, L[k]? = some x := ⟨_, List.getElem?_eq_getElem hlt⟩
          obtain ⟨bp, op, rfl, hinp, _⟩ := (SP.out _ HBV.out).at_lt hlt
          obtain ⟨bq, oq, rfl, hinq, _⟩ := (SQ.out _ HBV.out).at_lt hlt
          obtain ⟨p0, p1⟩ := PairE.at2 hinp hx
          obtain ⟨q0, q1⟩ := PairE.at2 hinq hx
          obtain ⟨xa, xb⟩ := x
          dsimp only at p0 p1 q0 q1
          clear hinp hinq hx
          have hEQ := pair_same xa xb wr.drew
          go_wp2_with fail
          go_region
          go_wp2
          go_roundw
          case rel => exact ⟨k + 1, by omega, by go_num, Lib.hid HBV.out.drew⟩
          case measure => simp [intOf]; omega
        · have hlt' : ¬ (k : Int) < L.length := by omega
          go_wp2_with fail
          refine (HAW.out _).mono ?_
          rintro e w8 ⟨rfl, hb8⟩
          go_wp2
          go_ret
          exact ⟨rfl, (HB6.out.trans (HBV.out.mono HB6.out.size)).trans (hb8.mono (HB6.out.trans (HBV.out.mono HB6.out.size)).size)⟩
end Go.Proofs.YtjldkndalcellaaGreatDoor
