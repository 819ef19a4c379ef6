/- Layer 6, the program: slices.Index, slices.Contains at bytes; the result of an operation. -/
import Derived.Test.YtacggbpgillbaaaGreatDoorTh
import Derived.Deep.DeepCutAuto
import Derived.Deep.RegionLaw
namespace Go.Proofs.YtacggbpgillbaaaGreatDoor
open Go.RowKit Go.El

theorem U8E.at1 {w : World} {b o : Nat} {l : List Int} (h : U8E.In w b o l) {k : Nat} {p : Int} (hp : l[k]? = some p) : w.cell? ⟨b, o + k * 1, none⟩ = some (.int .u8 p) := h k p hp 0 _ rfl
set_option maxRecDepth 100000 in
set_option maxHeartbeats 1000000 in
theorem u8_index (l : List Int) (hl : l.length ≤ 1000000) (A : Option Addr) (cap : Nat) (v : Int) (w : World) (h : U8E.Arg w A l) :
    Calls Tryz.prog 152 #[.slice A l.length cap, .int .u8 v] w fun e w' => e = .returned (.int .i64 (optV (Ce.idxK (fun x => v == x) l 0))) ∧ Below w.heap.size w w' := by
  have H := Lib.hid h
  clear h
  have HAT := Lib.hid (fun k x (hx : l[k]? = some x) => Ce.idxK_at (p := fun x => v == x) hx)
  have h00 : Ce.idxK (fun x => v == x) (l.drop 0) 0 = Ce.idxK (fun x => v == x) l 0 := rfl
  have HEND : Hid (∀ k, l.length ≤ k → Ce.idxK (fun x => v == x) (l.drop k) k = none) := Lib.hid fun k hk => by rw [List.drop_eq_nil_of_le hk]; rfl
  generalize Ce.idxK (fun x => v == x) l 0 = R at *
  have H00 := Lib.hid h00
  clear h00
  go_enter Tryz.func152, Tryz.ntmps152
  go_wp2_with fail
  go_loopw [5, 8] (fun _ i wr => ∃ k : Nat, k ≤ l.length ∧ i = .int .i64 k ∧ Hid (Ce.idxK (fun x => v == x) (l.drop k) k = R) ∧ Below w.heap.size w wr) (fun _ i _ => l.length - (intOf i).toNat)
  case atStart => exact ⟨0, Nat.zero_le _, rfl, H00, Below.refl _ _⟩
  case round =>
    obtain ⟨k, hk, rfl, HK, hbw⟩ := hrel
    have hzw := hbw.size
    by_cases hlt : k < l.length
    · have hlt' : (k : Int) < l.length := by omega
      obtain ⟨b, o, rfl, hin, hbl⟩ := H.out.at_lt hlt
      obtain ⟨x, hx⟩ : ∃ x, l[k]? = some x := ⟨_, List.getElem?_eq_getElem hlt⟩
      have hcell := U8E.at1 (hin.below hbw (fun _ => hbl)) hx
      simp only [Nat.mul_one] at hcell
      have HS := Lib.hid (HAT.out k x hx)
      clear hx hin
      by_cases hvx : v = x
      · subst hvx
        go_wp2
        go_ret
        refine ⟨?_, hbw⟩
        rw [← HK.out, HS.out]
        simp [optV]
      · have hvx' : (v == x) = false := beq_eq_false_iff_ne.2 hvx
        have HV := Lib.hid hvx'
        go_wp2
        go_roundw
        case rel => exact ⟨k + 1, by omega, by go_num, Lib.hid (by rw [← HK.out, HS.out, HV.out]; rfl), hbw⟩
        case measure => simp [intOf]; omega
    · have hlt' : ¬ (k : Int) < l.length := by omega
      have hT : R = none := by rw [← HK.out, HEND.out k (by omega)]
      subst hT
      go_wp2
      go_ret
      exact ⟨rfl, hbw⟩
theorem u8_contains (l : List Int) (hl : l.length ≤ 1000000) (A : Option Addr) (cap : Nat) (v : Int) (w : World) (h : U8E.Arg w A l) :
    Calls Tryz.prog 124 #[.slice A l.length cap, .int .u8 v] w fun e w' => e = .returned (.bool (l.any fun x => v == x)) ∧ Below w.heap.size w w' := by
  have hc := u8_index l hl A cap v w h
  rw [← Ce.idxK_any (fun x => v == x) l 0]
  cases hR : Ce.idxK (fun x => v == x) l 0 with
  | none =>
    rw [hR] at hc
    clear h hR
    have HC : Hid _ := Lib.hid hc
    clear hc
    go_enter Tryz.func124, Tryz.ntmps124
    go_wp2_with fail
    refine HC.out.mono ?_
    rintro e w1 ⟨rfl, hb1⟩
    unfold optV
    go_wp2
    go_ret
    exact ⟨rfl, hb1⟩
  | some n =>
    rw [hR] at hc
    clear h hR
    have HC : Hid _ := Lib.hid hc
    clear hc
    have hn : 0 ≤ (n : Int) := by omega
    go_enter Tryz.func124, Tryz.ntmps124
    go_wp2_with fail
    refine HC.out.mono ?_
    rintro e w1 ⟨rfl, hb1⟩
    unfold optV
    go_wp2
    go_ret
    exact ⟨rfl, hb1⟩

theorem ofKind_any (v : Ce.V) (k0 : Int) (g : Nat) (w : World) (hg : w.cell? ⟨g, 0, none⟩ = some (.int .u8 k0)) :
    Calls Tryz.prog 123 #[.agg #[.int .u8 v.k, .int .i64 v.n], .pointer (some ⟨g, 0, none⟩)] w fun e w' => e = .returned (.bool (v.k == k0)) ∧ Below w.heap.size w w' := by
  have HB : Hid (Below w.heap.size w (w.alloc (.cells #[.int .u8 v.k, .int .i64 v.n] 26))) := Lib.hid ((Below.refl _ _).alloc (Nat.le_refl _) _)
  have x0 := (Stay.cell hg).alloc (.cells #[.int .u8 v.k, .int .i64 v.n] 26) _ (Below.refl _ _)
  obtain ⟨k, n⟩ := v
  dsimp only at *
  clear hg
  generalize hq : (k == k0) = q
  cases q with
  | true =>
    obtain rfl : k = k0 := by simpa using hq
    clear hq
    go_enter Tryz.func123, Tryz.ntmps123
    go_wp2
    go_ret
    exact ⟨by simp, HB.out⟩
  | false =>
    go_enter Tryz.func123, Tryz.ntmps123
    go_wp2
    go_ret
    exact ⟨rfl, HB.out⟩
end Go.Proofs.YtacggbpgillbaaaGreatDoor
