/- Layer 5: the walks of the reference's Who and Slim. -/
import Derived.Test.YthagelnimmfhbaaRl
namespace Rg
/-- the first part that has a cell -/
def whoK (s c : Int) : List Pt → Nat → Option Nat
  | [], _ => none
  | p :: r, i => if p.has s c then some i else whoK s c r (i + 1)
def who (l : List Pt) (s c : Int) : Option Nat := whoK s c l 0
theorem whoK_at {s c : Int} {l : List Pt} {k : Nat} {p : Pt} (h : l[k]? = some p) : whoK s c (l.drop k) k = if p.has s c then some k else whoK s c (l.drop (k + 1)) (k + 1) := by
  obtain ⟨hk, e⟩ := List.getElem?_eq_some_iff.1 h
  rw [List.drop_eq_getElem_cons hk, whoK, e]
def some' (p : Pt) : Bool := (List.range 101).any fun s => !(p.cells s).isEmpty
theorem slim_some (l : List Pt) : slim l = l.filter some' := rfl
/-- of the first sizes -/
def someK (p : Pt) (k : Nat) : Bool := (List.range k).any fun s => !(p.cells s).isEmpty
theorem someK_succ (p : Pt) (k : Nat) : someK p (k + 1) = (someK p k || !(p.cells k).isEmpty) := by
  unfold someK; rw [List.range_succ, List.any_append]; simp
end Rg
namespace Go.Proofs.Ythagelnimmfhbaa
open Go.RowKit Go.El

set_option maxRecDepth 100000 in
set_option maxHeartbeats 2000000 in
theorem refWho_any (l : List Rg.Pt) (hv : Rg.valid l = true) (A : Option Addr) (cap : Nat) (s c : Int) (h0 : 0 ≤ s) (h1 : s ≤ 109) (c0 : -1000000 ≤ c) (c1 : c ≤ 1000000) (w : World) (h : PtE.Arg w A l) :
    Calls Try.prog 32 #[.slice A l.length cap, .int .i64 s, .int .i64 c] w fun e w' => e = .returned (.int .i64 (leastV (Rg.who l s c))) ∧ Below w.heap.size w w' := by
  have hvi := (Rg.valid_iff l).1 hv
  have hlen := hvi.1
  have hha := fun p (hp : p ∈ l) W => has_any p (hvi.2 p hp) s c h0 h1 c0 c1 W
  have HHA := Lib.hid hha
  have H := Lib.hid h
  have HAT := Lib.hid (fun k p (hp : l[k]? = some p) => Rg.whoK_at (s := s) (c := c) hp)
  have h00 : Rg.whoK s c (l.drop 0) 0 = Rg.who l s c := rfl
  have H00 := Lib.hid h00
  generalize Rg.who l s c = R at *
  clear hha h hvi hv h00
  go_enter Try.func32, Try.ntmps32
  go_wp2_with fail
  go_loopw [7] (fun i wr => ∃ k : Nat, k ≤ l.length ∧ i = .int .i64 k ∧ Hid (Rg.whoK s c (l.drop k) k = R) ∧ Below w.heap.size w wr) (fun i _ => l.length - (intOf i).toNat)
  case atStart => exact ⟨0, Nat.zero_le _, rfl, H00, Below.refl _ _⟩
  case round =>
    obtain ⟨k, hk, rfl, HR, hbw⟩ := hrel
    have hzw := hbw.size
    by_cases hlt : k < l.length
    · have hlt' : (k : Int) < l.length := by omega
      obtain ⟨b, o, rfl, hin, hbl⟩ := H.out.at_lt hlt
      obtain ⟨p, hp⟩ : ∃ p, l[k]? = some p := ⟨_, List.getElem?_eq_getElem hlt⟩
      obtain ⟨x0, x1, x2, x3, x4⟩ := PtE.at5 (hin.below hbw (fun _ => hbl)) hp
      have hcall := fun W => HHA.out p (List.mem_of_getElem? hp) W
      unfold ptC at hcall
      have hnext := HAT.out k p hp
      rw [HR.out] at hnext
      have HCALL := Lib.hid hcall
      have HNEXT := Lib.hid hnext
      clear hcall hnext hin hp
      cases hq : p.has s c with
      | true =>
        rw [hq] at HCALL HNEXT
        have HE : Hid (R = some k) := Lib.hid (by rw [HNEXT.out]; rfl)
        clear hq HNEXT
        go_wp2_with fail
        refine (HCALL.out _).mono ?_
        rintro e w1 ⟨rfl, hb1⟩
        go_wp2
        go_ret
        exact ⟨by rw [HE.out]; rfl, hbw.trans (hb1.mono hzw)⟩
      | false =>
        rw [hq] at HCALL HNEXT
        have HE : Hid (Rg.whoK s c (l.drop (k + 1)) (k + 1) = R) := Lib.hid (by rw [HNEXT.out]; rfl)
        clear hq HNEXT
        go_wp2_with fail
        refine (HCALL.out _).mono ?_
        rintro e w1 ⟨rfl, hb1⟩
        go_wp2
        go_roundw
        case rel => exact ⟨k + 1, by omega, by go_num, HE, hbw.trans (hb1.mono hzw)⟩
        case measure => simp [intOf]; omega
    · have hlt' : ¬ (k : Int) < l.length := by omega
      have HE : Hid (R = none) := Lib.hid (by rw [← HR.out, List.drop_eq_nil_of_le (by omega)]; rfl)
      go_wp2
      go_ret
      exact ⟨by rw [HE.out]; rfl, hbw⟩

/-- parts that came in, below a new row -/
theorem slim_take (l : List Rg.Pt) (k : Nat) (p : Rg.Pt) (hp : l[k]? = some p) : (l.take (k + 1)).filter Rg.some' = (l.take k).filter Rg.some' ++ if Rg.some' p then [p] else [] := by
  obtain ⟨hk, e⟩ := List.getElem?_eq_some_iff.1 hp
  rw [List.take_succ_eq_append_getElem hk, e, List.filter_append]
  congr 1
  cases h : Rg.some' p <;> simp [h]

set_option maxRecDepth 100000 in
set_option maxHeartbeats 4000000 in
theorem refSlim_any (l : List Rg.Pt) (hv : Rg.valid l = true) (A : Option Addr) (cap : Nat) (w : World) (h : PtE.Arg w A l) :
    Calls Try.prog 28 #[.slice A l.length cap] w fun e w' => (∃ B c, e = .returned (.slice B (Rg.slim l).length c) ∧ OwnP w' w.heap.size B c (Rg.slim l)) ∧ Below w.heap.size w w' := by
  have hvi := (Rg.valid_iff l).1 hv
  have hlen := hvi.1
  have hce := fun p (hp : p ∈ l) (s : Nat) (h1 : s ≤ 100) W => refCells_any p (hvi.2 p hp) s (by omega) (by omega) W
  have HCE := Lib.hid hce
  have H := Lib.hid h
  have HTK := Lib.hid (fun k p hp => slim_take l k p hp)
  have h00 : (l.take l.length).filter Rg.some' = Rg.slim l := by rw [List.take_length]; rfl
  have H00 := Lib.hid h00
  generalize Rg.slim l = R at *
  clear hce h hvi hv h00
  go_enter Try.func28, Try.ntmps28
  go_wp2_with fail
  go_loopw [3, 4, 5, 6] (fun o i _ _ wr => ∃ (k : Nat) (D : List Rg.Pt) (B : Option Addr) (c : Nat), k ≤ l.length ∧ i = .int .i64 k ∧ o = .slice B D.length c ∧ Hid (D = (l.take k).filter Rg.some') ∧ D.length ≤ 12 ∧ OwnP wr w.heap.size B c D ∧ Below w.heap.size w wr) (fun _ i _ _ _ => l.length - (intOf i).toNat)
  case atStart => exact ⟨0, [], _, 0, Nat.zero_le _, rfl, rfl, Lib.hid rfl, by simp, Own.made PtE 25 w (Nat.le_refl _), (Below.refl _ _).alloc (Nat.le_refl _) _⟩
  case round =>
    obtain ⟨k, D, B, c, hk, rfl, rfl, HD, hDl, hown, hbw⟩ := hrel
    have hzw := hbw.size
    by_cases hlt : k < l.length
    · have hlt' : (k : Int) < l.length := by omega
      obtain ⟨b, o, rfl, hin, hbl⟩ := H.out.at_lt hlt
      obtain ⟨p, hp⟩ : ∃ p, l[k]? = some p := ⟨_, List.getElem?_eq_getElem hlt⟩
      have hcall := fun s h1 W => HCE.out p (List.mem_of_getElem? hp) s h1 W
      unfold ptC at hcall
      have HP := Lib.hid hp
      have HIN := Lib.hid hin
      have HCALL := Lib.hid hcall
      clear hcall hin hp
      go_wp2_with fail
      obtain ⟨wo, rfl⟩ : ∃ wo : World, wo = wr := ⟨_, rfl⟩
      have HB := Lib.hid hbw
      have HOWN := Lib.hid hown
      clear hbw hown
      go_loopw [5, 6] (fun q i wr => ∃ j : Nat, j ≤ 101 ∧ i = .int .i64 j ∧ q = .bool (Rg.someK p j) ∧ Below wo.heap.size wo wr) (fun _ i _ => (101 - intOf i).toNat)
      case atStart => exact ⟨0, by omega, rfl, rfl, Below.refl _ _⟩
      case round =>
        obtain ⟨j, hj, rfl, rfl, hbi⟩ := hrel
        have hzi := hbi.size
        by_cases hlj : j ≤ 100
        · have hlj' : (j : Int) ≤ 100 := by omega
          have hs := Rg.someK_succ p j
          obtain ⟨x0, x1, x2, x3, x4⟩ := PtE.at5 (HIN.out.below (HB.out.trans (hbi.mono hzw)) (fun _ => hbl)) HP.out
          have hcall := fun W => HCALL.out j hlj W
          generalize p.cells j = C at hcall hs
          have HC := Lib.hid hcall
          clear hcall
          cases hq : Rg.someK p j with
          | true =>
            have HS : Hid (Rg.someK p (j + 1) = true) := Lib.hid (by rw [hs, hq]; rfl)
            clear hs hq
            go_wp2
            go_roundw
            case rel => exact ⟨j + 1, by omega, by go_num, by rw [HS.out], hbi⟩
            case measure => simp [intOf]; omega
          | false =>
            rw [hq, Bool.false_or] at hs
            have HS := Lib.hid hs
            clear hs hq
            cases C with
            | nil =>
              go_wp2_with fail
              refine (HC.out _).mono ?_
              rintro e w1 ⟨⟨B1, c1, rfl, ho1⟩, hb1⟩
              simp only [List.length_nil]
              clear ho1
              go_wp2
              go_roundw
              case rel => exact ⟨j + 1, by omega, by go_num, by rw [HS.out]; rfl, hbi.trans (hb1.mono hzi)⟩
              case measure => simp [intOf]; omega
            | cons y r =>
              have hpos : (0 : Int) < (r.length : Int) + 1 := by omega
              go_wp2_with fail
              refine (HC.out _).mono ?_
              rintro e w1 ⟨⟨B1, c1, rfl, ho1⟩, hb1⟩
              simp only [List.length_cons]
              clear ho1
              go_wp2
              go_roundw
              case rel => exact ⟨j + 1, by omega, by go_num, by rw [HS.out]; rfl, hbi.trans (hb1.mono hzi)⟩
              case measure => simp [intOf]; omega
        · have hlj' : ¬ (j : Int) ≤ 100 := by omega
          have hse : Rg.someK p j = Rg.some' p := by rw [show j = 101 by omega]; rfl
          have hnext := HTK.out k p HP.out
          rw [← HD.out] at hnext
          have hown2 := HOWN.out.below hbi
          have hB2 := HB.out.trans (hbi.mono hzw)
          obtain ⟨x0, x1, x2, x3, x4⟩ := PtE.at5 (HIN.out.below hB2 (fun _ => hbl)) HP.out
          have hz2 := hB2.size
          have HDL : Hid (D.length ≤ k) := Lib.hid (by rw [HD.out]; exact Nat.le_trans (List.length_filter_le _ _) (List.length_take_le _ _))
          rw [hse]
          cases hq : Rg.some' p with
          | true =>
            rw [hq] at hnext
            have HN : Hid (D ++ [p] = (l.take (k + 1)).filter Rg.some') := Lib.hid (by rw [hnext]; rfl)
            clear hnext hq hse hbi
            go_wp2_with (at_builtin; refine append_P rfl _ _ rfl w.heap.size B c D p wr.heap.size rfl rfl (hown2.below ((Below.refl _ _).alloc (Nat.le_refl _) _)) (by simp) (by simp) (by simp) (by simp) (by simp) (by omega) (by simp; omega) ?_; intro B' c' w2 hown3 hgrow3)
            go_roundw
            case rel => exact ⟨k + 1, D ++ [p], B', c', by omega, by go_num, by simp, HN, by have := HDL.out; simp; omega, hown3, (hB2.alloc hz2 _).grown hgrow3 (by simp; omega) (fun j hj => (hown2.lt j hj).1)⟩
            case measure => simp [intOf]; omega
          | false =>
            rw [hq] at hnext
            have HN : Hid (D = (l.take (k + 1)).filter Rg.some') := Lib.hid (by rw [hnext]; simp)
            clear hnext hq hse hbi
            go_wp2
            go_roundw
            case rel => exact ⟨k + 1, D, B, c, by omega, by go_num, rfl, HN, hDl, hown2, hB2⟩
            case measure => simp [intOf]; omega
    · have hlt' : ¬ (k : Int) < l.length := by omega
      have HE : Hid (D = R) := Lib.hid (by rw [HD.out, show k = l.length by omega, H00.out])
      go_wp2
      go_ret
      exact ⟨⟨B, c, by rw [← HE.out]; rfl, by rw [← HE.out]; exact hown⟩, hbw⟩

end Go.Proofs.Ythagelnimmfhbaa
