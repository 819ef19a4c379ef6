/- Layer 6: the walk of the laws' ThinPicture. -/
import Derived.Test.YtjldkndalcellaaGreatDoorYp
import Derived.Test.YtjldkndalcellaaGreatDoorYe
namespace Ce
/-- few enough values, lists and cells -/
def ThinP (p : Pic) : Prop := p.vals.length ≤ 104 ∧ p.cells.length ≤ 14 ∧ ∀ (i : Nat) (s : List V), p.cells[i]? = some s → s.length ≤ 104
end Ce
namespace Go.Proofs.YtjldkndalcellaaGreatDoor
open Go.RowKit Go.El

theorem thin_szp {p : Ce.Pic} (h : Ce.ThinP p) : Szp p := ⟨by have := h.1; omega, by have := h.2.1; omega, fun i s hs => by have := h.2.2 i s hs; omega⟩
set_option maxRecDepth 100000 in
set_option maxHeartbeats 4000000 in
theorem thinPic_any (p : Ce.Pic) (hp : Bgp p) (V C : Option Addr) (cv cc : Nat) (w : World) (h : PicAt w V cv C p) :
    Calls Tryz.prog 17 #[.agg #[.slice V p.vals.length cv, .slice C p.cells.length cc]] w fun e w' => (∃ b, e = .returned (.bool b) ∧ (b = true → Ce.ThinP p)) ∧ Below w.heap.size w w' := by
  have hm0 := hp.many
  have hml : (p.cells.length : Int) ≤ 9223372036854775807 := by unfold maxLen at hm0; omega
  have hb1 : Below w.heap.size w (w.alloc (Obj.cells #[.slice V p.vals.length cv, .slice C p.cells.length cc] 37)) := (Below.refl _ _).alloc (Nat.le_refl _) _
  have HS0 := Lib.hid ((h.c.stay.step hb1).and (box2 (W := w) (v := .slice V p.vals.length cv) (u := .slice C p.cells.length cc) (t := 37)))
  have HB0 := Lib.hid hb1
  have HT : Hid (p.vals.length ≤ 104 → p.cells.length ≤ 14 → (∀ (i : Nat) (s : List Ce.V), i < p.cells.length → p.cells[i]? = some s → s.length ≤ 104) → Ce.ThinP p) := Lib.hid fun h1 h2 h3 => ⟨h1, h2, fun i s hs => h3 i s (List.getElem?_eq_some_iff.1 hs).1 hs⟩
  generalize hTT : Ce.ThinP p = T at *
  obtain ⟨vs, ls⟩ := p
  dsimp only at *
  generalize hn : ls.length = n at *
  generalize vs.length = nv at *
  have HN := Lib.hid hn
  clear hp h hb1 hn hm0 hTT
  by_cases h14 : 14 < n
  · have h14' : (14 : Int) < n := by omega
    obtain ⟨mA, x0⟩ := HS0.out.at_
    clear mA
    go_enter Tryz.func17, Tryz.ntmps17
    go_wp2
    go_ret
    exact ⟨⟨false, rfl, nofun⟩, HB0.out⟩
  have h14' : decide ((14 : Int) < n) = false := decide_eq_false (by omega)
  by_cases v14 : 14 < nv
  · have v14' : (14 : Int) < nv := by omega
    by_cases v100 : nv ≤ 100
    · have v100' : (nv : Int) ≤ 100 := by omega
      go_enter Tryz.func17, Tryz.ntmps17
      go_wp2
      go_ret
      exact ⟨⟨false, rfl, nofun⟩, HB0.out⟩
    have v100' : decide ((nv : Int) ≤ 100) = false := decide_eq_false (by omega)
    by_cases v104 : 104 < nv
    · have v104' : (104 : Int) < nv := by omega
      go_enter Tryz.func17, Tryz.ntmps17
      go_wp2
      go_ret
      exact ⟨⟨false, rfl, nofun⟩, HB0.out⟩
    have v104' : decide ((104 : Int) < nv) = false := decide_eq_false (by omega)
    have HT := Lib.hid (HT.out (by omega) (by omega))
    go_enter Tryz.func17, Tryz.ntmps17
    go_wp2_with fail
    go_loopw [3] (fun i wr => ∃ k : Nat, k ≤ n ∧ i = .int .i64 k ∧ Hid (∀ (i : Nat) (s : List Ce.V), i < k → ls[i]? = some s → s.length ≤ 104) ∧ Hid (Stay (fun U => LsAt U C ls ∧ U.cell? ⟨w.heap.size, 0, none⟩ = some (.slice V nv cv) ∧ U.cell? ⟨w.heap.size, 1, none⟩ = some (.slice C n cc)) wr) ∧ Hid (Below w.heap.size w wr)) (fun i _ => n - (intOf i).toNat)
    case atStart => exact ⟨0, Nat.zero_le _, rfl, Lib.hid fun i s hi => by omega, HS0, HB0⟩
    case round =>
      clear HS0 HB0
      obtain ⟨k, hk, rfl, HK, HS, HB⟩ := hrel
      obtain ⟨mA, x0, x1⟩ := HS.out.at_
      by_cases hlt : k < n
      · have hlt' : (k : Int) < n := by omega
        obtain ⟨s, hs⟩ : ∃ x, ls[k]? = some x := ⟨_, List.getElem?_eq_getElem (by rw [HN.out]; exact hlt)⟩
        obtain ⟨b1, o1, A1, c1, rfl, hz1, y1, P1⟩ := mA.at_ hs
        have HK1 : Hid (s.length ≤ 104 → ∀ (i : Nat) (s : List Ce.V), i < k + 1 → ls[i]? = some s → s.length ≤ 104) := Lib.hid fun h1 i t hi ht => by
          by_cases hik : i < k
          · exact HK.out i t hik ht
          · obtain rfl : i = k := by omega
            rw [hs] at ht
            injection ht with ht
            subst ht
            exact h1
        clear mA hs P1 HK
        generalize s.length = q at *
        by_cases c24 : 24 < q
        · have c24' : (24 : Int) < q := by omega
          by_cases c100 : q ≤ 100
          · have c100' : (q : Int) ≤ 100 := by omega
            go_wp2
            go_ret
            exact ⟨⟨false, rfl, nofun⟩, HB.out⟩
          · have c100' : decide ((q : Int) ≤ 100) = false := decide_eq_false (by omega)
            by_cases c104 : 104 < q
            · have c104' : (104 : Int) < q := by omega
              go_wp2
              go_ret
              exact ⟨⟨false, rfl, nofun⟩, HB.out⟩
            · have c104' : decide ((104 : Int) < q) = false := decide_eq_false (by omega)
              have HK2 := Lib.hid (HK1.out (by omega))
              go_wp2
              go_roundw
              case rel => exact ⟨k + 1, by omega, by go_num, HK2, HS, HB⟩
              case measure => simp [intOf]; omega
        · have c24' : decide ((24 : Int) < q) = false := decide_eq_false (by omega)
          have c104' : decide ((104 : Int) < q) = false := decide_eq_false (by omega)
          have HK2 := Lib.hid (HK1.out (by omega))
          go_wp2
          go_roundw
          case rel => exact ⟨k + 1, by omega, by go_num, HK2, HS, HB⟩
          case measure => simp [intOf]; omega
      · have hlt' : ¬ (k : Int) < n := by omega
        have HE := Lib.hid (HT.out (fun i s hi => HK.out i s (by omega)))
        clear mA
        go_wp2
        go_ret
        exact ⟨by first | exact ⟨true, rfl, fun _ => HE.out⟩ | exact Or.inr ⟨rfl, HE.out⟩, HB.out⟩
  have v14' : decide ((14 : Int) < nv) = false := decide_eq_false (by omega)
  have v104' : decide ((104 : Int) < nv) = false := decide_eq_false (by omega)
  have HT := Lib.hid (HT.out (by omega) (by omega))
  go_enter Tryz.func17, Tryz.ntmps17
  go_wp2_with fail
  go_loopw [3] (fun i wr => ∃ k : Nat, k ≤ n ∧ i = .int .i64 k ∧ Hid (∀ (i : Nat) (s : List Ce.V), i < k → ls[i]? = some s → s.length ≤ 104) ∧ Hid (Stay (fun U => LsAt U C ls ∧ U.cell? ⟨w.heap.size, 0, none⟩ = some (.slice V nv cv) ∧ U.cell? ⟨w.heap.size, 1, none⟩ = some (.slice C n cc)) wr) ∧ Hid (Below w.heap.size w wr)) (fun i _ => n - (intOf i).toNat)
  case atStart => exact ⟨0, Nat.zero_le _, rfl, Lib.hid fun i s hi => by omega, HS0, HB0⟩
  case round =>
    clear HS0 HB0
    obtain ⟨k, hk, rfl, HK, HS, HB⟩ := hrel
    obtain ⟨mA, x0, x1⟩ := HS.out.at_
    by_cases hlt : k < n
    · have hlt' : (k : Int) < n := by omega
      obtain ⟨s, hs⟩ : ∃ x, ls[k]? = some x := ⟨_, List.getElem?_eq_getElem (by rw [HN.out]; exact hlt)⟩
      obtain ⟨b1, o1, A1, c1, rfl, hz1, y1, P1⟩ := mA.at_ hs
      have HK1 : Hid (s.length ≤ 104 → ∀ (i : Nat) (s : List Ce.V), i < k + 1 → ls[i]? = some s → s.length ≤ 104) := Lib.hid fun h1 i t hi ht => by
        by_cases hik : i < k
        · exact HK.out i t hik ht
        · obtain rfl : i = k := by omega
          rw [hs] at ht
          injection ht with ht
          subst ht
          exact h1
      clear mA hs P1 HK
      generalize s.length = q at *
      by_cases c24 : 24 < q
      · have c24' : (24 : Int) < q := by omega
        by_cases c100 : q ≤ 100
        · have c100' : (q : Int) ≤ 100 := by omega
          go_wp2
          go_ret
          exact ⟨⟨false, rfl, nofun⟩, HB.out⟩
        · have c100' : decide ((q : Int) ≤ 100) = false := decide_eq_false (by omega)
          by_cases c104 : 104 < q
          · have c104' : (104 : Int) < q := by omega
            go_wp2
            go_ret
            exact ⟨⟨false, rfl, nofun⟩, HB.out⟩
          · have c104' : decide ((104 : Int) < q) = false := decide_eq_false (by omega)
            have HK2 := Lib.hid (HK1.out (by omega))
            go_wp2
            go_roundw
            case rel => exact ⟨k + 1, by omega, by go_num, HK2, HS, HB⟩
            case measure => simp [intOf]; omega
      · have c24' : decide ((24 : Int) < q) = false := decide_eq_false (by omega)
        have c104' : decide ((104 : Int) < q) = false := decide_eq_false (by omega)
        have HK2 := Lib.hid (HK1.out (by omega))
        go_wp2
        go_roundw
        case rel => exact ⟨k + 1, by omega, by go_num, HK2, HS, HB⟩
        case measure => simp [intOf]; omega
    · have hlt' : ¬ (k : Int) < n := by omega
      have HE := Lib.hid (HT.out (fun i s hi => HK.out i s (by omega)))
      clear mA
      go_wp2
      go_ret
      exact ⟨by first | exact ⟨true, rfl, fun _ => HE.out⟩ | exact Or.inr ⟨rfl, HE.out⟩, HB.out⟩
end Go.Proofs.YtjldkndalcellaaGreatDoor
