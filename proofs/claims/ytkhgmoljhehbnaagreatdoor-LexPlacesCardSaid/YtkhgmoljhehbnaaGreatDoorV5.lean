/- The walk of the law LexPlaces, where the text is right. -/
import Derived.Test.YtkhgmoljhehbnaaGreatDoorV4
namespace Go.Proofs.YtkhgmoljhehbnaaGreatDoor
open Go.RowKit

theorem offset_all (s : ByteArray) (hs : s.size ≤ 2500) (h : Lx.check s.data.toList = (0, 0)) (line col : Int) : ∃ a f D : Int, (∀ W, Mx W → Calls Tryz.prog 6 #[.string s, .int .i64 line, .int .i64 col] W fun e w' => e = .returned (.tuple #[.int .i64 a, .int .i64 f]) ∧ Below W.heap.size W w') ∧
    (∀ W, Calls Tryz.prog 8 #[.string s, .int .i64 line, .int .i64 col] W fun e w' => e = .returned (.int .i64 D) ∧ w' = W) ∧ ((D = -1 ∧ a = 0 ∧ f = 3) ∨ ∃ d : Nat, D = d ∧ a = d ∧ f = 0) := by
  by_cases hr : ∃ (n c : Nat) (x : Lx.B), (Lx.linesG [] s.data.toList)[n]? = some x ∧ c ≤ x.length ∧ line = ((n + 1 : Nat) : Int) ∧ col = ((c + 1 : Nat) : Int)
  · obtain ⟨n, c, x, hx, hcx, rfl, rfl⟩ := hr
    obtain ⟨h1, h2⟩ := Lx.range_spotted hx hcx
    rw [← Lib.size_eq] at h1
    have hro := refOffset_any s hs ((n + 1 : Nat) : Int) ((c + 1 : Nat) : Int) ((Lx.start (Lx.linesG [] s.data.toList) n + c : Nat) : Int) (.inl ⟨_, by rw [← Lib.size_eq]; exact h1, (h2 _ (by rw [← Lib.size_eq]; exact h1)).2 rfl, fun j hj hp => by have := (h2 j (by rw [← Lib.size_eq]; omega)).1 hp; omega, rfl⟩)
    exact ⟨_, 0, _, fun W hW => offset_any s hs h n c x hx hcx (by omega) (n + 1) (c + 1) rfl rfl W hW, hro, .inr ⟨_, rfl, rfl, rfl⟩⟩
  · refine ⟨0, 3, -1, fun W hW => offset_out s hs h line col ?_ W hW, refOffset_any s hs line col (-1) (.inr ⟨fun a ha hp => ?_, rfl⟩), .inl ⟨rfl, rfl, rfl⟩⟩
    · by_cases h1 : line < 1
      · exact .inl h1
      · by_cases h2 : ((Lx.linesG [] s.data.toList).length : Int) < line
        · exact .inr (.inl h2)
        · have hn : (line - 1).toNat < (Lx.linesG [] s.data.toList).length := by omega
          refine .inr (.inr ⟨(line - 1).toNat, _, by omega, List.getElem?_eq_getElem hn, ?_⟩)
          by_cases h3 : col < 1
          · exact .inl h3
          · right
            by_cases h4 : ((((Lx.linesG [] s.data.toList)[(line - 1).toNat]'hn).length : Int) + 1 < col)
            · exact h4
            · exact absurd ⟨(line - 1).toNat, (col - 1).toNat, _, List.getElem?_eq_getElem hn, by omega, by omega, by omega⟩ hr
    · obtain ⟨n, c, x, h1, h2, h3, h4, _⟩ := Lx.spotted_range ha hp
      exact hr ⟨n, c, x, h1, h2, h3, h4⟩

theorem place_all (s : ByteArray) (hs : s.size ≤ 2500) (h : Lx.check s.data.toList = (0, 0)) (a : Nat) (ha : a ≤ s.size) : ∃ L C : Int, (∀ W, Calls Tryz.prog 5 #[.string s, .int .i64 a] W fun e w' => e = .returned (.tuple #[.int .i64 L, .int .i64 C, .int .i64 0]) ∧ Below W.heap.size W w') ∧
    (∀ W, Calls Tryz.prog 9 #[.string s, .int .i64 a] W fun e w' => e = .returned (.tuple #[.int .i64 L, .int .i64 C]) ∧ w' = W) := by
  obtain ⟨x, hx⟩ := Lx.place_ok s.data.toList a (by rw [← Lib.size_eq]; exact ha)
  have hlo := hx.lo
  refine ⟨_, _, fun W => place_any s hs h a ha x _ rfl hx (Lx.lineAt s.data.toList a + 1) (Lx.colAt s.data.toList a) rfl ?_ W, fun W => refPlace_any s hs a ha W⟩
  unfold Lx.colAt Lx.lineAt
  omega

set_option maxRecDepth 100000 in
set_option maxHeartbeats 4000000 in
theorem places_run (s : ByteArray) (hs : s.size ≤ 600) (h : Lx.check s.data.toList = (0, 0)) (p l c a f D : Int) (w : World) (he : Env w) (hm : Mx w)
    (hof : ∀ W, Mx W → Calls Tryz.prog 6 #[.string s, .int .i64 l, .int .i64 c] W fun e w' => e = .returned (.tuple #[.int .i64 a, .int .i64 f]) ∧ Below W.heap.size W w')
    (hro : ∀ W, Calls Tryz.prog 8 #[.string s, .int .i64 l, .int .i64 c] W fun e w' => e = .returned (.int .i64 D) ∧ w' = W) (hD : (D = -1 ∧ a = 0 ∧ f = 3) ∨ ∃ d : Nat, D = d ∧ a = d ∧ f = 0) :
    Calls Tryz.prog 3 #[.string s, spotV p l c] w fun e w' => e = .returned (.bool true) ∧ Below w.heap.size w w' := by
  have h6 : ¬ (600 : Int) < s.size := by omega
  have h60 : ¬ (6000 : Int) < s.size := by omega
  have hrc := fun W => refCheck_any s (by unfold maxLen; omega) W
  rw [h] at hrc
  unfold chkV at hrc
  obtain ⟨L, C, E, hpl, hpp⟩ : ∃ L C E : Int, (∀ W, Calls Tryz.prog 5 #[.string s, .int .i64 p] W fun e w' => e = .returned (.tuple #[.int .i64 L, .int .i64 C, .int .i64 E]) ∧ Below W.heap.size W w') ∧
      ((p < 0 ∧ L = 0 ∧ C = 0 ∧ E = 3) ∨ (¬ p < 0 ∧ (s.size : Int) < p ∧ L = 0 ∧ C = 0 ∧ E = 3) ∨ (¬ p < 0 ∧ p ≤ s.size ∧ E = 0 ∧ ∀ W, Calls Tryz.prog 9 #[.string s, .int .i64 p] W fun e w' => e = .returned (.tuple #[.int .i64 L, .int .i64 C]) ∧ w' = W)) := by
    by_cases h1 : p < 0
    · exact ⟨0, 0, 3, fun W => place_out s (by omega) h p (.inl h1) W, .inl ⟨h1, rfl, rfl, rfl⟩⟩
    · by_cases h2 : (s.size : Int) < p
      · exact ⟨0, 0, 3, fun W => place_out s (by omega) h p (.inr h2) W, .inr (.inl ⟨h1, h2, rfl, rfl, rfl⟩)⟩
      · obtain ⟨n, rfl⟩ : ∃ n : Nat, p = n := ⟨p.toNat, by omega⟩
        obtain ⟨L, C, q1, q2⟩ := place_all s (by omega) h n (by omega)
        exact ⟨L, C, 0, q1, .inr (.inr ⟨h1, by omega, rfl, q2⟩)⟩
  have HPL := Lib.hid hpl
  have HOF := Lib.hid hof
  have HRO := Lib.hid hro
  have HRC := Lib.hid hrc
  have HK := Lib.hid (fun W hE => known_any W hE)
  have HE := Lib.hid (he.alloc (spotO p l c))
  have HM := Lib.hid (hm.below ((Below.refl _ w).alloc (Nat.le_refl _) (spotO p l c)))
  have HB := Lib.hid ((Below.refl _ w).alloc (Nat.le_refl _) (spotO p l c))
  have c0 : (w.alloc (spotO p l c)).cell? ⟨w.heap.size, 0, none⟩ = some (.int .i64 p) := by simp
  have c1 : (w.alloc (spotO p l c)).cell? ⟨w.heap.size, 1, none⟩ = some (.int .i64 l) := by simp
  have c2 : (w.alloc (spotO p l c)).cell? ⟨w.heap.size, 2, none⟩ = some (.int .i64 c) := by simp
  have hC : Hid (∀ W, Below (w.alloc (spotO p l c)).heap.size (w.alloc (spotO p l c)) W → W.cell? ⟨w.heap.size, 0, none⟩ = some (.int .i64 p) ∧ W.cell? ⟨w.heap.size, 1, none⟩ = some (.int .i64 l) ∧ W.cell? ⟨w.heap.size, 2, none⟩ = some (.int .i64 c)) :=
    fun W hW => ⟨((bcell hW).1 _ _ (lt_of_cell c0)).trans c0, ((bcell hW).1 _ _ (lt_of_cell c1)).trans c1, ((bcell hW).1 _ _ (lt_of_cell c2)).trans c2⟩
  have HPP := Lib.hid hpp
  have HDD := Lib.hid hD
  clear he hm hpl hof hrc hro h hpp hD c0 c1 c2
  go_enter Tryz.func3, Tryz.ntmps3
  go_wp2_with fail
  refine (HPL.out _).mono ?_
  rintro e w1 ⟨rfl, hb1⟩
  have HE1 := Lib.hid (HE.out.below hb1 HE.out.lt)
  have HM1 := Lib.hid (HM.out.below hb1)
  obtain ⟨c0, c1, c2⟩ := hC.out _ hb1
  go_wp2_with fail
  refine (HOF.out _ HM1.out).mono ?_
  rintro e w2 ⟨rfl, hb2⟩
  have HE2 := Lib.hid (HE1.out.below hb2 HE1.out.lt)
  have hB2 := hb1.trans (hb2.mono hb1.size)
  clear c0 c1 c2
  go_wp2_with fail
  refine (HRC.out _).mono ?_
  rintro e w3 ⟨rfl, rfl⟩
  obtain ⟨c0, c1, c2⟩ := hC.out _ hB2
  clear hb1 hb2 HE HE1 HM HM1
  go_wp2_with fail
  refine (HRO.out _).mono ?_
  rintro e w4 ⟨rfl, rfl⟩
  rcases HDD.out with ⟨rfl, rfl, rfl⟩ | ⟨d, rfl, rfl, rfl⟩
  all_goals
    rcases HPP.out with ⟨p1, rfl, rfl, rfl⟩ | ⟨p1, p2, rfl, rfl, rfl⟩ | ⟨p1, p2, rfl, hrp⟩
    · clear HDD HPP HRC HOF HPL HRO
      go_wp2_with fail
      refine (HK.out _ HE2.out).mono ?_
      rintro e w5 ⟨rfl, hb5⟩
      go_wp2
      go_ret
      exact ⟨rfl, (HB.out.trans (hB2.mono (by simp))).trans (hb5.mono (by have := hB2.size; simp at this; omega))⟩
    · have p3 : decide (p < 0) = false := decide_eq_false (by omega)
      clear HDD HPP HRC HOF HPL HRO
      go_wp2_with fail
      refine (HK.out _ HE2.out).mono ?_
      rintro e w5 ⟨rfl, hb5⟩
      go_wp2
      go_ret
      exact ⟨rfl, (HB.out.trans (hB2.mono (by simp))).trans (hb5.mono (by have := hB2.size; simp at this; omega))⟩
    · have p3 : decide (p < 0) = false := decide_eq_false (by omega)
      have p4 : ¬ (s.size : Int) < p := by omega
      have HRP := Lib.hid hrp
      clear HDD HPP HRC HOF HPL HRO hrp
      go_wp2_with fail
      refine (HRP.out _).mono ?_
      rintro e w5 ⟨rfl, rfl⟩
      go_wp2_with fail
      refine (HK.out _ HE2.out).mono ?_
      rintro e w6 ⟨rfl, hb5⟩
      go_wp2
      go_ret
      exact ⟨rfl, (HB.out.trans (hB2.mono (by simp))).trans (hb5.mono (by have := hB2.size; simp at this; omega))⟩

theorem places_any (s : ByteArray) (hm : s.size ≤ maxLen) (p l c : Int) (w : World) (he : Env w) (hx : Mx w) :
    Calls Tryz.prog 3 #[.string s, spotV p l c] w fun e w' => e = .returned (.bool true) ∧ Below w.heap.size w w' := by
  by_cases h1 : (600 < s.size ∧ s.size ≤ 2500) ∨ 6000 < s.size
  · exact places_far s hm h1 p l c w he
  · rcases check_cases_v s.data.toList with h | ⟨k, er, h, h0⟩
    · have h25 : s.size ≤ 2500 := by have := check_lt s.data.toList (by rw [h]); rw [← Lib.size_eq] at this; exact this
      obtain ⟨a, f, D, q1, q2, q3⟩ := offset_all s h25 h l c
      exact places_run s (by omega) h p l c a f D w he hx q1 q2 q3
    · exact places_bad s hm h1 k er h h0 p l c w he

end Go.Proofs.YtkhgmoljhehbnaaGreatDoor
