/- Layer 6, the program: isStruct, waiting, isMemory, drawable, Check. -/
import Derived.Test.YtacggbpgillbaaaGreatDoorTe
import Derived.Test.YtacggbpgillbaaaGreatDoorTk
namespace Ce
open Go.Proofs.YtacggbpgillbaaaGreatDoor
/-- a read that waits for a hole -/
def rdOkB (l : List V) (r : Rd) : Bool := match cellAt l r.cell with
  | some v => isHoleB v
  | none => false
theorem rdOkB_eq {l : List V} {n : Int} (h : areValues l n = true) (r : Rd) : rdOkB l r = rdOk l r := by
  unfold rdOkB rdOk cellAt
  cases he : (if 0 ≤ r.cell then l[r.cell.toNat]? else none) with
  | none => rfl
  | some v =>
    have hv : isValue v n = true := by
      unfold areValues at h
      rw [List.all_eq_true] at h
      split at he
      · exact h _ (List.mem_of_getElem? he)
      · cases he
    exact hole_iff (isValue_free hv)
theorem stOk_eq (n : Int) (s : St) : stOk n s = ((decide (s.cells.length ≤ 100) && areValues s.cells n) && s.wait.all (rdOkB s.cells)) := by
  unfold stOk
  cases h : areValues s.cells n with
  | false => simp
  | true =>
    congr 1
    exact congrArg (fun f => s.wait.all f) (funext fun r => (rdOkB_eq h r).symm)
theorem zip_all {α : Type} (p : St → Bool) : ∀ (hs : List α) (m : Mem), hs.length = m.length → (hs.zip m).all (fun x => p x.2) = m.all p
  | [], [], _ => rfl
  | _ :: hs, s :: m, h => by
    rw [List.zip_cons_cons, List.all_cons, List.all_cons, zip_all p hs m (by simpa using h)]
  | [], _ :: _, h => by simp at h
  | _ :: _, [], h => by simp at h
theorem memOk_eq (m : Mem) : memOk m = (decide (m.length ≤ 400) && (decide (reads m ≤ 6000) && m.all (stOk m.length))) := by
  unfold memOk
  rw [Bool.and_comm (m.all (stOk m.length))]
end Ce
namespace Go.Proofs.YtacggbpgillbaaaGreatDoor
open Go.RowKit Go.El

set_option maxRecDepth 100000 in
set_option maxHeartbeats 2000000 in
theorem waits_any (r : Ce.Rd) (l : List Ce.V) (A1 : Option Addr) (c1 : Nat) (g : Nat) (w : World) (h : ValE.Arg w A1 l) (hg : w.cell? ⟨g, 0, none⟩ = some (.slice A1 l.length c1)) :
    Calls Tryz.prog 156 #[.agg #[.int .i64 r.cell, .int .i64 r.who], .pointer (some ⟨g, 0, none⟩)] w fun e w' => e = .returned (.bool (Ce.rdOkB l r)) ∧ Below w.heap.size w w' := by
  obtain ⟨c, wh⟩ := r
  have HB : Hid (Below w.heap.size w (w.alloc (.cells #[.int .i64 c, .int .i64 wh] 122))) := Lib.hid ((Below.refl _ _).alloc (Nat.le_refl _) _)
  have hg' := (Stay.cell hg) _ HB.out
  have HARG := Lib.hid (h.below HB.out)
  dsimp only
  unfold Ce.rdOkB Ce.cellAt
  dsimp only
  clear h hg
  by_cases h0 : 0 ≤ c
  · rw [if_pos h0]
    by_cases h1 : c < l.length
    · obtain ⟨k, rfl⟩ : ∃ k : Nat, c = k := ⟨c.toNat, by omega⟩
      have hk : k < l.length := by omega
      rw [Int.toNat_natCast]
      obtain ⟨v, hv⟩ : ∃ x, l[k]? = some x := ⟨_, List.getElem?_eq_getElem hk⟩
      rw [hv]
      obtain ⟨b, o, rfl, hin, hbl⟩ := HARG.out.at_lt hk
      obtain ⟨x0, x1⟩ := ValE.at2 hin hv
      have hcall := isHole_any v (w.alloc (.cells #[.int .i64 k, .int .i64 wh] 122))
      dsimp only
      generalize isHoleB v = q at *
      have HC := Lib.hid hcall
      clear hcall hin hv HARG
      cases q with
      | true =>
        go_enter Tryz.func156, Tryz.ntmps156
        go_wp2_with fail
        refine HC.out.mono ?_
        rintro e w1 ⟨rfl, hb1⟩
        go_wp2
        go_ret
        exact ⟨rfl, HB.out.trans (hb1.mono HB.out.size)⟩
      | false =>
        go_enter Tryz.func156, Tryz.ntmps156
        go_wp2_with fail
        refine HC.out.mono ?_
        rintro e w1 ⟨rfl, hb1⟩
        go_wp2
        go_ret
        exact ⟨rfl, HB.out.trans (hb1.mono HB.out.size)⟩
    · rw [List.getElem?_eq_none (by omega)]
      have h1' : decide (c < (l.length : Int)) = false := decide_eq_false h1
      clear HARG
      go_enter Tryz.func156, Tryz.ntmps156
      go_wp2
      go_ret
      exact ⟨rfl, HB.out⟩
  · rw [if_neg h0]
    clear HARG
    go_enter Tryz.func156, Tryz.ntmps156
    go_wp2
    go_ret
    exact ⟨rfl, HB.out⟩

set_option maxRecDepth 100000 in
set_option maxHeartbeats 2000000 in
theorem isStruct_any (n : Nat) (B : Option Addr) (c : Nat) (s : Ce.St) (hc : s.cells.length ≤ 1000000) (hw : s.wait.length ≤ 1000000) (A1 A2 : Option Addr) (c1 c2 : Nat) (w : World) (h1 : ValE.Arg w A1 s.cells) (h2 : RdE.Arg w A2 s.wait) :
    Calls Tryz.prog 129 #[.agg #[.slice B n c], .agg #[.slice A1 s.cells.length c1, .slice A2 s.wait.length c2]] w fun e w' => e = .returned (.bool (Ce.stOk n s)) ∧ Below w.heap.size w w' := by
  have HB : Hid (Below w.heap.size w ((w.alloc (.cells #[.slice B n c] 35)).alloc (.cells #[.slice A1 s.cells.length c1, .slice A2 s.wait.length c2] 83))) := Lib.hid (((Below.refl _ _).alloc (Nat.le_refl _) _).alloc (by simp) _)
  have sm := (box1 (W := w) (v := .slice B n c) (t := 35)).alloc (.cells #[.slice A1 s.cells.length c1, .slice A2 s.wait.length c2] 83)
  have ss := box2 (W := w.alloc (.cells #[.slice B n c] 35)) (v := .slice A1 s.cells.length c1) (u := .slice A2 s.wait.length c2) (t := 83)
  simp only [World.size_alloc] at ss
  have SB := Lib.hid (sm.and ss)
  have HA1 := Lib.hid (h1.below HB.out)
  have HA2 := Lib.hid (h2.below HB.out)
  rw [Ce.stOk_eq]
  obtain ⟨cs, ws⟩ := s
  dsimp only at *
  clear h1 h2 sm ss
  have hcz : (cs.length : Int) ≤ 1000000 := by omega
  by_cases hl : cs.length ≤ 100
  · rw [decide_eq_true hl, Bool.true_and]
    have hl' : (cs.length : Int) ≤ 100 := by omega
    have hcall := has_any n B c cs hc A1 c1 _ HA1.out
    generalize Ce.areValues cs n = q at *
    have HC := Lib.hid hcall
    clear hcall hl
    cases q with
    | false =>
      rw [Bool.false_and]
      go_enter Tryz.func129, Tryz.ntmps129
      go_wp2_with fail
      refine HC.out.mono ?_
      rintro e w1 ⟨rfl, hb1⟩
      go_wp2
      go_ret
      exact ⟨rfl, HB.out.trans (hb1.mono HB.out.size)⟩
    | true =>
      rw [Bool.true_and]
      have hcall := fun W (hb : Below ((w.alloc (.cells #[.slice B n c] 35)).alloc (.cells #[.slice A1 cs.length c1, .slice A2 ws.length c2] 83)).heap.size ((w.alloc (.cells #[.slice B n c] 35)).alloc (.cells #[.slice A1 cs.length c1, .slice A2 ws.length c2] 83)) W) =>
        rd_all ws hw A2 c2 (Ce.rdOkB cs) 156 #[.pointer (some ⟨w.heap.size + 1, 0, none⟩)] (enters_of Tryz.func156 (by kernel_rfl) rfl) W (HA2.out.below hb)
          (fun r _ W' hb' => waits_any r cs A1 c1 (w.heap.size + 1) W' (HA1.out.below (hb.trans (hb'.mono hb.size))) (SB.out W' (hb.trans (hb'.mono hb.size))).2.1)
      generalize ws.all (Ce.rdOkB cs) = q at *
      have HC2 := Lib.hid hcall
      clear hcall
      cases q with
      | false =>
        go_enter Tryz.func129, Tryz.ntmps129
        go_wp2_with fail
        refine HC.out.mono ?_
        rintro e w1 ⟨rfl, hb1⟩
        obtain ⟨m0, s0, s1⟩ := SB.out w1 hb1
        have HB1 := Lib.hid (HB.out.trans (hb1.mono HB.out.size))
        have HC3 := Lib.hid (HC2.out w1 hb1)
        clear hb1 HC2
        go_wp2_with fail
        refine HC3.out.mono ?_
        rintro e w2 ⟨rfl, hb2⟩
        go_wp2
        go_ret
        exact ⟨rfl, HB1.out.trans (hb2.mono HB1.out.size)⟩
      | true =>
        go_enter Tryz.func129, Tryz.ntmps129
        go_wp2_with fail
        refine HC.out.mono ?_
        rintro e w1 ⟨rfl, hb1⟩
        obtain ⟨m0, s0, s1⟩ := SB.out w1 hb1
        have HB1 := Lib.hid (HB.out.trans (hb1.mono HB.out.size))
        have HC3 := Lib.hid (HC2.out w1 hb1)
        clear hb1 HC2
        go_wp2_with fail
        refine HC3.out.mono ?_
        rintro e w2 ⟨rfl, hb2⟩
        go_wp2
        go_ret
        exact ⟨rfl, HB1.out.trans (hb2.mono HB1.out.size)⟩
  · have hl' : decide ((cs.length : Int) ≤ 100) = false := decide_eq_false (by omega)
    rw [decide_eq_false hl, Bool.false_and, Bool.false_and]
    clear hl
    go_enter Tryz.func129, Tryz.ntmps129
    go_wp2
    go_ret
    exact ⟨rfl, HB.out⟩

theorem isMemory1_any (n : Nat) (B : Option Addr) (c : Nat) (s : Ce.St) (hc : s.cells.length ≤ 1000000) (hw : s.wait.length ≤ 1000000) (A1 A2 : Option Addr) (c1 c2 : Nat) (g : Nat) (w : World) (h1 : ValE.Arg w A1 s.cells) (h2 : RdE.Arg w A2 s.wait) (hg : w.cell? ⟨g, 0, none⟩ = some (.slice B n c)) :
    Calls Tryz.prog 128 #[.agg #[.slice A1 s.cells.length c1, .slice A2 s.wait.length c2], .pointer (some ⟨g, 0, none⟩)] w fun e w' => e = .returned (.bool (Ce.stOk n s)) ∧ Below w.heap.size w w' := by
  have HB : Hid (Below w.heap.size w (w.alloc (.cells #[.slice A1 s.cells.length c1, .slice A2 s.wait.length c2] 83))) := Lib.hid ((Below.refl _ _).alloc (Nat.le_refl _) _)
  have hg' := (Stay.cell hg) _ HB.out
  have hcall := isStruct_any n B c s hc hw A1 A2 c1 c2 _ (h1.below HB.out) (h2.below HB.out)
  generalize Ce.stOk n s = q at *
  have HC := Lib.hid hcall
  clear hcall h1 h2 hg
  go_enter Tryz.func128, Tryz.ntmps128
  go_wp2_with fail
  refine HC.out.mono ?_
  rintro e w1 ⟨rfl, hb1⟩
  go_wp2
  go_ret
  exact ⟨rfl, HB.out.trans (hb1.mono HB.out.size)⟩
end Go.Proofs.YtacggbpgillbaaaGreatDoor
