/- Layer 5, the program: the iterator over the cells of a part with a size: for every loop body that keeps the part's own block. -/
import Derived.Test.YthagelnimmfhbaaA2
import Derived.Test.YthagelnimmfhbaaRk
import Derived.RangeFuncNested
import Derived.RangeFuncBound
import Derived.RangeFuncCalls
import Derived.RangeFuncLeaves
import Derived.RangeFuncBox
import Derived.OwnWalkIn
import Derived.TacticsInMore
import Derived.LoopNIn
import Derived.LoopIn
namespace Go.Proofs.Ythagelnimmfhbaa
open Go.RowKit Go.El
attribute [local go_sem] Oper.semAt_some

/-- a cell, and that it is a small number -/
abbrev Cl := { x : Int // -1000 ≤ x ∧ x ≤ 1000 }
/-- the block of a part with a size lies as it was made -/
def SzAt (p : Rg.Pt) (s : Int) (B : Nat) (W : World) : Prop := W.heap[B]? = some (.cells (szC p s).toArray 69 (0, 0))
def KpB (B : Nat) (W W' : World) : Prop := W.heap.size ≤ W'.heap.size ∧ (B < W.heap.size → W'.heap[B]? = W.heap[B]?)
theorem KpB.refl (B : Nat) (W : World) : KpB B W W := ⟨Nat.le_refl _, fun _ => rfl⟩
theorem KpB.trans {B : Nat} {X Y Z : World} (h : KpB B X Y) (k : KpB B Y Z) : KpB B X Z := ⟨Nat.le_trans h.1 k.1, fun hb => (k.2 (Nat.lt_of_lt_of_le hb h.1)).trans (h.2 hb)⟩
theorem KpB.b {w : World} {B : Nat} (hB : B < w.heap.size) (W : World) (l : Nat) (o o' : Obj) (hl : w.heap.size ≤ l) (_ : W.heap[l]? = some o) (_ : o.isCells = false) (_ : o.isWalk = false) : KpB B W (W.putObj l o') :=
  ⟨by simp, fun _ => World.putObj_heap_other (by omega)⟩
theorem KpB.below {B C : Nat} {X Y : World} (h : Below C X Y) (hB : B < C) : KpB B X Y := ⟨h.size, fun _ => h.block B hB⟩
theorem SzAt.lt {p : Rg.Pt} {s : Int} {B : Nat} {W : World} (h : SzAt p s B W) : B < W.heap.size := (Array.getElem?_eq_some_iff.1 h).1
theorem SzAt.kp {p : Rg.Pt} {s : Int} {B : Nat} {W W' : World} (h : SzAt p s B W) (k : KpB B W W') : SzAt p s B W' := (k.2 h.lt).trans h
theorem SzAt.below {p : Rg.Pt} {s : Int} {B C : Nat} {W W' : World} (h : SzAt p s B W) (k : Below C W W') (hB : B < C) : SzAt p s B W' := (k.block B hB).trans h
theorem SzAt.at6 {p : Rg.Pt} {s : Int} {B : Nat} {W : World} (h : SzAt p s B W) :
    W.cell? ⟨B, 0, none⟩ = some (.bool p.lo.size) ∧ W.cell? ⟨B, 1, none⟩ = some (.int .i64 p.lo.n) ∧ W.cell? ⟨B, 2, none⟩ = some (.bool p.hi.size) ∧ W.cell? ⟨B, 3, none⟩ = some (.int .i64 p.hi.n) ∧ W.cell? ⟨B, 4, none⟩ = some (.int .i64 p.step) ∧ W.cell? ⟨B, 5, none⟩ = some (.int .i64 s) :=
  ⟨cell_of_row _ _ 0 _ _ _ h, cell_of_row _ _ 1 _ _ _ h, cell_of_row _ _ 2 _ _ _ h, cell_of_row _ _ 3 _ _ _ h, cell_of_row _ _ 4 _ _ _ h, cell_of_row _ _ 5 _ _ _ h⟩

theorem wide_d {n : Nat} : Fence.wide.depth.isSome = true → 1 ≤ n := fun h => by cases h

set_option maxRecDepth 100000 in
set_option maxHeartbeats 2000000 in
/-- THE ITERATOR -/
theorem cells1_in (n l Bs : Nat) (p : Rg.Pt) (hp : p.ok = true) (s : Int) (h0 : 0 ≤ s) (h1 : s ≤ 109) (J Jx : List Cl → World → Prop)
    (hY : ∀ pre x W, J pre W → pre.length < 210 → YieldAt Fence.wide (n - 1) Try.prog l #[.int .i64 x.1] W fun e W' =>
      (e = .returned (.bool true) ∧ J (pre ++ [x]) W' ∧ KpB Bs W W') ∨ (e = .returned (.bool false) ∧ Jx (pre ++ [x]) W'))
    (W : World) (hJ : AbidesFrom W.heap.size J) (hS : SzAt p s Bs W) (hj0 : J [] W) :
    CallsIn Fence.wide n Try.prog 55 #[.func (.yield l) #[] #[], .pointer (some ⟨Bs, 0, none⟩)] W fun e W' => (∃ v, e = .returned v) ∧
      ((∃ ys, ys.map (·.1) = p.cells s ∧ J ys W') ∨ (∃ pre, pre.map (·.1) <+: p.cells s ∧ Jx pre W')) := by
  have hln := Rg.cells_len hp h0 h1
  have ho := (p.ok_iff).1 hp
  have hlo : p.lo.ok = true := by simp [Rg.Bd.ok]; omega
  have hhi : p.hi.ok = true := by simp [Rg.Bd.ok]; omega
  have hv1 := fun W => svalue_any p p.lo s hlo (by omega) (by omega) W
  have hv2 := fun W => svalue_any p p.hi s hhi (by omega) (by omega) W
  have r1 := Rg.Bd.val_range hlo h0 h1
  have r2 := Rg.Bd.val_range hhi h0 h1
  have hs1 : 1 ≤ p.step := ho.2.2.1
  have hs2 : p.step ≤ 9 := ho.2.2.2
  have hct := fun i : Nat => Rg.cnt_lt (a := p.lo.val s) (b := p.hi.val s) hs1 i
  have hrl := Rg.run_len (p.lo.val s) (p.hi.val s) p.step
  have hlt0 := hS.lt
  have hcs := fun W (h : SzAt p s Bs W) => h.at6
  unfold Rg.Pt.cells at hln ⊢
  unfold szC at hv1 hv2
  generalize p.lo.val s = a at *
  generalize p.hi.val s = b at *
  generalize p.step = st at *
  have HV1 := Lib.hid hv1
  have HV2 := Lib.hid hv2
  have HCT := Lib.hid hct
  have HTS := Lib.hid (run_take_succ a b st)
  have HRL := Lib.hid hrl
  have HY := Lib.hid hY
  have HJ := Lib.hid hJ
  have HCS := Lib.hid hcs
  generalize Rg.run a b st = R at *
  generalize Rg.cnt a b st = C at *
  rw [hrl] at hln
  obtain ⟨x0, x1, x2, x3, x4, x5⟩ := HCS.out W hS
  clear hv1 hv2 hlo hhi ho hp hct hrl hY hJ hcs
  refine callsIn_of_wp Try.func55 rfl trivial ?_ rfl
  simp only [Try.ntmps55, List.size_toArray, List.length_cons, List.length_nil, Nat.reduceAdd, Nat.reduceSub, Array.replicate_succ, Array.replicate_zero, List.push_toArray, List.append_toArray, List.nil_append, List.cons_append]
  gi_wp2_with fail
  refine ⟨trivial, wide_d, (callsIn_wide.2 (HV1.out _)).mono ?_⟩
  rintro e w1 ⟨rfl, hb1⟩
  have hS1 := hS.below hb1 hlt0
  have hJ1 : J [] w1 := HJ.out _ _ _ none hj0 (grown_of_below hb1 none) (fun r e => by cases e)
  have hz1 := hb1.size
  clear x0 x1 x2 x3 x4 x5 hb1
  gi_wp2_with fail
  gi_loopw [3] (fun t wr => ∃ (pre : List Cl) (x : Int), -100 ≤ x ∧ x ≤ 118 ∧ t = .int .i64 x ∧ Hid (pre.map (·.1) = R.take pre.length ∧ x = a + pre.length * st ∧ pre.length ≤ C) ∧ SzAt p s Bs wr ∧ Bs < wr.heap.size ∧ W.heap.size ≤ wr.heap.size ∧ J pre wr) (fun t _ => (119 - intOf t).toNat)
  case atStart => exact ⟨[], a, by omega, by omega, rfl, Lib.hid ⟨by simp, by simp, Nat.zero_le _⟩, hS1, hS1.lt, hz1, hJ1⟩
  case round =>
    obtain ⟨pre, x, hx0, hx1, rfl, HX, hSr, hltr, hzr, hJr⟩ := hrel
    obtain ⟨x0, x1, x2, x3, x4, x5⟩ := HCS.out wr hSr
    by_cases hle : x ≤ b
    · have hiC : pre.length < C := (HCT.out _).2 (by obtain ⟨e1, e2, e3⟩ := HX.out; omega)
      gi_wp2_with fail
      refine ⟨trivial, wide_d, (callsIn_wide.2 (HV2.out _)).mono ?_⟩
      rintro e w2 ⟨rfl, hb2⟩
      have hS2 := hSr.below hb2 hltr
      have hz2 := hb2.size
      have hJ2 : J pre w2 := HJ.out _ _ _ none hJr (grown_of_below hb2 none) (fun r e => by cases e)
      obtain ⟨fn, tmps, assign, body, hy, hR⟩ := HY.out pre ⟨x, by omega, by omega⟩ w2 hJ2 (by omega)
      dsimp only at hy
      clear x0 x1 x2 x3 x4 x5 hb2
      gi_wp2
      refine ⟨wide_d, hR.mono ?_⟩
      rintro e W3 (⟨rfl, hJ3, hk3⟩ | ⟨rfl, hJx3⟩)
      · have hS3 := hS2.kp hk3
        obtain ⟨x0, x1, x2, x3, x4, x5⟩ := HCS.out W3 hS3
        have hlt3 := hS3.lt
        have hz3 := hk3.1
        have HXN : Hid ((pre ++ [⟨x, by omega, by omega⟩] : List Cl).map (·.1) = R.take (pre ++ [⟨x, by omega, by omega⟩] : List Cl).length ∧ x + st = a + ((pre ++ [⟨x, by omega, by omega⟩] : List Cl).length : Int) * st ∧ (pre ++ [⟨x, by omega, by omega⟩] : List Cl).length ≤ C) := by
          obtain ⟨e1, e2, e3⟩ := HX.out
          refine Lib.hid ⟨?_, ?_, ?_⟩
          · rw [List.length_append, List.length_singleton, HTS.out _ hiC, List.map_append, e1, ← e2]; rfl
          · rw [List.length_append, List.length_singleton, e2, Int.natCast_add, Int.add_mul]; omega
          · simp; omega
        gi_wp2
        go_roundw
        case rel => exact ⟨pre ++ [⟨x, by omega, by omega⟩], x + st, by omega, by omega, rfl, HXN, hS3, hlt3, by omega, hJ3⟩
        case measure => simp [intOf]; omega
      · have HXN : (pre ++ [⟨x, by omega, by omega⟩] : List Cl).map (·.1) <+: R := by
          obtain ⟨e1, e2, e3⟩ := HX.out
          rw [show (pre ++ [⟨x, by omega, by omega⟩] : List Cl).map (·.1) = R.take (pre.length + 1) by rw [HTS.out _ hiC, List.map_append, e1, ← e2]; rfl]
          exact List.take_prefix _ _
        have HX2 := Lib.hid HXN
        clear HXN
        gi_wp2
        refine bodyPost_ret (results_none rfl _ _ _) rfl ?_
        exact ⟨⟨_, rfl⟩, .inr ⟨_, HX2.out, hJx3⟩⟩
    · have HE : Hid (pre.map (·.1) = R) := Lib.hid (by
        obtain ⟨e1, e2, e3⟩ := HX.out
        rw [e1, List.take_of_length_le]
        rw [HRL.out]
        rcases Nat.lt_or_ge pre.length C with h | h
        · have := (HCT.out _).1 h; omega
        · exact h)
      gi_wp2_with fail
      refine ⟨trivial, wide_d, (callsIn_wide.2 (HV2.out _)).mono ?_⟩
      rintro e w2 ⟨rfl, hb2⟩
      have hJ2 : J pre w2 := HJ.out _ _ _ none hJr (grown_of_below hb2 none) (fun r e => by cases e)
      clear hb2
      gi_wp2
      go_end0
      exact ⟨⟨_, rfl⟩, .inl ⟨pre, HE.out, hJ2⟩⟩

/-- the contract of the iterator's value -/
theorem cells_stops (n Bs : Nat) (p : Rg.Pt) (hp : p.ok = true) (s : Int) (h0 : 0 ≤ s) (h1 : s ≤ 109) (w : World) (hS : SzAt p s Bs w) :
    SeqStopsK Fence.wide n Try.prog 55 #[.pointer (some ⟨Bs, 0, none⟩)] (fun x : Cl => #[.int .i64 x.1]) (KpB Bs) (fun ys => ys.map (·.1) = p.cells s) (fun pre => pre.map (·.1) <+: p.cells s) 210 w :=
  fun l J Jx W hW hJ _ hY hj0 => cells1_in n l Bs p hp s h0 h1 J Jx hY W hJ (hS.below hW hS.lt) hj0

/-- its maker: the part with its size is laid in a block -/
theorem cells_any (p : Rg.Pt) (s : Int) (w : World) : Calls Try.prog 36 #[.agg (szC p s).toArray] w fun e w' => e = .returned (.func (.func 55) #[] #[.pointer (some ⟨w.heap.size, 0, none⟩)]) ∧ w.alloc (.cells (szC p s).toArray 69) = w' := by
  unfold szC
  go_enter Try.func36, Try.ntmps36
  go_wp2
  go_ret
  exact ⟨rfl, rfl⟩

end Go.Proofs.Ythagelnimmfhbaa
