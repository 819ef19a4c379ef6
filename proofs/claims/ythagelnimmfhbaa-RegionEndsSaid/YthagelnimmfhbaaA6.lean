/- Layer 5, the program: slices.AppendSeq, slices.Collect over the iterator; Cells. -/
import Derived.Test.YthagelnimmfhbaaA5
import Derived.Maps.AppendAt
namespace Go.Proofs.Ythagelnimmfhbaa
open Go.RowKit Go.El
attribute [local go_sem] Oper.semAt_some

def cv (ys : List Cl) : List Value := ys.map fun x => .int .i64 x.1
theorem cv_snoc (ys : List Cl) (x : Cl) : cv (ys ++ [x]) = cv ys ++ [.int .i64 x.1] := by simp [cv]

set_option maxRecDepth 100000 in
set_option maxHeartbeats 2000000 in
theorem appendSeq_in (n : Nat) (hn : 3 ≤ n) (p : Rg.Pt) (hp : p.ok = true) (s : Int) (h0 : 0 ≤ s) (h1 : s ≤ 109) (Bs : Nat) (w : World) (hS : SzAt p s Bs w) :
    CallsIn Fence.wide n Try.prog 54 #[.slice none 0 0, .func (.func 55) #[] #[.pointer (some ⟨Bs, 0, none⟩)]] w fun e W' => ∃ v ys, e = .returned v ∧ W'.ownsRow w.heap.size 3 1 v (List.length ys) (cv ys) ∧ ys.map (·.1) = p.cells s ∧ Below w.heap.size w W' := by
  have h1' : 1 ≤ n := by omega
  have hlt := hS.lt
  obtain ⟨i0, hi, hz0, hz1, hz2⟩ := info_parts int_info
  refine callsIn_of_wp_marks Try.func54 rfl trivial ?_ rfl
  simp only [Try.ntmps54, List.size_toArray, List.length_cons, List.length_nil, Nat.reduceAdd, Nat.reduceSub, Array.replicate_succ, Array.replicate_zero, List.push_toArray, List.append_toArray, List.nil_append, List.cons_append]
  gi_wp2_with fail
  have bO := Boxed.new w 26 (.slice none 0 0)
  have hB0 : Below w.heap.size w (w.alloc (.cells #[.slice none 0 0] 26)) := (Below.refl _ w).alloc (Nat.le_refl _) _
  refine wpIn_rangeFunc_ownG rfl h1' (gf := 55) (lb := #[.pointer (some ⟨Bs, 0, none⟩)]) rfl trivial (enters_of Try.func55 (by kernel_rfl) rfl)
    (cells_stops (n - 1) Bs p hp s h0 h1 _ (hS.below hB0 hlt)) KpB.trans (KpB.b (by simp; omega)) (Below.refl _ _) (fun _ => rfl)
    (fun pre W => (∃ v, Boxed W w.heap.size 26 v ∧ W.ownsRow w.heap.size 3 1 v pre.length (cv pre) ∧ True) ∧ Below w.heap.size w W)
    (fun _ _ _ => False)
    (OwnFrom.and (Own.from (holdsRow_own w.heap.size w.heap.size 26 3 1 (fun pre => pre.length) (fun pre => cv pre) (fun _ _ => True)) _) (ownFrom_below (Nat.le_refl _) (by simp)))
    (fun _ _ _ _ _ hs _ _ => hs)
    ⟨⟨_, bO, World.ownsRow_nil _ _ _ _, trivial⟩, hB0⟩
    (fun x => { tmps := #[.slice none 0 0, .func (.func 55) #[] #[.pointer (some ⟨Bs, 0, none⟩)], .pointer (some ⟨w.heap.size, 0, none⟩), undef, .slice none 0 0, .int .i64 x.1, .func (.func 55) #[] #[.pointer (some ⟨Bs, 0, none⟩)], .int .i64 x.1, undef, undef, undef, undef, undef], defers := [] }) ?assign ?body ?done ?stop
  case assign =>
    intro l x W K hK
    gi_wp2
    exact hK
  case body =>
    rintro l pre x W ⟨⟨v, hv, hrow, -⟩, hB⟩ hlen
    have hc := hv.cell
    gi_wp2_with (gi_at_builtin; refine wpListIn_append_own _ rfl _ _ 26 rfl w.heap.size 3 i0 (.int .i64 0) 1 8 Try.underlying26 hi hz0 hz1 hz2 rfl (by decide) _ _ _ rfl (hrow.alloc _) ⟨W.heap.size, 0, none⟩ 1 1 [.int .i64 x.1] rfl rfl (cell_one_new _ _ _) (by simp [Value.oneCell']) (by simp only [maxLen]; omega) (by omega) (by have := hB.size; simp; omega) ?_; intro v' w1 hown' hgrow _; obtain ⟨g', cap', rfl⟩ := ownsRow_succ hown'; obtain ⟨hv1, hv2, hr2, hk2, hb2⟩ := hv.appended (by decide) hrow hB.size (Nat.le_refl _) hown' hgrow; have hc1 := hv1.cell; have hf1 := hv1.frozen)
    exact ⟨hk2.from _, KpB.below hb2 hlt, ⟨_, hv2, by rw [cv_snoc]; simpa using hr2, trivial⟩, hB.trans hb2⟩
  case done =>
    rintro D ys W hD hys ⟨⟨v, hv, hrow, -⟩, hB⟩ hK
    have hc := hv.cell
    gi_wp2
    refine ⟨by simp, .inl ⟨_, _, rfl, run_takeDeferred hK, ?_⟩⟩
    exact ⟨_, results_tmp rfl _ _ _, v, ys, rfl, ownsRow_putObj hrow _ hK rfl, hys, hB.trans (belowK_b (w := w) (Nat.le_refl _) W D _ _ (by simp at hD; omega) hK rfl rfl)⟩
  case stop =>
    rintro D c pre W _ _ h _
    exact h.elim

theorem collect_any (p : Rg.Pt) (hp : p.ok = true) (s : Int) (h0 : 0 ≤ s) (h1 : s ≤ 109) (Bs : Nat) (w : World) (hS : SzAt p s Bs w) :
    Calls Try.prog 35 #[.func (.func 55) #[] #[.pointer (some ⟨Bs, 0, none⟩)]] w fun e w' => (∃ B c, e = .returned (.slice B (p.cells s).length c) ∧ OwnI w' w.heap.size B c (p.cells s)) ∧ Below w.heap.size w w' := by
  have hc := (callsIn_wide (n := 3)).1 (appendSeq_in 3 (Nat.le_refl _) p hp s h0 h1 Bs w hS)
  have HC := Lib.hid hc
  have HE : Hid (∀ (v : Value) (ys : List Cl) (W : World), W.ownsRow w.heap.size 3 1 v ys.length (cv ys) → ys.map (·.1) = p.cells s → ∃ B c, v = .slice B (p.cells s).length c ∧ OwnI W w.heap.size B c (p.cells s)) := Lib.hid fun v ys W hr he => by
    have hl : (p.cells s).length = ys.length := by rw [← he, List.length_map]
    have hrow : IntE.row (p.cells s) = cv ys := by
      rw [← he]
      clear hr he hl
      induction ys with
      | nil => rfl
      | cons y r ih => rw [List.map_cons, El.row_cons, ih]; rfl
    obtain ⟨B, c, rfl⟩ : ∃ B c, v = .slice B ys.length c := by
      rcases hr.2 with ⟨hv, h0⟩ | ⟨g, cap', cur, hv, _⟩
      · exact ⟨none, 0, by rw [hv, h0]⟩
      · exact ⟨_, _, hv⟩
    refine ⟨B, c, by rw [hl], ?_⟩
    show W.ownsRow w.heap.size _ 1 (.slice B (p.cells s).length c) (p.cells s).length (IntE.row (p.cells s))
    rw [hl, hrow]
    exact hr
  clear hc hS
  go_enter Try.func35, Try.ntmps35
  go_wp2_with fail
  refine HC.out.mono ?_
  rintro e w1 ⟨v, ys, rfl, hr, he, hb⟩
  obtain ⟨B, c, rfl, ho⟩ := HE.out v ys w1 hr he
  clear hr he
  go_wp2
  go_ret
  exact ⟨⟨B, c, rfl, ho⟩, hb⟩

theorem valid_one (p : Rg.Pt) : Rg.valid [p] = p.ok := by simp [Rg.valid]

set_option maxHeartbeats 2000000 in
theorem cellsC : CellsC := by
  intro p s w
  have hA1 : Below w.heap.size w (w.alloc (.cells (ptC p).toArray 25)) := (Below.refl _ _).alloc (Nat.le_refl _) _
  have hA2 : Below w.heap.size w ((w.alloc (.cells (ptC p).toArray 25)).alloc (.cells (ptC p).toArray 25)) := hA1.alloc (by simp) _
  have harg : PtE.Arg ((w.alloc (.cells (ptC p).toArray 25)).alloc (.cells (ptC p).toArray 25)) (some ⟨w.heap.size + 1, 0, none⟩) [p] := row_arg (by simp) (by rw [El.row_one]; rfl)
  have hck := checkSized_any [p] (by simp [maxLen]) (some ⟨w.heap.size + 1, 0, none⟩) 1 s _ harg
  unfold Rg.cellsR
  unfold chk at hck
  rw [valid_one] at hck
  unfold ptC at hck hA1 hA2 ⊢
  clear harg
  cases hv : p.ok with
  | false =>
    rw [hv] at hck
    have HC : Hid _ := Lib.hid hck
    clear hck hv
    go_enter Try.func12, Try.ntmps12
    go_wp2_with fail
    refine HC.out.mono ?_
    rintro e w1 ⟨rfl, hb1⟩
    go_wp2
    go_ret2
    exact ⟨⟨none, 0, rfl, Own.nil IntE 3 w1 _⟩, hA2.trans (hb1.mono (by simp; omega))⟩
  | true =>
    rw [hv] at hck
    cases hs : Rg.inS s with
    | false =>
      rw [hs] at hck
      have HC : Hid _ := Lib.hid hck
      clear hck hv hs
      go_enter Try.func12, Try.ntmps12
      go_wp2_with fail
      refine HC.out.mono ?_
      rintro e w1 ⟨rfl, hb1⟩
      go_wp2
      go_ret2
      exact ⟨⟨none, 0, rfl, Own.nil IntE 3 w1 _⟩, hA2.trans (hb1.mono (by simp; omega))⟩
    | true =>
      rw [hs] at hck
      have HC : Hid _ := Lib.hid hck
      have hs' : 0 ≤ s ∧ s ≤ 100 := by simpa [Rg.inS] using hs
      obtain ⟨s0, s1⟩ := hs'
      have hcl := fun W => cells_any p s W
      unfold szC at hcl
      have hco := fun Bs W hS => collect_any p hv s s0 (by omega) Bs W hS
      have HCL := Lib.hid hcl
      have HCO := Lib.hid hco
      have k0 : (w.alloc (.cells #[.bool p.lo.size, .int .i64 p.lo.n, .bool p.hi.size, .int .i64 p.hi.n, .int .i64 p.step] 25)).heap[w.heap.size]? = some (.cells #[.bool p.lo.size, .int .i64 p.lo.n, .bool p.hi.size, .int .i64 p.hi.n, .int .i64 p.step] 25 (0, 0)) := heap_alloc_new _ _
      have K0 := Lib.hid k0
      clear hck hs hv hcl hco k0
      generalize p.cells s = R at *
      go_enter Try.func12, Try.ntmps12
      go_wp2_with fail
      refine HC.out.mono ?_
      rintro e w1 ⟨rfl, hb1⟩
      have hz1 : w.heap.size + 2 ≤ w1.heap.size := by have := hb1.size; simp at this; omega
      have hk1 : w1.heap[w.heap.size]? = some (.cells #[.bool p.lo.size, .int .i64 p.lo.n, .bool p.hi.size, .int .i64 p.hi.n, .int .i64 p.step] 25 (0, 0)) := ((hb1.block _ (by simp; omega)).trans (Below.heap_alloc _ _ _ (by simp))).trans K0.out
      have x0 := cell_of_row _ _ 0 _ _ _ hk1
      have x1 := cell_of_row _ _ 1 _ _ _ hk1
      have x2 := cell_of_row _ _ 2 _ _ _ hk1
      have x3 := cell_of_row _ _ 3 _ _ _ hk1
      have x4 := cell_of_row _ _ 4 _ _ _ hk1
      have hB1 := hA2.trans (hb1.mono (by simp; omega))
      clear hk1 hb1
      go_wp2_with fail
      refine (HCL.out _).mono ?_
      rintro e w2 ⟨rfl, rfl⟩
      have hS : SzAt p s w1.heap.size (w1.alloc (.cells #[.bool p.lo.size, .int .i64 p.lo.n, .bool p.hi.size, .int .i64 p.hi.n, .int .i64 p.step, .int .i64 s] 69)) := heap_alloc_new _ _
      have HS := Lib.hid hS
      clear hS
      go_wp2_with fail
      refine (HCO.out _ _ HS.out).mono ?_
      rintro e w3 ⟨⟨B, c, rfl, ho⟩, hb3⟩
      have hB3 := (hB1.alloc (by omega) _).trans (hb3.mono (by simp; omega))
      have ho3 := ho.base_ (base' := w.heap.size) (by simp; omega)
      clear hb3 ho
      go_wp2
      go_ret2
      exact ⟨⟨B, c, rfl, ho3⟩, hB3⟩

end Go.Proofs.Ythagelnimmfhbaa
