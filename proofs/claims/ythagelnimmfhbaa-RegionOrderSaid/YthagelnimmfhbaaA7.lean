/- Layer 5, the program: marks among the deferred calls; idle: whether a part has no cell with any size. -/
import Derived.Test.YthagelnimmfhbaaA5
namespace Go
open Go.RowKit
/-- the marks that ranges over a function have left -/
def marks (Ds : List Nat) : List Deferred := Ds.map fun D => { target := .collected D, args := #[] }
def MarksAt (Ds : List Nat) (W : World) : Prop := ∀ D ∈ Ds, W.heap[D]? = some (.deferred (some []))
theorem MarksAt.below {Ds : List Nat} {W W' : World} (h : MarksAt Ds W) (hb : Below W.heap.size W W') : MarksAt Ds W' := fun D hD => (hb.block D (Array.getElem?_eq_some_iff.1 (h D hD)).1).trans (h D hD)
theorem MarksAt.lt {Ds : List Nat} {W : World} (h : MarksAt Ds W) {D : Nat} (hD : D ∈ Ds) : D < W.heap.size := (Array.getElem?_eq_some_iff.1 (h D hD)).1
theorem MarksAt.keeps {Ds : List Nat} {W W' : World} (h : MarksAt Ds W) (hk : KeepsOthers W W') : MarksAt Ds W' := fun D hD => hk.same D _ (h D hD) rfl
theorem marksAt_own {β : Type} {Ds : List Nat} {w : World} (h : MarksAt Ds w) : OwnFrom w.heap.size (fun (_ : β) W => MarksAt Ds W) :=
  fun _ W _ row hs hg hr D hD => (hg.block D (Array.getElem?_eq_some_iff.1 (hs D hD)).1 (fun e => by
    have := (hr D e.symm).1
    have := h.lt hD
    omega)).trans (hs D hD)
/-- the function leaves: all of the marks are taken -/
theorem leaves_marks {F : Fence} {n : Nat} {P : Program} {fn : Func} {tmps : Array Value} {R : Ending → World → Prop} (Pr : World → Prop) : ∀ (Ds : List Nat) (W : World), Ds.Nodup → MarksAt Ds W → Pr W →
    (∀ W D, Pr W → W.heap[D]? = some (.deferred (some [])) → D ∈ Ds → Pr (W.putObj D (.deferred none))) → (∀ W', Pr W' → LeavesInM F n P fn tmps R [] .returning W') → LeavesInM F n P fn tmps R (marks Ds) .returning W
  | [], W, _, _, hp, _, hf => hf W hp
  | D :: Ds, W, hn, hm, hp, hs, hf => by
    have hD := hm D List.mem_cons_self
    have hn' := List.nodup_cons.1 hn
    refine ⟨by simp, .inl ⟨D, _, rfl, run_takeDeferred hD, ?_⟩⟩
    refine leaves_marks Pr Ds _ hn'.2 (fun D' hD' => ?_) (hs W D hp hD List.mem_cons_self) (fun W D' h1 h2 h3 => hs W D' h1 h2 (List.mem_cons_of_mem _ h3)) hf
    exact (World.putObj_heap_other (fun e => hn'.1 (by rw [← e]; exact hD'))).trans (hm D' (List.mem_cons_of_mem _ hD'))
end Go
namespace Go.Proofs.Ythagelnimmfhbaa
open Go.RowKit Go.El
attribute [local go_sem] Oper.semAt_some

def PtAt (p : Rg.Pt) (B : Nat) (W : World) : Prop := W.heap[B]? = some (.cells (ptC p).toArray 25 (0, 0))
theorem PtAt.lt {p : Rg.Pt} {B : Nat} {W : World} (h : PtAt p B W) : B < W.heap.size := (Array.getElem?_eq_some_iff.1 h).1
theorem PtAt.at5 {p : Rg.Pt} {B : Nat} {W : World} (h : PtAt p B W) :
    W.cell? ⟨B, 0, none⟩ = some (.bool p.lo.size) ∧ W.cell? ⟨B, 1, none⟩ = some (.int .i64 p.lo.n) ∧ W.cell? ⟨B, 2, none⟩ = some (.bool p.hi.size) ∧ W.cell? ⟨B, 3, none⟩ = some (.int .i64 p.hi.n) ∧ W.cell? ⟨B, 4, none⟩ = some (.int .i64 p.step) :=
  ⟨cell_of_row _ _ 0 _ _ _ h, cell_of_row _ _ 1 _ _ _ h, cell_of_row _ _ 2 _ _ _ h, cell_of_row _ _ 3 _ _ _ h, cell_of_row _ _ 4 _ _ _ h⟩
theorem ptAt_own {β : Type} (p : Rg.Pt) (B C : Nat) (hB : B < C) : OwnFrom C (fun (_ : β) W => PtAt p B W) :=
  fun _ _ _ _ hs hg hr => (hg.block B hs.lt (fun e => by have := (hr B e.symm).1; omega)).trans hs
theorem boxed_own2 {β : Type} (B : Nat) (t : TypeId) (v : Value) (C : Nat) (hB : B < C) : OwnFrom C (fun (_ : β) W => Boxed W B t v) :=
  fun _ _ _ _ hs hg hr => hs.kept hg (fun e => by have := (hr B e.symm).1; omega)

def idleB (p : Rg.Pt) : Bool := (List.range 101).all fun s => (p.cells s).isEmpty

set_option maxRecDepth 100000 in
set_option maxHeartbeats 2000000 in
theorem idle_in (n : Nat) (hn : 3 ≤ n) (p : Rg.Pt) (hp : p.ok = true) (w : World) :
    CallsIn Fence.wide n Try.prog 50 #[.agg (ptC p).toArray] w fun e W' => e = .returned (.bool (idleB p)) ∧ Below w.heap.size w W' := by
  have h1' : 1 ≤ n := by omega
  have hcl := fun (k : Nat) W => cells_any p k W
  have hst := fun (k : Nat) (hk : k ≤ 100) (w : World) (hS : SzAt p k w.heap.size (w.alloc (.cells (szC p k).toArray 69))) => cells_stops (n - 1) w.heap.size p hp k (by omega) (by omega) _ hS
  unfold szC at hcl hst
  have HCL := Lib.hid hcl
  have HST := Lib.hid hst
  have hI : Hid (∀ b : Bool, (∀ j, j < 101 → (p.cells (j : Nat)).isEmpty = true) → idleB p = true) := Lib.hid fun _ h => by
    unfold idleB; rw [List.all_eq_true]; intro x hx; exact h x (List.mem_range.1 hx)
  have hI2 : Hid (∀ k : Nat, k < 101 → (p.cells (k : Nat)).isEmpty = false → idleB p = false) := Lib.hid fun k hk h => by
    unfold idleB; rw [List.all_eq_false]; exact ⟨k, List.mem_range.2 hk, by rw [h]; decide⟩
  generalize idleB p = R at *
  have hb0 : PtAt p w.heap.size (w.alloc (.cells (ptC p).toArray 25)) := heap_alloc_new _ _
  unfold ptC at hb0 ⊢
  have bR := Boxed.new (w.alloc (.cells #[.bool p.lo.size, .int .i64 p.lo.n, .bool p.hi.size, .int .i64 p.hi.n, .int .i64 p.step] 25)) 4 (.bool false)
  rw [World.size_alloc] at bR
  have hb1 : PtAt p w.heap.size ((w.alloc (.cells #[.bool p.lo.size, .int .i64 p.lo.n, .bool p.hi.size, .int .i64 p.hi.n, .int .i64 p.step] 25)).alloc (.cells #[.bool false] 4)) := (Below.heap_alloc _ _ _ (by simp)).trans hb0
  have hB0 : Below w.heap.size w ((w.alloc (.cells #[.bool p.lo.size, .int .i64 p.lo.n, .bool p.hi.size, .int .i64 p.hi.n, .int .i64 p.step] 25)).alloc (.cells #[.bool false] 4)) := ((Below.refl _ w).alloc (Nat.le_refl _) _).alloc (by simp) _
  have HB0 := Lib.hid hB0
  have HR := Lib.hid bR
  have HP := Lib.hid hb1
  clear hcl hst hb0 bR hb1 hB0
  refine callsIn_of_wp_marks Try.func50 rfl trivial ?_ rfl
  simp only [Try.ntmps50, List.size_toArray, List.length_cons, List.length_nil, Nat.reduceAdd, Nat.reduceSub, Array.replicate_succ, Array.replicate_zero, List.push_toArray, List.append_toArray, List.nil_append, List.cons_append]
  gi_wp2_with fail
  refine wpIn_loop (fun a' w' => ∃ (u3 u5 u6 u7 u8 u9 u10 u11 u12 : Value) (k : Nat) (Ds : List Nat), (k ≤ 101 ∧ Hid (∀ j, j < k → (p.cells (j : Nat)).isEmpty = true) ∧ PtAt p w.heap.size w' ∧ Boxed w' (w.heap.size + 1) 4 (.bool false) ∧ MarksAt Ds w' ∧ Ds.Nodup ∧ Hid (∀ D ∈ Ds, w.heap.size + 2 ≤ D) ∧ Below w.heap.size w w' ∧ w.heap.size + 2 ≤ w'.heap.size) ∧
    a' = { tmps := #[.agg #[.bool p.lo.size, .int .i64 p.lo.n, .bool p.hi.size, .int .i64 p.hi.n, .int .i64 p.step], .pointer (some ⟨w.heap.size, 0, none⟩), .pointer (some ⟨w.heap.size + 1, 0, none⟩), u3, .int .i64 k, u5, u6, u7, u8, u9, u10, u11, u12], defers := marks Ds }) (fun a' _ => 101 - (intOf (a'.tmps.getD 4 undef)).toNat) ?_ ?_
  · exact ⟨_, _, _, _, _, _, _, _, _, 0, [], ⟨by omega, Lib.hid (fun j hj => absurd hj (Nat.not_lt_zero _)), HP.out, HR.out, fun D hD => (by cases hD), List.nodup_nil, Lib.hid (fun D hD => (by cases hD)), HB0.out, by simp⟩, rfl⟩
  · intro _ wr hinv
    obtain ⟨u3, u5, u6, u7, u8, u9, u10, u11, u12, k, Ds, ⟨hk, HE, hP, hR, hM, hnd, HD, hB, hz⟩, rfl⟩ := hinv
    obtain ⟨x0, x1, x2, x3, x4⟩ := hP.at5
    by_cases hlt : k < 101
    · have hlt' : (k : Int) < 101 := by omega
      gi_wp2_with fail
      refine ⟨trivial, (callsIn_wide.2 (HCL.out k _)).mono ?_⟩
      rintro e w1 ⟨rfl, rfl⟩
      have hA1 : Below wr.heap.size wr (wr.alloc (.cells #[.bool p.lo.size, .int .i64 p.lo.n, .bool p.hi.size, .int .i64 p.hi.n, .int .i64 p.step, .int .i64 k] 69)) := (Below.refl _ _).alloc (Nat.le_refl _) _
      have hS1 : SzAt p k wr.heap.size (wr.alloc (.cells #[.bool p.lo.size, .int .i64 p.lo.n, .bool p.hi.size, .int .i64 p.hi.n, .int .i64 p.step, .int .i64 k] 69)) := heap_alloc_new _ _
      have hlt1 := hS1.lt
      have HSEQ := Lib.hid (HST.out k (by omega) wr hS1)
      have hP1 : PtAt p w.heap.size (wr.alloc (.cells #[.bool p.lo.size, .int .i64 p.lo.n, .bool p.hi.size, .int .i64 p.hi.n, .int .i64 p.step, .int .i64 k] 69)) := (hA1.block _ (by omega)).trans hP
      have hR1 := hR.alloc (.cells #[.bool p.lo.size, .int .i64 p.lo.n, .bool p.hi.size, .int .i64 p.hi.n, .int .i64 p.step, .int .i64 k] 69)
      have hM1 := hM.below hA1
      have hB1 := hB.trans (hA1.mono (by omega))
      have hz1 : w.heap.size + 2 ≤ (wr.alloc (.cells #[.bool p.lo.size, .int .i64 p.lo.n, .bool p.hi.size, .int .i64 p.hi.n, .int .i64 p.step, .int .i64 k] 69)).heap.size := by simp; omega
      generalize wr.alloc (.cells #[.bool p.lo.size, .int .i64 p.lo.n, .bool p.hi.size, .int .i64 p.hi.n, .int .i64 p.step, .int .i64 k] 69) = W1 at *
      clear x0 x1 x2 x3 x4 hP hR hM hA1 hS1
      gi_wp2_with fail
      refine wpIn_rangeFunc_ownG rfl h1' (gf := 55) (lb := #[.pointer (some ⟨wr.heap.size, 0, none⟩)]) rfl trivial (enters_of Try.func55 (by kernel_rfl) rfl)
        HSEQ.out KpB.trans (KpB.b hlt1) (Below.refl _ _) (fun _ => rfl)
        (fun pre W => pre = [] ∧ PtAt p w.heap.size W ∧ Boxed W (w.heap.size + 1) 4 (.bool false) ∧ MarksAt Ds W ∧ Below w.heap.size w W)
        (fun c pre W => (c = .ret ∧ pre ≠ []) ∧ Boxed W (w.heap.size + 1) 4 (.bool false) ∧ MarksAt Ds W ∧ Below w.heap.size w W)
        (OwnFrom.and (ownFrom_pure _ _) (OwnFrom.and (ptAt_own p _ _ (by omega)) (OwnFrom.and (boxed_own2 _ _ _ _ (by omega)) (OwnFrom.and (marksAt_own hM1) (ownFrom_below (Nat.le_refl _) (by omega))))))
        (fun c => OwnFrom.and (ownFrom_pure _ _) (OwnFrom.and (boxed_own2 _ _ _ _ (by omega)) (OwnFrom.and (marksAt_own hM1) (ownFrom_below (Nat.le_refl _) (by omega)))))
        ⟨rfl, hP1, hR1, hM1, hB1⟩
        (fun x => { tmps := #[.agg #[.bool p.lo.size, .int .i64 p.lo.n, .bool p.hi.size, .int .i64 p.hi.n, .int .i64 p.step], .pointer (some ⟨w.heap.size, 0, none⟩), .pointer (some ⟨w.heap.size + 1, 0, none⟩), .int .i64 k, .int .i64 k, .bool true, .int .i64 k, .agg #[.bool p.lo.size, .int .i64 p.lo.n, .bool p.hi.size, .int .i64 p.hi.n, .int .i64 p.step], .int .i64 k, .agg #[.bool p.lo.size, .int .i64 p.lo.n, .bool p.hi.size, .int .i64 p.hi.n, .int .i64 p.step, .int .i64 k], .func (.func 55) #[] #[.pointer (some ⟨wr.heap.size, 0, none⟩)], .int .i64 x.1, u12], defers := [] }) ?assign ?body ?done ?stop
      case assign =>
        intro l x W K hK
        gi_wp2
        simpa using hK
      case body =>
        rintro l pre x W ⟨rfl, hp2, hr2, hm2, hb2⟩ hlen
        have hc := hr2.cell
        have hf := hr2.frozen
        gi_wp2
        exact ⟨(KeepsOthers.setCell _ _ _).from _, ⟨rfl, by simp⟩, hr2.set _, hm2.keeps (KeepsOthers.setCell _ _ _), hb2.setCell (p := ⟨w.heap.size + 1, 0, none⟩) (by simp) _⟩
      case done =>
        rintro D ys W hD hys ⟨rfl, hp2, hr2, hm2, hb2⟩ hK
        have hDn : D ∉ Ds := fun h => by have := hM1.lt h; omega
        have HEN : Hid (∀ j, j < k + 1 → (p.cells (j : Nat)).isEmpty = true) := Lib.hid fun j hj => by
          by_cases e : j = k
          · subst e; rw [← hys]; rfl
          · exact HE.out j (by omega)
        have HDN : Hid (∀ D' ∈ D :: Ds, w.heap.size + 2 ≤ D') := Lib.hid fun D' h => by
          rcases List.mem_cons.1 h with e | e
          · omega
          · exact HD.out D' e
        have hmN : MarksAt (D :: Ds) W := fun D' h => by
          rcases List.mem_cons.1 h with e | e
          · rw [e]; exact hK
          · exact hm2 D' e
        have hDl := hmN.lt List.mem_cons_self
        gi_wp2
        refine ⟨?_, ?_⟩
        · exact ⟨_, _, _, _, _, _, _, _, _, k + 1, D :: Ds, ⟨by omega, HEN, hp2, hr2, hmN, List.nodup_cons.2 ⟨hDn, hnd⟩, HDN, hb2, by omega⟩, rfl⟩
        · simp [intOf]; omega
      case stop =>
        rintro D c pre W hD hpre ⟨⟨rfl, hne⟩, hr2, hm2, hb2⟩ hK
        have hDn : D ∉ Ds := fun h => by have := hM1.lt h; omega
        have hRf : R = false := hI2.out k hlt (by
          cases hc : p.cells (k : Nat) with
          | nil => rw [hc] at hpre; exact absurd (List.map_eq_nil_iff.1 (List.prefix_nil.1 hpre)) hne
          | cons _ _ => rfl)
        subst hRf
        have hmN : MarksAt (D :: Ds) W := fun D' h => by
          rcases List.mem_cons.1 h with e | e
          · rw [e]; exact hK
          · exact hm2 D' e
        gi_wp2
        refine leaves_marks (fun W => Boxed W (w.heap.size + 1) 4 (.bool false) ∧ Below w.heap.size w W) (D :: Ds) W (List.nodup_cons.2 ⟨hDn, hnd⟩) hmN ⟨hr2, hb2⟩ (fun W D' h1 h2 h3 => ?_) (fun W' h => ?_)
        · have hl : w.heap.size + 2 ≤ D' := by
            rcases List.mem_cons.1 h3 with e | e
            · omega
            · exact HD.out D' e
          exact ⟨h1.1.kept (grownBy_putObj' W D' _) (fun e => by cases e; omega), h1.2.trans (belowK_b (w := w) (Nat.le_refl _) W D' _ _ (by omega) h2 rfl rfl)⟩
        · have hc := h.1.cell
          exact ⟨.bool false, by simp [results, Try.results50, go_sem, hc], rfl, h.2⟩
    · have hlt' : ¬ (k : Int) < 101 := by omega
      have hRt : R = true := hI.out true (fun j hj => HE.out j (by omega))
      subst hRt
      have hc := hR.cell
      have hf := hR.frozen
      gi_wp2
      refine leaves_marks (fun W => Boxed W (w.heap.size + 1) 4 (.bool true) ∧ Below w.heap.size w W) Ds _ hnd (hM.keeps (KeepsOthers.setCell _ _ _)) ⟨hR.set _, hB.setCell (p := ⟨w.heap.size + 1, 0, none⟩) (by simp) _⟩ (fun W D' h1 h2 h3 => ?_) (fun W' h => ?_)
      · have hl : w.heap.size + 2 ≤ D' := HD.out D' h3
        exact ⟨h1.1.kept (grownBy_putObj' W D' _) (fun e => by cases e; omega), h1.2.trans (belowK_b (w := w) (Nat.le_refl _) W D' _ _ (by omega) h2 rfl rfl)⟩
      · have hc := h.1.cell
        exact ⟨.bool true, by simp [results, Try.results50, go_sem, hc], rfl, h.2⟩

end Go.Proofs.Ythagelnimmfhbaa
