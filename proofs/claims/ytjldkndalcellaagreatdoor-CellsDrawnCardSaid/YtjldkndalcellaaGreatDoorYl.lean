/- Layer 6, the program: memoryOf. Layer 6, the program: IsPicture, Draw. -/
import Derived.Test.YtjldkndalcellaaGreatDoorYk
namespace Go.Proofs.YtjldkndalcellaaGreatDoor
open Go.RowKit Go.El

theorem slat_nil (W : World) : SlAt RdE W ⟨none, 0, 0⟩ [] := ⟨rfl, Arg.nil _ _, fun _ => rfl, Nat.le_refl _⟩
/-- the cells of a picture's lists, as the handles of a memory -/
def handles (hs : List Sl) : List (Sl × Sl) := hs.map fun h => (h, ⟨none, 0, 0⟩)
theorem handles_len (hs : List Sl) : (handles hs).length = hs.length := List.length_map _
def MemOfIs (ls : List (List Ce.V)) (n : Nat) (w' : World) (e : Ending) : Prop := ∃ B c, e = .returned (.agg #[.slice B n c]) ∧ MemAt w' B (ls.map fun l => ⟨l, []⟩)
set_option maxRecDepth 100000 in
set_option maxHeartbeats 4000000 in
theorem memoryOf_any (ls : List (List Ce.V)) (hl : ls.length ≤ 10000) (C : Option Addr) (cc : Nat) (w : World) (h : LsAt w C ls) :
    Calls Tryz.prog 51 #[.slice C ls.length cc] w fun e w' => MemOfIs ls ls.length w' e ∧ Below w.heap.size w w' := by
  have hbx : Below w.heap.size w ((w.alloc (.cells #[.slice none 0 0] 24)).alloc (.cells #[.slice none 0 0] 24)) := ((Below.refl _ _).alloc (Nat.le_refl _) _).alloc (by simp) _
  obtain ⟨hs, e1, e2, e3⟩ := h
  have HX0 := Lib.hid ((Blk.new w 24 #[.slice none 0 0]).alloc (.cells #[.slice none 0 0] 24))
  have HY0 := Lib.hid (Blk.new (w.alloc (.cells #[.slice none 0 0] 24)) 24 #[.slice none 0 0])
  simp only [World.size_alloc] at HY0
  have HB0 := Lib.hid hbx
  have HLEN := Lib.hid e1
  have HARG := Lib.hid e2.stay
  have HEND : Hid (∀ W B c, Below w.heap.size w W → StE.Own 61 W (w.heap.size + 2) B c (handles hs) → MemAt W B (ls.map fun l => ⟨l, []⟩)) := Lib.hid fun W B c hb ho => by
    refine ⟨handles hs, by rw [handles_len, List.length_map, e1], Own.arg ho, fun i x s h1 h2 => ?_⟩
    unfold handles at h1
    rw [List.getElem?_map] at h1 h2
    obtain ⟨y, hy, rfl⟩ := Option.map_eq_some_iff.1 h1
    obtain ⟨l, hl, rfl⟩ := Option.map_eq_some_iff.1 h2
    exact ⟨(e3 i y l hy hl).below hb, slat_nil W⟩
  have HPART : Hid (∀ k (x : Sl), hs[k]? = some x → handles (hs.take (k + 1)) = handles (hs.take k) ++ [(x, ⟨none, 0, 0⟩)]) := Lib.hid fun k x hx => by
    unfold handles
    rw [List.take_add_one, hx, List.map_append]
    rfl
  have HALL : Hid (∀ k, hs.length ≤ k → handles (hs.take k) = handles hs) := Lib.hid fun k hk => by rw [List.take_of_length_le hk]
  have HTL : Hid (∀ k, k ≤ hs.length → (handles (hs.take k)).length = k) := Lib.hid fun k hk => by rw [handles_len, List.length_take]; omega
  generalize hn : ls.length = n at *
  have hnz : (n : Int) ≤ 10000 := by omega
  clear e1 e2 e3 hbx hn
  go_enter Tryz.func51, Tryz.ntmps51
  go_wp2_with fail
  go_loopw [8] (fun i wr => ∃ (k : Nat) (B : Option Addr) (c : Nat), k ≤ n ∧ i = .int .i64 k ∧ Hid (Blk wr w.heap.size 24 #[.slice none 0 0]) ∧ Hid (Blk wr (w.heap.size + 1) 24 #[.slice B k c]) ∧ Hid (StE.Own 61 wr (w.heap.size + 2) B c (handles (hs.take k))) ∧ w.heap.size + 2 ≤ wr.heap.size ∧ Hid (Below w.heap.size w wr)) (fun i _ => n - (intOf i).toNat)
  case atStart => exact ⟨0, none, 0, Nat.zero_le _, rfl, HX0, HY0, Lib.hid (Own.nil StE 61 _ _), by simp, HB0⟩
  case round =>
    clear HX0 HY0 HB0
    obtain ⟨k, B, c, hk, rfl, HX, HY, HO, hsz, HB⟩ := hrel
    by_cases hlt : k < n
    · have hlt' : (k : Int) < n := by omega
      obtain ⟨x, hx⟩ : ∃ x, hs[k]? = some x := ⟨_, List.getElem?_eq_getElem (by rw [HLEN.out]; exact hlt)⟩
      obtain ⟨bc, oc, rfl, hin, hbc⟩ := (HARG.out wr HB.out).at_lt (k := k) (by rw [HLEN.out]; exact hlt)
      have y0 := hin k x hx 0 _ rfl
      have e : k * SlE.k = k := Nat.mul_one k
      rw [e, Nat.add_zero] at y0
      have HP := Lib.hid (HPART.out k x hx)
      have HTK := Lib.hid (HTL.out k (by rw [HLEN.out]; omega))
      obtain ⟨xA, xn, xc⟩ := x
      unfold Sl.val at y0
      dsimp only at y0
      have g1 : wr.cell? ⟨w.heap.size + 1, 0, none⟩ = some (.slice B k c) := HY.out.cell 0
      have hba : Below wr.heap.size wr (wr.alloc (.cells #[.slice xA xn xc, .slice none 0 0] 61)) := (Below.refl _ _).alloc (Nat.le_refl _) _
      have HOA : Hid (StE.Own 61 (wr.alloc (.cells #[.slice xA xn xc, .slice none 0 0] 61)) (w.heap.size + 2) B c (handles (hs.take k))) := Lib.hid (HO.out.below hba)
      have HXA := Lib.hid (HX.out.below hba)
      have HYA := Lib.hid (HY.out.below hba)
      have HBA := Lib.hid (HB.out.alloc (by omega) (.cells #[.slice xA xn xc, .slice none 0 0] 61))
      clear hin hx HX HY HO HB e hba
      go_wp2_with (at_builtin; refine wpList_append_one StE _ rfl _ _ 22 61 rfl Tryz.underlying22 st_info rfl (w.heap.size + 2) B c (handles (hs.take k)) (⟨xA, xn, xc⟩, ⟨none, 0, 0⟩) wr.heap.size (by rw [HTK.out]; rfl) rfl HOA.out (fun j u hj => by
        match j, hj with
        | 0, hj => simp [StE, Sl.val] at hj; subst hj; exact cell_of_row _ _ 0 _ _ _ (heap_alloc_new wr _)
        | 1, hj => simp [StE, Sl.val] at hj; subst hj; exact cell_of_row _ _ 1 _ _ _ (heap_alloc_new wr _)) (by rw [HTK.out]; omega) (by rw [HTK.out]; omega) (by simp; omega) ?_)
      intro A' c' w2 hown2 hgrow2
      rw [HTK.out]
      have hne : some (w.heap.size + 1) ≠ (Value.slice B (handles (hs.take k)).length c).ownBlock := fun e => by have := (HOA.out.lt _ e.symm).1; omega
      have hne0 : some w.heap.size ≠ (Value.slice B (handles (hs.take k)).length c).ownBlock := fun e => by have := (HOA.out.lt _ e.symm).1; omega
      have hy2 := HYA.out.kept hgrow2 hne
      have hx2 := HXA.out.kept hgrow2 hne0
      have v1 := hy2.cell 0
      have vf := hy2.frozen 0
      dsimp at v1
      have hset := grownBy_setCell1 w2 (w.heap.size + 1) 0 (.slice A' (k + 1) c')
      have HY3 := Lib.hid (hy2.set_ 0 (.slice A' (k + 1) c'))
      have HX3 := Lib.hid (hx2.kept hset (by simp))
      have HO3 : Hid (StE.Own 61 (w2.setCell ⟨w.heap.size + 1, 0, none⟩ (.slice A' (k + 1) c')) (w.heap.size + 2) A' c' (handles (hs.take (k + 1)))) := Lib.hid (by
        rw [HP.out]
        exact Own.low hown2 hset (fun j hj => by cases hj; omega))
      have HB3 := Lib.hid ((HBA.out.grown hgrow2 (by simp; omega) (fun j hj => by have := (HOA.out.lt _ hj).1; omega)).setCell (p := ⟨w.heap.size + 1, 0, none⟩) (by simp) (.slice A' (k + 1) c'))
      have hz2 := hgrow2.size
      simp only [World.size_alloc] at hz2
      clear hown2 hgrow2 hne hne0 hy2 hx2 hset HOA HXA HYA HBA y0 g1
      go_wp2
      go_roundw
      case rel => exact ⟨k + 1, A', c', by omega, by go_num, HX3, HY3, HO3, by simp; omega, HB3⟩
      case measure => simp [intOf]; omega
    · have hlt' : ¬ (k : Int) < n := by omega
      obtain rfl : k = n := by omega
      have HE := Lib.hid (HEND.out wr B c HB.out (by have := HO.out; rwa [HALL.out k (by rw [HLEN.out]; exact Nat.le_refl _)] at this))
      have g0 : wr.cell? ⟨w.heap.size + 1, 0, none⟩ = some (.slice B k c) := HY.out.cell 0
      have z0 : wr.cell? ⟨w.heap.size, 0, none⟩ = some (.slice none 0 0) := HX.out.cell 0
      have zf := HX.out.frozen 0
      have hset := grownBy_setCell1 wr w.heap.size 0 (.slice B k c)
      have HE2 : Hid (MemAt (wr.setCell ⟨w.heap.size, 0, none⟩ (.slice B k c)) B (ls.map fun l => ⟨l, []⟩)) := Lib.hid (HEND.out _ B c (HB.out.setCell (by simp) _) (Own.low (by have := HO.out; rwa [HALL.out k (by rw [HLEN.out]; exact Nat.le_refl _)] at this) hset (fun j hj => by cases hj; omega)))
      clear hset
      go_wp2
      refine bodyPost_ret (results_cell_row rfl _ _ w.heap.size 24 #[.slice B k c] (0, 0) _ rfl (HX.out.set_ 0 _) Tryz.underlying24 rfl mem_size) rfl ?_
      exact ⟨⟨B, c, rfl, HE2.out⟩, HB.out.setCell (by simp) _⟩
end Go.Proofs.YtjldkndalcellaaGreatDoor

namespace Ce
theorem stAt_len {m : Mem} (h : Ok m) (n : Int) : (stAt m n).cells.length ≤ 100 := by
  by_cases hn : n.toNat < m.length
  · have := h.each _ (List.mem_of_getElem? (stAt_get hn))
    unfold stOk at this
    rw [Bool.and_eq_true, Bool.and_eq_true, decide_eq_true_iff] at this
    exact this.1.1
  · unfold stAt
    rw [List.getD_eq_getElem?_getD, List.getElem?_eq_none (by omega)]
    simp
theorem drawK_bounds {m : Mem} (h : Ok m) : ∀ (f k : Nat) (met : List Int), (drawK m f k met).length ≤ f ∧ ∀ s ∈ drawK m f k met, s.length ≤ 100
  | 0, _, _ => ⟨Nat.le_refl _, fun s hs => by cases hs⟩
  | f + 1, k, met => by
    cases hn : met[k]? with
    | none => rw [drawK, hn]; exact ⟨Nat.zero_le _, fun s hs => by cases hs⟩
    | some n =>
      rw [drawK_step hn]
      have ih := drawK_bounds h f (k + 1) (renum (stAt m n).cells met).2
      refine ⟨by simp; exact ih.1, fun s hs => ?_⟩
      cases hs with
      | head => rw [renum_len]; exact stAt_len h n
      | tail _ hs => exact ih.2 s hs
theorem drawn_bounds {m : Mem} (h : Ok m) (l : List V) : (drawn m l).cells.length ≤ m.length ∧ ∀ s ∈ (drawn m l).cells, s.length ≤ 100 := drawK_bounds h m.length 0 _
theorem memory_len (p : Pic) : (memory p).length = p.cells.length := List.length_map _
end Ce
namespace Go.Proofs.YtjldkndalcellaaGreatDoor
open Go.RowKit Go.El

theorem sz_memory {p : Ce.Pic} (hp : Szp p) : Sz (Ce.memory p) := by
  refine ⟨by rw [Ce.memory_len]; exact hp.many, fun i s hs => ?_⟩
  unfold Ce.memory at hs
  rw [List.getElem?_map] at hs
  obtain ⟨l, hl, rfl⟩ := Option.map_eq_some_iff.1 hs
  exact ⟨hp.each i l hl, by simp⟩

set_option maxRecDepth 100000 in
set_option maxHeartbeats 8000000 in
theorem isPicture_any (p : Ce.Pic) (hp : Szp p) (V C : Option Addr) (cv cc : Nat) (w : World) (h : PicAt w V cv C p) :
    Calls Tryz.prog 23 #[.agg #[.slice V p.vals.length cv, .slice C p.cells.length cc]] w fun e w' => e = .returned (.bool (Ce.isPic p)) ∧ Below w.heap.size w w' := by
  have hbx : Below w.heap.size w (w.alloc (.cells #[.slice V p.vals.length cv, .slice C p.cells.length cc] 37)) := (Below.refl _ _).alloc (Nat.le_refl _) _
  have HB := Lib.hid hbx
  have HBX := Lib.hid (Blk.new w 37 #[.slice V p.vals.length cv, .slice C p.cells.length cc])
  have HPIC := Lib.hid (h.below hbx)
  have HMO := Lib.hid (memoryOf_any p.cells hp.many C cc _ (h.c.below hbx))
  have HSZ := Lib.hid hp
  have hml := Ce.memory_len p
  have HIM : Hid (∀ B c W, MemAt W B (Ce.memory p) → Calls Tryz.prog 45 #[.agg #[.slice B p.cells.length c]] W fun e w' => e = .returned (.bool (Ce.memOk (Ce.memory p))) ∧ Below W.heap.size W w') := Lib.hid fun B c W hm => by
    have := isMemory_any (Ce.memory p) (sz_memory hp) B c W hm
    rwa [hml] at this
  have hpv := hp.vals
  have HDA := Lib.hid (fun B c W ha => drawable_any p.cells.length B c p.vals (by omega) V cv W ha)
  have HDR : Hid (∀ B c W, Ce.memOk (Ce.memory p) = true → (decide (p.vals.length ≤ 100) && Ce.areValues p.vals p.cells.length) = true → MemAt W B (Ce.memory p) → ValE.Arg W V p.vals → Calls Tryz.prog 49 #[.agg #[.slice B p.cells.length c], .slice V p.vals.length cv] W fun e w' => DrawnIs (Ce.drawn (Ce.memory p) p.vals) p.vals.length W w' e ∧ Below W.heap.size W w') := Lib.hid fun B c W h1 h2 hm ha => by
    rw [Bool.and_eq_true, decide_eq_true_iff] at h2
    have := drawn_any (Ce.memory p) h1 p.vals h2.1 (by rw [hml]; exact h2.2) B V c cv W hm ha
    rwa [hml] at this
  have HSM : Hid (∀ V1 cv1 C1 cc1 hs W W0, Ce.memOk (Ce.memory p) = true → ValE.Own 57 W W0 V1 cv1 (Ce.drawn (Ce.memory p) p.vals).vals → LO W W0 C1 cc1 hs (Ce.drawn (Ce.memory p) p.vals).cells → PicAt W V cv C p → Calls Tryz.prog 52 #[.agg #[.slice V1 p.vals.length cv1, .slice C1 (Ce.drawn (Ce.memory p) p.vals).cells.length cc1], .agg #[.slice V p.vals.length cv, .slice C p.cells.length cc]] W fun e w' => e = .returned (.bool (decide (Ce.drawn (Ce.memory p) p.vals = p))) ∧ Below W.heap.size W w') := Lib.hid fun V1 cv1 C1 cc1 hs W W0 hq ho hl hp2 => by
    have hlen := Ce.drawn_len (Ce.memory p) p.vals
    have hbd := Ce.drawn_bounds ((Ce.ok_iff _).1 hq) p.vals
    have h2 := csame_any (Ce.drawn (Ce.memory p) p.vals) p (by omega) (by have := hp.many; have := hbd.1; omega) (fun i s hs => by have := hbd.2 s (List.mem_of_getElem? hs); omega) V1 C1 V C cv1 cc1 cv cc W ⟨SlAt.of_own ho, hl.at_⟩ hp2
    rwa [hlen] at h2
  unfold Ce.isPic
  generalize Ce.memOk (Ce.memory p) = q1 at *
  generalize (decide (p.vals.length ≤ 100) && Ce.areValues p.vals p.cells.length) = q2 at *
  generalize decide (Ce.drawn (Ce.memory p) p.vals = p) = q3 at *
  clear h hp hbx hml
  cases q1 with
  | false =>
    rw [Bool.false_and, Bool.false_and]
    have HIMA := HIM
    clear HDA HDR HSM
    go_enter Tryz.func23, Tryz.ntmps23
    go_wp2_with fail
    refine HMO.out.mono ?_
    rintro e w1 ⟨⟨B, c, rfl, hmem⟩, hb1⟩
    have hmem : MemAt w1 B (Ce.memory p) := hmem
    have hba : Below w1.heap.size w1 (w1.alloc (.cells #[.slice B p.cells.length c] 24)) := (Below.refl _ _).alloc (Nat.le_refl _) _
    have HMEM := Lib.hid (hmem.below hba)
    have HB1 := Lib.hid ((HB.out.trans (hb1.mono HB.out.size)).trans (hba.mono (HB.out.trans (hb1.mono HB.out.size)).size))
    have HPIC1 := Lib.hid ((HPIC.out.below hb1).below hba)
    have HBX1 := Lib.hid ((HBX.out.below hb1).below hba)
    have SB := Lib.hid ((HBX1.out.stay).and (box1 (W := w1) (v := .slice B p.cells.length c) (t := 24)))
    obtain ⟨hbx, x0⟩ := SB.out.at_
    have p0 := hbx.cell 0
    have p1 := hbx.cell 1
    dsimp at p0 p1
    clear hmem hb1 hba HMO HB HPIC HBX hbx
    go_wp2_with fail
    generalize hW1 : w1.alloc (.cells #[.slice B p.cells.length c] 24) = WA at *
    clear hW1
    refine wp_region_held_drew (S := fun W => W.cell? ⟨w1.heap.size, 0, none⟩ = some (.slice B p.cells.length c) ∧ W.cell? ⟨w.heap.size, 0, none⟩ = some (.slice V p.vals.length cv) ∧ W.cell? ⟨w.heap.size, 1, none⟩ = some (.slice C p.cells.length cc)) (by kernel_rfl) ⟨x0, p0, p1⟩ (fun hHeld => ?_)
    refine wpAnyH_take (i := 0) (oi := { dst := some 7, op := Op.load 24 (Operand.tmp 3), type := 24, pos := "cells.go:76", after := #[], guard := none }) (v := .agg #[.slice B p.cells.length c]) rfl (by kernel_rfl) (by kernel_rfl) (by kernel_rfl) (fun _ _ _ h => h) (Or.inl ⟨by rfl, fun w hSw => by (try dsimp only at hSw); go_simp⟩) (by assumption) ?_
    try simp only [Act.put, List.setIfInBounds_toArray, List.set_cons_zero, List.set_cons_succ]
    refine wpAnyH_ready (rs := [1]) (by kernel_rfl) (by simp) ?_
    refine AllReadyH.cons (o := { dst := some 8, op := Op.call { callee := Callee.value (Operand.func 45), args := #[Operand.tmp 7], argTypes := #[24] }, type := 4, pos := "cells.go:76", after := #[{ on := 0, ground := Ground.data }], guard := none }) rfl (fun K hK => ?_) AllReadyH.nil
    go_simp
    refine (HIM.out B c _ (HMEM.out.below (Below.refl _ _).drew)).mono ?_
    rintro e w2 ⟨rfl, hb2⟩
    have hb2 : Below WA.heap.size WA w2 := (Below.refl _ _).drew.trans hb2
    have sB := SB.out _ hb2
    go_wp2_with fail
    refine hK.out _ _ (⟨sB.2, sB.1.cell 0, sB.1.cell 1⟩) (fun hHeld => ?_)
    clear hK K
    try simp only [Act.put, List.setIfInBounds_toArray, List.set_cons_zero, List.set_cons_succ]
    refine wpAnyH_take (i := 2) (oi := { dst := some 9, op := Op.move (Operand.tmp 8), type := 4, pos := "cells.go:76", after := #[{ on := 1, ground := Ground.data }, { on := 1, ground := Ground.chain }], guard := none }) (v := .bool false) rfl (by kernel_rfl) (by kernel_rfl) (by kernel_rfl) (fun _ _ _ h => h) (Or.inl ⟨by rfl, fun w hSw => by (try dsimp only at hSw); go_simp⟩) (by assumption) ?_
    try simp only [Act.put, List.setIfInBounds_toArray, List.set_cons_zero, List.set_cons_succ]
    refine wpAnyH_take (i := 3) (oi := { dst := some 10, op := Op.load 24 (Operand.tmp 3), type := 24, pos := "cells.go:76", after := #[{ on := 2, ground := Ground.guard }], guard := some (2, true) }) (v := undef) rfl (by kernel_rfl) (by kernel_rfl) (by kernel_rfl) (fun _ _ _ h => h) (Or.inr ⟨by rfl, rfl⟩) (by assumption) ?_
    try simp only [Act.put, List.setIfInBounds_toArray, List.set_cons_zero, List.set_cons_succ]
    refine wpAnyH_take (i := 4) (oi := { dst := some 11, op := Op.fieldAddr 37 (Operand.tmp 1) 0, type := 0, pos := "cells.go:76", after := #[{ on := 2, ground := Ground.guard }], guard := some (2, true) }) (v := undef) rfl (by kernel_rfl) (by kernel_rfl) (by kernel_rfl) (fun _ _ _ h => h) (Or.inr ⟨by rfl, rfl⟩) (by assumption) ?_
    try simp only [Act.put, List.setIfInBounds_toArray, List.set_cons_zero, List.set_cons_succ]
    refine wpAnyH_take (i := 5) (oi := { dst := some 12, op := Op.load 34 (Operand.tmp 11), type := 34, pos := "cells.go:76", after := #[{ on := 4, ground := Ground.data }, { on := 2, ground := Ground.guard }], guard := some (2, true) }) (v := undef) rfl (by kernel_rfl) (by kernel_rfl) (by kernel_rfl) (fun _ _ _ h => h) (Or.inr ⟨by rfl, rfl⟩) (by assumption) ?_
    try simp only [Act.put, List.setIfInBounds_toArray, List.set_cons_zero, List.set_cons_succ]
    refine wpAnyH_take (i := 6) (oi := { dst := some 13, op := Op.call { callee := Callee.value (Operand.func 48), args := #[Operand.tmp 10, Operand.tmp 12], argTypes := #[24, 34] }, type := 4, pos := "cells.go:76", after := #[{ on := 3, ground := Ground.data }, { on := 5, ground := Ground.data }, { on := 2, ground := Ground.chain }, { on := 2, ground := Ground.guard }], guard := some (2, true) }) (v := undef) rfl (by kernel_rfl) (by kernel_rfl) (by kernel_rfl) (fun _ _ _ h => h) (Or.inr ⟨by rfl, rfl⟩) (by assumption) ?_
    try simp only [Act.put, List.setIfInBounds_toArray, List.set_cons_zero, List.set_cons_succ]
    refine wpAnyH_take (i := 7) (oi := { dst := some 14, op := Op.pick (Operand.tmp 9) (Operand.tmp 13) (Operand.const (Value.bool false)), type := 4, pos := "cells.go:76", after := #[{ on := 2, ground := Ground.data }, { on := 6, ground := Ground.data }], guard := none }) (v := .bool false) rfl (by kernel_rfl) (by kernel_rfl) (by kernel_rfl) (fun _ _ _ h => h) (Or.inl ⟨by rfl, fun w hSw => by (try dsimp only at hSw); go_simp⟩) (by assumption) ?_
    try simp only [Act.put, List.setIfInBounds_toArray, List.set_cons_zero, List.set_cons_succ]
    refine wpAnyH_take (i := 8) (oi := { dst := some 15, op := Op.move (Operand.tmp 14), type := 4, pos := "cells.go:76", after := #[{ on := 7, ground := Ground.data }, { on := 6, ground := Ground.chain }], guard := none }) (v := .bool false) rfl (by kernel_rfl) (by kernel_rfl) (by kernel_rfl) (fun _ _ _ h => h) (Or.inl ⟨by rfl, fun w hSw => by (try dsimp only at hSw); go_simp⟩) (by assumption) ?_
    try simp only [Act.put, List.setIfInBounds_toArray, List.set_cons_zero, List.set_cons_succ]
    refine wpAnyH_take (i := 9) (oi := { dst := some 16, op := Op.load 24 (Operand.tmp 3), type := 24, pos := "cells.go:76", after := #[{ on := 8, ground := Ground.guard }], guard := some (8, true) }) (v := undef) rfl (by kernel_rfl) (by kernel_rfl) (by kernel_rfl) (fun _ _ _ h => h) (Or.inr ⟨by rfl, rfl⟩) (by assumption) ?_
    try simp only [Act.put, List.setIfInBounds_toArray, List.set_cons_zero, List.set_cons_succ]
    refine wpAnyH_take (i := 10) (oi := { dst := some 17, op := Op.fieldAddr 37 (Operand.tmp 1) 0, type := 0, pos := "cells.go:76", after := #[{ on := 8, ground := Ground.guard }], guard := some (8, true) }) (v := undef) rfl (by kernel_rfl) (by kernel_rfl) (by kernel_rfl) (fun _ _ _ h => h) (Or.inr ⟨by rfl, rfl⟩) (by assumption) ?_
    try simp only [Act.put, List.setIfInBounds_toArray, List.set_cons_zero, List.set_cons_succ]
    refine wpAnyH_take (i := 11) (oi := { dst := some 18, op := Op.load 34 (Operand.tmp 17), type := 34, pos := "cells.go:76", after := #[{ on := 10, ground := Ground.data }, { on := 8, ground := Ground.guard }], guard := some (8, true) }) (v := undef) rfl (by kernel_rfl) (by kernel_rfl) (by kernel_rfl) (fun _ _ _ h => h) (Or.inr ⟨by rfl, rfl⟩) (by assumption) ?_
    try simp only [Act.put, List.setIfInBounds_toArray, List.set_cons_zero, List.set_cons_succ]
    refine wpAnyH_take (i := 12) (oi := { dst := some 19, op := Op.call { callee := Callee.value (Operand.func 49), args := #[Operand.tmp 16, Operand.tmp 18], argTypes := #[24, 34] }, type := 37, pos := "cells.go:76", after := #[{ on := 9, ground := Ground.data }, { on := 11, ground := Ground.data }, { on := 8, ground := Ground.chain }, { on := 8, ground := Ground.guard }], guard := some (8, true) }) (v := undef) rfl (by kernel_rfl) (by kernel_rfl) (by kernel_rfl) (fun _ _ _ h => h) (Or.inr ⟨by rfl, rfl⟩) (by assumption) ?_
    try simp only [Act.put, List.setIfInBounds_toArray, List.set_cons_zero, List.set_cons_succ]
    refine wpAnyH_take (i := 13) (oi := { dst := some 20, op := Op.load 37 (Operand.tmp 1), type := 37, pos := "cells.go:76", after := #[{ on := 8, ground := Ground.guard }], guard := some (8, true) }) (v := undef) rfl (by kernel_rfl) (by kernel_rfl) (by kernel_rfl) (fun _ _ _ h => h) (Or.inr ⟨by rfl, rfl⟩) (by assumption) ?_
    try simp only [Act.put, List.setIfInBounds_toArray, List.set_cons_zero, List.set_cons_succ]
    refine wpAnyH_take (i := 14) (oi := { dst := some 21, op := Op.call { callee := Callee.value (Operand.func 52), args := #[Operand.tmp 19, Operand.tmp 20], argTypes := #[37, 37] }, type := 4, pos := "cells.go:76", after := #[{ on := 12, ground := Ground.data }, { on := 13, ground := Ground.data }, { on := 12, ground := Ground.chain }, { on := 8, ground := Ground.guard }], guard := some (8, true) }) (v := undef) rfl (by kernel_rfl) (by kernel_rfl) (by kernel_rfl) (fun _ _ _ h => h) (Or.inr ⟨by rfl, rfl⟩) (by assumption) ?_
    try simp only [Act.put, List.setIfInBounds_toArray, List.set_cons_zero, List.set_cons_succ]
    refine wpAnyH_take (i := 15) (oi := { dst := some 22, op := Op.pick (Operand.tmp 15) (Operand.tmp 21) (Operand.const (Value.bool false)), type := 4, pos := "cells.go:76", after := #[{ on := 8, ground := Ground.data }, { on := 14, ground := Ground.data }], guard := none }) (v := .bool false) rfl (by kernel_rfl) (by kernel_rfl) (by kernel_rfl) (fun _ _ _ h => h) (Or.inl ⟨by rfl, fun w hSw => by (try dsimp only at hSw); go_simp⟩) (by assumption) ?_
    try simp only [Act.put, List.setIfInBounds_toArray, List.set_cons_zero, List.set_cons_succ]
    refine wpAnyH_take (i := 16) (oi := { dst := some 2, op := Op.assign (Operand.tmp 22), type := 4, pos := "cells.go:76", after := #[{ on := 15, ground := Ground.data }, { on := 14, ground := Ground.chain }, { on := 0, ground := Ground.phase }, { on := 1, ground := Ground.phase }, { on := 2, ground := Ground.phase }, { on := 3, ground := Ground.phase }, { on := 4, ground := Ground.phase }, { on := 5, ground := Ground.phase }, { on := 6, ground := Ground.phase }, { on := 7, ground := Ground.phase }, { on := 8, ground := Ground.phase }, { on := 9, ground := Ground.phase }, { on := 10, ground := Ground.phase }, { on := 11, ground := Ground.phase }, { on := 12, ground := Ground.phase }, { on := 13, ground := Ground.phase }, { on := 14, ground := Ground.phase }, { on := 15, ground := Ground.phase }], guard := none }) (v := .bool false) rfl (by kernel_rfl) (by kernel_rfl) (by kernel_rfl) (fun _ _ _ h => h) (Or.inl ⟨by rfl, fun w hSw => by (try dsimp only at hSw); go_simp⟩) (by assumption) ?_
    try simp only [Act.put, List.setIfInBounds_toArray, List.set_cons_zero, List.set_cons_succ]
    refine wpAnyH_done (by kernel_rfl) ?_ _
    go_wp2_with fail
    go_ret
    exact ⟨rfl, HB1.out.trans (hb2.mono HB1.out.size)⟩
  | true =>
    rw [Bool.true_and]
    cases q2 with
    | false =>
      rw [Bool.false_and]
      clear HDR HSM
      go_enter Tryz.func23, Tryz.ntmps23
      go_wp2_with fail
      refine HMO.out.mono ?_
      rintro e w1 ⟨⟨B, c, rfl, hmem⟩, hb1⟩
      have hmem : MemAt w1 B (Ce.memory p) := hmem
      have hba : Below w1.heap.size w1 (w1.alloc (.cells #[.slice B p.cells.length c] 24)) := (Below.refl _ _).alloc (Nat.le_refl _) _
      have HMEM := Lib.hid (hmem.below hba)
      have HB1 := Lib.hid ((HB.out.trans (hb1.mono HB.out.size)).trans (hba.mono (HB.out.trans (hb1.mono HB.out.size)).size))
      have HPIC1 := Lib.hid ((HPIC.out.below hb1).below hba)
      have HBX1 := Lib.hid ((HBX.out.below hb1).below hba)
      have SB := Lib.hid ((HBX1.out.stay).and (box1 (W := w1) (v := .slice B p.cells.length c) (t := 24)))
      obtain ⟨hbx, x0⟩ := SB.out.at_
      have p0 := hbx.cell 0
      have p1 := hbx.cell 1
      dsimp at p0 p1
      clear hmem hb1 hba HMO HB HPIC HBX hbx
      go_wp2_with fail
      generalize hW1 : w1.alloc (.cells #[.slice B p.cells.length c] 24) = WA at *
      clear hW1
      refine wp_region_held_drew (S := fun W => W.cell? ⟨w1.heap.size, 0, none⟩ = some (.slice B p.cells.length c) ∧ W.cell? ⟨w.heap.size, 0, none⟩ = some (.slice V p.vals.length cv) ∧ W.cell? ⟨w.heap.size, 1, none⟩ = some (.slice C p.cells.length cc)) (by kernel_rfl) ⟨x0, p0, p1⟩ (fun hHeld => ?_)
      refine wpAnyH_take (i := 0) (oi := { dst := some 7, op := Op.load 24 (Operand.tmp 3), type := 24, pos := "cells.go:76", after := #[], guard := none }) (v := .agg #[.slice B p.cells.length c]) rfl (by kernel_rfl) (by kernel_rfl) (by kernel_rfl) (fun _ _ _ h => h) (Or.inl ⟨by rfl, fun w hSw => by (try dsimp only at hSw); go_simp⟩) (by assumption) ?_
      try simp only [Act.put, List.setIfInBounds_toArray, List.set_cons_zero, List.set_cons_succ]
      refine wpAnyH_ready (rs := [1]) (by kernel_rfl) (by simp) ?_
      refine AllReadyH.cons (o := { dst := some 8, op := Op.call { callee := Callee.value (Operand.func 45), args := #[Operand.tmp 7], argTypes := #[24] }, type := 4, pos := "cells.go:76", after := #[{ on := 0, ground := Ground.data }], guard := none }) rfl (fun K hK => ?_) AllReadyH.nil
      go_simp
      refine (HIM.out B c _ (HMEM.out.below (Below.refl _ _).drew)).mono ?_
      rintro e w2 ⟨rfl, hb2⟩
      have hb2 : Below WA.heap.size WA w2 := (Below.refl _ _).drew.trans hb2
      have sB := SB.out _ hb2
      have hbA := hb2
      go_wp2_with fail
      refine hK.out _ _ (⟨sB.2, sB.1.cell 0, sB.1.cell 1⟩) (fun hHeld => ?_)
      clear hK K
      try simp only [Act.put, List.setIfInBounds_toArray, List.set_cons_zero, List.set_cons_succ]
      refine wpAnyH_take (i := 2) (oi := { dst := some 9, op := Op.move (Operand.tmp 8), type := 4, pos := "cells.go:76", after := #[{ on := 1, ground := Ground.data }, { on := 1, ground := Ground.chain }], guard := none }) (v := .bool true) rfl (by kernel_rfl) (by kernel_rfl) (by kernel_rfl) (fun _ _ _ h => h) (Or.inl ⟨by rfl, fun w hSw => by (try dsimp only at hSw); go_simp⟩) (by assumption) ?_
      try simp only [Act.put, List.setIfInBounds_toArray, List.set_cons_zero, List.set_cons_succ]
      refine wpAnyH_take (i := 3) (oi := { dst := some 10, op := Op.load 24 (Operand.tmp 3), type := 24, pos := "cells.go:76", after := #[{ on := 2, ground := Ground.guard }], guard := some (2, true) }) (v := .agg #[.slice B p.cells.length c]) rfl (by kernel_rfl) (by kernel_rfl) (by kernel_rfl) (fun _ _ _ h => h) (Or.inl ⟨by rfl, fun w hSw => by (try dsimp only at hSw); go_simp⟩) (by assumption) ?_
      try simp only [Act.put, List.setIfInBounds_toArray, List.set_cons_zero, List.set_cons_succ]
      refine wpAnyH_take (i := 4) (oi := { dst := some 11, op := Op.fieldAddr 37 (Operand.tmp 1) 0, type := 0, pos := "cells.go:76", after := #[{ on := 2, ground := Ground.guard }], guard := some (2, true) }) (v := .pointer (some ⟨w.heap.size, 0, none⟩)) rfl (by kernel_rfl) (by kernel_rfl) (by kernel_rfl) (fun _ _ _ h => h) (Or.inl ⟨by rfl, fun w hSw => by (try dsimp only at hSw); go_simp⟩) (by assumption) ?_
      try simp only [Act.put, List.setIfInBounds_toArray, List.set_cons_zero, List.set_cons_succ]
      refine wpAnyH_take (i := 5) (oi := { dst := some 12, op := Op.load 34 (Operand.tmp 11), type := 34, pos := "cells.go:76", after := #[{ on := 4, ground := Ground.data }, { on := 2, ground := Ground.guard }], guard := some (2, true) }) (v := .slice V p.vals.length cv) rfl (by kernel_rfl) (by kernel_rfl) (by kernel_rfl) (fun _ _ _ h => h) (Or.inl ⟨by rfl, fun w hSw => by (try dsimp only at hSw); go_simp⟩) (by assumption) ?_
      try simp only [Act.put, List.setIfInBounds_toArray, List.set_cons_zero, List.set_cons_succ]
      refine wpAnyH_ready (rs := [6]) (by kernel_rfl) (by simp) ?_
      refine AllReadyH.cons (o := { dst := some 13, op := Op.call { callee := Callee.value (Operand.func 48), args := #[Operand.tmp 10, Operand.tmp 12], argTypes := #[24, 34] }, type := 4, pos := "cells.go:76", after := #[{ on := 3, ground := Ground.data }, { on := 5, ground := Ground.data }, { on := 2, ground := Ground.chain }, { on := 2, ground := Ground.guard }], guard := some (2, true) }) rfl (fun K hK => ?_) AllReadyH.nil
      go_simp
      refine (HDA.out B c _ (HPIC1.out.v.arg.below hbA)).mono ?_
      rintro e w3 ⟨rfl, hb2⟩
      have hb2 : Below WA.heap.size WA w3 := hbA.trans (hb2.mono hbA.size)
      have sB := SB.out _ hb2
      go_wp2_with fail
      refine hK.out _ _ (⟨sB.2, sB.1.cell 0, sB.1.cell 1⟩) (fun hHeld => ?_)
      clear hK K
      try simp only [Act.put, List.setIfInBounds_toArray, List.set_cons_zero, List.set_cons_succ]
      refine wpAnyH_take (i := 7) (oi := { dst := some 14, op := Op.pick (Operand.tmp 9) (Operand.tmp 13) (Operand.const (Value.bool false)), type := 4, pos := "cells.go:76", after := #[{ on := 2, ground := Ground.data }, { on := 6, ground := Ground.data }], guard := none }) (v := .bool false) rfl (by kernel_rfl) (by kernel_rfl) (by kernel_rfl) (fun _ _ _ h => h) (Or.inl ⟨by rfl, fun w hSw => by (try dsimp only at hSw); go_simp⟩) (by assumption) ?_
      try simp only [Act.put, List.setIfInBounds_toArray, List.set_cons_zero, List.set_cons_succ]
      refine wpAnyH_take (i := 8) (oi := { dst := some 15, op := Op.move (Operand.tmp 14), type := 4, pos := "cells.go:76", after := #[{ on := 7, ground := Ground.data }, { on := 6, ground := Ground.chain }], guard := none }) (v := .bool false) rfl (by kernel_rfl) (by kernel_rfl) (by kernel_rfl) (fun _ _ _ h => h) (Or.inl ⟨by rfl, fun w hSw => by (try dsimp only at hSw); go_simp⟩) (by assumption) ?_
      try simp only [Act.put, List.setIfInBounds_toArray, List.set_cons_zero, List.set_cons_succ]
      refine wpAnyH_take (i := 9) (oi := { dst := some 16, op := Op.load 24 (Operand.tmp 3), type := 24, pos := "cells.go:76", after := #[{ on := 8, ground := Ground.guard }], guard := some (8, true) }) (v := undef) rfl (by kernel_rfl) (by kernel_rfl) (by kernel_rfl) (fun _ _ _ h => h) (Or.inr ⟨by rfl, rfl⟩) (by assumption) ?_
      try simp only [Act.put, List.setIfInBounds_toArray, List.set_cons_zero, List.set_cons_succ]
      refine wpAnyH_take (i := 10) (oi := { dst := some 17, op := Op.fieldAddr 37 (Operand.tmp 1) 0, type := 0, pos := "cells.go:76", after := #[{ on := 8, ground := Ground.guard }], guard := some (8, true) }) (v := undef) rfl (by kernel_rfl) (by kernel_rfl) (by kernel_rfl) (fun _ _ _ h => h) (Or.inr ⟨by rfl, rfl⟩) (by assumption) ?_
      try simp only [Act.put, List.setIfInBounds_toArray, List.set_cons_zero, List.set_cons_succ]
      refine wpAnyH_take (i := 11) (oi := { dst := some 18, op := Op.load 34 (Operand.tmp 17), type := 34, pos := "cells.go:76", after := #[{ on := 10, ground := Ground.data }, { on := 8, ground := Ground.guard }], guard := some (8, true) }) (v := undef) rfl (by kernel_rfl) (by kernel_rfl) (by kernel_rfl) (fun _ _ _ h => h) (Or.inr ⟨by rfl, rfl⟩) (by assumption) ?_
      try simp only [Act.put, List.setIfInBounds_toArray, List.set_cons_zero, List.set_cons_succ]
      refine wpAnyH_take (i := 12) (oi := { dst := some 19, op := Op.call { callee := Callee.value (Operand.func 49), args := #[Operand.tmp 16, Operand.tmp 18], argTypes := #[24, 34] }, type := 37, pos := "cells.go:76", after := #[{ on := 9, ground := Ground.data }, { on := 11, ground := Ground.data }, { on := 8, ground := Ground.chain }, { on := 8, ground := Ground.guard }], guard := some (8, true) }) (v := undef) rfl (by kernel_rfl) (by kernel_rfl) (by kernel_rfl) (fun _ _ _ h => h) (Or.inr ⟨by rfl, rfl⟩) (by assumption) ?_
      try simp only [Act.put, List.setIfInBounds_toArray, List.set_cons_zero, List.set_cons_succ]
      refine wpAnyH_take (i := 13) (oi := { dst := some 20, op := Op.load 37 (Operand.tmp 1), type := 37, pos := "cells.go:76", after := #[{ on := 8, ground := Ground.guard }], guard := some (8, true) }) (v := undef) rfl (by kernel_rfl) (by kernel_rfl) (by kernel_rfl) (fun _ _ _ h => h) (Or.inr ⟨by rfl, rfl⟩) (by assumption) ?_
      try simp only [Act.put, List.setIfInBounds_toArray, List.set_cons_zero, List.set_cons_succ]
      refine wpAnyH_take (i := 14) (oi := { dst := some 21, op := Op.call { callee := Callee.value (Operand.func 52), args := #[Operand.tmp 19, Operand.tmp 20], argTypes := #[37, 37] }, type := 4, pos := "cells.go:76", after := #[{ on := 12, ground := Ground.data }, { on := 13, ground := Ground.data }, { on := 12, ground := Ground.chain }, { on := 8, ground := Ground.guard }], guard := some (8, true) }) (v := undef) rfl (by kernel_rfl) (by kernel_rfl) (by kernel_rfl) (fun _ _ _ h => h) (Or.inr ⟨by rfl, rfl⟩) (by assumption) ?_
      try simp only [Act.put, List.setIfInBounds_toArray, List.set_cons_zero, List.set_cons_succ]
      refine wpAnyH_take (i := 15) (oi := { dst := some 22, op := Op.pick (Operand.tmp 15) (Operand.tmp 21) (Operand.const (Value.bool false)), type := 4, pos := "cells.go:76", after := #[{ on := 8, ground := Ground.data }, { on := 14, ground := Ground.data }], guard := none }) (v := .bool false) rfl (by kernel_rfl) (by kernel_rfl) (by kernel_rfl) (fun _ _ _ h => h) (Or.inl ⟨by rfl, fun w hSw => by (try dsimp only at hSw); go_simp⟩) (by assumption) ?_
      try simp only [Act.put, List.setIfInBounds_toArray, List.set_cons_zero, List.set_cons_succ]
      refine wpAnyH_take (i := 16) (oi := { dst := some 2, op := Op.assign (Operand.tmp 22), type := 4, pos := "cells.go:76", after := #[{ on := 15, ground := Ground.data }, { on := 14, ground := Ground.chain }, { on := 0, ground := Ground.phase }, { on := 1, ground := Ground.phase }, { on := 2, ground := Ground.phase }, { on := 3, ground := Ground.phase }, { on := 4, ground := Ground.phase }, { on := 5, ground := Ground.phase }, { on := 6, ground := Ground.phase }, { on := 7, ground := Ground.phase }, { on := 8, ground := Ground.phase }, { on := 9, ground := Ground.phase }, { on := 10, ground := Ground.phase }, { on := 11, ground := Ground.phase }, { on := 12, ground := Ground.phase }, { on := 13, ground := Ground.phase }, { on := 14, ground := Ground.phase }, { on := 15, ground := Ground.phase }], guard := none }) (v := .bool false) rfl (by kernel_rfl) (by kernel_rfl) (by kernel_rfl) (fun _ _ _ h => h) (Or.inl ⟨by rfl, fun w hSw => by (try dsimp only at hSw); go_simp⟩) (by assumption) ?_
      try simp only [Act.put, List.setIfInBounds_toArray, List.set_cons_zero, List.set_cons_succ]
      refine wpAnyH_done (by kernel_rfl) ?_ _
      go_wp2_with fail
      go_ret
      exact ⟨rfl, HB1.out.trans (hb2.mono HB1.out.size)⟩
    | true =>
      rw [Bool.true_and]
      go_enter Tryz.func23, Tryz.ntmps23
      go_wp2_with fail
      refine HMO.out.mono ?_
      rintro e w1 ⟨⟨B, c, rfl, hmem⟩, hb1⟩
      have hmem : MemAt w1 B (Ce.memory p) := hmem
      have hba : Below w1.heap.size w1 (w1.alloc (.cells #[.slice B p.cells.length c] 24)) := (Below.refl _ _).alloc (Nat.le_refl _) _
      have HMEM := Lib.hid (hmem.below hba)
      have HB1 := Lib.hid ((HB.out.trans (hb1.mono HB.out.size)).trans (hba.mono (HB.out.trans (hb1.mono HB.out.size)).size))
      have HPIC1 := Lib.hid ((HPIC.out.below hb1).below hba)
      have HBX1 := Lib.hid ((HBX.out.below hb1).below hba)
      have SB := Lib.hid ((HBX1.out.stay).and (box1 (W := w1) (v := .slice B p.cells.length c) (t := 24)))
      obtain ⟨hbx, x0⟩ := SB.out.at_
      have p0 := hbx.cell 0
      have p1 := hbx.cell 1
      dsimp at p0 p1
      clear hmem hb1 hba HMO HB HPIC HBX hbx
      go_wp2_with fail
      generalize hW1 : w1.alloc (.cells #[.slice B p.cells.length c] 24) = WA at *
      clear hW1
      cases q3 with
      | false =>
        go_region_held3 (fun W => W.cell? ⟨w1.heap.size, 0, none⟩ = some (.slice B p.cells.length c) ∧ W.cell? ⟨w.heap.size, 0, none⟩ = some (.slice V p.vals.length cv) ∧ W.cell? ⟨w.heap.size, 1, none⟩ = some (.slice C p.cells.length cc))
          (go_keep)
          (first
            | (go_at_call 45; refine (HIM.out B c _ (HMEM.out.below (Below.refl _ _).drew)).mono ?_; rintro e w2 ⟨rfl, hb2⟩
               have hb2 : Below WA.heap.size WA w2 := (Below.refl _ _).drew.trans hb2
               obtain ⟨sB, x0⟩ := SB.out _ hb2
               have p0 := sB.cell 0
               have p1 := sB.cell 1
               dsimp at p0 p1)
            | (go_at_call 48; refine (HDA.out B c _ (HPIC1.out.v.arg.below hb2)).mono ?_; rintro e w3 ⟨rfl, hb3⟩
               have hb3 : Below WA.heap.size WA w3 := hb2.trans (hb3.mono hb2.size)
               obtain ⟨sB, x0⟩ := SB.out _ hb3
               have p0 := sB.cell 0
               have p1 := sB.cell 1
               dsimp at p0 p1)
            | (go_at_call 49; refine (HDR.out B c _ (by trivial) (by trivial) (HMEM.out.below hb3) (HPIC1.out.v.arg.below hb3)).mono ?_; rintro e w4 ⟨⟨V1, cv1, C1, cc1, hs1, rfl, ho1, hl1⟩, hb4⟩
               have hb4 : Below WA.heap.size WA w4 := hb3.trans (hb4.mono hb3.size)
               obtain ⟨sB, x0⟩ := SB.out _ hb4
               have p0 := sB.cell 0
               have p1 := sB.cell 1
               dsimp at p0 p1)
            | (go_at_call 52; refine (HSM.out V1 cv1 C1 cc1 hs1 _ _ (by trivial) ho1 hl1 (HPIC1.out.below hb4)).mono ?_; rintro e w5 ⟨rfl, hb5⟩
               have hb5 : Below WA.heap.size WA w5 := hb4.trans (hb5.mono hb4.size)
               obtain ⟨sB, x0⟩ := SB.out _ hb5
               have p0 := sB.cell 0
               have p1 := sB.cell 1
               dsimp at p0 p1))
        all_goals
          go_wp2_with fail
          go_ret
          exact ⟨rfl, HB1.out.trans (hb5.mono HB1.out.size)⟩
      | true =>
        go_region_held3 (fun W => W.cell? ⟨w1.heap.size, 0, none⟩ = some (.slice B p.cells.length c) ∧ W.cell? ⟨w.heap.size, 0, none⟩ = some (.slice V p.vals.length cv) ∧ W.cell? ⟨w.heap.size, 1, none⟩ = some (.slice C p.cells.length cc))
          (go_keep)
          (first
            | (go_at_call 45; refine (HIM.out B c _ (HMEM.out.below (Below.refl _ _).drew)).mono ?_; rintro e w2 ⟨rfl, hb2⟩
               have hb2 : Below WA.heap.size WA w2 := (Below.refl _ _).drew.trans hb2
               obtain ⟨sB, x0⟩ := SB.out _ hb2
               have p0 := sB.cell 0
               have p1 := sB.cell 1
               dsimp at p0 p1)
            | (go_at_call 48; refine (HDA.out B c _ (HPIC1.out.v.arg.below hb2)).mono ?_; rintro e w3 ⟨rfl, hb3⟩
               have hb3 : Below WA.heap.size WA w3 := hb2.trans (hb3.mono hb2.size)
               obtain ⟨sB, x0⟩ := SB.out _ hb3
               have p0 := sB.cell 0
               have p1 := sB.cell 1
               dsimp at p0 p1)
            | (go_at_call 49; refine (HDR.out B c _ (by trivial) (by trivial) (HMEM.out.below hb3) (HPIC1.out.v.arg.below hb3)).mono ?_; rintro e w4 ⟨⟨V1, cv1, C1, cc1, hs1, rfl, ho1, hl1⟩, hb4⟩
               have hb4 : Below WA.heap.size WA w4 := hb3.trans (hb4.mono hb3.size)
               obtain ⟨sB, x0⟩ := SB.out _ hb4
               have p0 := sB.cell 0
               have p1 := sB.cell 1
               dsimp at p0 p1)
            | (go_at_call 52; refine (HSM.out V1 cv1 C1 cc1 hs1 _ _ (by trivial) ho1 hl1 (HPIC1.out.below hb4)).mono ?_; rintro e w5 ⟨rfl, hb5⟩
               have hb5 : Below WA.heap.size WA w5 := hb4.trans (hb5.mono hb4.size)
               obtain ⟨sB, x0⟩ := SB.out _ hb5
               have p0 := sB.cell 0
               have p1 := sB.cell 1
               dsimp at p0 p1))
        all_goals
          go_wp2_with fail
          go_ret
          exact ⟨rfl, HB1.out.trans (hb5.mono HB1.out.size)⟩

def DrawPost (m : Ce.Mem) (l : List Ce.V) (w' : World) (e : Ending) : Prop := ∃ V cv C cc, e = .returned (.tuple #[.agg #[.slice V (Ce.draw m l).1.vals.length cv, .slice C (Ce.draw m l).1.cells.length cc], .int .i64 (Ce.draw m l).2]) ∧ PicV w' V cv C cc (Ce.draw m l).1
theorem picv_nil (W : World) : PicV W none 0 none 0 ⟨[], []⟩ := ⟨⟨⟨rfl, Arg.nil _ _, fun _ => rfl, Nat.le_refl _⟩, ⟨[], rfl, Arg.nil _ _, fun i h s h1 _ => by simp at h1⟩⟩, fun _ => rfl, Nat.le_refl _⟩
set_option maxRecDepth 100000 in
set_option maxHeartbeats 4000000 in
theorem cdraw_any (m : Ce.Mem) (hm : Sz m) (l : List Ce.V) (hl : l.length ≤ 1000) (A B : Option Addr) (c c2 : Nat) (w : World) (h1 : MemAt w A m) (h2 : ValE.Arg w B l) :
    Calls Tryz.prog 20 #[.agg #[.slice A m.length c], .slice B l.length c2] w fun e w' => DrawPost m l w' e ∧ Below w.heap.size w w' := by
  have hbx : Below w.heap.size w ((w.alloc (.cells #[.slice A m.length c] 24)).alloc (.cells #[.slice none 0 0, .slice none 0 0] 37)) := ((Below.refl _ _).alloc (Nat.le_refl _) _).alloc (by simp) _
  have HB := Lib.hid hbx
  have HX := Lib.hid ((Blk.new w 24 #[.slice A m.length c]).alloc (.cells #[.slice none 0 0, .slice none 0 0] 37))
  have HY := Lib.hid (Blk.new (w.alloc (.cells #[.slice A m.length c] 24)) 37 #[.slice none 0 0, .slice none 0 0])
  simp only [World.size_alloc] at HY
  have HIM := Lib.hid (isMemory_any m hm A c _ (h1.below hbx))
  have HDA := Lib.hid (fun W ha => drawable_any m.length A c l (by omega) B c2 W ha)
  have HARG := Lib.hid (h2.below hbx)
  have HMEM := Lib.hid (h1.below hbx)
  have HDR := Lib.hid (fun W (q1 : Ce.memOk m = true) (q2 : (decide (l.length ≤ 100) && Ce.areValues l m.length) = true) hm ha => drawn_any m q1 l (by rw [Bool.and_eq_true, decide_eq_true_iff] at q2; exact q2.1) (by rw [Bool.and_eq_true] at q2; exact q2.2) A B c c2 W hm ha)
  have H4 : Hid (Ce.memOk m = false → Ce.draw m l = (⟨[], []⟩, 4)) := Lib.hid fun q => by unfold Ce.draw; rw [q]; rfl
  have H2 : Hid (Ce.memOk m = true → (decide (l.length ≤ 100) && Ce.areValues l m.length) = false → Ce.draw m l = (⟨[], []⟩, 2)) := Lib.hid fun q1 q2 => by unfold Ce.draw; rw [q1, q2]; rfl
  have H0 : Hid (Ce.memOk m = true → (decide (l.length ≤ 100) && Ce.areValues l m.length) = true → Ce.draw m l = (Ce.drawn m l, 0)) := Lib.hid fun q1 q2 => by unfold Ce.draw; rw [q1, q2]; rfl
  have HLEN := Lib.hid (Ce.drawn_len m l)
  have HNIL : Hid (∀ W, Ce.draw m l = (⟨[], []⟩, 4) ∨ Ce.draw m l = (⟨[], []⟩, 2) → ∀ n : Nat, (n : Int) = (Ce.draw m l).2 → DrawPost m l W (.returned (.tuple #[.agg #[.slice none 0 0, .slice none 0 0], .int .i64 n]))) := Lib.hid fun W h n hn => by
    unfold DrawPost
    rcases h with h | h
    · rw [h] at hn ⊢; exact ⟨none, 0, none, 0, by rw [hn]; rfl, picv_nil W⟩
    · rw [h] at hn ⊢; exact ⟨none, 0, none, 0, by rw [hn]; rfl, picv_nil W⟩
  generalize Ce.memOk m = q1 at *
  generalize (decide (l.length ≤ 100) && Ce.areValues l m.length) = q2 at *
  clear h1 h2 hbx
  cases q1 with
  | false =>
    have HE := Lib.hid (fun W => HNIL.out W (.inl (H4.out rfl)) 4 (by rw [H4.out rfl]))
    clear HDA HDR H2 H0 HNIL H4
    go_enter Tryz.func20, Tryz.ntmps20
    go_wp2_with fail
    refine HIM.out.mono ?_
    rintro e w1 ⟨rfl, hb1⟩
    have HY1 := Lib.hid (HY.out.below hb1)
    have HB1 := Lib.hid (HB.out.trans (hb1.mono HB.out.size))
    have z0 := HY1.out.cell 0
    have z1 := HY1.out.cell 1
    have zf0 := HY1.out.frozen 0
    have zf1 := HY1.out.frozen 1
    dsimp at z0 z1
    clear hb1 HY HB
    go_wp2
    refine bodyPost_ret (results_row_tmp rfl _ _ (w.heap.size + 1) 37 #[.slice none 0 0, .slice none 0 0] (0, 0) _ rfl ((HY1.out.set_ 0 _).set_ 1 _) Tryz.underlying37 rfl pic_size) rfl ?_
    exact ⟨HE.out _, (HB1.out.setCell (by simp) _).setCell (by simp) _⟩
  | true =>
    cases q2 with
    | false =>
      have HE := Lib.hid (fun W => HNIL.out W (.inr (H2.out rfl rfl)) 2 (by rw [H2.out rfl rfl]))
      clear HDR H2 H0 HNIL H4
      go_enter Tryz.func20, Tryz.ntmps20
      go_wp2_with fail
      refine HIM.out.mono ?_
      rintro e w1 ⟨rfl, hb1⟩
      have HY1 := Lib.hid (HY.out.below hb1)
      have HB1 := Lib.hid (HB.out.trans (hb1.mono HB.out.size))
      have HARG1 := Lib.hid (HARG.out.below hb1)
      have x0 := (HX.out.below hb1).cell 0
      dsimp at x0
      clear hb1 HY HB HX HARG
      go_wp2_with fail
      refine (HDA.out _ HARG1.out).mono ?_
      rintro e w2 ⟨rfl, hb2⟩
      have HY2 := Lib.hid (HY1.out.below hb2)
      have HB2 := Lib.hid (HB1.out.trans (hb2.mono HB1.out.size))
      have z0 := HY2.out.cell 0
      have z1 := HY2.out.cell 1
      have zf0 := HY2.out.frozen 0
      have zf1 := HY2.out.frozen 1
      dsimp at z0 z1
      clear hb2 HY1 HB1 x0
      go_wp2
      refine bodyPost_ret (results_row_tmp rfl _ _ (w.heap.size + 1) 37 #[.slice none 0 0, .slice none 0 0] (0, 0) _ rfl ((HY2.out.set_ 0 _).set_ 1 _) Tryz.underlying37 rfl pic_size) rfl ?_
      exact ⟨HE.out _, (HB2.out.setCell (by simp) _).setCell (by simp) _⟩
    | true =>
      have HE := Lib.hid (H0.out rfl rfl)
      clear H2 H0 HNIL H4
      go_enter Tryz.func20, Tryz.ntmps20
      go_wp2_with fail
      refine HIM.out.mono ?_
      rintro e w1 ⟨rfl, hb1⟩
      have HY1 := Lib.hid (HY.out.below hb1)
      have HB1 := Lib.hid (HB.out.trans (hb1.mono HB.out.size))
      have HARG1 := Lib.hid (HARG.out.below hb1)
      have HMEM1 := Lib.hid (HMEM.out.below hb1)
      have HX1 := Lib.hid (HX.out.below hb1)
      have x0 := HX1.out.cell 0
      dsimp at x0
      clear hb1 HY HB HX HARG HMEM
      go_wp2_with fail
      refine (HDA.out _ HARG1.out).mono ?_
      rintro e w2 ⟨rfl, hb2⟩
      have HY2 := Lib.hid (HY1.out.below hb2)
      have HB2 := Lib.hid (HB1.out.trans (hb2.mono HB1.out.size))
      have HARG2 := Lib.hid (HARG1.out.below hb2)
      have HMEM2 := Lib.hid (HMEM1.out.below hb2)
      have x0 := (HX1.out.below hb2).cell 0
      dsimp at x0
      clear hb2 HY1 HB1 HARG1 HMEM1 HX1
      go_wp2_with fail
      refine (HDR.out _ (by trivial) (by trivial) HMEM2.out HARG2.out).mono ?_
      rintro e w3 ⟨⟨V1, cv1, C1, cc1, hs1, rfl, ho1, hl1⟩, hb3⟩
      have HY3 := Lib.hid (HY2.out.below hb3)
      have HB3 := Lib.hid (HB2.out.trans (hb3.mono HB2.out.size))
      have HPV := Lib.hid (LO.picV (p := Ce.drawn m l) ho1 hl1)
      have z0 := HY3.out.cell 0
      have z1 := HY3.out.cell 1
      have zf0 := HY3.out.frozen 0
      have zf1 := HY3.out.frozen 1
      dsimp at z0 z1
      have hyl : w.heap.size + 1 < w2.heap.size := HY2.out.lt
      have HPV2 : Hid (PicV ((w3.setCell ⟨w.heap.size + 1, 0, none⟩ (.slice V1 l.length cv1)).setCell ⟨w.heap.size + 1, 1, none⟩ (.slice C1 (Ce.drawn m l).cells.length cc1)) V1 cv1 C1 cc1 (Ce.drawn m l)) := Lib.hid (by
        have hg := (grownBy_setCell1 w3 (w.heap.size + 1) 0 (.slice V1 l.length cv1)).trans (grownBy_setCell1 (w3.setCell ⟨w.heap.size + 1, 0, none⟩ (.slice V1 l.length cv1)) (w.heap.size + 1) 1 (.slice C1 (Ce.drawn m l).cells.length cc1))
        exact LO.picV (p := Ce.drawn m l) (Own.low ho1 hg (fun j hj => by cases hj; omega)) (hl1.low hg (fun j hj => by cases hj; omega)))
      have HEND : Hid (∀ W, PicV W V1 cv1 C1 cc1 (Ce.drawn m l) → DrawPost m l W (.returned (.tuple #[.agg #[.slice V1 l.length cv1, .slice C1 (Ce.drawn m l).cells.length cc1], .int .i64 0]))) := Lib.hid fun W h => by
        unfold DrawPost
        rw [HE.out]
        exact ⟨V1, cv1, C1, cc1, by rw [HLEN.out]; rfl, h⟩
      generalize (Ce.drawn m l).cells.length = nc at *
      clear hb3 HY2 HB2 x0 ho1 hl1 HPV
      go_wp2
      refine bodyPost_ret (results_row_tmp rfl _ _ (w.heap.size + 1) 37 #[.slice V1 l.length cv1, .slice C1 nc cc1] (0, 0) _ rfl ((HY3.out.set_ 0 _).set_ 1 _) Tryz.underlying37 rfl pic_size) rfl ?_
      exact ⟨HEND.out _ HPV2.out, (HB3.out.setCell (by simp) _).setCell (by simp) _⟩
theorem draw_any : DrawC := fun m l A B c c2 w hm hl h1 h2 => cdraw_any m hm l hl A B c c2 w h1.at_ h2.arg
end Go.Proofs.YtjldkndalcellaaGreatDoor
