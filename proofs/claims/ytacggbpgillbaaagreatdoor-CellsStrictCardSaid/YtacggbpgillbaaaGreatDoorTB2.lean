/- Layer 6, the program: a cell by its number; noCell; read. Layer 6, the program: read. -/
import Derived.Test.YtacggbpgillbaaaGreatDoorTB1
namespace Go.Proofs.YtacggbpgillbaaaGreatDoor
open Go.RowKit Go.El

theorem Only.workT {y : Nat} {W W' : World} (h : Only y W W') {T' : TypeId} {cs : Array Value} (hy : Blk W y T' cs) (h1 : T' ≠ 127) (h2 : T' ≠ 83) (h3 : T' ≠ 106) {B b : Nat} {A : Option Addr} {c : Nat} {hs : List (Sl × Sl)} {n : Int} {T : Option Addr} {ct : Nat} {ts : List Ce.Td} (hw : Work W B b A c hs n T ct ts) : Work W' B b A c hs n T ct ts :=
  ⟨hw.hB, h.blk hw.blk (fun e => by
    subst e
    have e' : W.heap[b]? = _ := hw.blk
    rw [show W.heap[b]? = _ from hy] at e'
    injection e' with e'
    injection e' with _ ht
    exact h1 ht), h.ownT hy hw.sts h2, h.ownT hy hw.tds h3⟩
theorem Work.setN {W : World} {B b : Nat} {A : Option Addr} {c : Nat} {hs : List (Sl × Sl)} {n : Int} {T : Option Addr} {ct : Nat} {ts : List Ce.Td} (h : Work W B b A c hs n T ct ts) (n' : Int) : Work (W.setCell ⟨b, 1, none⟩ (.int .i64 n')) B b A c hs n' T ct ts :=
  ⟨h.hB, by have := h.blk.set_ 1 (.int .i64 n'); simpa using this, Only.set1.ownT h.blk h.sts (by decide), Only.set1.ownT h.blk h.tds (by decide)⟩
theorem Work.setT {W : World} {B b : Nat} {A : Option Addr} {c : Nat} {hs : List (Sl × Sl)} {n : Int} {T T' : Option Addr} {ct ct' : Nat} {ts ts' : List Ce.Td} (h : Blk W b 127 #[.slice A hs.length c, .int .i64 n, .slice T ts.length ct]) (hB : B ≤ b) (hs' : StE.Own 83 W B A c hs) (ht : TdE.Own 106 W B T' ct' ts') : Work (W.setCell ⟨b, 2, none⟩ (.slice T' ts'.length ct')) B b A c hs n T' ct' ts' :=
  ⟨hB, by have := h.set_ 2 (.slice T' ts'.length ct'); simpa using this, Only.set1.ownT h hs' (by decide), Only.set1.ownT h ht (by decide)⟩
theorem Work.stBlk {W : World} {B b g : Nat} {c : Nat} {hs : List (Sl × Sl)} {n : Int} {T : Option Addr} {ct : Nat} {ts : List Ce.Td} (h : Work W B b (some ⟨g, 0, none⟩) c hs n T ct ts) : ∃ cs, Blk W g 83 cs := h.sts.blk rfl
theorem Work.setW {W : World} {B b g : Nat} {c : Nat} {x y : Sl} {n : Int} {T : Option Addr} {ct : Nat} {ts : List Ce.Td} (h : Work W B b (some ⟨g, 0, none⟩) c [(x, y)] n T ct ts) (Q : Option Addr) (n' cq : Nat) : Work (W.setCell ⟨g, 1, none⟩ (.slice Q n' cq)) B b (some ⟨g, 0, none⟩) c [(x, ⟨Q, n', cq⟩)] n T ct ts := by
  obtain ⟨cs, hg⟩ := h.stBlk
  refine ⟨h.hB, Only.set1.blk h.blk (fun e => ?_), (World.ownsRow.stored h.sts 1 (.slice Q n' cq)).1, Only.set1.ownT hg h.tds (by decide)⟩
  subst e
  have e' : W.heap[b]? = _ := h.blk
  rw [show W.heap[b]? = _ from hg] at e'
  injection e' with e'
  injection e' with _ ht
  exact absurd ht (by decide)
/-- the cells of the one structure's handles -/
theorem Work.at1 {W : World} {B b g : Nat} {c : Nat} {x y : Sl} {n : Int} {T : Option Addr} {ct : Nat} {ts : List Ce.Td} (h : Work W B b (some ⟨g, 0, none⟩) c [(x, y)] n T ct ts) : W.cell? ⟨g, 0, none⟩ = some x.val ∧ W.cell? ⟨g, 1, none⟩ = some y.val ∧ W.frozen? ⟨g, 1, none⟩ = false ∧ g < W.heap.size := by
  obtain ⟨g', hA, _, hl, hin⟩ := Own.in_ h.sts (by simp)
  injection hA with hA
  injection hA with hA
  subst hA
  exact ⟨hin 0 _ rfl 0 _ rfl, hin 0 _ rfl 1 _ rfl, World.ownsRow.frozenAt h.sts 1, hl⟩

set_option maxRecDepth 100000 in
set_option maxHeartbeats 1000000 in
theorem cell_in (b g r c : Nat) (w : World) (hb : w.cell? ⟨b, 0, none⟩ = some (.slice (some ⟨g, 0, none⟩) 1 c)) (hg : w.cell? ⟨g, 0, none⟩ = some (.slice (some ⟨r, 0, none⟩) 2 2)) :
    Calls Tryz.prog 159 #[.pointer (some ⟨b, 0, none⟩), .agg #[.int .u8 4, .int .i64 0], .agg #[.int .u8 1, .int .i64 1]] w fun e w' => e = .returned (.pointer (some ⟨r, 2, none⟩)) ∧ Below w.heap.size w w' := by
  have hb1 : Below w.heap.size w (w.alloc (.cells #[.int .u8 4, .int .i64 0] 26)) := (Below.refl _ _).alloc (Nat.le_refl _) _
  have hb2 := hb1.alloc (by simp) (.cells #[.int .u8 1, .int .i64 1] 26)
  have HB2 := Lib.hid hb2
  have c0 := (Stay.cell hb) _ hb2
  have c1 := (Stay.cell hg) _ hb2
  have s1 := (Blk.new w 26 #[.int .u8 4, .int .i64 0]).alloc (.cells #[.int .u8 1, .int .i64 1] 26)
  have i1 := Blk.new (w.alloc (.cells #[.int .u8 4, .int .i64 0] 26)) 26 #[.int .u8 1, .int .i64 1]
  have s10 := s1.cell 0
  have s11 := s1.cell 1
  have i10 := i1.cell 0
  have i11 := i1.cell 1
  simp only [World.size_alloc] at i10 i11
  dsimp at s10 s11 i10 i11
  clear hb1 hb2 hb hg s1 i1
  go_enter Tryz.func159, Tryz.ntmps159
  go_wp2_with fail
  generalize hWX : World.alloc _ _ = WX at *
  clear hWX
  go_region
  go_wp2
  go_ret
  exact ⟨rfl, HB2.out.drew⟩
set_option maxRecDepth 100000 in
set_option maxHeartbeats 1000000 in
theorem cell_out (b g r c : Nat) (w : World) (hb : w.cell? ⟨b, 0, none⟩ = some (.slice (some ⟨g, 0, none⟩) 1 c)) (hg : w.cell? ⟨g, 0, none⟩ = some (.slice (some ⟨r, 0, none⟩) 2 2)) :
    Calls Tryz.prog 159 #[.pointer (some ⟨b, 0, none⟩), .agg #[.int .u8 4, .int .i64 0], .agg #[.int .u8 1, .int .i64 2]] w fun e w' => e = .returned (.pointer none) ∧ Below w.heap.size w w' := by
  have hb1 : Below w.heap.size w (w.alloc (.cells #[.int .u8 4, .int .i64 0] 26)) := (Below.refl _ _).alloc (Nat.le_refl _) _
  have hb2 := hb1.alloc (by simp) (.cells #[.int .u8 1, .int .i64 2] 26)
  have HB2 := Lib.hid hb2
  have c0 := (Stay.cell hb) _ hb2
  have c1 := (Stay.cell hg) _ hb2
  have s1 := (Blk.new w 26 #[.int .u8 4, .int .i64 0]).alloc (.cells #[.int .u8 1, .int .i64 2] 26)
  have i1 := Blk.new (w.alloc (.cells #[.int .u8 4, .int .i64 0] 26)) 26 #[.int .u8 1, .int .i64 2]
  have s10 := s1.cell 0
  have s11 := s1.cell 1
  have i10 := i1.cell 0
  have i11 := i1.cell 1
  simp only [World.size_alloc] at i10 i11
  dsimp at s10 s11 i10 i11
  clear hb1 hb2 hb hg s1 i1
  go_enter Tryz.func159, Tryz.ntmps159
  go_wp2_with fail
  generalize hWX : World.alloc _ _ = WX at *
  clear hWX
  go_region
  go_wp2
  go_ret
  exact ⟨rfl, HB2.out.drew⟩

set_option maxRecDepth 100000 in
set_option maxHeartbeats 1000000 in
theorem noCell_any (w : World) :
    Calls Tryz.prog 161 #[.agg #[.int .u8 4, .int .i64 0], .agg #[.int .u8 1, .int .i64 2]] w fun e w' => e = .returned (.agg #[.int .u8 5, .int .i64 3]) ∧ Below w.heap.size w w' := by
  have hb1 : Below w.heap.size w (w.alloc (.cells #[.int .u8 4, .int .i64 0] 26)) := (Below.refl _ _).alloc (Nat.le_refl _) _
  have hb2 := hb1.alloc (by simp) (.cells #[.int .u8 1, .int .i64 2] 26)
  have hb3 := hb2.alloc (by simp; omega) (.cells #[.int .u8 0, .int .i64 0] 26)
  have hb4 := hb3.alloc (by simp; omega) (.cells #[.int .u8 4, .int .i64 0, .int .u8 1, .int .i64 2] 26)
  have HB4 := Lib.hid hb4
  have s1 := ((Blk.new w 26 #[.int .u8 4, .int .i64 0]).alloc (.cells #[.int .u8 1, .int .i64 2] 26)).alloc (.cells #[.int .u8 0, .int .i64 0] 26)
  have i1 := (Blk.new (w.alloc (.cells #[.int .u8 4, .int .i64 0] 26)) 26 #[.int .u8 1, .int .i64 2]).alloc (.cells #[.int .u8 0, .int .i64 0] 26)
  have HY := Lib.hid ((Blk.new ((w.alloc (.cells #[.int .u8 4, .int .i64 0] 26)).alloc (.cells #[.int .u8 1, .int .i64 2] 26)) 26 #[.int .u8 0, .int .i64 0]).alloc (.cells #[.int .u8 4, .int .i64 0, .int .u8 1, .int .i64 2] 26))
  have hwr := wrong_any 3 [⟨4, 0⟩, ⟨1, 2⟩] (by simp) (some ⟨_, 0, none⟩) 2 _ (row_arg (K := ValE) (W := ((w.alloc (.cells #[.int .u8 4, .int .i64 0] 26)).alloc (.cells #[.int .u8 1, .int .i64 2] 26)).alloc (.cells #[.int .u8 0, .int .i64 0] 26)) (t := 26) (cs := #[.int .u8 4, .int .i64 0, .int .u8 1, .int .i64 2]) rfl rfl)
  rw [show Ce.firstBad [⟨4, 0⟩, ⟨1, 2⟩] 3 = ⟨5, 3⟩ by decide] at hwr
  have s10 := s1.cell 0
  have s11 := s1.cell 1
  have i10 := i1.cell 0
  have i11 := i1.cell 1
  simp only [World.size_alloc] at i10 i11 HY hwr
  dsimp at s10 s11 i10 i11
  have HWR := Lib.hid hwr
  clear hb1 hb2 hb3 hb4 s1 i1 hwr
  go_enter Tryz.func161, Tryz.ntmps161
  go_wp2_with fail
  refine HWR.out.mono ?_
  rintro e w1 ⟨rfl, hb1⟩
  have HY1 := Lib.hid (HY.out.below (by simpa only [World.size_alloc] using hb1))
  have HB1 := Lib.hid (HB4.out.trans (hb1.mono (by omega)))
  have z0 := HY1.out.cell 0
  have z1 := HY1.out.cell 1
  have zf0 := HY1.out.frozen 0
  have zf1 := HY1.out.frozen 1
  dsimp at z0 z1
  clear hb1
  go_wp2
  refine bodyPost_ret (results_cell_row rfl _ _ (w.heap.size + 1 + 1) 26 #[.int .u8 5, .int .i64 3] (0, 0) _ rfl ((HY1.out.set_ 0 _).set_ 1 _) Tryz.underlying26 rfl val_size) rfl ?_
  exact ⟨rfl, (HB1.out.setCell (by simp; omega) _).setCell (by simp; omega) _⟩
end Go.Proofs.YtacggbpgillbaaaGreatDoor

namespace Go.Proofs.YtacggbpgillbaaaGreatDoor
open Go.RowKit Go.El

theorem Work.grown {W W' : World} {B b : Nat} {A : Option Addr} {c : Nat} {hs : List (Sl × Sl)} {n : Int} {T : Option Addr} {ct : Nat} {ts : List Ce.Td} (h : Work W B b A c hs n T ct ts) {B' cq : Nat} {Q : Option Addr} {ws : List Ce.Rd} (ho : RdE.Own 122 W B' Q cq ws) (hg : W.grownBy W' (Value.slice Q ws.length cq).ownBlock) : Work W' B b A c hs n T ct ts :=
  ⟨h.hB, h.blk.kept hg (Own.ne_blk ho h.blk (by decide)), h.sts.kept hg (own_own_ne h.sts ho (by decide)), h.tds.kept hg (own_own_ne h.tds ho (by decide))⟩
theorem isHole_hole : isHoleB Ce.hole = true := by decide
def ldRead : Oper := { dst := some 48, op := Op.load 81 (Operand.tmp 47), type := 81, pos := "work.go:100", after := #[{ on := 3, ground := Ground.data }], guard := none }
attribute [local go_sem] ldRead
set_option maxRecDepth 100000 in
set_option maxHeartbeats 4000000 in
theorem read_in (B b r : Nat) (w : World) (h : One w B b r [Ce.hole, Ce.hole] [] 0 []) (hBw : B ≤ w.heap.size) :
    Calls Tryz.prog 133 #[.pointer (some ⟨b, 0, none⟩), opArg 3 4 0 1 1 0 0 7] w fun e w' => e = .returned (.tuple #[.agg #[.int .u8 0, .int .i64 0], .int .i64 0]) ∧ One w' B b r [Ce.hole, Ce.hole] [⟨1, 7⟩] 1 [] ∧ Below B w w' ∧ Fr r w w' := by
  have hb1 : Below w.heap.size w (w.alloc (.cells (opCells 3 4 0 1 1 0 0 7) 44)) := (Below.refl _ _).alloc (Nat.le_refl _) _
  have hb2 := hb1.alloc (by simp) (.cells #[.int .u8 0, .int .i64 0] 26)
  have HB2 := Lib.hid hb2
  have hrl : r < w.heap.size := by
    obtain ⟨_, hA, _, hl, _⟩ := Own.in_ h.vals (by simp)
    injection hA with hA
    injection hA with hA
    omega
  have hbl : b < w.heap.size := by
    obtain ⟨_, _, _, _, _, _, hw, _⟩ := h.ex
    exact hw.blk.lt
  obtain ⟨⟨g, c, Q, cq, T, ct, hw, hq⟩, hv, _⟩ := h.below hb2
  have hgl : g < w.heap.size := by
    obtain ⟨⟨g', c', Q', cq', T', ct', hw', hq'⟩, _, _⟩ := h
    have e1 := (hw'.blk.below hb2)
    have e2 : some _ = some _ := (show Blk _ _ _ _ from hw.blk).symm.trans e1
    injection e2 with e2
    injection e2 with e2
    injection e2 with e2
    have e3 := congrArg (fun l => l[0]?) e2
    simp at e3
    have := hw'.at1.2.2.2
    omega
  have HW := Lib.hid hw
  have HQ := Lib.hid hq
  have HV := Lib.hid hv
  have HY := Lib.hid (Blk.new (w.alloc (.cells (opCells 3 4 0 1 1 0 0 7) 44)) 26 #[.int .u8 0, .int .i64 0])
  have HO := Lib.hid ((Blk.new w 44 (opCells 3 4 0 1 1 0 0 7)).alloc (.cells #[.int .u8 0, .int .i64 0] 26))
  simp only [World.size_alloc] at HY
  have HCELL := Lib.hid (cell_in b g r c _ (hw.blk.cell 0) hw.at1.1)
  have HH := Lib.hid (fun W => isHole_any Ce.hole W)
  rw [isHole_hole] at HH
  have FACTS : Hid (∀ W, Below ((w.alloc (.cells (opCells 3 4 0 1 1 0 0 7) 44)).alloc (.cells #[.int .u8 0, .int .i64 0] 26)).heap.size ((w.alloc (.cells (opCells 3 4 0 1 1 0 0 7) 44)).alloc (.cells #[.int .u8 0, .int .i64 0] 26)) W →
      (W.cell? ⟨b, 0, none⟩ = some (.slice (some ⟨g, 0, none⟩) 1 c) ∧ W.cell? ⟨b, 1, none⟩ = some (.int .i64 0)) ∧ (W.cell? ⟨g, 0, none⟩ = some (.slice (some ⟨r, 0, none⟩) 2 2) ∧ W.cell? ⟨g, 1, none⟩ = some (.slice Q 0 cq)) ∧ (W.cell? ⟨r, 2, none⟩ = some (.int .u8 0) ∧ W.cell? ⟨r, 3, none⟩ = some (.int .i64 0)) ∧
      W.cell? ⟨w.heap.size, 0, none⟩ = some (.int .u8 3) ∧ W.cell? ⟨w.heap.size, 1, none⟩ = some (.int .u8 4) ∧ W.cell? ⟨w.heap.size, 2, none⟩ = some (.int .i64 0) ∧ W.cell? ⟨w.heap.size, 3, none⟩ = some (.int .u8 1) ∧ W.cell? ⟨w.heap.size, 4, none⟩ = some (.int .i64 1) ∧ W.cell? ⟨w.heap.size, 5, none⟩ = some (.int .u8 0) ∧ W.cell? ⟨w.heap.size, 6, none⟩ = some (.int .i64 0) ∧ W.cell? ⟨w.heap.size, 7, none⟩ = some (.int .i64 7)) := Lib.hid fun W hb => by
    have hw' := HW.out.below hb
    obtain ⟨r', hA, _, _, hin⟩ := Own.in_ (Own.below HV.out hb) (by simp)
    injection hA with hA
    injection hA with hA
    subst hA
    exact ⟨⟨hw'.blk.cell 0, hw'.blk.cell 1⟩, ⟨hw'.at1.1, hw'.at1.2.1⟩, ⟨hin 1 _ rfl 0 _ rfl, hin 1 _ rfl 1 _ rfl⟩, op_at (HO.out.below hb)⟩
  obtain ⟨_, _, _, o0, o1, o2, o3, o4, o5, o6, o7⟩ := FACTS.out _ (Below.refl _ _)
  unfold opCells at *
  unfold opArg opCells
  clear hb1 hb2 h hw hq hv
  go_enter Tryz.func133, Tryz.ntmps133
  go_wp2_with fail
  generalize hWX : World.alloc _ _ = WX at *
  clear hWX
  refine HCELL.out.mono ?_
  rintro e w1 ⟨rfl, hb1⟩
  have HB1 := Lib.hid hb1
  clear o0 o1 o2 o3 o4 o5 o6 o7
  obtain ⟨⟨b0, b1⟩, ⟨g0, g1⟩, ⟨r0, r1⟩, o0, o1, o2, o3, o4, o5, o6, o7⟩ := FACTS.out w1 hb1
  clear hb1
  go_wp2_with fail
  refine (HH.out _).mono ?_
  rintro e w2 ⟨rfl, hb2⟩
  have HB2' := Lib.hid (HB1.out.trans (hb2.mono HB1.out.size))
  clear b0 b1 g0 g1 r0 r1 o0 o1 o2 o3 o4 o5 o6 o7 hb2
  obtain ⟨⟨b0, b1⟩, ⟨g0, g1⟩, ⟨r0, r1⟩, o0, o1, o2, o3, o4, o5, o6, o7⟩ := FACTS.out w2 HB2'.out
  go_wp2_with fail
  go_region
  go_wp2_with fail
  have hsz : w.heap.size + 1 + 1 ≤ w2.heap.size := by
    have := HB2'.out.size
    have := HY.out.lt
    omega
  have HB3 := Lib.hid HB2'.out.drew
  have hsz3 : w.heap.size + 1 + 1 ≤ w2.drew.heap.size := hsz
  clear b0 b1 g0 g1 r0 r1 o0 o1 o2 o3 o4 o5 o6 o7 HB2'
  generalize hW3 : World.drew w2 = W3 at *
  clear hW3 hsz
  obtain ⟨⟨b0, b1⟩, ⟨g0, g1⟩, ⟨r0, r1⟩, o0, o1, o2, o3, o4, o5, o6, o7⟩ := FACTS.out W3 HB3.out
  have hgl2 : g < W3.heap.size := by omega
  have hwl2 : w.heap.size < W3.heap.size := by omega
  have hgne : g ≠ w.heap.size := by omega
  have hgne2 : w.heap.size ≠ g := by omega
  have HX3 : Hid (Below WX.heap.size WX (W3.alloc (.cells #[.int .i64 1, .int .i64 7] 122)).drew) := Lib.hid (HB3.out.alloc HB3.out.size _).drew
  have HARG : Hid (RdE.Arg (W3.alloc (.cells #[.int .i64 1, .int .i64 7] 122)).drew (some ⟨W3.heap.size, 0, none⟩) [⟨1, 7⟩]) := Lib.hid ((row_arg (K := RdE) (W := W3) (t := 122) (cs := #[.int .i64 1, .int .i64 7]) rfl rfl).below (Below.refl _ _).drew)
  rw [show ({ dst := some 48, op := Op.load 81 (Operand.tmp 47), type := 81, pos := "work.go:100", after := #[{ on := 3, ground := Ground.data }], guard := none } : Oper) = ldRead from rfl]
  go_region_held3 (fun W => W.cell? ⟨w.heap.size, 4, none⟩ = some (.int .i64 1) ∧ W.cell? ⟨w.heap.size, 7, none⟩ = some (.int .i64 7))
    (go_keep)
    (first
      | (refine step_append_any RdE _ rfl _ _ 81 122 rfl Tryz.underlying81 rd_info rfl B Q cq _ [] [⟨1, 7⟩] _ _ _ rfl rfl rfl rfl (fun hh => by cases hh) (Own.below HQ.out HX3.out) HARG.out (by simp [maxLen]) (by simp) (by have := HX3.out.size; have := HB2.out.size; omega) ?_; intro A4 c4 w4 hown4 hgrow4
         have hop4 := (HO.out.below HX3.out).kept hgrow4 (Own.ne_blk (Own.below HQ.out HX3.out) (HO.out.below HX3.out) (by decide))
         have hw4 := (HW.out.below HX3.out).grown (Own.below HQ.out HX3.out) hgrow4
         obtain ⟨_, v1, vf, vl⟩ := hw4.at1
         have v4 := hop4.cell 4
         have v7 := hop4.cell 7))
  all_goals
    obtain ⟨gs, hgs⟩ := hw4.stBlk
    have HW5 := Lib.hid (hw4.setW A4 1 c4)
    have HR5 := Lib.hid (Only.set1 (o := 1) (a := .slice A4 1 c4) |>.ownT hgs hown4 (by decide))
    have HV5 := Lib.hid (Only.set1 (o := 1) (a := .slice A4 1 c4) |>.ownT hgs ((Own.below HV.out HX3.out).kept hgrow4 (own_own_ne (Own.below HV.out HX3.out) (Own.below HQ.out HX3.out) (by decide))) (by decide))
    have HY5 := Lib.hid (Only.set1 (y := g) (o := 1) (a := .slice A4 1 c4) |>.blk ((HY.out.below HX3.out).kept hgrow4 (Own.ne_blk (Own.below HQ.out HX3.out) (HY.out.below HX3.out) (by decide))) (by omega))
    have HF5 : Hid (Below B w (w4.setCell ⟨g, 1, none⟩ (.slice A4 1 c4)) ∧ Fr r w (w4.setCell ⟨g, 1, none⟩ (.slice A4 1 c4))) := Lib.hid ⟨(((HB2.out.trans (HX3.out.mono HB2.out.size)).mono hBw).grown hgrow4 (by have := HX3.out.size; have := HB2.out.size; omega) (fun j hj => ((Own.below HQ.out HX3.out).lt j hj).1)).setCell (p := ⟨g, 1, none⟩) (HW5.out.sts.lt g rfl).1 _, ((Fr.below (HB2.out.trans (HX3.out.mono HB2.out.size))).trans (Fr.grown (Own.below HQ.out HX3.out) (.inr (.inr (.inl rfl))) hgrow4)).trans (Fr.set hgs (.inr (.inl rfl)))⟩
    clear hop4 v1 vf vl v4 v7 hw4 hgs
    generalize hW5 : World.setCell w4 _ _ = W5 at *
    clear hW5 hown4 hgrow4
    have k1 := HW5.out.blk.cell 1
    have kf := HW5.out.blk.frozen 1
    have kl := HW5.out.blk.lt
    have hBb := HW5.out.hB
    have z0 := HY5.out.cell 0
    have z1 := HY5.out.cell 1
    have zf0 := HY5.out.frozen 0
    have zf1 := HY5.out.frozen 1
    dsimp at k1 z0 z1
    have hby : b ≠ w.heap.size + 1 := by omega
    have hby2 : w.heap.size + 1 ≠ b := by omega
    go_wp2
    have hY6 := (Only.set1 (y := b) (o := 1) (W := W5) (a := .int .i64 1)).blk HY5.out (by omega)
    refine bodyPost_ret (results_row_tmp rfl _ _ (w.heap.size + 1) 26 #[.int .u8 0, .int .i64 0] (0, 0) _ rfl ((hY6.set_ 0 _).set_ 1 _) Tryz.underlying26 rfl val_size) rfl ?_
    have hO := Only.set2 (y := w.heap.size + 1) (W := W5.setCell ⟨b, 1, none⟩ (.int .i64 1)) (a := .int .u8 0) (c := .int .i64 0)
    refine ⟨rfl, ⟨⟨g, c, A4, c4, T, ct, hO.work hY6 (HW5.out.setN 1), hO.ownT hY6 (Only.set1.ownT HW5.out.blk HR5.out (by decide)) (by decide)⟩, hO.own (Only.set1.ownT HW5.out.blk HV5.out (by decide)) (fun a ha => by injection ha with ha; subst ha; dsimp; omega), rfl⟩, ?_, hO.fr (HF5.out.2.trans (Fr.set HW5.out.blk (.inl rfl))) (by omega)⟩
    exact (((HF5.out.1.setCell (p := ⟨b, 1, none⟩) hBb _).setCell (p := ⟨w.heap.size + 1, 0, none⟩) (by dsimp; omega) _).setCell (p := ⟨w.heap.size + 1, 1, none⟩) (by dsimp; omega) _)

set_option maxRecDepth 100000 in
set_option maxHeartbeats 4000000 in
theorem read_out (B b r : Nat) (cells : List Ce.V) (ws : List Ce.Rd) (n : Int) (ts : List Ce.Td) (w : World) (h : One w B b r cells ws n ts) (hBw : B ≤ w.heap.size) :
    Calls Tryz.prog 133 #[.pointer (some ⟨b, 0, none⟩), opArg 3 4 0 1 2 0 0 8] w fun e w' => e = .returned (.tuple #[.agg #[.int .u8 5, .int .i64 3], .int .i64 0]) ∧ One w' B b r cells ws n ts ∧ Below B w w' ∧ Fr r w w' := by
  have hb1 : Below w.heap.size w (w.alloc (.cells (opCells 3 4 0 1 2 0 0 8) 44)) := (Below.refl _ _).alloc (Nat.le_refl _) _
  have hb2 := hb1.alloc (by simp) (.cells #[.int .u8 0, .int .i64 0] 26)
  have HB2 := Lib.hid hb2
  have HONE := Lib.hid (h.below hb2)
  obtain ⟨⟨g, c, Q, cq, T, ct, hw, hq⟩, hv, _⟩ := h.below hb2
  have HY := Lib.hid (Blk.new (w.alloc (.cells (opCells 3 4 0 1 2 0 0 8) 44)) 26 #[.int .u8 0, .int .i64 0])
  have HO := Lib.hid ((Blk.new w 44 (opCells 3 4 0 1 2 0 0 8)).alloc (.cells #[.int .u8 0, .int .i64 0] 26))
  simp only [World.size_alloc] at HY
  have hrl : r < w.heap.size := by
    rcases h.vals.2 with ⟨hv, _⟩ | ⟨g', cap', cur, hv, _, hh, _⟩
    · cases hv
    · injection hv with hA
      injection hA with hA
      injection hA with hA
      subst hA
      exact (Array.getElem?_eq_some_iff.1 hh).1
  have HCELL := Lib.hid (cell_out b g r c _ (hw.blk.cell 0) hw.at1.1)
  have HNC := Lib.hid (fun W => noCell_any W)
  obtain ⟨o0, o1, o2, o3, o4, o5, o6, o7⟩ := op_at HO.out
  unfold opCells at *
  unfold opArg opCells
  clear hb1 hb2 h hw hq hv
  go_enter Tryz.func133, Tryz.ntmps133
  go_wp2_with fail
  generalize hWX : World.alloc _ _ = WX at *
  clear hWX
  refine HCELL.out.mono ?_
  rintro e w1 ⟨rfl, hb1⟩
  have HB1 := Lib.hid hb1
  clear o0 o1 o2 o3 o4 o5 o6 o7
  obtain ⟨o0, o1, o2, o3, o4, o5, o6, o7⟩ := op_at (HO.out.below hb1)
  clear hb1
  go_wp2_with fail
  refine (HNC.out _).mono ?_
  rintro e w2 ⟨rfl, hb2⟩
  have HB2' := Lib.hid (HB1.out.trans (hb2.mono HB1.out.size))
  have HY2 := Lib.hid (HY.out.below HB2'.out)
  have z0 := HY2.out.cell 0
  have z1 := HY2.out.cell 1
  have zf0 := HY2.out.frozen 0
  have zf1 := HY2.out.frozen 1
  dsimp at z0 z1
  clear o0 o1 o2 o3 o4 o5 o6 o7 hb2
  go_wp2
  refine bodyPost_ret (results_row_tmp rfl _ _ (w.heap.size + 1) 26 #[.int .u8 5, .int .i64 3] (0, 0) _ rfl ((HY2.out.set_ 0 _).set_ 1 _) Tryz.underlying26 rfl val_size) rfl ?_
  have hO := Only.set2 (y := w.heap.size + 1) (W := w2) (a := .int .u8 5) (c := .int .i64 3)
  obtain ⟨⟨g, c, Q, cq, T, ct, hw, hq⟩, hv, hl⟩ := HONE.out.below HB2'.out
  have hbf := HB2.out.trans (HB2'.out.mono HB2.out.size)
  exact ⟨rfl, ⟨⟨g, c, Q, cq, T, ct, hO.work HY2.out hw, hO.ownT HY2.out hq (by decide)⟩, hO.own hv (fun a ha => by injection ha with ha; subst ha; dsimp; omega), hl⟩, ((hbf.mono hBw).setCell (p := ⟨w.heap.size + 1, 0, none⟩) (by dsimp; omega) _).setCell (p := ⟨w.heap.size + 1, 1, none⟩) (by dsimp; omega) _, hO.fr (Fr.below hbf) (by omega)⟩
end Go.Proofs.YtacggbpgillbaaaGreatDoor
