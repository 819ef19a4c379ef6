/- Layer 6, the program: who waits for a cell is taken out (slices.DeleteFunc at Read, of one read that goes). Layer 6, the program: tell, of the one who waits for the second cell. Layer 6, the program: write, of the second cell. Layer 6, the program: do, of the four operations. Layer 6, the program: Play, of the four operations. -/
import Derived.Test.YtjldkndalcellaaGreatDoorYn
import Derived.Lib.SlKept
import Derived.Laws.IdiomCopy
import Derived.Laws.OwnMore
import Derived.Lib.SliceRun
namespace Go.Proofs.YtjldkndalcellaaGreatDoor
open Go.RowKit Go.El

/-- cells of the row are stored into: what lies ahead stays -/
theorem own_setCells {e : TypeId} {size base g cap n : Nat} : ∀ (vs : List Value) (o : Nat) (W : World) (xs : List Value), W.ownsRow base e size (.slice (some ⟨g, 0, none⟩) n cap) n xs →
    ∃ xs', (W.setCells g o vs).ownsRow base e size (.slice (some ⟨g, 0, none⟩) n cap) n xs' ∧ (∀ t, t < o → xs'[t]? = xs[t]?)
  | [], _, _, xs, h => ⟨xs, h, fun _ _ => rfl⟩
  | v :: r, o, W, xs, h => by
    obtain ⟨xs', h1, h2⟩ := own_setCells r (o + 1) _ _ (World.ownsRow.stored h o v).1
    exact ⟨xs', h1, fun t ht => by rw [h2 t (by omega), List.getElem?_set_ne (by omega)]⟩
/-- the row is cut -/
theorem own_cut {e : TypeId} {size base g cap n i : Nat} {W : World} {xs : List Value} (h : W.ownsRow base e size (.slice (some ⟨g, 0, none⟩) n cap) n xs) (hi : i ≤ n) : W.ownsRow base e size (.slice (some ⟨g, 0, none⟩) i cap) i (xs.take (i * size)) := by
  have hm : i * size ≤ n * size := Nat.mul_le_mul_right _ hi
  refine ⟨by rw [List.length_take, h.1]; omega, ?_⟩
  rcases h.2 with ⟨hv, _⟩ | ⟨g', cap', cur, hv, hb, hh, hc1, hc2, hc3, hc4⟩
  · cases hv
  · injection hv with hA hn hcap
    injection hA with hA
    injection hA with hg _
    subst hg hcap
    exact .inr ⟨g, cap, cur, rfl, hb, hh, by omega, hc2, hc3, by rw [← hc4, List.take_take, Nat.min_eq_left hm]⟩
theorem Only.toFr {y r : Nat} {W W' : World} (h : Only y W W') {T : TypeId} {cs : Array Value} (hy : Blk W y T cs) (hT : T = 113 ∨ T = 61 ∨ T = 86 ∨ T = 79) : Fr r W W' :=
  ⟨h.1, fun k cs' T' f hk _ h1 h2 h3 h4 => (h.2 k (fun e => by
    subst e
    rw [show W.heap[k]? = _ from hy] at hk
    injection hk with hk
    injection hk with _ ht
    subst ht
    rcases hT with h | h | h | h
    · exact h1 h
    · exact h2 h
    · exact h3 h
    · exact h4 h) (Array.getElem?_eq_some_iff.1 hk).1).trans hk⟩
theorem Only.setCells {g : Nat} : ∀ (vs : List Value) (o : Nat) (W : World), Only g W (W.setCells g o vs)
  | [], _, _ => ⟨Nat.le_refl _, fun _ _ _ => rfl⟩
  | v :: r, o, W => Only.set1.trans (Only.setCells r (o + 1) (W.setCell ⟨g, o, none⟩ v))
theorem below_setCells {B g : Nat} (hg : B ≤ g) {w : World} : ∀ (vs : List Value) (o : Nat) (W : World), Below B w W → Below B w (W.setCells g o vs)
  | [], _, _, h => h
  | v :: r, o, _, h => below_setCells hg r (o + 1) _ (h.setCell (p := ⟨g, o, none⟩) hg v)
/-- clear of what is left of a row of reads -/
theorem run_clear_reads {W : World} {base g cap : Nat} {L : List Ce.Rd} (h : RdE.Own 86 W base (some ⟨g, 0, none⟩) cap L) (i : Nat) (hi : i < L.length) :
    ∃ vs, ∀ (ty : TypeId) (c : Nat), (Builtin.clear_ #[59] ty #[.slice (some ⟨g, i * 2, none⟩) (L.length - i) c]).run Tryz.prog W = .ok (.tuple #[]) (W.setCells g (i * 2) vs) := by
  obtain ⟨m, hm⟩ : ∃ m, L.length - i = m + 1 := ⟨L.length - i - 1, by omega⟩
  refine ⟨(Builtin.zeroCells (Value.agg #[.int .i64 0, .int .i64 0]).cells (m + 1)).toList, fun ty c => ?_⟩
  have hlen : (Builtin.zeroCells (Value.agg #[.int .i64 0, .int .i64 0]).cells (m + 1)).toList.length = (m + 1) * 2 := by
    simp [Builtin.zeroCells, Value.cells]
  have hst := run_storeCells_cells (P := Tryz.prog) g (i * 2) (Builtin.zeroCells (Value.agg #[.int .i64 0, .int .i64 0]).cells (m + 1)).toList 0 W
    (fun j hj => by
      rw [hlen] at hj
      rw [Nat.add_zero, World.ownsRow.cellAt h (i * 2 + j) (by show _ < L.length * 2; omega)]
      rw [List.getElem?_eq_getElem (by rw [El.row_len]; show _ < L.length * 2; omega)]
      rfl)
    (fun j _ => World.ownsRow.frozenAt h _)
    (fun v hv => by
      simp only [Builtin.zeroCells, Value.cells, Array.mem_toList_iff] at hv
      obtain ⟨j, hj, rfl⟩ := Array.mem_iff_getElem.1 hv
      simp
      have h5 : j % 2 < 2 := Nat.mod_lt _ (by decide)
      match hq : j % 2, h5 with
      | 0, _ => rfl
      | 1, _ => rfl)
  rw [Nat.add_zero] at hst
  rw [hm]
  simp [Builtin.clear_, run_underlying Tryz.underlying59, hst]

set_option maxHeartbeats 1000000 in
theorem tellF_any (x : Ce.Rd) (i : Int) (bx : Nat) (w : World) (hb : w.cell? ⟨bx, 0, none⟩ = some (.int .i64 i)) :
    Calls Tryz.prog 140 #[.agg #[.int .i64 x.cell, .int .i64 x.who], .pointer (some ⟨bx, 0, none⟩)] w fun e w' => e = .returned (.bool (x.cell == i)) ∧ Below w.heap.size w w' := by
  have hba : Below w.heap.size w (w.alloc (.cells #[.int .i64 x.cell, .int .i64 x.who] 86)) := (Below.refl _ _).alloc (Nat.le_refl _) _
  have c0 := (Stay.cell hb) _ hba
  have HB := Lib.hid hba
  have hbk := Blk.new w 86 #[.int .i64 x.cell, .int .i64 x.who]
  have x0 := hbk.cell 0
  dsimp at x0
  generalize x.cell = cc at *
  clear hb hba hbk
  by_cases h : cc = i
  · subst h
    have hq : (cc == cc) = true := by simp
    go_enter Tryz.func140, Tryz.ntmps140
    go_wp2
    go_ret
    exact ⟨by simp, HB.out⟩
  · have hq : (cc == i) = false := beq_eq_false_iff_ne.2 h
    rw [hq]
    go_enter Tryz.func140, Tryz.ntmps140
    go_wp2
    go_ret
    exact ⟨rfl, HB.out⟩

set_option maxRecDepth 100000 in
set_option maxHeartbeats 2000000 in
theorem delete1_any (x : Ce.Rd) (i : Int) (hx : x.cell = i) (q cap bx base : Nat) (w : World) (hbase : base ≤ w.heap.size) (ho : RdE.Own 86 w base (some ⟨q, 0, none⟩) cap [x]) (hbx : Blk w bx 3 #[.int .i64 i]) :
    Calls Tryz.prog 139 #[.slice (some ⟨q, 0, none⟩) 1 cap, .func (.func 140) #[] #[.pointer (some ⟨bx, 0, none⟩)]] w fun e w' => e = .returned (.slice (some ⟨q, 0, none⟩) 0 cap) ∧ RdE.Own 86 w' base (some ⟨q, 0, none⟩) cap [] ∧ Below base w w' ∧ (∀ y T cs, Blk w y T cs → y ≠ q → Blk w' y T cs) ∧ ∀ r, Fr r w w' := by
  have hI := rd_index [x] (by simp) (some ⟨q, 0, none⟩) cap (fun v => v.cell == i) 140 #[.pointer (some ⟨bx, 0, none⟩)] (enters_of Tryz.func140 (by kernel_rfl) rfl) w (Own.arg ho) (fun v _ W hb => tellF_any v i bx W ((hbx.below hb).cell 0))
  rw [show Ce.idxK (fun v : Ce.Rd => v.cell == i) [x] 0 = some 0 by simp [Ce.idxK, hx]] at hI
  have HI : Hid _ := Lib.hid hI
  have HOW := Lib.hid ho
  have hcap := (Own.le ho).1
  have hci : ¬ cap = 0 := by simp at hcap; omega
  have hc1 : (1 : Int) ≤ (cap : Int) := by simp at hcap; omega
  have hc0 : (0 : Int) ≤ (cap : Int) := by omega
  clear hI ho hbx hcap
  go_enter Tryz.func139, Tryz.ntmps139
  go_wp2_with fail
  refine HI.out.mono ?_
  rintro e w1 ⟨rfl, hb1⟩
  unfold optV
  have HB1 := Lib.hid hb1
  clear hb1
  go_wp2_with fail
  go_loopw [5, 6] (fun s5 s6 wr => s5 = .int .i64 0 ∧ s6 = .int .i64 1 ∧ wr = w1) (fun _ _ _ => 0)
  case atStart => exact ⟨rfl, rfl, rfl⟩
  case round =>
    obtain ⟨rfl, rfl, rfl⟩ := hrel
    have HO1 := Lib.hid (Own.below HOW.out HB1.out)
    obtain ⟨vs, hcl⟩ := run_clear_reads HO1.out 0 (by simp)
    simp only [Nat.zero_mul, List.length_singleton, Nat.sub_zero] at hcl
    have HE : Hid (RdE.Own 86 (wr.setCells q 0 vs) base (some ⟨q, 0, none⟩) cap [] ∧ Below base w (wr.setCells q 0 vs) ∧ (∀ y T cs, Blk w y T cs → y ≠ q → Blk (wr.setCells q 0 vs) y T cs) ∧ ∀ r, Fr r w (wr.setCells q 0 vs)) := Lib.hid (by
      obtain ⟨xs', k1, _⟩ := own_setCells vs 0 wr _ HO1.out
      have k3 := own_cut k1 (show 0 ≤ [x].length by simp)
      obtain ⟨cq, hq⟩ := HO1.out.blk rfl
      simp only [Nat.zero_mul, List.take_zero] at k3
      refine ⟨k3, below_setCells (HO1.out.lt q rfl).1 vs 0 wr (HB1.out.mono hbase), fun y T cs hy hne => (Only.setCells vs 0 wr).blk (hy.below HB1.out) hne, fun r => (Fr.below HB1.out).trans ((Only.setCells vs 0 wr).toFr hq (.inr (.inr (.inl rfl))))⟩)
    go_wp2
    go_ret
    exact ⟨rfl, HE.out⟩
end Go.Proofs.YtjldkndalcellaaGreatDoor

namespace Go.Proofs.YtjldkndalcellaaGreatDoor
open Go.RowKit Go.El

theorem Own.keptB {α : Type} {K : El α} {T : TypeId} {W W' : World} {base cap q : Nat} {A : Option Addr} {l : List α} (ho : K.Own T W base A cap l) (hk : ∀ y T cs, Blk W y T cs → y ≠ q → Blk W' y T cs) (h0 : some q ≠ (Value.slice A l.length cap).ownBlock) : K.Own T W' base A cap l := by
  refine ⟨ho.1, ?_⟩
  rcases ho.2 with hn | ⟨g, cap', cur, hv, hb, hh, x⟩
  · exact .inl hn
  · exact .inr ⟨g, cap', cur, hv, hb, hk g T cur hh (fun e => h0 (by rw [hv, ← e]; rfl)), x⟩
theorem td_info : (Tryz.prog.info? 79).map (fun i => (i.zero, i.size, i.bytes)) = some (some (.agg #[.int .i64 0, .int .u8 0, .int .i64 0]), 3, 24) := by kernel_rfl
/-- what stands while it is told -/
structure Tell (W : World) (B b g c r q cq bx : Nat) (T : Option Addr) (ct : Nat) (ts : List Ce.Td) : Prop where
  wk : Work W B b (some ⟨g, 0, none⟩) c [(⟨some ⟨r, 0, none⟩, 2, 2⟩, ⟨some ⟨q, 0, none⟩, 1, cq⟩)] 1 T ct ts
  rd : RdE.Own 86 W B (some ⟨q, 0, none⟩) cq [⟨1, 7⟩]
  vl : ValE.Own 57 W B (some ⟨r, 0, none⟩) 2 [Ce.hole, Ce.vint 5]
  bx_ : Blk W bx 3 #[.int .i64 1]
theorem Tell.below {W W' : World} {B b g c r q cq bx : Nat} {T : Option Addr} {ct : Nat} {ts : List Ce.Td} (h : Tell W B b g c r q cq bx T ct ts) (hb : Below W.heap.size W W') : Tell W' B b g c r q cq bx T ct ts := ⟨h.wk.below hb, Own.below h.rd hb, Own.below h.vl hb, h.bx_.below hb⟩
theorem Tell.at_ {W : World} {B b g c r q cq bx : Nat} {T : Option Addr} {ct : Nat} {ts : List Ce.Td} (h : Tell W B b g c r q cq bx T ct ts) :
    (W.cell? ⟨b, 1, none⟩ = some (.int .i64 1) ∧ W.cell? ⟨b, 2, none⟩ = some (.slice T ts.length ct)) ∧ (W.cell? ⟨g, 0, none⟩ = some (.slice (some ⟨r, 0, none⟩) 2 2) ∧ W.cell? ⟨g, 1, none⟩ = some (.slice (some ⟨q, 0, none⟩) 1 cq)) ∧ (W.cell? ⟨q, 0, none⟩ = some (.int .i64 1) ∧ W.cell? ⟨q, 1, none⟩ = some (.int .i64 7)) ∧ (W.cell? ⟨r, 2, none⟩ = some (.int .u8 1) ∧ W.cell? ⟨r, 3, none⟩ = some (.int .i64 5)) ∧ W.cell? ⟨bx, 0, none⟩ = some (.int .i64 1) := by
  obtain ⟨r', hA, _, _, hin⟩ := Own.in_ h.vl (by simp)
  injection hA with hA
  injection hA with hA
  subst hA
  obtain ⟨q', hA, _, _, hiq⟩ := Own.in_ h.rd (by simp)
  injection hA with hA
  injection hA with hA
  subst hA
  exact ⟨⟨h.wk.blk.cell 1, h.wk.blk.cell 2⟩, ⟨h.wk.at1.1, h.wk.at1.2.1⟩, ⟨hiq 0 _ rfl 0 _ rfl, hiq 0 _ rfl 1 _ rfl⟩, ⟨hin 1 _ rfl 0 _ rfl, hin 1 _ rfl 1 _ rfl⟩, h.bx_.cell 0⟩
theorem Tell.told {W W' : World} {B b g c r q cq bx : Nat} {T T' : Option Addr} {ct ct' : Nat} {ts ts' : List Ce.Td} (h : Tell W B b g c r q cq bx T ct ts) (hg : W.grownBy W' (Value.slice T ts.length ct).ownBlock) (ht : TdE.Own 79 W' B T' ct' ts') :
    Blk W' b 113 #[.slice (some ⟨g, 0, none⟩) 1 c, .int .i64 1, .slice T ts.length ct] ∧ Tell (W'.setCell ⟨b, 2, none⟩ (.slice T' ts'.length ct')) B b g c r q cq bx T' ct' ts' := by
  have hb' := h.wk.blk.kept hg (Own.ne_blk h.wk.tds h.wk.blk (by decide))
  refine ⟨hb', Work.setT hb' h.wk.hB (h.wk.sts.kept hg (own_own_ne h.wk.sts h.wk.tds (by decide))) ht, Only.set1.ownT hb' (h.rd.kept hg (own_own_ne h.rd h.wk.tds (by decide))) (by decide), Only.set1.ownT hb' (h.vl.kept hg (own_own_ne h.vl h.wk.tds (by decide))) (by decide), Only.set1.blk (h.bx_.kept hg (Own.ne_blk h.wk.tds h.bx_ (by decide))) (fun e => ?_)⟩
  have e1 := h.wk.blk
  rw [← e] at e1
  have e' : some _ = some _ := (show Blk _ _ _ _ from e1).symm.trans h.bx_
  injection e' with e'
  injection e' with _ ht
  exact absurd ht (by decide)

def ldTell : Oper := { dst := some 31, op := Op.load 71 (Operand.tmp 30), type := 71, pos := "work.go:81", after := #[{ on := 3, ground := Ground.data }], guard := none }
def ldTold : Oper := { dst := some 59, op := Op.load 3 (Operand.tmp 58), type := 3, pos := "work.go:85", after := #[{ on := 2, ground := Ground.data }], guard := none }
attribute [local go_sem] ldTell ldTold
set_option maxRecDepth 100000 in
set_option maxHeartbeats 8000000 in
theorem tell1_any (B b g c r q cq : Nat) (T : Option Addr) (ct : Nat) (w : World) (hBw : B ≤ w.heap.size) (hw : Work w B b (some ⟨g, 0, none⟩) c [(⟨some ⟨r, 0, none⟩, 2, 2⟩, ⟨some ⟨q, 0, none⟩, 1, cq⟩)] 1 T ct []) (hq : RdE.Own 86 w B (some ⟨q, 0, none⟩) cq [⟨1, 7⟩]) (hv : ValE.Own 57 w B (some ⟨r, 0, none⟩) 2 [Ce.hole, Ce.vint 5]) :
    Calls Tryz.prog 128 #[.pointer (some ⟨b, 0, none⟩), .pointer (some ⟨g, 0, none⟩), .int .i64 1] w fun e w' => e = .returned (.tuple #[]) ∧ One w' B b r [Ce.hole, Ce.vint 5] [] 0 [⟨7, Ce.vint 5⟩] ∧ w'.cell? ⟨b, 0, none⟩ = some (.slice (some ⟨g, 0, none⟩) 1 c) ∧ Below B w w' ∧ Fr r w w' := by
  have hb1 : Below w.heap.size w (w.alloc (.cells #[.int .i64 1] 3)) := (Below.refl _ _).alloc (Nat.le_refl _) _
  have HT0 : Hid (Tell (w.alloc (.cells #[.int .i64 1] 3)) B b g c r q cq w.heap.size T ct []) := Lib.hid ⟨hw.below hb1, Own.below hq hb1, Own.below hv hb1, Blk.new _ _ _⟩
  have HF0 : Hid (Below B w (w.alloc (.cells #[.int .i64 1] 3)) ∧ Fr r w (w.alloc (.cells #[.int .i64 1] 3))) := Lib.hid ⟨hb1.mono hBw, Fr.below hb1⟩
  have hbl := hw.blk.lt
  have hgl := hw.at1.2.2.2
  have hql := (hq.lt q rfl).2
  have hrl := (hv.lt r rfl).2
  have hBb := hw.hB
  obtain ⟨⟨t1, t2⟩, ⟨t3, t4⟩, _, _, t5⟩ := HT0.out.at_
  clear hb1 hw hq hv
  go_enter Tryz.func128, Tryz.ntmps128
  go_wp2_with fail
  generalize hWX : World.alloc _ _ = WX at *
  clear hWX
  go_loopw [19] (fun i wr => w.heap.size < wr.heap.size ∧ ((i = .int .i64 0 ∧ Hid (Tell wr B b g c r q cq w.heap.size T ct []) ∧ Hid (Below B w wr ∧ Fr r w wr)) ∨ (∃ T' ct', i = .int .i64 1 ∧ Hid (Tell wr B b g c r q cq w.heap.size T' ct' [⟨7, Ce.vint 5⟩]) ∧ Hid (Below B w wr ∧ Fr r w wr)))) (fun i _ => 1 - (intOf i).toNat)
  case atStart => exact ⟨HT0.out.bx_.lt, .inl ⟨rfl, HT0, HF0⟩⟩
  case round =>
    clear HT0 HF0 t1 t2 t3 t4 t5
    obtain ⟨hwz, ⟨rfl, HT, HF⟩ | ⟨T', ct', rfl, HT, HF⟩⟩ := hrel
    · obtain ⟨⟨t1, t2⟩, ⟨t3, t4⟩, ⟨t6, t7⟩, ⟨t8, t9⟩, t5⟩ := HT.out.at_
      have hba : Below wr.heap.size wr (wr.alloc (.cells #[.int .i64 1, .int .i64 7] 86)) := (Below.refl _ _).alloc (Nat.le_refl _) _
      have HT1 := Lib.hid (HT.out.below hba)
      have HN1 := Lib.hid (Blk.new wr 86 #[.int .i64 1, .int .i64 7])
      have HF1 := Lib.hid (show Below B w _ ∧ Fr r w _ from ⟨HF.out.1.trans (hba.mono (by omega)), HF.out.2.trans (Fr.below hba)⟩)
      obtain ⟨⟨s1, s2⟩, ⟨s3, s4⟩, ⟨s6, s7⟩, ⟨s8, s9⟩, s5⟩ := HT1.out.at_
      have n0 := HN1.out.cell 0
      have n1 := HN1.out.cell 1
      dsimp at n0 n1
      go_wp2_with fail
      generalize hWY : World.alloc _ _ = WY at *
      clear hWY hba t1 t2 t3 t4 t5 t6 t7 t8 t9
      have hz0 := HT1.out.bx_.lt
      have hz1 := HN1.out.lt
      have hbl2 : b < WY.heap.size := by omega
      have hne1 : b ≠ wr.heap.size := by omega
      have hne2 : wr.heap.size ≠ b := by omega
      have hne3 : b ≠ w.heap.size := by omega
      have hne4 : w.heap.size ≠ b := by omega
      have hbg : b ≠ g := fun e => by
        obtain ⟨cs, hg⟩ := HT1.out.wk.stBlk
        rw [← e] at hg
        have e' : some _ = some _ := (show Blk _ _ _ _ from hg).symm.trans HT1.out.wk.blk
        injection e' with e'
        injection e' with _ ht
        exact absurd ht (by decide)
      have hgb : g ≠ b := fun e => hbg e.symm
      have hbr : b ≠ r := fun e => by
        obtain ⟨cs, hg⟩ := HT1.out.vl.blk (g := r) rfl
        rw [← e] at hg
        have e' : some _ = some _ := hg.symm.trans HT1.out.wk.blk
        injection e' with e'
        injection e' with _ ht
        exact absurd ht (by decide)
      have hrb : r ≠ b := fun e => hbr e.symm
      have HX3 : Hid (Below WY.heap.size WY (WY.alloc (.cells #[.int .i64 7, .int .u8 1, .int .i64 5] 79)).drew) := Lib.hid ((Below.refl _ _).alloc (Nat.le_refl _) _).drew
      have HARG : Hid (TdE.Arg (WY.alloc (.cells #[.int .i64 7, .int .u8 1, .int .i64 5] 79)).drew (some ⟨WY.heap.size, 0, none⟩) [⟨7, Ce.vint 5⟩]) := Lib.hid ((row_arg (K := TdE) (W := WY) (t := 79) (cs := #[.int .i64 7, .int .u8 1, .int .i64 5]) rfl rfl).below (Below.refl _ _).drew)
      clear n0 s6 s7 s4 s1
      rw [show ({ dst := some 31, op := Op.load 71 (Operand.tmp 30), type := 71, pos := "work.go:81", after := #[{ on := 3, ground := Ground.data }], guard := none } : Oper) = ldTell from rfl]
      go_region_held3 (fun W => W.cell? ⟨wr.heap.size, 1, none⟩ = some (.int .i64 7) ∧ W.cell? ⟨g, 0, none⟩ = some (.slice (some ⟨r, 0, none⟩) 2 2) ∧ W.cell? ⟨w.heap.size, 0, none⟩ = some (.int .i64 1) ∧ W.cell? ⟨r, 2, none⟩ = some (.int .u8 1) ∧ W.cell? ⟨r, 3, none⟩ = some (.int .i64 5))
        (go_keep)
        (first
          | (refine step_append_any TdE _ rfl _ _ 71 79 rfl Tryz.underlying71 td_info rfl B T ct _ [] [⟨7, Ce.vint 5⟩] _ _ _ rfl rfl rfl rfl (fun hh => by cases hh) (Own.below HT1.out.wk.tds HX3.out) HARG.out (by simp [maxLen]) (by simp) (by have := HX3.out.size; omega) ?_; intro A4 c4 w4 hown4 hgrow4
             have ht4 := (HT1.out.below HX3.out)
             have hn4 := (HN1.out.below HX3.out).kept hgrow4 (Own.ne_blk ht4.wk.tds (HN1.out.below HX3.out) (by decide))
             have hb4 := (ht4.told hgrow4 hown4).1
             have v2 := hb4.cell 2
             have vf := hb4.frozen 2
             have vl := hb4.lt
             have vn := hn4.cell 1
             have vx := (ht4.bx_.kept hgrow4 (Own.ne_blk ht4.wk.tds ht4.bx_ (by decide))).cell 0
             obtain ⟨gs, hgs⟩ := ht4.wk.stBlk
             have vg := World.grownBy.cell hgrow4 ht4.at_.2.1.1 (Own.ne_blk ht4.wk.tds hgs (by decide))
             obtain ⟨rs, hrs⟩ := ht4.vl.blk (g := r) rfl
             have vr0 := World.grownBy.cell hgrow4 ht4.at_.2.2.2.1.1 (Own.ne_blk ht4.wk.tds hrs (by decide))
             have vr1 := World.grownBy.cell hgrow4 ht4.at_.2.2.2.1.2 (Own.ne_blk ht4.wk.tds hrs (by decide))))
      all_goals
        have HT5 := Lib.hid (ht4.told hgrow4 hown4).2
        have HF5 : Hid (Below B w (w4.setCell ⟨b, 2, none⟩ (.slice A4 1 c4)) ∧ Fr r w (w4.setCell ⟨b, 2, none⟩ (.slice A4 1 c4))) := Lib.hid ⟨((HF1.out.1.trans (HX3.out.mono (by omega))).grown hgrow4 (by have := HX3.out.size; omega) (fun j hj => (ht4.wk.tds.lt j hj).1)).setCell (p := ⟨b, 2, none⟩) hBb _, ((HF1.out.2.trans (Fr.below HX3.out)).trans (Fr.grown ht4.wk.tds (.inr (.inr (.inr rfl))) hgrow4)).trans (Fr.set hb4 (.inl rfl))⟩
        clear hn4 hb4 v2 vf vl vn vx vg vr0 vr1 hgs hrs ht4
        go_wp2_with fail
        go_roundw
        case rel => exact ⟨HT5.out.bx_.lt, .inr ⟨A4, c4, by go_num, HT5, HF5⟩⟩
        case measure => simp [intOf]
    · obtain ⟨⟨t1, t2⟩, ⟨t3, t4⟩, ⟨t6, t7⟩, ⟨t8, t9⟩, t5⟩ := HT.out.at_
      have HD := Lib.hid (delete1_any ⟨1, 7⟩ 1 rfl q cq w.heap.size B wr (by omega) HT.out.rd HT.out.bx_)
      clear t6 t7 t8 t9
      go_wp2_with fail
      refine HD.out.mono ?_
      rintro e w2 ⟨rfl, ho2, hb2, hk2, hf2⟩
      have hblk2 := hk2 _ _ _ HT.out.wk.blk (fun e => by
        obtain ⟨cs, hg⟩ := HT.out.rd.blk (g := q) rfl
        rw [← e] at hg
        have e' : some _ = some _ := hg.symm.trans HT.out.wk.blk
        injection e' with e'
        injection e' with _ ht
        exact absurd ht (by decide))
      obtain ⟨qs, hqs⟩ := HT.out.rd.blk (g := q) rfl
      have HW2 : Hid (Work w2 B b (some ⟨g, 0, none⟩) c [(⟨some ⟨r, 0, none⟩, 2, 2⟩, ⟨some ⟨q, 0, none⟩, 1, cq⟩)] 1 T' ct' [⟨7, Ce.vint 5⟩]) := Lib.hid ⟨hBb, hblk2, Own.keptB HT.out.wk.sts hk2 (Own.ne_blk HT.out.wk.sts hqs (by decide)), Own.keptB HT.out.wk.tds hk2 (Own.ne_blk HT.out.wk.tds hqs (by decide))⟩
      have hgne : ∃ gs, Blk w2 g 61 gs := HW2.out.stBlk
      obtain ⟨gs, hgs⟩ := hgne
      have HR3 := Lib.hid (Only.set1 (y := g) (o := 1) (a := .slice (some ⟨q, 0, none⟩) 0 cq) |>.ownT hgs ho2 (by decide))
      have HV3 := Lib.hid (Only.set1 (y := g) (o := 1) (a := .slice (some ⟨q, 0, none⟩) 0 cq) |>.ownT hgs (Own.keptB HT.out.vl hk2 (Own.ne_blk HT.out.vl hqs (by decide))) (by decide))
      have HW3 := Lib.hid (HW2.out.setW (some ⟨q, 0, none⟩) 0 cq)
      have HF3 : Hid (Below B w (w2.setCell ⟨g, 1, none⟩ (.slice (some ⟨q, 0, none⟩) 0 cq)) ∧ Fr r w (w2.setCell ⟨g, 1, none⟩ (.slice (some ⟨q, 0, none⟩) 0 cq))) := Lib.hid ⟨(HF.out.1.trans hb2).setCell (p := ⟨g, 1, none⟩) (HW2.out.sts.lt g rfl).1 _, (HF.out.2.trans (hf2 r)).trans (Fr.set hgs (.inr (.inl rfl)))⟩
      obtain ⟨k0, k1, kf, kl⟩ := HW2.out.at1
      have hbg : b ≠ g := fun e => by
        rw [← e] at hgs
        have e' : some _ = some _ := (show Blk _ _ _ _ from hgs).symm.trans HW2.out.blk
        injection e' with e'
        injection e' with _ ht
        exact absurd ht (by decide)
      have hgb : g ≠ b := fun e => hbg e.symm
      have m1 := HW2.out.blk.cell 1
      have m2 := HW2.out.blk.cell 2
      dsimp at m1 m2
      clear k0 ho2 hb2 hk2 hf2 hblk2 hqs hgs t1 t2 t3 t4 t5 HD
      go_wp2_with fail
      generalize hW3 : World.setCell w2 _ _ = W3 at *
      clear hW3 m1 m2 k1 kf kl
      have m1 := HW3.out.blk.cell 1
      have mf := HW3.out.blk.frozen 1
      have ml := HW3.out.blk.lt
      obtain ⟨_, k1, _, kl⟩ := HW3.out.at1
      dsimp at m1
      unfold Sl.val at k1
      dsimp at k1
      rw [show ({ dst := some 59, op := Op.load 3 (Operand.tmp 58), type := 3, pos := "work.go:85", after := #[{ on := 2, ground := Ground.data }], guard := none } : Oper) = ldTold from rfl]
      go_region_held3 (fun W => W.cell? ⟨g, 1, none⟩ = some (.slice (some ⟨q, 0, none⟩) 0 cq))
        (go_keep)
        (first | (fail "none"))
      all_goals
        have hd := (Below.refl W3.heap.size W3).drew
        have HW4 := Lib.hid ((HW3.out.below hd).setN 0)
        have HB4 := Lib.hid (HW3.out.below hd).blk
        go_wp2
        go_end0
        refine ⟨rfl, ⟨⟨g, c, some ⟨q, 0, none⟩, cq, T', ct', HW4.out, (Only.set1 (W := W3.drew)).ownT HB4.out (Own.below HR3.out hd) (by decide)⟩, (Only.set1 (W := W3.drew)).ownT HB4.out (Own.below HV3.out hd) (by decide), rfl⟩, HW4.out.blk.cell 0, ?_, (HF3.out.2.trans (Fr.below hd)).trans (Fr.set HB4.out (.inl rfl))⟩
        exact (HF3.out.1.trans (hd.mono (by have := HF3.out.1.size; omega))).setCell (p := ⟨b, 1, none⟩) hBb _
end Go.Proofs.YtjldkndalcellaaGreatDoor

namespace Go.Proofs.YtjldkndalcellaaGreatDoor
open Go.RowKit Go.El

theorem One.only {W W' : World} {B b r y : Nat} {cells : List Ce.V} {ws : List Ce.Rd} {n : Int} {ts : List Ce.Td} (h : One W B b r cells ws n ts) (hO : Only y W W') {cs : Array Value} (hy : Blk W y 57 cs) (hne : r ≠ y) : One W' B b r cells ws n ts := by
  obtain ⟨⟨g, c, Q, cq, T, ct, hw, hq⟩, hv, hl⟩ := h
  exact ⟨⟨g, c, Q, cq, T, ct, hO.work hy hw, hO.ownT hy hq (by decide)⟩, hO.own hv (fun a ha => by injection ha with ha; subst ha; exact hne), hl⟩
set_option maxRecDepth 100000 in
set_option maxHeartbeats 4000000 in
theorem write_in (B b r : Nat) (w : World) (h : One w B b r [Ce.hole, Ce.hole] [⟨1, 7⟩] 1 []) (hBw : B ≤ w.heap.size) :
    Calls Tryz.prog 109 #[.pointer (some ⟨b, 0, none⟩), opArg 2 4 0 1 1 1 5 0] w fun e w' => e = .returned (.tuple #[.agg #[.int .u8 3, .int .i64 0], .int .i64 0]) ∧ One w' B b r [Ce.hole, Ce.vint 5] [] 0 [⟨7, Ce.vint 5⟩] ∧ Below B w w' ∧ Fr r w w' := by
  have hb1 : Below w.heap.size w (w.alloc (.cells (opCells 2 4 0 1 1 1 5 0) 75)) := (Below.refl _ _).alloc (Nat.le_refl _) _
  have hb2 := hb1.alloc (by simp) (.cells #[.int .u8 0, .int .i64 0] 57)
  have HB2 := Lib.hid hb2
  have hrl : r < w.heap.size := (h.vals.lt r rfl).2
  have hBr : B ≤ r := (h.vals.lt r rfl).1
  have hbl : b < w.heap.size := by
    obtain ⟨_, _, _, _, _, _, hw, _⟩ := h.ex
    exact hw.blk.lt
  obtain ⟨⟨g, c, Q, cq, T, ct, hw, hq⟩, hv, _⟩ := h.below hb2
  obtain ⟨q, hA, _, _, _⟩ := Own.in_ hq (by simp)
  subst hA
  have HW := Lib.hid hw
  have HQ := Lib.hid hq
  have HV := Lib.hid hv
  have HY := Lib.hid (Blk.new (w.alloc (.cells (opCells 2 4 0 1 1 1 5 0) 75)) 57 #[.int .u8 0, .int .i64 0])
  have HO := Lib.hid ((Blk.new w 75 (opCells 2 4 0 1 1 1 5 0)).alloc (.cells #[.int .u8 0, .int .i64 0] 57))
  simp only [World.size_alloc] at HY
  have HCELL := Lib.hid (cell_in b g r c _ (hw.blk.cell 0) hw.at1.1)
  have HEM := Lib.hid (fun W => empty_any W)
  have HH := Lib.hid (fun W => isHole_any Ce.hole W)
  rw [isHole_hole] at HH
  have FACTS : Hid (∀ W, Below ((w.alloc (.cells (opCells 2 4 0 1 1 1 5 0) 75)).alloc (.cells #[.int .u8 0, .int .i64 0] 57)).heap.size ((w.alloc (.cells (opCells 2 4 0 1 1 1 5 0) 75)).alloc (.cells #[.int .u8 0, .int .i64 0] 57)) W →
      W.cell? ⟨b, 0, none⟩ = some (.slice (some ⟨g, 0, none⟩) 1 c) ∧ ((W.cell? ⟨r, 2, none⟩ = some (.int .u8 0) ∧ W.frozen? ⟨r, 2, none⟩ = false) ∧ (W.cell? ⟨r, 3, none⟩ = some (.int .i64 0) ∧ W.frozen? ⟨r, 3, none⟩ = false)) ∧
      W.cell? ⟨w.heap.size, 0, none⟩ = some (.int .u8 2) ∧ W.cell? ⟨w.heap.size, 1, none⟩ = some (.int .u8 4) ∧ W.cell? ⟨w.heap.size, 2, none⟩ = some (.int .i64 0) ∧ W.cell? ⟨w.heap.size, 3, none⟩ = some (.int .u8 1) ∧ W.cell? ⟨w.heap.size, 4, none⟩ = some (.int .i64 1) ∧ W.cell? ⟨w.heap.size, 5, none⟩ = some (.int .u8 1) ∧ W.cell? ⟨w.heap.size, 6, none⟩ = some (.int .i64 5) ∧ W.cell? ⟨w.heap.size, 7, none⟩ = some (.int .i64 0)) := Lib.hid fun W hb => by
    have hw' := HW.out.below hb
    have hv' := Own.below HV.out hb
    obtain ⟨r', hA, _, _, hin⟩ := Own.in_ hv' (by simp)
    injection hA with hA
    injection hA with hA
    subst hA
    exact ⟨hw'.blk.cell 0, ⟨⟨hin 1 _ rfl 0 _ rfl, World.ownsRow.frozenAt hv' 2⟩, ⟨hin 1 _ rfl 1 _ rfl, World.ownsRow.frozenAt hv' 3⟩⟩, op_at (HO.out.below hb)⟩
  obtain ⟨_, _, o0, o1, o2, o3, o4, o5, o6, o7⟩ := FACTS.out _ (Below.refl _ _)
  unfold opCells at *
  unfold opArg opCells
  clear hb1 hb2 h hw hq hv
  go_enter Tryz.func109, Tryz.ntmps109
  go_wp2_with fail
  generalize hWX : World.alloc _ _ = WX at *
  clear hWX
  refine HCELL.out.mono ?_
  rintro e w1 ⟨rfl, hb1⟩
  have HB1 := Lib.hid hb1
  clear o0 o1 o2 o3 o4 o5 o6 o7
  obtain ⟨b0, ⟨⟨r0, rf0⟩, ⟨r1, rf1⟩⟩, o0, o1, o2, o3, o4, o5, o6, o7⟩ := FACTS.out w1 hb1
  clear hb1
  go_wp2_with fail
  refine (HH.out _).mono ?_
  rintro e w2 ⟨rfl, hb2⟩
  have HB2' := Lib.hid (HB1.out.trans (hb2.mono HB1.out.size))
  clear b0 r0 r1 rf0 rf1 o0 o1 o2 o3 o4 o5 o6 o7 hb2
  obtain ⟨b0, ⟨⟨r0, rf0⟩, ⟨r1, rf1⟩⟩, o0, o1, o2, o3, o4, o5, o6, o7⟩ := FACTS.out w2 HB2'.out
  -- the cell written
  have hO3 := Only.set1 (y := r) (o := 2) (W := w2) (a := .int .u8 1) |>.trans (Only.set1 (y := r) (o := 3) (a := .int .i64 5))
  obtain ⟨rs, hrs⟩ := (Own.below HV.out HB2'.out).blk (g := r) rfl
  have HW3 := Lib.hid (hO3.workT hrs (by decide) (by decide) (by decide) (HW.out.below HB2'.out))
  have HQ3 := Lib.hid (hO3.ownT hrs (Own.below HQ.out HB2'.out) (by decide))
  have HV3 : Hid (ValE.Own 57 ((w2.setCell ⟨r, 2, none⟩ (.int .u8 1)).setCell ⟨r, 3, none⟩ (.int .i64 5)) B (some ⟨r, 0, none⟩) 2 [Ce.hole, Ce.vint 5]) := Lib.hid (World.ownsRow.stored (World.ownsRow.stored (Own.below HV.out HB2'.out) 2 (.int .u8 1)).1 3 (.int .i64 5)).1
  have HO3 := Lib.hid (hO3.blk (HO.out.below HB2'.out) (by omega))
  have HY3 := Lib.hid (hO3.blk (HY.out.below HB2'.out) (by omega))
  have HF3 : Hid (Below B w ((w2.setCell ⟨r, 2, none⟩ (.int .u8 1)).setCell ⟨r, 3, none⟩ (.int .i64 5)) ∧ Fr r w ((w2.setCell ⟨r, 2, none⟩ (.int .u8 1)).setCell ⟨r, 3, none⟩ (.int .i64 5))) := Lib.hid ⟨(((HB2.out.trans (HB2'.out.mono HB2.out.size)).mono hBw).setCell (p := ⟨r, 2, none⟩) hBr _).setCell (p := ⟨r, 3, none⟩) hBr _, ((Fr.below (HB2.out.trans (HB2'.out.mono HB2.out.size))).trans Fr.setr).trans Fr.setr⟩
  have hne1 : r ≠ w.heap.size := by omega
  have hne2 : w.heap.size ≠ r := by omega
  have HTELL := Lib.hid (fun W (h1 : Below ((w2.setCell ⟨r, 2, none⟩ (.int .u8 1)).setCell ⟨r, 3, none⟩ (.int .i64 5)).heap.size ((w2.setCell ⟨r, 2, none⟩ (.int .u8 1)).setCell ⟨r, 3, none⟩ (.int .i64 5)) W) => tell1_any B b g c r q cq T ct W (Nat.le_trans (by have := HF3.out.1.size; omega) h1.size) (HW3.out.below h1) (Own.below HQ3.out h1) (Own.below HV3.out h1))
  clear hO3 hrs
  go_wp2_with fail
  generalize hW3 : World.setCell (World.setCell w2 _ _) _ _ = W3 at *
  clear hW3 b0 r0 r1 rf0 rf1 o0 o1 o2 o3 o4 o5 o6 o7
  have b0 := HW3.out.blk.cell 0
  obtain ⟨o0, o1, o2, o3, o4, o5, o6, o7⟩ := op_at HO3.out
  dsimp at b0
  go_region_held3 (fun W => W.cell? ⟨b, 0, none⟩ = some (.slice (some ⟨g, 0, none⟩) 1 c) ∧ W.cell? ⟨w.heap.size, 2, none⟩ = some (.int .i64 0) ∧ W.cell? ⟨w.heap.size, 4, none⟩ = some (.int .i64 1))
    (go_keep)
    (first
      | (go_at_call 128; refine (HTELL.out _ (Below.refl _ _).drew).mono ?_; rintro e w4 ⟨rfl, hone, v0, hb4, hf4⟩
         have ho4 := hf4.blk (HO3.out.below (Below.refl _ _).drew) (by omega) (by decide) (by decide) (by decide) (by decide)
         have v2 := ho4.cell 2
         have v4 := ho4.cell 4))
  all_goals
    have HONE := Lib.hid hone
    have HF4 : Hid (Below B w w4 ∧ Fr r w w4) := Lib.hid ⟨HF3.out.1.trans ((Below.refl _ _).drew.trans hb4), (HF3.out.2.trans (Fr.below (Below.refl _ _).drew)).trans hf4⟩
    have HY4 := Lib.hid (hf4.blk (HY3.out.below (Below.refl _ _).drew) (by omega) (by decide) (by decide) (by decide) (by decide))
    clear hone hb4 hf4 ho4 v0 v2 v4 b0 o0 o1 o2 o3 o4 o5 o6 o7
    go_wp2_with fail
    refine (HEM.out _).mono ?_
    rintro e w5 ⟨rfl, hb5⟩
    have HY5 := Lib.hid (HY4.out.below hb5)
    have z0 := HY5.out.cell 0
    have z1 := HY5.out.cell 1
    have zf0 := HY5.out.frozen 0
    have zf1 := HY5.out.frozen 1
    dsimp at z0 z1
    have HB5 := Lib.hid hb5
    clear hb5
    go_wp2
    refine bodyPost_ret (results_row_tmp rfl _ _ (w.heap.size + 1) 57 #[.int .u8 3, .int .i64 0] (0, 0) _ rfl ((HY5.out.set_ 0 _).set_ 1 _) Tryz.underlying57 rfl val_size) rfl ?_
    have hO := Only.set2 (y := w.heap.size + 1) (W := w5) (a := .int .u8 3) (c := .int .i64 0)
    exact ⟨rfl, (HONE.out.below HB5.out).only hO HY5.out (by omega), ((HF4.out.1.trans (HB5.out.mono (by have := HF4.out.2.1; omega))).setCell (p := ⟨w.heap.size + 1, 0, none⟩) (by dsimp; omega) _).setCell (p := ⟨w.heap.size + 1, 1, none⟩) (by dsimp; omega) _, hO.fr (HF4.out.2.trans (Fr.below HB5.out)) (by omega)⟩
end Go.Proofs.YtjldkndalcellaaGreatDoor

namespace Go.Proofs.YtjldkndalcellaaGreatDoor
open Go.RowKit Go.El

/-- how the work stands behind so many of the operations -/
def StAfter (W : World) (B b r : Nat) : Nat → Prop
  | 0 => Work W B b none 0 [] 0 none 0 []
  | 1 => One W B b r [Ce.hole, Ce.hole] [] 0 []
  | 2 => One W B b r [Ce.hole, Ce.hole] [⟨1, 7⟩] 1 []
  | _ => One W B b r [Ce.hole, Ce.vint 5] [] 0 [⟨7, Ce.vint 5⟩]
theorem StAfter.below {W W' : World} {B b r : Nat} (hb : Below W.heap.size W W') : ∀ {k : Nat}, StAfter W B b r k → StAfter W' B b r k
  | 0, h => Work.below h hb
  | 1, h => One.below h hb
  | 2, h => One.below h hb
  | _ + 3, h => One.below h hb
def gave : List Ce.V := [Ce.vref 0, Ce.hole, Ce.vnil, Ce.vbad 3]

set_option maxRecDepth 100000 in
set_option maxHeartbeats 2000000 in
theorem do_0 (B b r : Nat) (w : World) (h : StAfter w B b r 0) (hBw : B ≤ w.heap.size) :
    Calls Tryz.prog 68 #[.pointer (some ⟨b, 0, none⟩), opArg 1 1 2 0 0 0 0 0] w fun e w' => e = .returned (.tuple #[.agg #[.int .u8 4, .int .i64 0], .int .i64 0]) ∧ (∃ r', (r' = r ∨ w.heap.size ≤ r') ∧ StAfter w' B b r' 1) ∧ Below B w w' ∧ Fr r w w' := by
  have hb1 : Below w.heap.size w (w.alloc (.cells (opCells 1 1 2 0 0 0 0 0) 75)) := (Below.refl _ _).alloc (Nat.le_refl _) _
  have hb2 := hb1.alloc (by simp) (.cells #[.int .u8 0, .int .i64 0] 57)
  have HB2 := Lib.hid hb2
  have HP := Lib.hid (h.below hb2)
  have HY := Lib.hid (Blk.new (w.alloc (.cells (opCells 1 1 2 0 0 0 0 0) 75)) 57 #[.int .u8 0, .int .i64 0])
  have HO := Lib.hid ((Blk.new w 75 (opCells 1 1 2 0 0 0 0 0)).alloc (.cells #[.int .u8 0, .int .i64 0] 57))
  simp only [World.size_alloc] at HY

  obtain ⟨o0, o1, o2, o3, o4, o5, o6, o7⟩ := op_at HO.out
  have HTK : Hid (Calls Tryz.prog 107 #[.pointer (some ⟨b, 0, none⟩), opArg 1 1 2 0 0 0 0 0] ((w.alloc (.cells (opCells 1 1 2 0 0 0 0 0) 75)).alloc (.cells #[.int .u8 0, .int .i64 0] 57)) fun e w' => e = .returned (.bool true) ∧ Below _ _ w') := Lib.hid (by
    exact takes_k1 0 b none 0 1 2 0 0 0 0 0 _ ((show Work _ B b none 0 [] 0 none 0 [] from HP.out).blk.cell 0) (by decide) (by decide))
  have HCALL := Lib.hid (fun W (hb : Below ((w.alloc (.cells (opCells 1 1 2 0 0 0 0 0) 75)).alloc (.cells #[.int .u8 0, .int .i64 0] 57)).heap.size ((w.alloc (.cells (opCells 1 1 2 0 0 0 0 0) 75)).alloc (.cells #[.int .u8 0, .int .i64 0] 57)) W) => alloc2_any B b none 0 [] 0 none 0 [] W (Work.below (show Work _ B b none 0 [] 0 none 0 [] from HP.out) hb) (by have := HB2.out.size; have := hb.size; omega) (by simp))
  unfold opArg opCells at *
  clear hb1 hb2 h
  go_enter Tryz.func68, Tryz.ntmps68
  go_wp2_with fail
  generalize hWX : World.alloc _ _ = WX at *
  clear hWX
  refine HTK.out.mono ?_
  rintro e w1 ⟨rfl, hb1⟩
  have HB1 := Lib.hid hb1
  clear o0 o1 o2 o3 o4 o5 o6 o7
  obtain ⟨o0, o1, o2, o3, o4, o5, o6, o7⟩ := op_at (HO.out.below hb1)
  clear hb1
  go_wp2_with fail
  refine (HCALL.out w1 HB1.out).mono ?_
  rintro e w2 ⟨rfl, ⟨r2, A2, c2, hr2, hwk, hvl⟩, hb2, hf2⟩
  have hsz0 : w.heap.size + 1 < w1.heap.size := (HY.out.below HB1.out).lt
  obtain ⟨g2, hA2, _⟩ := Own.in_ hwk.sts (by simp)
  subst hA2
  have HP2 : Hid (One w2 B b r2 [Ce.hole, Ce.hole] [] 0 []) := Lib.hid ⟨⟨g2, c2, none, 0, none, 0, hwk, Own.nil _ _ _ _⟩, hvl, rfl⟩
  have HF2 : Hid (Below B w w2 ∧ Fr r w w2) := Lib.hid ⟨((HB2.out.trans (HB1.out.mono HB2.out.size)).mono hBw).trans hb2, (Fr.below (HB2.out.trans (HB1.out.mono HB2.out.size))).trans (hf2 r)⟩
  have HY2 := Lib.hid ((hf2 (w.heap.size + 1 + 1)).blk (HY.out.below HB1.out) (by exact Nat.ne_of_lt (Nat.lt_succ_self _)) (by decide) (by decide) (by decide) (by decide))
  have hsz1 : w.heap.size + 1 < w1.heap.size := (HY.out.below HB1.out).lt
  have z0 := HY2.out.cell 0
  have z1 := HY2.out.cell 1
  have zf0 := HY2.out.frozen 0
  have zf1 := HY2.out.frozen 1
  dsimp at z0 z1
  clear o0 o1 o2 o3 o4 o5 o6 o7 hb2 hf2
  go_wp2
  refine bodyPost_ret (results_row_tmp rfl _ _ (w.heap.size + 1) 57 #[.int .u8 4, .int .i64 0] (0, 0) _ rfl ((HY2.out.set_ 0 _).set_ 1 _) Tryz.underlying57 rfl val_size) rfl ?_
  have hO := Only.set2 (y := w.heap.size + 1) (W := w2) (a := .int .u8 4) (c := .int .i64 0)
  exact ⟨rfl, ⟨r2, .inr (by omega), HP2.out.only hO HY2.out (by omega)⟩, (HF2.out.1.setCell (p := ⟨w.heap.size + 1, 0, none⟩) (by dsimp; omega) _).setCell (p := ⟨w.heap.size + 1, 1, none⟩) (by dsimp; omega) _, hO.fr HF2.out.2 (by omega)⟩

set_option maxRecDepth 100000 in
set_option maxHeartbeats 2000000 in
theorem do_1 (B b r : Nat) (w : World) (h : StAfter w B b r 1) (hBw : B ≤ w.heap.size) :
    Calls Tryz.prog 68 #[.pointer (some ⟨b, 0, none⟩), opArg 3 4 0 1 1 0 0 7] w fun e w' => e = .returned (.tuple #[.agg #[.int .u8 0, .int .i64 0], .int .i64 0]) ∧ (∃ r', (r' = r ∨ w.heap.size ≤ r') ∧ StAfter w' B b r' 2) ∧ Below B w w' ∧ Fr r w w' := by
  have hb1 : Below w.heap.size w (w.alloc (.cells (opCells 3 4 0 1 1 0 0 7) 75)) := (Below.refl _ _).alloc (Nat.le_refl _) _
  have hb2 := hb1.alloc (by simp) (.cells #[.int .u8 0, .int .i64 0] 57)
  have HB2 := Lib.hid hb2
  have HP := Lib.hid (h.below hb2)
  have HY := Lib.hid (Blk.new (w.alloc (.cells (opCells 3 4 0 1 1 0 0 7) 75)) 57 #[.int .u8 0, .int .i64 0])
  have HO := Lib.hid ((Blk.new w 75 (opCells 3 4 0 1 1 0 0 7)).alloc (.cells #[.int .u8 0, .int .i64 0] 57))
  simp only [World.size_alloc] at HY
  have hrl : r < w.heap.size := (One.vals h).lt r rfl |>.2
  obtain ⟨o0, o1, o2, o3, o4, o5, o6, o7⟩ := op_at HO.out
  have HTK : Hid (Calls Tryz.prog 107 #[.pointer (some ⟨b, 0, none⟩), opArg 3 4 0 1 1 0 0 7] ((w.alloc (.cells (opCells 3 4 0 1 1 0 0 7) 75)).alloc (.cells #[.int .u8 0, .int .i64 0] 57)) fun e w' => e = .returned (.bool true) ∧ Below _ _ w') := Lib.hid (by
    obtain ⟨⟨g, c, Q, cq, T, ct, hw, hq⟩, hv, _⟩ := (show One _ B b r _ _ _ _ from HP.out)
    exact takes_k3 1 b (some ⟨g, 0, none⟩) c 4 0 1 1 0 0 7 _ (hw.blk.cell 0) (by decide) (by decide))
  have HCALL := Lib.hid (fun W (hb : Below ((w.alloc (.cells (opCells 3 4 0 1 1 0 0 7) 75)).alloc (.cells #[.int .u8 0, .int .i64 0] 57)).heap.size ((w.alloc (.cells (opCells 3 4 0 1 1 0 0 7) 75)).alloc (.cells #[.int .u8 0, .int .i64 0] 57)) W) => read_in B b r W (One.below (show One _ B b r [Ce.hole, Ce.hole] [] 0 [] from HP.out) hb) (by have := HB2.out.size; have := hb.size; omega))
  unfold opArg opCells at *
  clear hb1 hb2 h
  go_enter Tryz.func68, Tryz.ntmps68
  go_wp2_with fail
  generalize hWX : World.alloc _ _ = WX at *
  clear hWX
  refine HTK.out.mono ?_
  rintro e w1 ⟨rfl, hb1⟩
  have HB1 := Lib.hid hb1
  clear o0 o1 o2 o3 o4 o5 o6 o7
  obtain ⟨o0, o1, o2, o3, o4, o5, o6, o7⟩ := op_at (HO.out.below hb1)
  clear hb1
  go_wp2_with fail
  refine (HCALL.out w1 HB1.out).mono ?_
  rintro e w2 ⟨rfl, hone, hb2, hf2⟩
  have HP2 := Lib.hid hone
  have HF2 : Hid (Below B w w2 ∧ Fr r w w2) := Lib.hid ⟨((HB2.out.trans (HB1.out.mono HB2.out.size)).mono hBw).trans hb2, (Fr.below (HB2.out.trans (HB1.out.mono HB2.out.size))).trans (hf2)⟩
  have HY2 := Lib.hid ((hf2).blk (HY.out.below HB1.out) (by omega) (by decide) (by decide) (by decide) (by decide))
  have hsz1 : w.heap.size + 1 < w1.heap.size := (HY.out.below HB1.out).lt
  have z0 := HY2.out.cell 0
  have z1 := HY2.out.cell 1
  have zf0 := HY2.out.frozen 0
  have zf1 := HY2.out.frozen 1
  dsimp at z0 z1
  clear o0 o1 o2 o3 o4 o5 o6 o7 hb2 hf2
  go_wp2
  refine bodyPost_ret (results_row_tmp rfl _ _ (w.heap.size + 1) 57 #[.int .u8 0, .int .i64 0] (0, 0) _ rfl ((HY2.out.set_ 0 _).set_ 1 _) Tryz.underlying57 rfl val_size) rfl ?_
  have hO := Only.set2 (y := w.heap.size + 1) (W := w2) (a := .int .u8 0) (c := .int .i64 0)
  exact ⟨rfl, ⟨r, .inl rfl, HP2.out.only hO HY2.out (by omega)⟩, (HF2.out.1.setCell (p := ⟨w.heap.size + 1, 0, none⟩) (by dsimp; omega) _).setCell (p := ⟨w.heap.size + 1, 1, none⟩) (by dsimp; omega) _, hO.fr HF2.out.2 (by omega)⟩

set_option maxRecDepth 100000 in
set_option maxHeartbeats 2000000 in
theorem do_2 (B b r : Nat) (w : World) (h : StAfter w B b r 2) (hBw : B ≤ w.heap.size) :
    Calls Tryz.prog 68 #[.pointer (some ⟨b, 0, none⟩), opArg 2 4 0 1 1 1 5 0] w fun e w' => e = .returned (.tuple #[.agg #[.int .u8 3, .int .i64 0], .int .i64 0]) ∧ (∃ r', (r' = r ∨ w.heap.size ≤ r') ∧ StAfter w' B b r' 3) ∧ Below B w w' ∧ Fr r w w' := by
  have hb1 : Below w.heap.size w (w.alloc (.cells (opCells 2 4 0 1 1 1 5 0) 75)) := (Below.refl _ _).alloc (Nat.le_refl _) _
  have hb2 := hb1.alloc (by simp) (.cells #[.int .u8 0, .int .i64 0] 57)
  have HB2 := Lib.hid hb2
  have HP := Lib.hid (h.below hb2)
  have HY := Lib.hid (Blk.new (w.alloc (.cells (opCells 2 4 0 1 1 1 5 0) 75)) 57 #[.int .u8 0, .int .i64 0])
  have HO := Lib.hid ((Blk.new w 75 (opCells 2 4 0 1 1 1 5 0)).alloc (.cells #[.int .u8 0, .int .i64 0] 57))
  simp only [World.size_alloc] at HY
  have hrl : r < w.heap.size := (One.vals h).lt r rfl |>.2
  obtain ⟨o0, o1, o2, o3, o4, o5, o6, o7⟩ := op_at HO.out
  have HTK : Hid (Calls Tryz.prog 107 #[.pointer (some ⟨b, 0, none⟩), opArg 2 4 0 1 1 1 5 0] ((w.alloc (.cells (opCells 2 4 0 1 1 1 5 0) 75)).alloc (.cells #[.int .u8 0, .int .i64 0] 57)) fun e w' => e = .returned (.bool true) ∧ Below _ _ w') := Lib.hid (by
    obtain ⟨⟨g, c, Q, cq, T, ct, hw, hq⟩, hv, _⟩ := (show One _ B b r _ _ _ _ from HP.out)
    exact takes_k2 1 b (some ⟨g, 0, none⟩) c 4 0 1 1 1 5 0 _ (hw.blk.cell 0) (by decide) (by decide))
  have HCALL := Lib.hid (fun W (hb : Below ((w.alloc (.cells (opCells 2 4 0 1 1 1 5 0) 75)).alloc (.cells #[.int .u8 0, .int .i64 0] 57)).heap.size ((w.alloc (.cells (opCells 2 4 0 1 1 1 5 0) 75)).alloc (.cells #[.int .u8 0, .int .i64 0] 57)) W) => write_in B b r W (One.below (show One _ B b r [Ce.hole, Ce.hole] [⟨1, 7⟩] 1 [] from HP.out) hb) (by have := HB2.out.size; have := hb.size; omega))
  unfold opArg opCells at *
  clear hb1 hb2 h
  go_enter Tryz.func68, Tryz.ntmps68
  go_wp2_with fail
  generalize hWX : World.alloc _ _ = WX at *
  clear hWX
  refine HTK.out.mono ?_
  rintro e w1 ⟨rfl, hb1⟩
  have HB1 := Lib.hid hb1
  clear o0 o1 o2 o3 o4 o5 o6 o7
  obtain ⟨o0, o1, o2, o3, o4, o5, o6, o7⟩ := op_at (HO.out.below hb1)
  clear hb1
  go_wp2_with fail
  refine (HCALL.out w1 HB1.out).mono ?_
  rintro e w2 ⟨rfl, hone, hb2, hf2⟩
  have HP2 := Lib.hid hone
  have HF2 : Hid (Below B w w2 ∧ Fr r w w2) := Lib.hid ⟨((HB2.out.trans (HB1.out.mono HB2.out.size)).mono hBw).trans hb2, (Fr.below (HB2.out.trans (HB1.out.mono HB2.out.size))).trans (hf2)⟩
  have HY2 := Lib.hid ((hf2).blk (HY.out.below HB1.out) (by omega) (by decide) (by decide) (by decide) (by decide))
  have hsz1 : w.heap.size + 1 < w1.heap.size := (HY.out.below HB1.out).lt
  have z0 := HY2.out.cell 0
  have z1 := HY2.out.cell 1
  have zf0 := HY2.out.frozen 0
  have zf1 := HY2.out.frozen 1
  dsimp at z0 z1
  clear o0 o1 o2 o3 o4 o5 o6 o7 hb2 hf2
  go_wp2
  refine bodyPost_ret (results_row_tmp rfl _ _ (w.heap.size + 1) 57 #[.int .u8 3, .int .i64 0] (0, 0) _ rfl ((HY2.out.set_ 0 _).set_ 1 _) Tryz.underlying57 rfl val_size) rfl ?_
  have hO := Only.set2 (y := w.heap.size + 1) (W := w2) (a := .int .u8 3) (c := .int .i64 0)
  exact ⟨rfl, ⟨r, .inl rfl, HP2.out.only hO HY2.out (by omega)⟩, (HF2.out.1.setCell (p := ⟨w.heap.size + 1, 0, none⟩) (by dsimp; omega) _).setCell (p := ⟨w.heap.size + 1, 1, none⟩) (by dsimp; omega) _, hO.fr HF2.out.2 (by omega)⟩

set_option maxRecDepth 100000 in
set_option maxHeartbeats 2000000 in
theorem do_3 (B b r : Nat) (w : World) (h : StAfter w B b r 3) (hBw : B ≤ w.heap.size) :
    Calls Tryz.prog 68 #[.pointer (some ⟨b, 0, none⟩), opArg 3 4 0 1 2 0 0 8] w fun e w' => e = .returned (.tuple #[.agg #[.int .u8 5, .int .i64 3], .int .i64 0]) ∧ (∃ r', (r' = r ∨ w.heap.size ≤ r') ∧ StAfter w' B b r' 4) ∧ Below B w w' ∧ Fr r w w' := by
  have hb1 : Below w.heap.size w (w.alloc (.cells (opCells 3 4 0 1 2 0 0 8) 75)) := (Below.refl _ _).alloc (Nat.le_refl _) _
  have hb2 := hb1.alloc (by simp) (.cells #[.int .u8 0, .int .i64 0] 57)
  have HB2 := Lib.hid hb2
  have HP := Lib.hid (h.below hb2)
  have HY := Lib.hid (Blk.new (w.alloc (.cells (opCells 3 4 0 1 2 0 0 8) 75)) 57 #[.int .u8 0, .int .i64 0])
  have HO := Lib.hid ((Blk.new w 75 (opCells 3 4 0 1 2 0 0 8)).alloc (.cells #[.int .u8 0, .int .i64 0] 57))
  simp only [World.size_alloc] at HY
  have hrl : r < w.heap.size := (One.vals h).lt r rfl |>.2
  obtain ⟨o0, o1, o2, o3, o4, o5, o6, o7⟩ := op_at HO.out
  have HTK : Hid (Calls Tryz.prog 107 #[.pointer (some ⟨b, 0, none⟩), opArg 3 4 0 1 2 0 0 8] ((w.alloc (.cells (opCells 3 4 0 1 2 0 0 8) 75)).alloc (.cells #[.int .u8 0, .int .i64 0] 57)) fun e w' => e = .returned (.bool true) ∧ Below _ _ w') := Lib.hid (by
    obtain ⟨⟨g, c, Q, cq, T, ct, hw, hq⟩, hv, _⟩ := (show One _ B b r _ _ _ _ from HP.out)
    exact takes_k3 1 b (some ⟨g, 0, none⟩) c 4 0 1 2 0 0 8 _ (hw.blk.cell 0) (by decide) (by decide))
  have HCALL := Lib.hid (fun W (hb : Below ((w.alloc (.cells (opCells 3 4 0 1 2 0 0 8) 75)).alloc (.cells #[.int .u8 0, .int .i64 0] 57)).heap.size ((w.alloc (.cells (opCells 3 4 0 1 2 0 0 8) 75)).alloc (.cells #[.int .u8 0, .int .i64 0] 57)) W) => read_out B b r [Ce.hole, Ce.vint 5] [] 0 [⟨7, Ce.vint 5⟩] W (One.below (show One _ B b r [Ce.hole, Ce.vint 5] [] 0 [⟨7, Ce.vint 5⟩] from HP.out) hb) (by have := HB2.out.size; have := hb.size; omega))
  unfold opArg opCells at *
  clear hb1 hb2 h
  go_enter Tryz.func68, Tryz.ntmps68
  go_wp2_with fail
  generalize hWX : World.alloc _ _ = WX at *
  clear hWX
  refine HTK.out.mono ?_
  rintro e w1 ⟨rfl, hb1⟩
  have HB1 := Lib.hid hb1
  clear o0 o1 o2 o3 o4 o5 o6 o7
  obtain ⟨o0, o1, o2, o3, o4, o5, o6, o7⟩ := op_at (HO.out.below hb1)
  clear hb1
  go_wp2_with fail
  refine (HCALL.out w1 HB1.out).mono ?_
  rintro e w2 ⟨rfl, hone, hb2, hf2⟩
  have HP2 := Lib.hid hone
  have HF2 : Hid (Below B w w2 ∧ Fr r w w2) := Lib.hid ⟨((HB2.out.trans (HB1.out.mono HB2.out.size)).mono hBw).trans hb2, (Fr.below (HB2.out.trans (HB1.out.mono HB2.out.size))).trans (hf2)⟩
  have HY2 := Lib.hid ((hf2).blk (HY.out.below HB1.out) (by omega) (by decide) (by decide) (by decide) (by decide))
  have hsz1 : w.heap.size + 1 < w1.heap.size := (HY.out.below HB1.out).lt
  have z0 := HY2.out.cell 0
  have z1 := HY2.out.cell 1
  have zf0 := HY2.out.frozen 0
  have zf1 := HY2.out.frozen 1
  dsimp at z0 z1
  clear o0 o1 o2 o3 o4 o5 o6 o7 hb2 hf2
  go_wp2
  refine bodyPost_ret (results_row_tmp rfl _ _ (w.heap.size + 1) 57 #[.int .u8 5, .int .i64 3] (0, 0) _ rfl ((HY2.out.set_ 0 _).set_ 1 _) Tryz.underlying57 rfl val_size) rfl ?_
  have hO := Only.set2 (y := w.heap.size + 1) (W := w2) (a := .int .u8 5) (c := .int .i64 3)
  exact ⟨rfl, ⟨r, .inl rfl, HP2.out.only hO HY2.out (by omega)⟩, (HF2.out.1.setCell (p := ⟨w.heap.size + 1, 0, none⟩) (by dsimp; omega) _).setCell (p := ⟨w.heap.size + 1, 1, none⟩) (by dsimp; omega) _, hO.fr HF2.out.2 (by omega)⟩

theorem do_any (k : Nat) (o : Ce.Op) (ho : opsL[k]? = some o) (B b r : Nat) (w : World) (h : StAfter w B b r k) (hBw : B ≤ w.heap.size) :
    Calls Tryz.prog 68 #[.pointer (some ⟨b, 0, none⟩), opArg o.kind o.v.k o.v.n o.i.k o.i.n o.x.k o.x.n o.who] w fun e w' => e = .returned (.tuple #[.agg #[.int .u8 (gave.getD k Ce.hole).k, .int .i64 (gave.getD k Ce.hole).n], .int .i64 0]) ∧ (∃ r', (r' = r ∨ w.heap.size ≤ r') ∧ StAfter w' B b r' (k + 1)) ∧ Below B w w' ∧ Fr r w w' := by
  match k, ho with
  | 0, ho => injection ho with ho; subst ho; exact do_0 B b r w h hBw
  | 1, ho => injection ho with ho; subst ho; exact do_1 B b r w h hBw
  | 2, ho => injection ho with ho; subst ho; exact do_2 B b r w h hBw
  | 3, ho => injection ho with ho; subst ho; exact do_3 B b r w h hBw
  | n + 4, ho => simp [opsL] at ho
end Go.Proofs.YtjldkndalcellaaGreatDoor

namespace Go
theorem results_row_tmp4 {P : Program} {fn : Func} {p u1 u2 u3 u4 : Tmp} {ty : TypeId} (h : fn.results = #[.cell p ty, .tmp u1, .tmp u2, .tmp u3, .tmp u4]) (tmps : Array Value) (w : World) (g : Nat) (t : TypeId) (cs : Array Value) (fr : Nat × Nat) (d : TypeDesc)
    (hp : tmps.getD p undef = .pointer (some ⟨g, 0, none⟩)) (hg : w.heap[g]? = some (.cells cs t fr))
    (hu : P.underlying ty = some d) (hd : (match d with | .struct _ | .array _ _ => true | _ => false) = true) (hi : (P.info? ty).map (·.size) = some cs.size) :
    (results fn tmps).run P w = .ok (.tuple #[.agg cs, tmps.getD u1 undef, tmps.getD u2 undef, tmps.getD u3 undef, tmps.getD u4 undef]) w := by
  have hp' : tmps[p]?.getD undef = .pointer (some ⟨g, 0, none⟩) := by simpa using hp
  simp [results, h, hp', asAddr, run_loadVar_row w g t ty cs fr d hg hu hd hi, Result.andThen]
end Go
namespace Go.Proofs.YtjldkndalcellaaGreatDoor
open Go.RowKit Go.El

theorem play_opsL : Ce.play [] opsL = ([⟨[Ce.hole, Ce.vint 5], []⟩], gave, [⟨7, Ce.vint 5⟩], 4, 0) := by decide +kernel
theorem One.grown {W W' : World} {B b r : Nat} {cells : List Ce.V} {ws : List Ce.Rd} {n : Int} {ts : List Ce.Td} (h : One W B b r cells ws n ts) {B' cg : Nat} {G : Option Addr} {L : List Ce.V} (ho : ValE.Own 57 W B' G cg L) (hne : ∀ a, G = some a → a.block ≠ r) (hg : W.grownBy W' (Value.slice G L.length cg).ownBlock) : One W' B b r cells ws n ts := by
  obtain ⟨⟨g, c, Q, cq, T, ct, hw, hq⟩, hv, hl⟩ := h
  refine ⟨⟨g, c, Q, cq, T, ct, ⟨hw.hB, hw.blk.kept hg (Own.ne_blk ho hw.blk (by decide)), hw.sts.kept hg (own_own_ne hw.sts ho (by decide)), hw.tds.kept hg (own_own_ne hw.tds ho (by decide))⟩, hq.kept hg (own_own_ne hq ho (by decide))⟩, hv.kept hg (.inr (fun e => ?_)), hl⟩
  cases G with
  | none => cases e
  | some a =>
    injection e with e
    exact hne a rfl e.symm
theorem StAfter.grown {W W' : World} {B b r : Nat} {B' cg : Nat} {G : Option Addr} {L : List Ce.V} (ho : ValE.Own 57 W B' G cg L) (hne : ∀ a, G = some a → a.block ≠ r) (hg : W.grownBy W' (Value.slice G L.length cg).ownBlock) : ∀ {k : Nat}, StAfter W B b r (k + 1) → StAfter W' B b r (k + 1)
  | 0, h => One.grown h ho hne hg
  | 1, h => One.grown h ho hne hg
  | _ + 2, h => One.grown h ho hne hg
theorem One.cell0 {W : World} {B b r : Nat} {x : Ce.V} {l : List Ce.V} {ws : List Ce.Rd} {n : Int} {ts : List Ce.Td} (h : One W B b r (x :: l) ws n ts) : W.cell? ⟨r, 0, none⟩ = some (.int .u8 x.k) := by
  obtain ⟨r', hA, _, _, hin⟩ := Own.in_ h.vals (by simp)
  injection hA with hA
  injection hA with hA
  subst hA
  exact hin 0 _ rfl 0 _ rfl
theorem StAfter.cell0 {W : World} {B b r : Nat} : ∀ {k : Nat}, StAfter W B b r (k + 1) → W.cell? ⟨r, 0, none⟩ = some (.int .u8 0)
  | 0, h => One.cell0 h
  | 1, h => One.cell0 h
  | _ + 2, h => One.cell0 h
theorem gave_ne {W : World} {B b r k cap : Nat} {A : Option Addr} (hs : StAfter W B b r (k + 1)) (ho : ValE.Own 57 W B A cap (gave.take (k + 1))) : ∀ a, A = some a → a.block ≠ r := by
  intro a ha e
  obtain ⟨g, hA, _, _, hin⟩ := Own.in_ ho (by simp [gave])
  rw [ha] at hA
  injection hA with hA
  subst hA
  have h0 : (gave.take (k + 1))[0]? = some (Ce.vref 0) := by simp [gave]
  have h1 := hin 0 _ h0 0 _ rfl
  have h2 := hs.cell0
  rw [← e] at h2
  have h3 : some (Value.int .u8 4) = some (Value.int .u8 0) := h1.symm.trans h2
  injection h3 with h3
  injection h3 with _ h3
  exact absurd h3 (by decide)
theorem gave_take (k : Nat) (hk : k < 4) : gave[k]? = some (gave.getD k Ce.hole) := by
  rw [List.getD_eq_getElem?_getD, List.getElem?_eq_getElem (show k < gave.length from hk)]
  rfl

set_option maxRecDepth 100000 in
set_option maxHeartbeats 8000000 in
theorem play_a : PlayA := by
  intro m l A Bp c c2 w hm0 hl0 hm hl hV hS
  subst hm0 hl0
  rw [play_opsL]
  have hb1 : Below w.heap.size w (w.alloc (.cells #[.slice A 0 c] 24)) := (Below.refl _ _).alloc (Nat.le_refl _) _
  have hb2 := hb1.alloc (by simp) (.cells #[.slice none 0 0] 24)
  have HB2 := Lib.hid hb2
  have HX := Lib.hid ((Blk.new w 24 #[.slice A 0 c]).alloc (.cells #[.slice none 0 0] 24))
  have HR := Lib.hid (Blk.new (w.alloc (.cells #[.slice A 0 c] 24)) 24 #[.slice none 0 0])
  simp only [World.size_alloc] at HR
  have his := isMemory_any [] hm A c _ (hV.at_.below hb2)
  rw [show Ce.memOk [] = true by decide] at his
  have HIS : Hid _ := Lib.hid his
  have HNW := Lib.hid (fun W (hb : Below w.heap.size w W) => newWork_nil A c W (hV.at_.below hb))
  have HSA := Lib.hid hS.arg
  have x0 := HX.out.cell 0
  dsimp at x0
  show Calls _ _ #[.agg #[.slice A 0 c], .slice Bp 4 c2] w _
  clear hb1 hb2 hm hl hV hS his
  go_enter Tryz.func40, Tryz.ntmps40
  go_wp2_with fail
  generalize hWX : World.alloc _ _ = WX at *
  clear hWX
  refine HIS.out.mono ?_
  rintro e w1 ⟨rfl, hb1⟩
  have HB1 := Lib.hid hb1
  have x1 := (HX.out.below hb1).cell 0
  dsimp at x1
  clear hb1 x0
  go_wp2_with fail
  refine (HNW.out w1 (HB2.out.trans (HB1.out.mono HB2.out.size))).mono ?_
  rintro e w2 ⟨⟨b, rfl, hwk⟩, hb2⟩
  have HB3 := Lib.hid hb2
  have HWK := Lib.hid hwk
  have HBW : Hid (Below w.heap.size w w1) := Lib.hid (HB2.out.trans (HB1.out.mono HB2.out.size))
  have HR1 := Lib.hid (HR.out.below HB1.out)
  generalize hB : w1.heap.size = B at *
  have hwB : w.heap.size + 1 < B := by have := HR1.out.lt; omega
  have HBB : Hid (∀ wr, Below B w2 wr → Below w.heap.size w wr) := Lib.hid fun wr h => HBW.out.trans ((HB3.out.trans h).mono (by omega))
  have HRB : Hid (∀ wr, Below B w2 wr → Blk wr (w.heap.size + 1) 24 #[.slice none 0 0]) := Lib.hid fun wr h => HR1.out.below (by rw [hB]; exact HB3.out.trans h)
  have hB2 : B ≤ w2.heap.size := by have := HB3.out.size; omega
  clear hwk hb2 x1
  go_wp2_with fail
  go_loopw [10, 23] (fun s10 i wr => ∃ (L : List Ce.V) (r cg : Nat) (G : Option Addr), L.length ≤ 4 ∧ Hid (L = gave.take L.length) ∧ i = .int .i64 L.length ∧ s10 = .slice G L.length cg ∧ Hid (StAfter wr B b r L.length) ∧ Hid (ValE.Own 57 wr B G cg L) ∧ Hid (∀ a, G = some a → a.block ≠ r) ∧ Hid (Below B w2 wr) ∧ B ≤ wr.heap.size) (fun _ i _ => 4 - (intOf i).toNat)
  case atStart => exact ⟨[], 0, 0, none, by simp, Lib.hid rfl, rfl, rfl, HWK, Lib.hid (Own.nil _ _ _ _), Lib.hid (fun a h => by cases h), Lib.hid (Below.refl _ _), hB2⟩
  case round =>
    obtain ⟨L, r, cg, G, hL4, HL, rfl, rfl, HST, HG, HNE, HB, hBr⟩ := hrel
    by_cases hlt : L.length < 4
    · have hlt' : (L.length : Int) < 4 := by omega
      obtain ⟨o, ho⟩ : ∃ x, opsL[L.length]? = some x := ⟨_, List.getElem?_eq_getElem (show L.length < opsL.length from hlt)⟩
      obtain ⟨bl, ol, rfl, hin, hbl⟩ := (HSA.out.below (HBB.out wr HB.out)).at_lt (show L.length < opsL.length from hlt)
      have x0 : wr.cell? ⟨bl, ol + L.length * 8, none⟩ = some (.int .u8 o.kind) := hin _ o ho 0 _ rfl
      have x1 : wr.cell? ⟨bl, ol + L.length * 8 + 1, none⟩ = some (.int .u8 o.v.k) := hin _ o ho 1 _ rfl
      have x2 : wr.cell? ⟨bl, ol + L.length * 8 + 2, none⟩ = some (.int .i64 o.v.n) := hin _ o ho 2 _ rfl
      have x3 : wr.cell? ⟨bl, ol + L.length * 8 + 3, none⟩ = some (.int .u8 o.i.k) := hin _ o ho 3 _ rfl
      have x4 : wr.cell? ⟨bl, ol + L.length * 8 + 4, none⟩ = some (.int .i64 o.i.n) := hin _ o ho 4 _ rfl
      have x5 : wr.cell? ⟨bl, ol + L.length * 8 + 5, none⟩ = some (.int .u8 o.x.k) := hin _ o ho 5 _ rfl
      have x6 : wr.cell? ⟨bl, ol + L.length * 8 + 6, none⟩ = some (.int .i64 o.x.n) := hin _ o ho 6 _ rfl
      have x7 : wr.cell? ⟨bl, ol + L.length * 8 + 7, none⟩ = some (.int .i64 o.who) := hin _ o ho 7 _ rfl
      have hba : Below wr.heap.size wr (wr.alloc (.cells (opCells o.kind o.v.k o.v.n o.i.k o.i.n o.x.k o.x.n o.who) 75)) := (Below.refl _ _).alloc (Nat.le_refl _) _
      have HBA := Lib.hid hba
      have HD := Lib.hid (do_any L.length o ho B b r _ (HST.out.below hba) (by simp; omega))
      obtain ⟨y0, y1, y2, y3, y4, y5, y6, y7⟩ := op_at (Blk.new wr 75 (opCells o.kind o.v.k o.v.n o.i.k o.i.n o.x.k o.x.n o.who))
      have HV : Hid (gave[L.length]? = some (gave.getD L.length Ce.hole)) := Lib.hid (gave_take _ hlt)
      generalize gave.getD L.length Ce.hole = v at *
      have HL1 : Hid (L ++ [v] = gave.take (L ++ [v]).length) := Lib.hid (by
        rw [List.length_append, List.length_singleton, List.take_add_one, HV.out, ← HL.out]; rfl)
      unfold opCells opArg at *
      clear hba hin ho
      go_wp2_with fail
      refine HD.out.mono ?_
      rintro e w4 ⟨rfl, ⟨r', hr', hst'⟩, hb4, hf4⟩
      have HG4 : Hid (ValE.Own 57 w4 B G cg L) := Lib.hid (hf4.own (Own.below HG.out HBA.out) HNE.out (by decide) (by decide) (by decide) (by decide))
      have HB4 : Hid (Below B w2 w4) := Lib.hid ((HB.out.trans (HBA.out.mono hBr)).trans hb4)
      have hsz4 : wr.heap.size < w4.heap.size := by have := hf4.1; simp at this; omega
      have HNE4 : Hid (∀ a, G = some a → a.block ≠ r') := Lib.hid (fun a ha => by
        rcases hr' with h | h
        · rw [h]; exact HNE.out a ha
        · have := (Own.block HG.out ha).2
          simp at h
          omega)
      have hbA : Below w4.heap.size w4 (w4.alloc (.cells #[.int .u8 v.k, .int .i64 v.n] 57)) := (Below.refl _ _).alloc (Nat.le_refl _) _
      have hbA6 := hbA.alloc (by simp) (.cells #[.int .u8 v.k, .int .i64 v.n] 57)
      have HBA6 := Lib.hid hbA6
      have HG6 := Lib.hid (Own.below HG4.out hbA6)
      have HST6 := Lib.hid (hst'.below hbA6)
      have zb := Blk.new w4 57 #[.int .u8 v.k, .int .i64 v.n]
      have z0 := zb.cell 0
      have z1 := zb.cell 1
      dsimp at z0 z1
      have HEL : Hid (∀ j u, (ValE.cells v)[j]? = some u → ((w4.alloc (.cells #[.int .u8 v.k, .int .i64 v.n] 57)).alloc (.cells #[.int .u8 v.k, .int .i64 v.n] 57)).cell? ⟨w4.heap.size + 1, j, none⟩ = some u) := Lib.hid (fun j u hj => by
        have h2 := (Blk.new (w4.alloc (.cells #[.int .u8 v.k, .int .i64 v.n] 57)) 57 #[.int .u8 v.k, .int .i64 v.n]).cell j
        simp only [World.size_alloc] at h2
        rw [h2]
        simpa [ValE, vC] using hj)
      have hBs4 : B ≤ w4.heap.size := by omega
      clear hb4 hf4 hst' hbA hbA6 zb hr' x0 x1 x2 x3 x4 x5 x6 x7 y0 y1 y2 y3 y4 y5 y6 y7 HD
      go_wp2_with (at_builtin; refine wpList_append_one ValE _ rfl _ _ 34 57 rfl Tryz.underlying34 val_info rfl B G cg L v (w4.heap.size + 1) rfl rfl HG6.out HEL.out (by omega) (by omega) (by simp; omega) ?_)
      intro A' cap' w7 hown7 hgrow7
      have hst7 := StAfter.grown HG6.out HNE4.out hgrow7 HST6.out
      have hlen : (L ++ [v]).length = L.length + 1 := by simp
      have HNE7 : Hid (∀ a, A' = some a → a.block ≠ r') := Lib.hid (by
        have h1 := hown7
        rw [show L ++ [v] = gave.take (L.length + 1) by have := HL1.out; rwa [hlen] at this] at h1
        exact gave_ne hst7 h1)
      have HST7 := Lib.hid hst7
      have HOWN7 := Lib.hid hown7
      have HB7 : Hid (Below B w2 w7) := Lib.hid ((HB4.out.trans (HBA6.out.mono hBs4)).grown hgrow7 (by simp; omega) (fun j hj => (HG6.out.lt j hj).1))
      have hs7 : B ≤ w7.heap.size := by have := hgrow7.size; simp at this; omega
      clear hst7 hown7 hgrow7
      go_wp2_with fail
      go_roundw
      case rel => exact ⟨L ++ [v], r', cap', A', by omega, HL1, by rw [hlen]; go_num, by rw [hlen], by rw [hlen]; exact HST7, HOWN7, HNE7, HB7, hs7⟩
      case measure => simp [intOf]; omega
    · have hlt' : ¬ (L.length : Int) < 4 := by omega
      have h4 : L.length = 4 := by omega
      have hLg : L = gave := by have := HL.out; rw [h4] at this; exact this.trans rfl
      subst hLg
      obtain ⟨⟨g, c', Q, cq, T, ct, hw, hq⟩, hv, _⟩ := (show One wr B b r [Ce.hole, Ce.vint 5] [] 0 [⟨7, Ce.vint 5⟩] from HST.out)
      have HW := Lib.hid hw
      have HQ := Lib.hid hq
      have HV := Lib.hid hv
      have HP := Lib.hid (HRB.out wr HB.out)
      have HBF := Lib.hid (HBB.out wr HB.out)
      have m0 := hw.blk.cell 0
      have m2 := hw.blk.cell 2
      have p0 := HP.out.cell 0
      have pf := HP.out.frozen 0
      have pl := HP.out.lt
      have hBb := hw.hB
      dsimp at m0 m2 p0
      have hbp : b ≠ w.heap.size + 1 := by omega
      have hbp2 : w.heap.size + 1 ≠ b := by omega
      have hg4 : gave.length = 4 := rfl
      simp only [hg4] at *
      clear hw hq hv
      go_wp2_with fail
      go_region_held3 (fun W => W.cell? ⟨b, 0, none⟩ = some (.slice (some ⟨g, 0, none⟩) 1 c') ∧ W.cell? ⟨b, 2, none⟩ = some (.slice T 1 ct))
        (go_keep)
        (first | (fail "none"))
      all_goals
        have hd := (Below.refl wr.heap.size wr).drew
        have hP2 := HP.out.below hd
        have hO := Only.set1 (y := w.heap.size + 1) (o := 0) (W := wr.drew) (a := .slice (some ⟨g, 0, none⟩) 1 c')
        have hW2 := hO.workT hP2 (by decide) (by decide) (by decide) (HW.out.below hd)
        have hQ2 := hO.ownT hP2 (Own.below HQ.out hd) (by decide)
        have hV2 := hO.ownT hP2 (Own.below HV.out hd) (by decide)
        have hG2 := hO.ownT hP2 (Own.below HG.out hd) (by decide)
        have HE : Hid ((MemV (wr.drew.setCell ⟨w.heap.size + 1, 0, none⟩ (.slice (some ⟨g, 0, none⟩) 1 c')) (some ⟨g, 0, none⟩) c' [⟨[Ce.hole, Ce.vint 5], []⟩] ∧ SlAt ValE (wr.drew.setCell ⟨w.heap.size + 1, 0, none⟩ (.slice (some ⟨g, 0, none⟩) 1 c')) ⟨G, 4, cg⟩ gave ∧ SlAt TdE (wr.drew.setCell ⟨w.heap.size + 1, 0, none⟩ (.slice (some ⟨g, 0, none⟩) 1 c')) ⟨T, 1, ct⟩ [⟨7, Ce.vint 5⟩]) ∧ Below w.heap.size w (wr.drew.setCell ⟨w.heap.size + 1, 0, none⟩ (.slice (some ⟨g, 0, none⟩) 1 c'))) := Lib.hid ⟨⟨⟨⟨[(⟨some ⟨r, 0, none⟩, 2, 2⟩, ⟨Q, 0, cq⟩)], rfl, Own.arg hW2.sts, fun i x s hx hs => by
            match i, hx, hs with
            | 0, hx, hs =>
              injection hx with hx
              injection hs with hs
              subst hx hs
              exact ⟨SlAt.of_own hV2, SlAt.of_own hQ2⟩
            | j + 1, hx, _ => simp at hx⟩, fun h => (by cases h), (Own.le hW2.sts).1⟩, SlAt.of_own hG2, SlAt.of_own hW2.tds⟩, (HBF.out.trans (hd.mono HBF.out.size)).setCell (p := ⟨w.heap.size + 1, 0, none⟩) (by dsimp; omega) _⟩
        have hP3 := hP2.set_ 0 (.slice (some ⟨g, 0, none⟩) 1 c')
        clear hd hP2 hO hW2 hQ2 hV2 hG2
        go_wp2
        refine bodyPost_ret (results_row_tmp4 rfl _ _ (w.heap.size + 1) 24 #[.slice (some ⟨g, 0, none⟩) 1 c'] (0, 0) _ rfl hP3 Tryz.underlying24 rfl mem_size) rfl ?_
        exact ⟨⟨some ⟨g, 0, none⟩, c', G, cg, T, ct, rfl, HE.out.1⟩, HE.out.2⟩
end Go.Proofs.YtjldkndalcellaaGreatDoor
