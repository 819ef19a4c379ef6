/- Layer 6, the program: who waits for a cell is taken out (slices.DeleteFunc at Read, of one read that goes). Layer 6, the program: tell, of the one who waits for the second cell. -/
import Derived.Test.YtacggbpgillbaaaGreatDoorTB2
import Derived.Lib.SlKept
import Derived.Laws.IdiomCopy
import Derived.Laws.OwnMore
import Derived.Lib.SliceRun
namespace Go.Proofs.YtacggbpgillbaaaGreatDoor
open Go.RowKit Go.El

/-- cells of the row are stored into: what lies ahead stays -/
theorem own_setCells {e : TypeId} {size base g cap n : Nat} : ∀ (vs : List Value) (o : Nat) (W : World) (xs : List Value), W.ownsRow base e size (.slice (some ⟨g, 0, none⟩) n cap) n xs →
    ∃ xs', (W.setCells g o vs).ownsRow base e size (.slice (some ⟨g, 0, none⟩) n cap) n xs' ∧ (∀ t, t < o → xs'[t]? = xs[t]?)
  | [], _, _, xs, h => ⟨xs, h, fun _ _ => rfl⟩
  | v :: r, o, W, xs, h => by
    obtain ⟨xs', h1, h2⟩ := own_setCells r (o + 1) _ _ (World.ownsRow.stored h o v).1
    exact ⟨xs', h1, fun t ht => by rw [h2 t (by omega), List.getElem?_set_ne (by omega)]⟩
/-- the row is cut -/
theorem own_cut {e : TypeId} {size base g cap n i : Nat} {W : World} {xs : List Value} (h : W.ownsRow base e size (.slice (some ⟨g, 0, none⟩) n cap) n xs) (hi : i ≤ n) : W.ownsRow base e size (.slice (some ⟨g, 0, none⟩) i cap) i (xs.take (i * size)) := by
  have hm : i * size ≤ n * size := Nat.mul_le_mul_right _ hi
  refine ⟨by rw [List.length_take, h.1]; omega, ?_⟩
  rcases h.2 with ⟨hv, _⟩ | ⟨g', cap', cur, hv, hb, hh, hc1, hc2, hc3, hc4⟩
  · cases hv
  · injection hv with hA hn hcap
    injection hA with hA
    injection hA with hg _
    subst hg hcap
    exact .inr ⟨g, cap, cur, rfl, hb, hh, by omega, hc2, hc3, by rw [← hc4, List.take_take, Nat.min_eq_left hm]⟩
theorem Only.toFr {y r : Nat} {W W' : World} (h : Only y W W') {T : TypeId} {cs : Array Value} (hy : Blk W y T cs) (hT : T = 127 ∨ T = 83 ∨ T = 122 ∨ T = 106) : Fr r W W' :=
  ⟨h.1, fun k cs' T' f hk _ h1 h2 h3 h4 => (h.2 k (fun e => by
    subst e
    rw [show W.heap[k]? = _ from hy] at hk
    injection hk with hk
    injection hk with _ ht
    subst ht
    rcases hT with h | h | h | h
    · exact h1 h
    · exact h2 h
    · exact h3 h
    · exact h4 h) (Array.getElem?_eq_some_iff.1 hk).1).trans hk⟩
theorem Only.setCells {g : Nat} : ∀ (vs : List Value) (o : Nat) (W : World), Only g W (W.setCells g o vs)
  | [], _, _ => ⟨Nat.le_refl _, fun _ _ _ => rfl⟩
  | v :: r, o, W => Only.set1.trans (Only.setCells r (o + 1) (W.setCell ⟨g, o, none⟩ v))
theorem below_setCells {B g : Nat} (hg : B ≤ g) {w : World} : ∀ (vs : List Value) (o : Nat) (W : World), Below B w W → Below B w (W.setCells g o vs)
  | [], _, _, h => h
  | v :: r, o, _, h => below_setCells hg r (o + 1) _ (h.setCell (p := ⟨g, o, none⟩) hg v)
/-- clear of what is left of a row of reads -/
theorem run_clear_reads {W : World} {base g cap : Nat} {L : List Ce.Rd} (h : RdE.Own 122 W base (some ⟨g, 0, none⟩) cap L) (i : Nat) (hi : i < L.length) :
    ∃ vs, ∀ (ty : TypeId) (c : Nat), (Builtin.clear_ #[81] ty #[.slice (some ⟨g, i * 2, none⟩) (L.length - i) c]).run Tryz.prog W = .ok (.tuple #[]) (W.setCells g (i * 2) vs) := by
  obtain ⟨m, hm⟩ : ∃ m, L.length - i = m + 1 := ⟨L.length - i - 1, by omega⟩
  refine ⟨(Builtin.zeroCells (Value.agg #[.int .i64 0, .int .i64 0]).cells (m + 1)).toList, fun ty c => ?_⟩
  have hlen : (Builtin.zeroCells (Value.agg #[.int .i64 0, .int .i64 0]).cells (m + 1)).toList.length = (m + 1) * 2 := by
    simp [Builtin.zeroCells, Value.cells]
  have hst := run_storeCells_cells (P := Tryz.prog) g (i * 2) (Builtin.zeroCells (Value.agg #[.int .i64 0, .int .i64 0]).cells (m + 1)).toList 0 W
    (fun j hj => by
      rw [hlen] at hj
      rw [Nat.add_zero, World.ownsRow.cellAt h (i * 2 + j) (by show _ < L.length * 2; omega)]
      rw [List.getElem?_eq_getElem (by rw [El.row_len]; show _ < L.length * 2; omega)]
      rfl)
    (fun j _ => World.ownsRow.frozenAt h _)
    (fun v hv => by
      simp only [Builtin.zeroCells, Value.cells, Array.mem_toList_iff] at hv
      obtain ⟨j, hj, rfl⟩ := Array.mem_iff_getElem.1 hv
      simp
      have h5 : j % 2 < 2 := Nat.mod_lt _ (by decide)
      match hq : j % 2, h5 with
      | 0, _ => rfl
      | 1, _ => rfl)
  rw [Nat.add_zero] at hst
  rw [hm]
  simp [Builtin.clear_, run_underlying Tryz.underlying81, hst]

set_option maxHeartbeats 1000000 in
theorem tellF_any (x : Ce.Rd) (i : Int) (bx : Nat) (w : World) (hb : w.cell? ⟨bx, 0, none⟩ = some (.int .i64 i)) :
    Calls Tryz.prog 176 #[.agg #[.int .i64 x.cell, .int .i64 x.who], .pointer (some ⟨bx, 0, none⟩)] w fun e w' => e = .returned (.bool (x.cell == i)) ∧ Below w.heap.size w w' := by
  have hba : Below w.heap.size w (w.alloc (.cells #[.int .i64 x.cell, .int .i64 x.who] 122)) := (Below.refl _ _).alloc (Nat.le_refl _) _
  have c0 := (Stay.cell hb) _ hba
  have HB := Lib.hid hba
  have hbk := Blk.new w 122 #[.int .i64 x.cell, .int .i64 x.who]
  have x0 := hbk.cell 0
  dsimp at x0
  generalize x.cell = cc at *
  clear hb hba hbk
  by_cases h : cc = i
  · subst h
    have hq : (cc == cc) = true := by simp
    go_enter Tryz.func176, Tryz.ntmps176
    go_wp2
    go_ret
    exact ⟨by simp, HB.out⟩
  · have hq : (cc == i) = false := beq_eq_false_iff_ne.2 h
    rw [hq]
    go_enter Tryz.func176, Tryz.ntmps176
    go_wp2
    go_ret
    exact ⟨rfl, HB.out⟩

set_option maxRecDepth 100000 in
set_option maxHeartbeats 2000000 in
theorem delete1_any (x : Ce.Rd) (i : Int) (hx : x.cell = i) (q cap bx base : Nat) (w : World) (hbase : base ≤ w.heap.size) (ho : RdE.Own 122 w base (some ⟨q, 0, none⟩) cap [x]) (hbx : Blk w bx 3 #[.int .i64 i]) :
    Calls Tryz.prog 175 #[.slice (some ⟨q, 0, none⟩) 1 cap, .func (.func 176) #[] #[.pointer (some ⟨bx, 0, none⟩)]] w fun e w' => e = .returned (.slice (some ⟨q, 0, none⟩) 0 cap) ∧ RdE.Own 122 w' base (some ⟨q, 0, none⟩) cap [] ∧ Below base w w' ∧ (∀ y T cs, Blk w y T cs → y ≠ q → Blk w' y T cs) ∧ ∀ r, Fr r w w' := by
  have hI := rd_index [x] (by simp) (some ⟨q, 0, none⟩) cap (fun v => v.cell == i) 176 #[.pointer (some ⟨bx, 0, none⟩)] (enters_of Tryz.func176 (by kernel_rfl) rfl) w (Own.arg ho) (fun v _ W hb => tellF_any v i bx W ((hbx.below hb).cell 0))
  rw [show Ce.idxK (fun v : Ce.Rd => v.cell == i) [x] 0 = some 0 by simp [Ce.idxK, hx]] at hI
  have HI : Hid _ := Lib.hid hI
  have HOW := Lib.hid ho
  have hcap := (Own.le ho).1
  have hci : ¬ cap = 0 := by simp at hcap; omega
  have hc1 : (1 : Int) ≤ (cap : Int) := by simp at hcap; omega
  have hc0 : (0 : Int) ≤ (cap : Int) := by omega
  clear hI ho hbx hcap
  go_enter Tryz.func175, Tryz.ntmps175
  go_wp2_with fail
  refine HI.out.mono ?_
  rintro e w1 ⟨rfl, hb1⟩
  unfold optV
  have HB1 := Lib.hid hb1
  clear hb1
  go_wp2_with fail
  go_loopw [5, 6] (fun s5 s6 wr => s5 = .int .i64 0 ∧ s6 = .int .i64 1 ∧ wr = w1) (fun _ _ _ => 0)
  case atStart => exact ⟨rfl, rfl, rfl⟩
  case round =>
    obtain ⟨rfl, rfl, rfl⟩ := hrel
    have HO1 := Lib.hid (Own.below HOW.out HB1.out)
    obtain ⟨vs, hcl⟩ := run_clear_reads HO1.out 0 (by simp)
    simp only [Nat.zero_mul, List.length_singleton, Nat.sub_zero] at hcl
    have HE : Hid (RdE.Own 122 (wr.setCells q 0 vs) base (some ⟨q, 0, none⟩) cap [] ∧ Below base w (wr.setCells q 0 vs) ∧ (∀ y T cs, Blk w y T cs → y ≠ q → Blk (wr.setCells q 0 vs) y T cs) ∧ ∀ r, Fr r w (wr.setCells q 0 vs)) := Lib.hid (by
      obtain ⟨xs', k1, _⟩ := own_setCells vs 0 wr _ HO1.out
      have k3 := own_cut k1 (show 0 ≤ [x].length by simp)
      obtain ⟨cq, hq⟩ := HO1.out.blk rfl
      simp only [Nat.zero_mul, List.take_zero] at k3
      refine ⟨k3, below_setCells (HO1.out.lt q rfl).1 vs 0 wr (HB1.out.mono hbase), fun y T cs hy hne => (Only.setCells vs 0 wr).blk (hy.below HB1.out) hne, fun r => (Fr.below HB1.out).trans ((Only.setCells vs 0 wr).toFr hq (.inr (.inr (.inl rfl))))⟩)
    go_wp2
    go_ret
    exact ⟨rfl, HE.out⟩
end Go.Proofs.YtacggbpgillbaaaGreatDoor

namespace Go.Proofs.YtacggbpgillbaaaGreatDoor
open Go.RowKit Go.El

theorem Own.keptB {α : Type} {K : El α} {T : TypeId} {W W' : World} {base cap q : Nat} {A : Option Addr} {l : List α} (ho : K.Own T W base A cap l) (hk : ∀ y T cs, Blk W y T cs → y ≠ q → Blk W' y T cs) (h0 : some q ≠ (Value.slice A l.length cap).ownBlock) : K.Own T W' base A cap l := by
  refine ⟨ho.1, ?_⟩
  rcases ho.2 with hn | ⟨g, cap', cur, hv, hb, hh, x⟩
  · exact .inl hn
  · exact .inr ⟨g, cap', cur, hv, hb, hk g T cur hh (fun e => h0 (by rw [hv, ← e]; rfl)), x⟩
theorem td_info : (Tryz.prog.info? 106).map (fun i => (i.zero, i.size, i.bytes)) = some (some (.agg #[.int .i64 0, .int .u8 0, .int .i64 0]), 3, 24) := by kernel_rfl
/-- what stands while it is told -/
structure Tell (W : World) (B b g c r q cq bx : Nat) (T : Option Addr) (ct : Nat) (ts : List Ce.Td) : Prop where
  wk : Work W B b (some ⟨g, 0, none⟩) c [(⟨some ⟨r, 0, none⟩, 2, 2⟩, ⟨some ⟨q, 0, none⟩, 1, cq⟩)] 1 T ct ts
  rd : RdE.Own 122 W B (some ⟨q, 0, none⟩) cq [⟨1, 7⟩]
  vl : ValE.Own 26 W B (some ⟨r, 0, none⟩) 2 [Ce.hole, Ce.vint 5]
  bx_ : Blk W bx 3 #[.int .i64 1]
theorem Tell.below {W W' : World} {B b g c r q cq bx : Nat} {T : Option Addr} {ct : Nat} {ts : List Ce.Td} (h : Tell W B b g c r q cq bx T ct ts) (hb : Below W.heap.size W W') : Tell W' B b g c r q cq bx T ct ts := ⟨h.wk.below hb, Own.below h.rd hb, Own.below h.vl hb, h.bx_.below hb⟩
theorem Tell.at_ {W : World} {B b g c r q cq bx : Nat} {T : Option Addr} {ct : Nat} {ts : List Ce.Td} (h : Tell W B b g c r q cq bx T ct ts) :
    (W.cell? ⟨b, 1, none⟩ = some (.int .i64 1) ∧ W.cell? ⟨b, 2, none⟩ = some (.slice T ts.length ct)) ∧ (W.cell? ⟨g, 0, none⟩ = some (.slice (some ⟨r, 0, none⟩) 2 2) ∧ W.cell? ⟨g, 1, none⟩ = some (.slice (some ⟨q, 0, none⟩) 1 cq)) ∧ (W.cell? ⟨q, 0, none⟩ = some (.int .i64 1) ∧ W.cell? ⟨q, 1, none⟩ = some (.int .i64 7)) ∧ (W.cell? ⟨r, 2, none⟩ = some (.int .u8 1) ∧ W.cell? ⟨r, 3, none⟩ = some (.int .i64 5)) ∧ W.cell? ⟨bx, 0, none⟩ = some (.int .i64 1) := by
  obtain ⟨r', hA, _, _, hin⟩ := Own.in_ h.vl (by simp)
  injection hA with hA
  injection hA with hA
  subst hA
  obtain ⟨q', hA, _, _, hiq⟩ := Own.in_ h.rd (by simp)
  injection hA with hA
  injection hA with hA
  subst hA
  exact ⟨⟨h.wk.blk.cell 1, h.wk.blk.cell 2⟩, ⟨h.wk.at1.1, h.wk.at1.2.1⟩, ⟨hiq 0 _ rfl 0 _ rfl, hiq 0 _ rfl 1 _ rfl⟩, ⟨hin 1 _ rfl 0 _ rfl, hin 1 _ rfl 1 _ rfl⟩, h.bx_.cell 0⟩
theorem Tell.told {W W' : World} {B b g c r q cq bx : Nat} {T T' : Option Addr} {ct ct' : Nat} {ts ts' : List Ce.Td} (h : Tell W B b g c r q cq bx T ct ts) (hg : W.grownBy W' (Value.slice T ts.length ct).ownBlock) (ht : TdE.Own 106 W' B T' ct' ts') :
    Blk W' b 127 #[.slice (some ⟨g, 0, none⟩) 1 c, .int .i64 1, .slice T ts.length ct] ∧ Tell (W'.setCell ⟨b, 2, none⟩ (.slice T' ts'.length ct')) B b g c r q cq bx T' ct' ts' := by
  have hb' := h.wk.blk.kept hg (Own.ne_blk h.wk.tds h.wk.blk (by decide))
  refine ⟨hb', Work.setT hb' h.wk.hB (h.wk.sts.kept hg (own_own_ne h.wk.sts h.wk.tds (by decide))) ht, Only.set1.ownT hb' (h.rd.kept hg (own_own_ne h.rd h.wk.tds (by decide))) (by decide), Only.set1.ownT hb' (h.vl.kept hg (own_own_ne h.vl h.wk.tds (by decide))) (by decide), Only.set1.blk (h.bx_.kept hg (Own.ne_blk h.wk.tds h.bx_ (by decide))) (fun e => ?_)⟩
  have e1 := h.wk.blk
  rw [← e] at e1
  have e' : some _ = some _ := (show Blk _ _ _ _ from e1).symm.trans h.bx_
  injection e' with e'
  injection e' with _ ht
  exact absurd ht (by decide)

def ldTell : Oper := { dst := some 31, op := Op.load 45 (Operand.tmp 30), type := 45, pos := "work.go:81", after := #[{ on := 3, ground := Ground.data }], guard := none }
def ldTold : Oper := { dst := some 59, op := Op.load 3 (Operand.tmp 58), type := 3, pos := "work.go:85", after := #[{ on := 2, ground := Ground.data }], guard := none }
attribute [local go_sem] ldTell ldTold
set_option maxRecDepth 100000 in
set_option maxHeartbeats 8000000 in
theorem tell1_any (B b g c r q cq : Nat) (T : Option Addr) (ct : Nat) (w : World) (hBw : B ≤ w.heap.size) (hw : Work w B b (some ⟨g, 0, none⟩) c [(⟨some ⟨r, 0, none⟩, 2, 2⟩, ⟨some ⟨q, 0, none⟩, 1, cq⟩)] 1 T ct []) (hq : RdE.Own 122 w B (some ⟨q, 0, none⟩) cq [⟨1, 7⟩]) (hv : ValE.Own 26 w B (some ⟨r, 0, none⟩) 2 [Ce.hole, Ce.vint 5]) :
    Calls Tryz.prog 160 #[.pointer (some ⟨b, 0, none⟩), .pointer (some ⟨g, 0, none⟩), .int .i64 1] w fun e w' => e = .returned (.tuple #[]) ∧ One w' B b r [Ce.hole, Ce.vint 5] [] 0 [⟨7, Ce.vint 5⟩] ∧ w'.cell? ⟨b, 0, none⟩ = some (.slice (some ⟨g, 0, none⟩) 1 c) ∧ Below B w w' ∧ Fr r w w' := by
  have hb1 : Below w.heap.size w (w.alloc (.cells #[.int .i64 1] 3)) := (Below.refl _ _).alloc (Nat.le_refl _) _
  have HT0 : Hid (Tell (w.alloc (.cells #[.int .i64 1] 3)) B b g c r q cq w.heap.size T ct []) := Lib.hid ⟨hw.below hb1, Own.below hq hb1, Own.below hv hb1, Blk.new _ _ _⟩
  have HF0 : Hid (Below B w (w.alloc (.cells #[.int .i64 1] 3)) ∧ Fr r w (w.alloc (.cells #[.int .i64 1] 3))) := Lib.hid ⟨hb1.mono hBw, Fr.below hb1⟩
  have hbl := hw.blk.lt
  have hgl := hw.at1.2.2.2
  have hql := (hq.lt q rfl).2
  have hrl := (hv.lt r rfl).2
  have hBb := hw.hB
  obtain ⟨⟨t1, t2⟩, ⟨t3, t4⟩, _, _, t5⟩ := HT0.out.at_
  clear hb1 hw hq hv
  go_enter Tryz.func160, Tryz.ntmps160
  go_wp2_with fail
  generalize hWX : World.alloc _ _ = WX at *
  clear hWX
  go_loopw [19] (fun i wr => w.heap.size < wr.heap.size ∧ ((i = .int .i64 0 ∧ Hid (Tell wr B b g c r q cq w.heap.size T ct []) ∧ Hid (Below B w wr ∧ Fr r w wr)) ∨ (∃ T' ct', i = .int .i64 1 ∧ Hid (Tell wr B b g c r q cq w.heap.size T' ct' [⟨7, Ce.vint 5⟩]) ∧ Hid (Below B w wr ∧ Fr r w wr)))) (fun i _ => 1 - (intOf i).toNat)
  case atStart => exact ⟨HT0.out.bx_.lt, .inl ⟨rfl, HT0, HF0⟩⟩
  case round =>
    clear HT0 HF0 t1 t2 t3 t4 t5
    obtain ⟨hwz, ⟨rfl, HT, HF⟩ | ⟨T', ct', rfl, HT, HF⟩⟩ := hrel
    · obtain ⟨⟨t1, t2⟩, ⟨t3, t4⟩, ⟨t6, t7⟩, ⟨t8, t9⟩, t5⟩ := HT.out.at_
      have hba : Below wr.heap.size wr (wr.alloc (.cells #[.int .i64 1, .int .i64 7] 122)) := (Below.refl _ _).alloc (Nat.le_refl _) _
      have HT1 := Lib.hid (HT.out.below hba)
      have HN1 := Lib.hid (Blk.new wr 122 #[.int .i64 1, .int .i64 7])
      have HF1 := Lib.hid (show Below B w _ ∧ Fr r w _ from ⟨HF.out.1.trans (hba.mono (by omega)), HF.out.2.trans (Fr.below hba)⟩)
      obtain ⟨⟨s1, s2⟩, ⟨s3, s4⟩, ⟨s6, s7⟩, ⟨s8, s9⟩, s5⟩ := HT1.out.at_
      have n0 := HN1.out.cell 0
      have n1 := HN1.out.cell 1
      dsimp at n0 n1
      go_wp2_with fail
      generalize hWY : World.alloc _ _ = WY at *
      clear hWY hba t1 t2 t3 t4 t5 t6 t7 t8 t9
      have hz0 := HT1.out.bx_.lt
      have hz1 := HN1.out.lt
      have hbl2 : b < WY.heap.size := by omega
      have hne1 : b ≠ wr.heap.size := by omega
      have hne2 : wr.heap.size ≠ b := by omega
      have hne3 : b ≠ w.heap.size := by omega
      have hne4 : w.heap.size ≠ b := by omega
      have hbg : b ≠ g := fun e => by
        obtain ⟨cs, hg⟩ := HT1.out.wk.stBlk
        rw [← e] at hg
        have e' : some _ = some _ := (show Blk _ _ _ _ from hg).symm.trans HT1.out.wk.blk
        injection e' with e'
        injection e' with _ ht
        exact absurd ht (by decide)
      have hgb : g ≠ b := fun e => hbg e.symm
      have hbr : b ≠ r := fun e => by
        obtain ⟨cs, hg⟩ := HT1.out.vl.blk (g := r) rfl
        rw [← e] at hg
        have e' : some _ = some _ := hg.symm.trans HT1.out.wk.blk
        injection e' with e'
        injection e' with _ ht
        exact absurd ht (by decide)
      have hrb : r ≠ b := fun e => hbr e.symm
      have HX3 : Hid (Below WY.heap.size WY (WY.alloc (.cells #[.int .i64 7, .int .u8 1, .int .i64 5] 106)).drew) := Lib.hid ((Below.refl _ _).alloc (Nat.le_refl _) _).drew
      have HARG : Hid (TdE.Arg (WY.alloc (.cells #[.int .i64 7, .int .u8 1, .int .i64 5] 106)).drew (some ⟨WY.heap.size, 0, none⟩) [⟨7, Ce.vint 5⟩]) := Lib.hid ((row_arg (K := TdE) (W := WY) (t := 106) (cs := #[.int .i64 7, .int .u8 1, .int .i64 5]) rfl rfl).below (Below.refl _ _).drew)
      clear n0 s6 s7 s4 s1
      rw [show ({ dst := some 31, op := Op.load 45 (Operand.tmp 30), type := 45, pos := "work.go:81", after := #[{ on := 3, ground := Ground.data }], guard := none } : Oper) = ldTell from rfl]
      go_region_held3 (fun W => W.cell? ⟨wr.heap.size, 1, none⟩ = some (.int .i64 7) ∧ W.cell? ⟨g, 0, none⟩ = some (.slice (some ⟨r, 0, none⟩) 2 2) ∧ W.cell? ⟨w.heap.size, 0, none⟩ = some (.int .i64 1) ∧ W.cell? ⟨r, 2, none⟩ = some (.int .u8 1) ∧ W.cell? ⟨r, 3, none⟩ = some (.int .i64 5))
        (go_keep)
        (first
          | (refine step_append_any TdE _ rfl _ _ 45 106 rfl Tryz.underlying45 td_info rfl B T ct _ [] [⟨7, Ce.vint 5⟩] _ _ _ rfl rfl rfl rfl (fun hh => by cases hh) (Own.below HT1.out.wk.tds HX3.out) HARG.out (by simp [maxLen]) (by simp) (by have := HX3.out.size; omega) ?_; intro A4 c4 w4 hown4 hgrow4
             have ht4 := (HT1.out.below HX3.out)
             have hn4 := (HN1.out.below HX3.out).kept hgrow4 (Own.ne_blk ht4.wk.tds (HN1.out.below HX3.out) (by decide))
             have hb4 := (ht4.told hgrow4 hown4).1
             have v2 := hb4.cell 2
             have vf := hb4.frozen 2
             have vl := hb4.lt
             have vn := hn4.cell 1
             have vx := (ht4.bx_.kept hgrow4 (Own.ne_blk ht4.wk.tds ht4.bx_ (by decide))).cell 0
             obtain ⟨gs, hgs⟩ := ht4.wk.stBlk
             have vg := World.grownBy.cell hgrow4 ht4.at_.2.1.1 (Own.ne_blk ht4.wk.tds hgs (by decide))
             obtain ⟨rs, hrs⟩ := ht4.vl.blk (g := r) rfl
             have vr0 := World.grownBy.cell hgrow4 ht4.at_.2.2.2.1.1 (Own.ne_blk ht4.wk.tds hrs (by decide))
             have vr1 := World.grownBy.cell hgrow4 ht4.at_.2.2.2.1.2 (Own.ne_blk ht4.wk.tds hrs (by decide))))
      all_goals
        have HT5 := Lib.hid (ht4.told hgrow4 hown4).2
        have HF5 : Hid (Below B w (w4.setCell ⟨b, 2, none⟩ (.slice A4 1 c4)) ∧ Fr r w (w4.setCell ⟨b, 2, none⟩ (.slice A4 1 c4))) := Lib.hid ⟨((HF1.out.1.trans (HX3.out.mono (by omega))).grown hgrow4 (by have := HX3.out.size; omega) (fun j hj => (ht4.wk.tds.lt j hj).1)).setCell (p := ⟨b, 2, none⟩) hBb _, ((HF1.out.2.trans (Fr.below HX3.out)).trans (Fr.grown ht4.wk.tds (.inr (.inr (.inr rfl))) hgrow4)).trans (Fr.set hb4 (.inl rfl))⟩
        clear hn4 hb4 v2 vf vl vn vx vg vr0 vr1 hgs hrs ht4
        go_wp2_with fail
        go_roundw
        case rel => exact ⟨HT5.out.bx_.lt, .inr ⟨A4, c4, by go_num, HT5, HF5⟩⟩
        case measure => simp [intOf]
    · obtain ⟨⟨t1, t2⟩, ⟨t3, t4⟩, ⟨t6, t7⟩, ⟨t8, t9⟩, t5⟩ := HT.out.at_
      have HD := Lib.hid (delete1_any ⟨1, 7⟩ 1 rfl q cq w.heap.size B wr (by omega) HT.out.rd HT.out.bx_)
      clear t6 t7 t8 t9
      go_wp2_with fail
      refine HD.out.mono ?_
      rintro e w2 ⟨rfl, ho2, hb2, hk2, hf2⟩
      have hblk2 := hk2 _ _ _ HT.out.wk.blk (fun e => by
        obtain ⟨cs, hg⟩ := HT.out.rd.blk (g := q) rfl
        rw [← e] at hg
        have e' : some _ = some _ := hg.symm.trans HT.out.wk.blk
        injection e' with e'
        injection e' with _ ht
        exact absurd ht (by decide))
      obtain ⟨qs, hqs⟩ := HT.out.rd.blk (g := q) rfl
      have HW2 : Hid (Work w2 B b (some ⟨g, 0, none⟩) c [(⟨some ⟨r, 0, none⟩, 2, 2⟩, ⟨some ⟨q, 0, none⟩, 1, cq⟩)] 1 T' ct' [⟨7, Ce.vint 5⟩]) := Lib.hid ⟨hBb, hblk2, Own.keptB HT.out.wk.sts hk2 (Own.ne_blk HT.out.wk.sts hqs (by decide)), Own.keptB HT.out.wk.tds hk2 (Own.ne_blk HT.out.wk.tds hqs (by decide))⟩
      have hgne : ∃ gs, Blk w2 g 83 gs := HW2.out.stBlk
      obtain ⟨gs, hgs⟩ := hgne
      have HR3 := Lib.hid (Only.set1 (y := g) (o := 1) (a := .slice (some ⟨q, 0, none⟩) 0 cq) |>.ownT hgs ho2 (by decide))
      have HV3 := Lib.hid (Only.set1 (y := g) (o := 1) (a := .slice (some ⟨q, 0, none⟩) 0 cq) |>.ownT hgs (Own.keptB HT.out.vl hk2 (Own.ne_blk HT.out.vl hqs (by decide))) (by decide))
      have HW3 := Lib.hid (HW2.out.setW (some ⟨q, 0, none⟩) 0 cq)
      have HF3 : Hid (Below B w (w2.setCell ⟨g, 1, none⟩ (.slice (some ⟨q, 0, none⟩) 0 cq)) ∧ Fr r w (w2.setCell ⟨g, 1, none⟩ (.slice (some ⟨q, 0, none⟩) 0 cq))) := Lib.hid ⟨(HF.out.1.trans hb2).setCell (p := ⟨g, 1, none⟩) (HW2.out.sts.lt g rfl).1 _, (HF.out.2.trans (hf2 r)).trans (Fr.set hgs (.inr (.inl rfl)))⟩
      obtain ⟨k0, k1, kf, kl⟩ := HW2.out.at1
      have hbg : b ≠ g := fun e => by
        rw [← e] at hgs
        have e' : some _ = some _ := (show Blk _ _ _ _ from hgs).symm.trans HW2.out.blk
        injection e' with e'
        injection e' with _ ht
        exact absurd ht (by decide)
      have hgb : g ≠ b := fun e => hbg e.symm
      have m1 := HW2.out.blk.cell 1
      have m2 := HW2.out.blk.cell 2
      dsimp at m1 m2
      clear k0 ho2 hb2 hk2 hf2 hblk2 hqs hgs t1 t2 t3 t4 t5 HD
      go_wp2_with fail
      generalize hW3 : World.setCell w2 _ _ = W3 at *
      clear hW3 m1 m2 k1 kf kl
      have m1 := HW3.out.blk.cell 1
      have mf := HW3.out.blk.frozen 1
      have ml := HW3.out.blk.lt
      obtain ⟨_, k1, _, kl⟩ := HW3.out.at1
      dsimp at m1
      unfold Sl.val at k1
      dsimp at k1
      rw [show ({ dst := some 59, op := Op.load 3 (Operand.tmp 58), type := 3, pos := "work.go:85", after := #[{ on := 2, ground := Ground.data }], guard := none } : Oper) = ldTold from rfl]
      go_region_held3 (fun W => W.cell? ⟨g, 1, none⟩ = some (.slice (some ⟨q, 0, none⟩) 0 cq))
        (go_keep)
        (first | (fail "none"))
      all_goals
        have hd := (Below.refl W3.heap.size W3).drew
        have HW4 := Lib.hid ((HW3.out.below hd).setN 0)
        have HB4 := Lib.hid (HW3.out.below hd).blk
        go_wp2
        go_end0
        refine ⟨rfl, ⟨⟨g, c, some ⟨q, 0, none⟩, cq, T', ct', HW4.out, (Only.set1 (W := W3.drew)).ownT HB4.out (Own.below HR3.out hd) (by decide)⟩, (Only.set1 (W := W3.drew)).ownT HB4.out (Own.below HV3.out hd) (by decide), rfl⟩, HW4.out.blk.cell 0, ?_, (HF3.out.2.trans (Fr.below hd)).trans (Fr.set HB4.out (.inl rfl))⟩
        exact (HF3.out.1.trans (hd.mono (by have := HF3.out.1.size; omega))).setCell (p := ⟨b, 1, none⟩) hBb _
end Go.Proofs.YtacggbpgillbaaaGreatDoor
