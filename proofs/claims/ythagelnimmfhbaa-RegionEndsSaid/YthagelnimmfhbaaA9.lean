/- Layer 5, the program: counted. -/
import Derived.Test.YthagelnimmfhbaaA7
import Derived.Test.YthagelnimmfhbaaA8
import Derived.Maps.OwnIn
import Derived.Maps.Views
import Derived.MapKept
namespace Go.Proofs.Ythagelnimmfhbaa
open Go.RowKit Go.El
attribute [local go_sem] Oper.semAt_some

/-- a map of whole numbers holds what a function says -/
structure Often (D : DataW Unit) (f : Int → Option Int) : Prop where
  isMap : Maps.IsMap D
  has : ∀ c, Maps.has D (.int .i64 c) = (f c).isSome
  at_ : ∀ c n, f c = some n → ∀ z, D.atKey (.int .i64 c) z = .lit (.int .i64 n)
theorem Often.empty : Often (.map []) (fun _ => none) := ⟨Maps.isMap_empty, fun _ => rfl, fun c n h => by cases h⟩
theorem Often.put {D : DataW Unit} {f : Int → Option Int} (h : Often D f) (c v : Int) : Often (D.put (.int .i64 c) (.lit (.int .i64 v))) (Rg.upd f c v) := by
  refine ⟨h.isMap.put _ _, fun x => ?_, fun x n hx z => ?_⟩
  · unfold Rg.upd
    by_cases e : x = c
    · subst e; rw [if_pos rfl, Maps.has_put_same h.isMap (show WideAt.IsKeyLit (.int .i64 x) from trivial)]; rfl
    · rw [if_neg e, Maps.has_put_other (by simpa using e), h.has]
  · unfold Rg.upd at hx
    by_cases e : x = c
    · subst e
      rw [if_pos rfl] at hx
      injection hx with hx
      subst hx
      exact Maps.atKey_put_same h.isMap (show WideAt.IsKeyLit (.int .i64 x) from trivial) _ _
    · rw [if_neg e] at hx
      rw [Maps.atKey_put_other (by simpa using e)]
      exact h.at_ x n hx z
theorem Often.look {D : DataW Unit} {f : Int → Option Int} (h : Often D f) {c k : Int} (hk : D.atKey (.int .i64 c) (.lit (.int .i64 0)) = .lit (.int .i64 k)) : k = (f c).getD 0 := by
  cases hf : f c with
  | none =>
    have hh := h.has c
    rw [hf] at hh
    rw [Maps.atKey_of_not_has hh] at hk
    injection hk with hk
    injection hk with _ hk
    rw [← hk]; rfl
  | some n =>
    rw [h.at_ c n hf] at hk
    injection hk with hk
    injection hk with _ hk
    rw [← hk]; rfl

theorem run_makeMap_hint (n : Int) (w : World) : (Instr.makeMap 84 (some (.int .i64 n))).run Try.prog w = .ok (.map (some w.heap.size)) (w.alloc (.map #[] 0)) := by
  simp [Instr.makeMap, run_underlying Try.underlying84, go_sem]

abbrev OwnMp (W : World) (b n : Nat) (D : DataW Unit) : Prop := W.ownsMap Try.prog 3 (plainElem Try.prog 3) b n D
def Counts (W : World) (b n : Nat) (f : Int → Option Int) : Prop := ∃ nn D, nn ≤ n ∧ OwnMp W b nn D ∧ Often D f
theorem Counts.kept {W W' : World} {b n : Nat} {f : Int → Option Int} {row : Option Nat} (h : Counts W b n f) (hg : W.grownBy W' row) (hne : some b ≠ row) : Counts W' b n f := by
  obtain ⟨nn, D, h1, h2, h3⟩ := h
  exact ⟨nn, D, h1, h2.kept hg hne, h3⟩
theorem Counts.below {W W' : World} {b n : Nat} {f : Int → Option Int} (h : Counts W b n f) (hb : Below W.heap.size W W') : Counts W' b n f := h.kept (grown_of_below hb none) (by simp)
theorem counts_own {β : Type} (b C : Nat) (n : β → Nat) (f : β → Int → Option Int) (hB : b < C) : OwnFrom C (fun s W => Counts W b (n s) (f s)) :=
  fun _ _ _ _ hs hg hr => hs.kept hg (fun e => by have := (hr b e.symm).1; omega)
theorem lit_wf {x : Int} (h0 : -1000000 ≤ x) (h1 : x ≤ 1000000) : (Lit.int .i64 x).wf = true := by
  have e1 : IntKind.i64.min = -9223372036854775808 := rfl
  have e2 : IntKind.i64.max = 9223372036854775807 := rfl
  simp [Lit.wf, e1, e2]; omega
theorem zero_int : ∀ w, (zeroValue 3).run Try.prog w = .ok (.int .i64 0) w := fun _ => by kernel_rfl

set_option maxRecDepth 100000 in
set_option maxHeartbeats 4000000 in
theorem counted_in (n : Nat) (hn : 3 ≤ n) (l : List Rg.Pt) (hv : ∀ p ∈ l, p.ok = true) (hl : l.length ≤ 12) (A : Option Addr) (cap S : Nat) (hS : S ≤ 109) (w : World) (h : PtE.Arg w A l) :
    CallsIn Fence.wide n Try.prog 57 #[.slice A l.length cap, .int .i64 S] w fun e W' => e = .returned (.map (some w.heap.size)) ∧ Counts W' w.heap.size 10000 (Rg.cntd l S []) ∧ Below w.heap.size w W' := by
  have h1' : 1 ≤ n := by omega
  have hmm := run_makeMap_hint
  have hcl := fun (p : Rg.Pt) W => cells_any p (S : Int) W
  have hst := fun (p : Rg.Pt) (hp : p.ok = true) (B : Nat) (w : World) (hS' : SzAt p (S : Int) B w) => cells_stops (n - 1) B p hp (S : Int) (by omega) (by omega) w hS'
  have H := Lib.hid (Arg.stay h)
  have HA := Lib.hid h
  unfold szC at hcl
  have HCL := Lib.hid hcl
  have HST := Lib.hid hst
  have HV := Lib.hid hv
  have hm0 := World.ownsMap_made w Try.prog 3 (plainElem (H := Unit) Try.prog 3)
  have bS := Boxed.new (w.alloc (.map #[] 0)) 84 (.map (some w.heap.size))
  rw [World.size_alloc] at bS
  have hC0 : Counts ((w.alloc (.map #[] 0)).alloc (.cells #[.map (some w.heap.size)] 84)) w.heap.size 0 (Rg.cnt0 0) := ⟨0, _, Nat.le_refl _, hm0.alloc _, by rw [Rg.cnt0_zero]; exact Often.empty⟩
  have hB0 : Below w.heap.size w ((w.alloc (.map #[] 0)).alloc (.cells #[.map (some w.heap.size)] 84)) := ((Below.refl _ w).alloc (Nat.le_refl _) _).alloc (by simp) _
  have HC0 := Lib.hid hC0
  have HB0 := Lib.hid hB0
  have HS0 := Lib.hid bS
  clear h hcl hst hv hm0 bS hC0 hB0
  refine callsIn_of_wp_marks Try.func57 rfl trivial ?_ rfl
  simp only [Try.ntmps57, List.size_toArray, List.length_cons, List.length_nil, Nat.reduceAdd, Nat.reduceSub, Array.replicate_succ, Array.replicate_zero, List.push_toArray, List.append_toArray, List.nil_append, List.cons_append]
  gi_wp2_with fail
  gi_loopw [13] (fun i wr => ∃ k : Nat, k ≤ S ∧ i = .int .i64 k ∧ Counts wr w.heap.size k (Rg.cnt0 k) ∧ Boxed wr (w.heap.size + 1) 84 (.map (some w.heap.size)) ∧ Below w.heap.size w wr ∧ w.heap.size + 2 ≤ wr.heap.size) (fun i _ => S - (intOf i).toNat)
  case atStart => exact ⟨0, Nat.zero_le _, rfl, HC0.out, HS0.out, HB0.out, by simp⟩
  case round =>
    obtain ⟨k, hk, rfl, ⟨nn, D, hnn, hown, hof⟩, hbx, hB, hz⟩ := hrel
    have hc := hbx.cell
    by_cases hlt : k < S
    · have hlt' : (k : Int) < (S : Int) := by omega
      have hkey := Maps.keyOf_int_mk (k := 3) (P := Try.prog) Try.underlying3 (lit_wf (x := (k : Int)) (by omega) (by omega))
      have HOF := Lib.hid hof
      clear hof
      gi_wp2_with (gi_at_mapUpdate; refine wpListIn_mapUpdate_own _ rfl _ _ _ 84 rfl 3 3 (Maps.int_keyed Try.underlying3) Try.underlying84 _ w.heap.size nn _ rfl hown (by simp only [maxLen]; omega) _ _ _ rfl rfl hkey _ [] (plainElem_int Try.underlying3 (lit_wf (by omega) (by omega))) ?_; intro w1 hown1 hgrow1)
      have hz1 := hgrow1.size
      go_roundw
      case rel => exact ⟨k + 1, by omega, by go_num, ⟨nn + 1, _, by omega, hown1, by have := HOF.out.put k 0; rw [Rg.cnt0_step _ (by omega)] at this; exact this⟩, hbx.kept hgrow1 (by simp), hB.grown hgrow1 hB.size (fun j e => by cases e; exact Nat.le_refl _), by omega⟩
      case measure => simp [intOf]; omega
    · obtain rfl : S = k := by omega
      have hlt' : ¬ (S : Int) < (S : Int) := by omega
      have HCS : Hid (Counts wr w.heap.size (S + 210 * 0) (Rg.cntd (l.take 0) S [])) := Lib.hid ⟨nn, D, by omega, hown, by have := hof; rw [Rg.cnt0_end] at this; exact this⟩
      clear hown hof
      gi_wp2_with fail
      clear hc
      refine wpIn_loop (fun a' w' => ∃ (u8 u9 u22 u23 u24 u25 u26 u27 u28 u29 u30 u31 u32 u33 u34 : Value) (k : Nat) (Ds : List Nat), (k ≤ l.length ∧ Counts w' w.heap.size (S + 210 * k) (Rg.cntd (l.take k) S []) ∧ Boxed w' (w.heap.size + 1) 84 (.map (some w.heap.size)) ∧ MarksAt Ds w' ∧ Ds.Nodup ∧ Hid (∀ D ∈ Ds, w.heap.size + 2 ≤ D) ∧ Below w.heap.size w w' ∧ w.heap.size + 2 ≤ w'.heap.size) ∧
        a' = { tmps := #[.slice A l.length cap, .int .i64 (S : Nat), undef, undef, .map none, .pointer (some ⟨w.heap.size + 1, 0, none⟩), u6, undef, u8, u9, .int .i64 (S : Nat), .map (some w.heap.size), .int .i64 (S : Nat), .int .i64 (S : Nat), .bool false, u15, u16, u17, u18, .slice A l.length cap, .int .i64 (l.length : Nat), .int .i64 (k : Nat), u22, u23, u24, u25, u26, u27, u28, u29, u30, u31, u32, u33, u34, undef], defers := marks Ds }) (fun a' _ => l.length - (intOf (a'.tmps.getD 21 undef)).toNat) ?_ ?_
      · exact ⟨_, _, _, _, _, _, _, _, _, _, _, _, _, _, _, 0, [], ⟨Nat.zero_le _, HCS.out, hbx, fun D hD => (by cases hD), List.nodup_nil, Lib.hid (fun D hD => (by cases hD)), hB, hz⟩, rfl⟩
      · clear HCS hbx hB hz
        intro _ wr hinv
        obtain ⟨u8, u9, u22, u23, u24, u25, u26, u27, u28, u29, u30, u31, u32, u33, u34, k, Ds, ⟨hk, hC, hbx, hM, hnd, HD, hB, hz⟩, rfl⟩ := hinv
        have hm : (l.length : Int) ≤ 9223372036854775807 := by omega
        by_cases hlt : k < l.length
        · have hlt' : (k : Int) < l.length := by omega
          obtain ⟨b, o, rfl, hin, hbl⟩ := HA.out.at_lt hlt
          obtain ⟨p, hp⟩ : ∃ p, l[k]? = some p := ⟨_, List.getElem?_eq_getElem hlt⟩
          have hok := HV.out p (List.mem_of_getElem? hp)
          obtain ⟨x0, x1, x2, x3, x4⟩ := PtE.at5 (hin.below hB (fun _ => hbl)) hp
          have hbl2 : b < wr.heap.size := by omega
          have HTK : Hid (l.take (k + 1) = l.take k ++ [p]) := Lib.hid (by
            obtain ⟨hk2, e⟩ := List.getElem?_eq_some_iff.1 hp
            rw [List.take_succ_eq_append_getElem hk2, e])
          clear hin hp
          gi_wp2_with fail
          refine ⟨trivial, (callsIn_wide.2 (HCL.out p _)).mono ?_⟩
          rintro e w1 ⟨rfl, rfl⟩
          have hA1 : Below wr.heap.size wr ((wr.alloc (.cells #[.bool p.lo.size, .int .i64 p.lo.n, .bool p.hi.size, .int .i64 p.hi.n, .int .i64 p.step] 25)).alloc (.cells #[.bool p.lo.size, .int .i64 p.lo.n, .bool p.hi.size, .int .i64 p.hi.n, .int .i64 p.step, .int .i64 (S : Nat)] 69)) := ((Below.refl _ _).alloc (Nat.le_refl _) _).alloc (by simp) _
          have hS1 : SzAt p (S : Int) (wr.heap.size + 1) ((wr.alloc (.cells #[.bool p.lo.size, .int .i64 p.lo.n, .bool p.hi.size, .int .i64 p.hi.n, .int .i64 p.step] 25)).alloc (.cells #[.bool p.lo.size, .int .i64 p.lo.n, .bool p.hi.size, .int .i64 p.hi.n, .int .i64 p.step, .int .i64 (S : Nat)] 69)) := by
            have := heap_alloc_new (wr.alloc (.cells #[.bool p.lo.size, .int .i64 p.lo.n, .bool p.hi.size, .int .i64 p.hi.n, .int .i64 p.step] 25)) (.cells #[.bool p.lo.size, .int .i64 p.lo.n, .bool p.hi.size, .int .i64 p.hi.n, .int .i64 p.step, .int .i64 (S : Nat)] 69)
            rw [World.size_alloc] at this
            exact this
          have hlt1 := hS1.lt
          have HSEQ := Lib.hid (HST.out p hok (wr.heap.size + 1) _ hS1)
          have hbx1 := (hbx.alloc (.cells #[.bool p.lo.size, .int .i64 p.lo.n, .bool p.hi.size, .int .i64 p.hi.n, .int .i64 p.step] 25)).alloc (.cells #[.bool p.lo.size, .int .i64 p.lo.n, .bool p.hi.size, .int .i64 p.hi.n, .int .i64 p.step, .int .i64 (S : Nat)] 69)
          have hC1 := hC.below hA1
          have hM1 := hM.below hA1
          have hB1 := hB.trans (hA1.mono (by omega))
          have hz1 : wr.heap.size + 2 ≤ ((wr.alloc (.cells #[.bool p.lo.size, .int .i64 p.lo.n, .bool p.hi.size, .int .i64 p.hi.n, .int .i64 p.step] 25)).alloc (.cells #[.bool p.lo.size, .int .i64 p.lo.n, .bool p.hi.size, .int .i64 p.hi.n, .int .i64 p.step, .int .i64 (S : Nat)] 69)).heap.size := by simp
          generalize (wr.alloc (.cells #[.bool p.lo.size, .int .i64 p.lo.n, .bool p.hi.size, .int .i64 p.hi.n, .int .i64 p.step] 25)).alloc (.cells #[.bool p.lo.size, .int .i64 p.lo.n, .bool p.hi.size, .int .i64 p.hi.n, .int .i64 p.step, .int .i64 (S : Nat)] 69) = W1 at *
          clear x0 x1 x2 x3 x4 hbx hC hM hA1 hS1 hB
          gi_wp2_with fail
          refine wpIn_rangeFunc_ownG rfl h1' (gf := 55) (lb := #[.pointer (some ⟨wr.heap.size + 1, 0, none⟩)]) rfl trivial (enters_of Try.func55 (by kernel_rfl) rfl)
            HSEQ.out KpB.trans (KpB.b hlt1) (Below.refl _ _) (fun _ => rfl)
            (fun pre W => Counts W w.heap.size (S + 210 * k + pre.length) (Rg.cntd (l.take k) S (pre.map (·.1))) ∧ Boxed W (w.heap.size + 1) 84 (.map (some w.heap.size)) ∧ MarksAt Ds W ∧ Below w.heap.size w W)
            (fun _ _ _ => False)
            (OwnFrom.and (counts_own _ _ _ _ (by omega)) (OwnFrom.and (boxed_own2 _ _ _ _ (by omega)) (OwnFrom.and (marksAt_own hM1) (ownFrom_below (Nat.le_refl _) (by omega)))))
            (fun _ _ _ _ _ hs _ _ => hs)
            ⟨hC1, hbx1, hM1, hB1⟩
            (fun x => { tmps := #[.slice (some ⟨b, o, none⟩) l.length cap, .int .i64 (S : Nat), undef, undef, .map none, .pointer (some ⟨w.heap.size + 1, 0, none⟩), u6, undef, .pointer (some ⟨wr.heap.size, 0, none⟩), .int .i64 x.1, .int .i64 (S : Nat), .map (some w.heap.size), .int .i64 (S : Nat), .int .i64 (S : Nat), .bool false, u15, u16, u17, u18, .slice (some ⟨b, o, none⟩) l.length cap, .int .i64 (l.length : Nat), .int .i64 (k : Nat), .bool true, .pointer (some ⟨b, o + k * 5, none⟩), .agg #[.bool p.lo.size, .int .i64 p.lo.n, .bool p.hi.size, .int .i64 p.hi.n, .int .i64 p.step], .agg #[.bool p.lo.size, .int .i64 p.lo.n, .bool p.hi.size, .int .i64 p.hi.n, .int .i64 p.step], .int .i64 (S : Nat), .agg #[.bool p.lo.size, .int .i64 p.lo.n, .bool p.hi.size, .int .i64 p.hi.n, .int .i64 p.step, .int .i64 (S : Nat)], .func (.func 55) #[] #[.pointer (some ⟨wr.heap.size + 1, 0, none⟩)], .int .i64 x.1, u30, u31, u32, u33, u34, undef], defers := [] }) ?assign ?body ?done ?stop
          case assign =>
            intro l x W K hK
            gi_wp2
            exact hK
          case body =>
            rintro l' pre x W ⟨⟨nn, D, hnn, hown, hof⟩, hbx2, hm2, hb2⟩ hlen
            have hc := hbx2.cell
            have hkey := Maps.keyOf_int_mk (k := 3) (P := Try.prog) Try.underlying3 (lit_wf (x := x.1) (by have := x.2; omega) (by have := x.2; omega))
            have HOF := Lib.hid hof
            have HLK : Hid (∀ c, D.atKey (.int .i64 x.1) (.lit (.int .i64 0)) = .lit (.int .i64 c) → c = (Rg.cntd (l.take k) S (pre.map (·.1)) x.1).getD 0 ∧ 0 ≤ c ∧ c ≤ 1000) := Lib.hid fun c hc => by
              have e := HOF.out.look hc
              refine ⟨e, ?_⟩
              rw [e, Rg.cntd_getD]
              have h1 := Rg.many_le (l.take k) S x.1
              have h2 : (pre.map (·.1)).count x.1 ≤ (pre.map (·.1)).length := List.count_le_length
              rw [List.length_map] at h2
              rw [List.length_take] at h1
              omega
            clear hof
            gi_wp2_with (first
              | (gi_at_lookup; refine wpListIn_lookup_own_int _ rfl _ _ 84 rfl 3 3 .i64 (Maps.int_keyed Try.underlying3) Try.underlying84 Try.underlying3 (zero_int _) w.heap.size nn _ rfl hown _ _ rfl hkey ?_; intro c hat hwc; obtain ⟨HCE, hcl0, hcl1⟩ := HLK.out c hat; have HCE2 := Lib.hid HCE; clear HCE hat hwc)
              | (gi_at_mapUpdate; refine wpListIn_mapUpdate_own _ rfl _ _ _ 84 rfl 3 3 (Maps.int_keyed Try.underlying3) Try.underlying84 _ w.heap.size nn _ rfl hown (by simp only [maxLen]; omega) _ _ _ rfl rfl hkey _ [] (plainElem_int Try.underlying3 (lit_wf (by omega) (by omega))) ?_; intro w1 hown1 hgrow1))
            have hz2 := hgrow1.size
            have hzb := hb2.size
            have hcell := hbx2.kept hgrow1 (by simp)
            refine ⟨KeepsFrom.of_grownBy hgrow1 (fun j e => by cases e; omega), ⟨hz2, fun hb => hgrow1.block _ hb (by simp; omega)⟩, ⟨nn + 1, _, by simp; omega, hown1, ?_⟩, hcell, fun D' hD' => ?_, hb2.grown hgrow1 hzb (fun j e => by cases e; exact Nat.le_refl _)⟩
            · have := HOF.out.put x.1 (c + 1)
              rw [HCE2.out, Rg.cntd_step] at this
              rw [List.map_append, HCE2.out]
              exact this
            · have := HD.out D' hD'
              exact (hgrow1.block D' (hm2.lt hD') (by simp; omega)).trans (hm2 D' hD')
          case done =>
            rintro D ys W hD hys ⟨hC2, hbx2, hm2, hb2⟩ hK
            have hDn : D ∉ Ds := fun h => by have := hM1.lt h; omega
            have HDN : Hid (∀ D' ∈ D :: Ds, w.heap.size + 2 ≤ D') := Lib.hid fun D' h => by
              rcases List.mem_cons.1 h with e | e
              · omega
              · exact HD.out D' e
            have hmN : MarksAt (D :: Ds) W := fun D' h => by
              rcases List.mem_cons.1 h with e | e
              · rw [e]; exact hK
              · exact hm2 D' e
            have hDl := hmN.lt List.mem_cons_self
            have hyl : ys.length ≤ 210 := by
              have h1 := congrArg List.length hys
              rw [List.length_map] at h1
              have h2 := Rg.cells_len hok (s := (S : Int)) (by omega) (by omega)
              omega
            have hC3 : Counts W w.heap.size (S + 210 * (k + 1)) (Rg.cntd (l.take (k + 1)) S []) := by
              obtain ⟨nn, D0, h1, h2, h3⟩ := hC2
              refine ⟨nn, D0, by omega, h2, ?_⟩
              rw [hys, Rg.cntd_end _ _ hok, ← HTK.out] at h3
              exact h3
            clear hC2
            gi_wp2
            refine ⟨?_, ?_⟩
            · exact ⟨_, _, _, _, _, _, _, _, _, _, _, _, _, _, _, k + 1, D :: Ds, ⟨by omega, hC3, hbx2, hmN, List.nodup_cons.2 ⟨hDn, hnd⟩, HDN, hb2, by omega⟩, rfl⟩
            · simp [intOf]; omega
          case stop =>
            rintro D c pre W _ _ h _
            exact h.elim
        · have hlt' : ¬ (k : Int) < l.length := by omega
          have hCN : Counts wr w.heap.size 10000 (Rg.cntd l S []) := by
            obtain ⟨nn, D0, h1, h2, h3⟩ := hC
            rw [List.take_of_length_le (by omega)] at h3
            exact ⟨nn, D0, by omega, h2, h3⟩
          have hc := hbx.cell
          clear hC
          gi_wp2
          refine leaves_marks (fun W => Counts W w.heap.size 10000 (Rg.cntd l S []) ∧ Below w.heap.size w W) Ds _ hnd hM ⟨hCN, hB⟩ (fun W D' h1 h2 h3 => ?_) (fun W' h => ?_)
          · have hl : w.heap.size + 2 ≤ D' := HD.out D' h3
            exact ⟨h1.1.kept (grownBy_putObj' W D' _) (fun e => by cases e; omega), h1.2.trans (belowK_b (w := w) (Nat.le_refl _) W D' _ _ (by omega) h2 rfl rfl)⟩
          · exact ⟨_, results_tmp rfl _ _ _, rfl, h.1, h.2⟩
end Go.Proofs.Ythagelnimmfhbaa
