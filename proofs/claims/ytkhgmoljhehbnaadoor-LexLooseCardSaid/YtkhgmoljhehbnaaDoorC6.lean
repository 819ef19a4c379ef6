/- The walk of lex.read, whole. -/
import Derived.Test.YtkhgmoljhehbnaaDoorC5
namespace Go.Proofs.YtkhgmoljhehbnaaDoor
open Go.RowKit

/-- a reader's value -/
def rdV (A : Option Addr) (n cap : Nat) (G : Option Addr) (m gcap : Nat) (mo : Option Nat) (so : Option Addr) (q : Nat) (s : ByteArray) : Value := .agg #[.slice A n cap, .slice G m gcap, .map mo, .slice so q q, .string s]
/-- how lex.read ends -/
def RdrIs (w : World) (B : Nat) (s : ByteArray) (R : Lx.Res) (e : Ending) : Prop := match R with
  | .ok ts gs => ∃ A cap G gcap bm bs, e = .returned (.tuple #[rdV A ts.length cap G gs.length gcap (some bm) (some ⟨bs, 0, none⟩) 26 s, .int .i64 0, .int .i64 0]) ∧ OwnToks w B A cap ts ∧ OwnGaps w B G gcap gs ∧ Voc w bm bs
  | .bad k er => e = .returned (.tuple #[rdV none 0 0 none 0 0 none none 0 ⟨#[]⟩, .int .i64 k, .int .i64 er])

theorem ownToks_nil (w : World) (base : Nat) : OwnToks w base none 0 [] := World.ownsRow_nil w base _ _
theorem _root_.Go.World.ownsRow.mono' {w : World} {base base' : Nat} {e : TypeId} {size : Nat} {v : Value} {n : Nat} {xs : List Value} (h : w.ownsRow base e size v n xs) (hb : base' ≤ base) : w.ownsRow base' e size v n xs :=
  ⟨h.1, h.2.imp id (fun ⟨g, cap, cur, h1, h2, h3⟩ => ⟨g, cap, cur, h1, Nat.le_trans hb h2, h3⟩)⟩

set_option maxRecDepth 100000 in
set_option maxHeartbeats 4000000 in
theorem rd_bad (s : ByteArray) (hs : s.size ≤ 281474976710656) (w : World) (h : (Lx.check s.data.toList).2 ≠ 0) :
    Calls Tryd.prog 46 #[.string s] w fun e w' => RdrIs w' w.heap.size s (Lx.read s.data.toList) e ∧ Below w.heap.size w w' := by
  have hm' : s.size ≤ maxLen := by unfold maxLen; omega
  have hchk := fun W => check_any s hm' W
  have hR := read_bad s h
  unfold chkV at hchk
  generalize (Lx.check s.data.toList).1 = c1 at hchk hR
  generalize (Lx.check s.data.toList).2 = c2 at hchk hR h
  have HC := Lib.hid hchk
  have HR := Lib.hid hR
  have hcb : ((c2 : Int) == 0) = false := by simp [h]
  have hcb3 : ((c2 : Int) != 0) = true := by simp [h]
  clear hchk hR h
  go_enter Tryd.func46, Tryd.ntmps46
  go_wp2_with fail
  refine (HC.out _).mono ?_
  rintro e w1 ⟨rfl, hb1⟩
  have hz := hb1.size
  simp only [World.size_alloc] at hz hb1
  obtain ⟨hc, hf⟩ := bcell hb1
  have c0 : ∀ i, w1.cell? ⟨w.heap.size, i, none⟩ = #[Value.slice none 0 0, .slice none 0 0, .map none, .slice none 0 0, .string ⟨#[]⟩][i]? := fun i => by rw [hc _ _ (by omega)]; simp
  have f0 : ∀ i, w1.frozen? ⟨w.heap.size, i, none⟩ = false := fun i => by rw [hf _ _ (by omega)]; simp
  have k0 := c0 0; have k1 := c0 1; have k2 := c0 2; have k3 := c0 3; have k4 := c0 4
  have g0 := f0 0; have g1 := f0 1; have g2 := f0 2; have g3 := f0 3; have g4 := f0 4
  simp at k0 k1 k2 k3 k4
  have hBw : Below w.heap.size w w1 := ((Below.refl _ w).alloc (Nat.le_refl _) _).trans (hb1.mono (by omega))
  clear c0 f0 hc hf
  go_wp2
  refine bodyPost_ret (v := .tuple #[rdV none 0 0 none 0 0 none none 0 ⟨#[]⟩, .int .i64 c1, .int .i64 c2]) (by simp [results, Tryd.results46, go_sem, rdV, k0, k1, k2, k3, k4]) rfl ⟨?_, ?_⟩
  · rw [HR.out]; rfl
  · exact ((((hBw.setCell (by simp) _).setCell (by simp) _).setCell (by simp) _).setCell (by simp) _).setCell (by simp) _

set_option maxRecDepth 100000 in
set_option maxHeartbeats 8000000 in
theorem rd_ok (s : ByteArray) (w : World) (he : Env w) (h : (Lx.check s.data.toList).2 = 0) :
    Calls Tryd.prog 46 #[.string s] w fun e w' => RdrIs w' w.heap.size s (Lx.read s.data.toList) e ∧ Below w.heap.size w w' := by
  have hs : s.size ≤ 2500 := by rw [Lib.size_eq]; exact check_lt _ h
  have hm' : s.size ≤ maxLen := by unfold maxLen; omega
  have hchk := fun W => check_any s hm' W
  have hst := RdS.start s h
  have hc1 : (Lx.check s.data.toList).1 = 0 := by
    unfold Lx.check at h ⊢
    split at h
    · simp at h
    · rename_i h1; rw [if_neg h1]
      split at h
      · simp at h
      · rename_i h2; rw [if_neg h2]
  unfold chkV at hchk
  rw [h, hc1] at hchk
  generalize Lx.read s.data.toList = R at hst ⊢
  have HC := Lib.hid hchk
  have HST := Lib.hid hst
  have HE := Lib.hid he
  clear hchk hst h hc1 he
  have hm : (s.size : Int) ≤ 9223372036854775807 := by omega
  go_enter Tryd.func46, Tryd.ntmps46
  go_wp2_with fail
  refine (HC.out _).mono ?_
  rintro e w1 ⟨rfl, hb1⟩
  have hz := hb1.size
  simp only [World.size_alloc] at hz hb1
  have B1 : Blk w1 w.heap.size 81 #[Value.slice none 0 0, .slice none 0 0, .map none, .slice none 0 0, .string ⟨#[]⟩] := (Blk.new w _ _).below hb1 (by omega)
  have hBw : Below w.heap.size w w1 := ((Below.refl _ w).alloc (Nat.le_refl _) _).trans (hb1.mono (by omega))
  clear hb1
  go_wp2_with fail
  refine (newVocabulary_any _).mono ?_
  rintro e w2 ⟨bm, bs, heq, hv, hbm, hbs, hb2⟩
  unfold vocV at heq
  subst heq
  have hz2 := hb2.size
  have B2 := B1.below hb2 (by omega)
  have hBw2 : Below w.heap.size w w2 := hBw.trans (hb2.mono (by omega))
  have f0 := B2.frozen 0; have f1 := B2.frozen 1; have f2 := B2.frozen 2; have f3 := B2.frozen 3; have f4 := B2.frozen 4
  have k0 := B2.cell 0; have k1 := B2.cell 1; have k2 := B2.cell 2; have k3 := B2.cell 3; have k4 := B2.cell 4
  simp at k0 k1 k2 k3 k4
  have hml := hv.mlt
  have hsl := hv.lt
  have B3 := ((((B2.set_ 0 (.slice none 0 0)).set_ 1 (.slice none 0 0)).set_ 2 (.map (some bm))).set_ 3 (.slice (some ⟨bs, 0, none⟩) 26 26)).set_ 4 (.string s)
  have V3 := ((((hv.grown (grownBy_setCell1 w2 w.heap.size 0 (.slice none 0 0)) (by simp; omega) (by simp; omega)).grown (grownBy_setCell1 _ w.heap.size 1 (.slice none 0 0)) (by simp; omega) (by simp; omega)).grown (grownBy_setCell1 _ w.heap.size 2 (.map (some bm))) (by simp; omega) (by simp; omega)).grown (grownBy_setCell1 _ w.heap.size 3 (.slice (some ⟨bs, 0, none⟩) 26 26)) (by simp; omega) (by simp; omega)).grown (grownBy_setCell1 _ w.heap.size 4 (.string s)) (by simp; omega) (by simp; omega)
  have b3 := ((((hBw2.setCell (p := ⟨w.heap.size, 0, none⟩) (by simp) (.slice none 0 0)).setCell (p := ⟨w.heap.size, 1, none⟩) (by simp) (.slice none 0 0)).setCell (p := ⟨w.heap.size, 2, none⟩) (by simp) (.map (some bm))).setCell (p := ⟨w.heap.size, 3, none⟩) (by simp) (.slice (some ⟨bs, 0, none⟩) 26 26)).setCell (p := ⟨w.heap.size, 4, none⟩) (by simp) (.string s)
  have hz3 : (((((w2.setCell ⟨w.heap.size, 0, none⟩ (.slice none 0 0)).setCell ⟨w.heap.size, 1, none⟩ (.slice none 0 0)).setCell ⟨w.heap.size, 2, none⟩ (.map (some bm))).setCell ⟨w.heap.size, 3, none⟩ (.slice (some ⟨bs, 0, none⟩) 26 26)).setCell ⟨w.heap.size, 4, none⟩ (.string s)).heap.size = w2.heap.size := by simp [World.setCell]
  simp at B3
  have F3 := Lib.hid (And.intro B3 (And.intro V3 (And.intro b3 hz3)))
  clear B1 B2 B3 V3 b3 hv hb2 hBw hBw2 hz3
  go_wp2_with fail
  go_loopw [3] (fun a wr => ∃ (k : Nat) (ts : List Lx.Tok) (gs : List (Nat × Nat)) (A : Option Addr) (cap : Nat) (G : Option Addr) (gcap : Nat), k ≤ s.size ∧ ts.length ≤ 900 ∧ gs.length ≤ k ∧ a = .int .i64 k ∧ Hid (Rdr wr w2.heap.size w.heap.size A cap ts G gcap gs bm bs s) ∧ Hid (RdS s R k ts gs) ∧ Below w.heap.size w wr) (fun a _ => s.size - (intOf a).toNat)
  case atStart => exact ⟨0, [], [], none, 0, none, 0, Nat.zero_le _, by simp, by simp, rfl, Lib.hid ⟨F3.out.1, ownToks_nil _ _, World.ownsRow_nil _ _ _ _, F3.out.2.1, by omega, by omega, by omega, by omega, by omega, Nat.le_of_eq F3.out.2.2.2.symm⟩, HST, F3.out.2.2.1⟩
  case round =>
    obtain ⟨k, ts, gs, A, cap, G, gcap, hk, htl, hgl, rfl, HR, HS, hbw⟩ := hrel
    clear F3 HST f0 f1 f2 f3 f4 k0 k1 k2 k3 k4
    by_cases hlt : k < s.size
    · have hlt' : (k : Int) < s.size := by omega
      have hee := HE.out.below hbw HE.out.lt
      have hst := step_any s hs k hlt wr w2.heap.size w.heap.size A cap ts G gcap gs bm bs HR.out hee htl (by omega)
      have hnx := HS.out.step hlt htl hgl
      clear hee HR HS
      generalize stepP s k ts gs = S at hst hnx
      obtain ⟨k', er, ts', gs'⟩ := S
      have HSTEP := Lib.hid hst
      clear hst
      simp only at hnx
      go_wp2_with fail
      refine HSTEP.out.mono ?_
      rintro e w3 ⟨⟨A', cap', G', gcap', rfl, hr3⟩, hb3⟩
      have HR3 := Lib.hid hr3
      have hb : Below w.heap.size w w3 := hbw.trans hb3
      clear hr3
      rcases hnx with ⟨h0, hS', hlt2, hle2, htl2, hgl2⟩ | ⟨h0, hbad, hle2⟩
      · subst h0
        have HS' := Lib.hid hS'
        clear hS' HSTEP
        go_wp2_with fail
        go_roundw
        case rel => exact ⟨k', ts', gs', A', cap', G', gcap', hle2, htl2, hgl2, rfl, HR3, HS', hb⟩
        case measure => simp [intOf]; omega
      · have hcb3 : ((er : Int) != 0) = true := by simp at h0 ⊢; omega
        have HB := Lib.hid hbad
        have B4 := HR3.out.blk
        have f0 := B4.frozen 0; have f1 := B4.frozen 1; have f2 := B4.frozen 2; have f3 := B4.frozen 3; have f4 := B4.frozen 4
        have k0 := B4.cell 0; have k1 := B4.cell 1; have k2 := B4.cell 2; have k3 := B4.cell 3; have k4 := B4.cell 4
        simp at k0 k1 k2 k3 k4
        clear hbad B4 HSTEP h0
        go_wp2
        refine bodyPost_ret (v := .tuple #[rdV none 0 0 none 0 0 none none 0 ⟨#[]⟩, .int .i64 k', .int .i64 er]) (by simp [results, Tryd.results46, go_sem, rdV, k0, k1, k2, k3, k4]) rfl ⟨?_, ?_⟩
        · rw [HB.out]; rfl
        · exact ((((hb.setCell (by simp) _).setCell (by simp) _).setCell (by simp) _).setCell (by simp) _).setCell (by simp) _
    · have hlt' : ¬ (k : Int) < s.size := by omega
      have HE2 := Lib.hid (HS.out.stop (by omega))
      have B4 := HR.out.blk
      have f0 := B4.frozen 0; have f1 := B4.frozen 1; have f2 := B4.frozen 2; have f3 := B4.frozen 3; have f4 := B4.frozen 4
      have k0 := B4.cell 0; have k1 := B4.cell 1; have k2 := B4.cell 2; have k3 := B4.cell 3; have k4 := B4.cell 4
      simp at k0 k1 k2 k3 k4
      clear B4 HS
      go_wp2
      refine bodyPost_ret (v := .tuple #[rdV A ts.length cap G gs.length gcap (some bm) (some ⟨bs, 0, none⟩) 26 s, .int .i64 0, .int .i64 0]) (by simp [results, Tryd.results46, go_sem, rdV, k0, k1, k2, k3, k4]) rfl ⟨?_, ?_⟩
      · rw [HE2.out]
        refine ⟨A, cap, G, gcap, bm, bs, rfl, ?_, ?_, ?_⟩
        · exact (ownsRow_setCell_below (ownsRow_setCell_below (ownsRow_setCell_below (ownsRow_setCell_below (ownsRow_setCell_below HR.out.toks HR.out.lb _) HR.out.lb _) HR.out.lb _) HR.out.lb _) HR.out.lb _).mono' (Nat.le_of_lt HR.out.lb)
        · exact (ownsRow_setCell_below (ownsRow_setCell_below (ownsRow_setCell_below (ownsRow_setCell_below (ownsRow_setCell_below HR.out.gaps HR.out.lb _) HR.out.lb _) HR.out.lb _) HR.out.lb _) HR.out.lb _).mono' (Nat.le_of_lt HR.out.lb)
        · exact ((((HR.out.voc.grown (grownBy_setCell1 _ _ _ _) (by simp; omega) (by simp; omega)).grown (grownBy_setCell1 _ _ _ _) (by simp; omega) (by simp; omega)).grown (grownBy_setCell1 _ _ _ _) (by simp; omega) (by simp; omega)).grown (grownBy_setCell1 _ _ _ _) (by simp; omega) (by simp; omega)).grown (grownBy_setCell1 _ _ _ _) (by simp; omega) (by simp; omega)
      · exact ((((hbw.setCell (by simp) _).setCell (by simp) _).setCell (by simp) _).setCell (by simp) _).setCell (by simp) _

end Go.Proofs.YtkhgmoljhehbnaaDoor
