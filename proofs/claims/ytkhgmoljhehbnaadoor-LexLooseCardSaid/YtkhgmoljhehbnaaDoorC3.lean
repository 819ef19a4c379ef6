/- The walk of (*reader).step. -/
import Derived.Test.YtkhgmoljhehbnaaDoorC2
import Derived.Deep.RegionLaw
namespace Go.Proofs.YtkhgmoljhehbnaaDoor
open Go.RowKit

/-- how a step ends -/
def StepIs (w : World) (base b : Nat) (bm bs : Nat) (s : ByteArray) (R : Nat × Nat × List Lx.Tok × List (Nat × Nat)) (e : Ending) : Prop :=
  ∃ A cap G gcap, e = .returned (.tuple #[.int .i64 (R.1 : Nat), .int .i64 (R.2.1 : Nat)]) ∧ Rdr w base b A cap R.2.2.1 G gcap R.2.2.2 bm bs s

set_option maxRecDepth 100000 in
set_option maxHeartbeats 2000000 in
theorem step_gap (s : ByteArray) (hs : s.size ≤ 2500) (k : Nat) (hk : k < s.size) (w : World) (base b : Nat) (A : Option Addr) (cap : Nat) (ts : List Lx.Tok) (G : Option Addr) (gcap : Nat) (gs : List (Nat × Nat)) (bm bs : Nat)
    (hr : Rdr w base b A cap ts G gcap gs bm bs s) (hgs : gs.length ≤ 2500) (h : 0 < Lx.gap (s.data.toList.drop k)) :
    Calls Tryd.prog 68 #[.pointer (some ⟨b, 0, none⟩), .int .i64 k] w fun e w' => StepIs w' base b bm bs s (stepP s k ts gs) e ∧ Below b w w' := by
  have hx := Lib.extract_to_end s k
  have hxs : (s.extract k s.size).size ≤ maxLen := by simp [maxLen]; omega
  have hg := gap_any (s.extract k s.size) hxs
  rw [hx] at hg
  have hgl := Lx.gap_le (s.data.toList.drop k)
  rw [List.length_drop, ← Lib.size_eq s] at hgl
  have HR : Hid (stepP s k ts gs = (k + Lx.gap (s.data.toList.drop k), 0, ts, gs ++ [(k, k + Lx.gap (s.data.toList.drop k))])) := by
    show _ = _
    unfold stepP
    rw [if_pos h]
  generalize Lx.gap (s.data.toList.drop k) = n at h hg hgl HR
  have hn0 : (0 : Int) < n := by omega
  have hki : (k : Int) ≤ s.size := by omega
  have hkn : (k : Int) + n ≤ 2500 := by omega
  have hb0 := hr.blk.lt
  have c4 : w.cell? ⟨b, 4, none⟩ = some (.string s) := by rw [hr.blk.cell]; rfl
  have HG := Lib.hid hg
  clear hx hxs hg
  go_enter Tryd.func68, Tryd.ntmps68
  go_wp2_with fail
  refine (HG.out w).mono ?_
  rintro e w1 ⟨rfl, hb1⟩
  have hr1 := hr.below hb1
  have hz := hb1.size
  have c1 : w1.cell? ⟨b, 1, none⟩ = some (.slice G gs.length gcap) := by rw [hr1.blk.cell]; rfl
  have c4' : w1.cell? ⟨b, 4, none⟩ = some (.string s) := by rw [hr1.blk.cell]; rfl
  have hB1 : Below b w w1 := hb1.mono (by omega)
  have HR1 := Lib.hid hr1
  have ub := hr1.ub
  have lb := hr1.lb
  have hb2 := hr1.blk.lt
  clear hb1 hr hr1 c4
  go_wp2_with (at_builtin; (refine wpList_append_gap _ rfl _ _ rfl base G gcap gs w1.heap.size k (k + n) rfl rfl (HR1.out.gaps.alloc _) (by simp) (by simp) (by omega) (by simp; omega) ?_; intro G' gcap' w2 hown2 hgrow2; have f1 : w2.frozen? ⟨b, 1, none⟩ = false := (HR1.out.alloc _).frG hgrow2 1; have d1 := (HR1.out.alloc _).clG hgrow2))
  go_ret2
  refine ⟨⟨A, cap, G', gcap', ?_, ?_⟩, ?_⟩
  · rw [HR.out]; rfl
  · rw [HR.out]
    exact (HR1.out.alloc _).gap hown2 hgrow2
  · exact ((HR1.out.alloc _).blG (hB1.alloc (by omega) _) hgrow2).setCell (Nat.le_refl _) _

set_option maxRecDepth 100000 in
set_option maxHeartbeats 4000000 in
theorem step_none (s : ByteArray) (hs : s.size ≤ 2500) (k : Nat) (hk : k < s.size) (w : World) (base b : Nat) (A : Option Addr) (cap : Nat) (ts : List Lx.Tok) (G : Option Addr) (gcap : Nat) (gs : List (Nat × Nat)) (bm bs : Nat)
    (hr : Rdr w base b A cap ts G gcap gs bm bs s) (he : Env w) (h : ¬ 0 < Lx.gap (s.data.toList.drop k)) (hq : Lx.tok (s.data.toList.drop k) = none) :
    Calls Tryd.prog 68 #[.pointer (some ⟨b, 0, none⟩), .int .i64 k] w fun e w' => StepIs w' base b bm bs s (stepP s k ts gs) e ∧ Below b w w' := by
  have hx := Lib.extract_to_end s k
  have hxs : (s.extract k s.size).size ≤ maxLen := by simp [maxLen]; omega
  have hg := gap_any (s.extract k s.size) hxs
  have hw : ∀ W, Voc W bm bs → Env W → Calls Tryd.prog 55 #[vocV bm bs, .string (s.extract k s.size)] W fun e w' => e = .returned (optV (Lx.tok (s.extract k s.size).data.toList)) ∧ Below W.heap.size W w' := fun W hV hE => first_any (s.extract k s.size) (by simp; omega) bm bs W hV hE
  rw [hx, hq] at hw
  rw [hx] at hg
  have HR : Hid (stepP s k ts gs = (k, 4, ts, gs)) := by
    show _ = _
    unfold stepP
    rw [if_neg h, hq]
  generalize Lx.gap (s.data.toList.drop k) = n at h hg
  have hn0 : ¬ (0 : Int) < n := by omega
  have hki : (k : Int) ≤ s.size := by omega
  have hb0 := hr.blk.lt
  have c4 : w.cell? ⟨b, 4, none⟩ = some (.string s) := by rw [hr.blk.cell]; rfl
  unfold optV vocV at hw
  have HG := Lib.hid hg
  have HW := Lib.hid hw
  have HE := Lib.hid he
  clear hx hxs hg hw he hq
  go_enter Tryd.func68, Tryd.ntmps68
  go_wp2_with fail
  refine (HG.out w).mono ?_
  rintro e w1 ⟨rfl, hb1⟩
  have hr1 := hr.below hb1
  have hz := hb1.size
  have c2 : w1.cell? ⟨b, 2, none⟩ = some (.map (some bm)) := by rw [hr1.blk.cell]; rfl
  have c3 : w1.cell? ⟨b, 3, none⟩ = some (.slice (some ⟨bs, 0, none⟩) 26 26) := by rw [hr1.blk.cell]; rfl
  have hB1 : Below b w w1 := hb1.mono (by omega)
  have HR1 := Lib.hid hr1
  have hb2 := hr1.blk.lt
  have HE1 := Lib.hid (HE.out.below hb1 HE.out.lt)
  clear hb1 hr hr1 c4
  go_wp2_with fail
  refine (HW.out w1 HR1.out.voc HE1.out).mono ?_
  rintro e w2 ⟨rfl, hb3⟩
  have hr2 := HR1.out.below hb3
  have hz2 := hb3.size
  have HR2 := Lib.hid hr2
  have hB2 : Below b w w2 := hB1.trans (hb3.mono (by omega))
  clear hr2 HR1 c2 c3
  go_wp2
  go_ret2
  refine ⟨⟨A, cap, G, gcap, ?_, ?_⟩, ?_⟩
  · rw [HR.out]; rfl
  · rw [HR.out]
    exact (HR2.out.alloc _)
  · exact hB2.alloc (by omega) _

set_option maxRecDepth 100000 in
set_option maxHeartbeats 4000000 in
theorem step_full (s : ByteArray) (hs : s.size ≤ 2500) (k : Nat) (hk : k < s.size) (w : World) (base b : Nat) (A : Option Addr) (cap : Nat) (ts : List Lx.Tok) (G : Option Addr) (gcap : Nat) (gs : List (Nat × Nat)) (bm bs : Nat)
    (hr : Rdr w base b A cap ts G gcap gs bm bs s) (he : Env w) (h : ¬ 0 < Lx.gap (s.data.toList.drop k)) (kd : Nat) (t : Lx.B) (hq : Lx.tok (s.data.toList.drop k) = some (kd, t)) (h9 : ts.length = 900) :
    Calls Tryd.prog 68 #[.pointer (some ⟨b, 0, none⟩), .int .i64 k] w fun e w' => StepIs w' base b bm bs s (stepP s k ts gs) e ∧ Below b w w' := by
  have hx := Lib.extract_to_end s k
  have hxs : (s.extract k s.size).size ≤ maxLen := by simp [maxLen]; omega
  have hg := gap_any (s.extract k s.size) hxs
  have hw : ∀ W, Voc W bm bs → Env W → Calls Tryd.prog 55 #[vocV bm bs, .string (s.extract k s.size)] W fun e w' => e = .returned (optV (Lx.tok (s.extract k s.size).data.toList)) ∧ Below W.heap.size W w' := fun W hV hE => first_any (s.extract k s.size) (by simp; omega) bm bs W hV hE
  rw [hx, hq] at hw
  rw [hx] at hg
  have HR : Hid (stepP s k ts gs = (k, 5, ts, gs)) := by
    show _ = _
    unfold stepP
    rw [if_neg h, hq]
    simp only [h9, if_pos]
  generalize Lx.gap (s.data.toList.drop k) = n at h hg
  have hn0 : ¬ (0 : Int) < n := by omega
  have h9b : ((ts.length : Int) == 900) = true := by simp [h9]
  have hki : (k : Int) ≤ s.size := by omega
  have hb0 := hr.blk.lt
  have c4 : w.cell? ⟨b, 4, none⟩ = some (.string s) := by rw [hr.blk.cell]; rfl
  unfold optV vocV sv at hw
  have HG := Lib.hid hg
  have HW := Lib.hid hw
  have HE := Lib.hid he
  clear hx hxs hg hw he hq
  go_enter Tryd.func68, Tryd.ntmps68
  go_wp2_with fail
  refine (HG.out w).mono ?_
  rintro e w1 ⟨rfl, hb1⟩
  have hr1 := hr.below hb1
  have hz := hb1.size
  have c2 : w1.cell? ⟨b, 2, none⟩ = some (.map (some bm)) := by rw [hr1.blk.cell]; rfl
  have c3 : w1.cell? ⟨b, 3, none⟩ = some (.slice (some ⟨bs, 0, none⟩) 26 26) := by rw [hr1.blk.cell]; rfl
  have hB1 : Below b w w1 := hb1.mono (by omega)
  have HR1 := Lib.hid hr1
  have hb2 := hr1.blk.lt
  have HE1 := Lib.hid (HE.out.below hb1 HE.out.lt)
  clear hb1 hr hr1 c4
  go_wp2_with fail
  refine (HW.out w1 HR1.out.voc HE1.out).mono ?_
  rintro e w2 ⟨rfl, hb3⟩
  have hr2 := HR1.out.below hb3
  have hz2 := hb3.size
  have HR2 := Lib.hid hr2
  have hB2 : Below b w w2 := hB1.trans (hb3.mono (by omega))
  have e0 : w2.cell? ⟨b, 0, none⟩ = some (.slice A ts.length cap) := by rw [HR2.out.blk.cell]; rfl
  have hb4 := HR2.out.blk.lt
  clear hr2 HR1 c2 c3 h9
  go_wp2
  go_ret2
  refine ⟨⟨A, cap, G, gcap, ?_, ?_⟩, ?_⟩
  · rw [HR.out]; rfl
  · rw [HR.out]
    exact (HR2.out.alloc _)
  · exact hB2.alloc (by omega) _

end Go.Proofs.YtkhgmoljhehbnaaDoor
