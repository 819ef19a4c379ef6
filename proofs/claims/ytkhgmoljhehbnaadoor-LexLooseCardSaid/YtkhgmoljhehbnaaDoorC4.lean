/- The walk of (*reader).step where it finds a token. -/
import Derived.Test.YtkhgmoljhehbnaaDoorC3
import Derived.Deep.RegionHeld3
namespace Go.Proofs.YtkhgmoljhehbnaaDoor
open Go.RowKit

theorem Rdr.drew {w : World} {base b : Nat} {A : Option Addr} {cap : Nat} {ts : List Lx.Tok} {G : Option Addr} {gcap : Nat} {gs : List (Nat × Nat)} {bm bs : Nat} {s : ByteArray} (h : Rdr w base b A cap ts G gcap gs bm bs s) : Rdr w.drew base b A cap ts G gcap gs bm bs s :=
  ⟨h.blk, h.toks, h.gaps, ⟨h.voc.map, h.voc.signs, h.voc.lt⟩, h.lb, h.lm, h.ls, h.nm, h.ns, h.ub⟩

set_option maxRecDepth 100000 in
set_option maxHeartbeats 4000000 in
theorem step_some (s : ByteArray) (hs : s.size ≤ 2500) (k : Nat) (hk : k < s.size) (w : World) (base b : Nat) (A : Option Addr) (cap : Nat) (ts : List Lx.Tok) (G : Option Addr) (gcap : Nat) (gs : List (Nat × Nat)) (bm bs : Nat)
    (hr : Rdr w base b A cap ts G gcap gs bm bs s) (he : Env w) (h : ¬ 0 < Lx.gap (s.data.toList.drop k)) (kd : Nat) (t : Lx.B) (hq : Lx.tok (s.data.toList.drop k) = some (kd, t)) (h9 : ts.length < 900) :
    Calls Tryd.prog 68 #[.pointer (some ⟨b, 0, none⟩), .int .i64 k] w fun e w' => StepIs w' base b bm bs s (stepP s k ts gs) e ∧ Below b w w' := by
  have hx := Lib.extract_to_end s k
  have hxs : (s.extract k s.size).size ≤ maxLen := by simp [maxLen]; omega
  have hg := gap_any (s.extract k s.size) hxs
  have hw : ∀ W, Voc W bm bs → Env W → Calls Tryd.prog 55 #[vocV bm bs, .string (s.extract k s.size)] W fun e w' => e = .returned (optV (Lx.tok (s.extract k s.size).data.toList)) ∧ Below W.heap.size W w' := fun W hV hE => first_any (s.extract k s.size) (by simp; omega) bm bs W hV hE
  rw [hx, hq] at hw
  rw [hx] at hg
  have HR : Hid (stepP s k ts gs = (k + t.length, 0, ts ++ [⟨kd, t, k⟩], gs)) := by
    show _ = _
    unfold stepP
    rw [if_neg h, hq]
    simp only [if_neg (show ¬ ts.length = 900 by omega)]
  have htl : (t.length : Int) ≤ 2500 := by have := (Lx.tok_prefix hq).2.2.1; rw [List.length_drop, ← Lib.size_eq s] at this; omega
  have htz : (ByteArray.size ⟨t.toArray⟩) = t.length := by simp [ByteArray.size]
  generalize Lx.gap (s.data.toList.drop k) = n at h hg
  have hn0 : ¬ (0 : Int) < n := by omega
  have h9b : ((ts.length : Int) == 900) = false := by simp; omega
  have hki : (k : Int) ≤ s.size := by omega
  have hb0 := hr.blk.lt
  have c4 : w.cell? ⟨b, 4, none⟩ = some (.string s) := by rw [hr.blk.cell]; rfl
  unfold optV vocV sv at hw
  have HG := Lib.hid hg
  have HW := Lib.hid hw
  have HE := Lib.hid he
  clear hx hxs hg hw he hq
  go_enter Tryd.func68, Tryd.ntmps68
  go_wp2_with fail
  refine (HG.out w).mono ?_
  rintro e w1 ⟨rfl, hb1⟩
  have hr1 := hr.below hb1
  have hz := hb1.size
  have c2 : w1.cell? ⟨b, 2, none⟩ = some (.map (some bm)) := by rw [hr1.blk.cell]; rfl
  have c3 : w1.cell? ⟨b, 3, none⟩ = some (.slice (some ⟨bs, 0, none⟩) 26 26) := by rw [hr1.blk.cell]; rfl
  have hB1 : Below b w w1 := hb1.mono (by omega)
  have HR1 := Lib.hid hr1
  have hb2 := hr1.blk.lt
  have HE1 := Lib.hid (HE.out.below hb1 HE.out.lt)
  clear hb1 hr hr1 c4
  go_wp2_with fail
  refine (HW.out w1 HR1.out.voc HE1.out).mono ?_
  rintro e w2 ⟨rfl, hb3⟩
  have hr2 := HR1.out.below hb3
  have hz2 := hb3.size
  have HR2 := Lib.hid hr2
  have hB2 : Below b w w2 := hB1.trans (hb3.mono (by omega))
  have e0 : w2.cell? ⟨b, 0, none⟩ = some (.slice A ts.length cap) := by rw [HR2.out.blk.cell]; rfl
  have hb4 := HR2.out.blk.lt
  have n1 : some w2.heap.size ≠ (Value.slice A ts.length cap).ownBlock := fun e => by have := (HR2.out.toks.lt _ e.symm).2; omega
  clear hr2 HR1 c2 c3
  go_wp2_with fail
  go_region_law (go_loud (refine step_append_tok rfl _ _ rfl base A cap ts (w2.heap.size + 1) kd ⟨t.toArray⟩ k rfl rfl (World.ownsRow.drew ((HR2.out.toks.alloc _).alloc _)) ⟨by simp, by simp, by simp⟩ (by omega) (by have := HR2.out.ub; simp; omega) ?_; intro A' cap' w3 hown3 hgrow3; have f1 := ((HR2.out.alloc _).alloc _).drew.frT hgrow3 0; have d1 := ((HR2.out.alloc _).alloc _).drew.clT hgrow3; have e1 : w3.cell? ⟨w2.heap.size, 1, none⟩ = some (.string ⟨t.toArray⟩) := hgrow3.cell (by simp) n1))
  all_goals
    go_wp2
    go_ret2
    refine ⟨⟨A', cap', G, gcap, ?_, ?_⟩, ?_⟩
    · rw [HR.out]; simp
    · rw [HR.out]
      exact ((HR2.out.alloc _).alloc _).drew.tok hown3 hgrow3
    · exact (((HR2.out.alloc _).alloc _).drew.blT ((hB2.alloc (by omega) _).alloc (by simp; omega) _).drew hgrow3).setCell (Nat.le_refl _) _

end Go.Proofs.YtkhgmoljhehbnaaDoor
