/- Layer 6: the walks of the reference's IsPicture, Memory. -/
import Derived.Test.YtjldkndalcellaaGreatDoorWd
namespace Go.Proofs.YtjldkndalcellaaGreatDoor
open Go.RowKit Go.El

theorem szp_drawnOk {m : Ce.Mem} (hm : Ce.memOk m = true) {l : List Ce.V} (hl : l.length ≤ 100) : Szp (Ce.drawn m l) := by
  have hok := (Ce.ok_iff m).1 hm
  have hb := Ce.drawn_bounds hok l
  have hml := hok.len
  refine ⟨by rw [Ce.drawn_len]; omega, by omega, fun i s hs => by have := hb.2 s (List.mem_of_getElem? hs); omega⟩
set_option maxRecDepth 100000 in
set_option maxHeartbeats 4000000 in
theorem isPicture6_any (p : Ce.Pic) (hp : Szp p) (V C : Option Addr) (cv cc : Nat) (w : World) (h : PicAt w V cv C p) :
    Calls Tryz.prog 24 #[.agg #[.slice V p.vals.length cv, .slice C p.cells.length cc]] w fun e w' => e = .returned (.bool (Ce.isPic p)) ∧ Below w.heap.size w w' := by
  have hb0 : Below w.heap.size w (w.alloc (.cells #[.slice V p.vals.length cv, .slice C p.cells.length cc] 37)) := (Below.refl _ _).alloc (Nat.le_refl _) _
  have HB := Lib.hid hb0
  have HS := Lib.hid ((h.stay.step hb0).and (box2 (W := w) (v := .slice V p.vals.length cv) (u := .slice C p.cells.length cc) (t := 37)))
  have HMY := Lib.hid (memory6_any p hp V C cv cc _ (h.below hb0))
  have hmz := sz_memory hp
  have hml := Ce.memory_len p
  have HCK : Hid (∀ E : Nat, Ce.check (Ce.memory p) = E → ∀ B c W, MemAt W B (Ce.memory p) → Calls Tryz.prog 15 #[.agg #[.slice B p.cells.length c]] W fun e w' => e = .returned (.int .i64 E) ∧ Below W.heap.size W w') := Lib.hid fun E he B c W hh => by
    have := check6_any (Ce.memory p) hmz B c W hh
    rw [he, hml] at this
    exact this
  have HDA : Hid (∀ q, Ce.areValues p.vals p.cells.length = q → ∀ W, SlAt ValE W ⟨V, p.vals.length, cv⟩ p.vals → Calls Tryz.prog 47 #[.slice V p.vals.length cv, .int .i64 p.cells.length] W fun e w' => e = .returned (.bool q) ∧ Below W.heap.size W w') := Lib.hid fun q hq W ha => by
    have := areValues_any p.vals (by have := hp.vals; unfold maxLen; omega) p.cells.length V cv W ha.arg
    rw [hq] at this
    exact this
  have HDR : Hid (∀ B c W (q1 : Ce.memOk (Ce.memory p) = true) (q2 : p.vals.length ≤ 100) (q3 : Ce.areValues p.vals p.cells.length = true), MemAt W B (Ce.memory p) → SlAt ValE W ⟨V, p.vals.length, cv⟩ p.vals →
      Calls Tryz.prog 50 #[.agg #[.slice B p.cells.length c], .slice V p.vals.length cv] W fun e w' => DrawnIs (Ce.drawn (Ce.memory p) p.vals) p.vals.length W w' e ∧ Below W.heap.size W w') := Lib.hid fun B c W q1 q2 q3 hm ha => by
    have := drawn6_any (Ce.memory p) q1 p.vals q2 (by rw [hml]; exact q3) B V c cv W hm ha
    rw [hml] at this
    exact this
  have HSP : Hid (∀ (q1 : Ce.memOk (Ce.memory p) = true) (q2 : p.vals.length ≤ 100) V1 cv1 C1 cc1 W, PicAt W V1 cv1 C1 (Ce.drawn (Ce.memory p) p.vals) → PicAt W V cv C p →
      Calls Tryz.prog 22 #[.agg #[.slice V1 p.vals.length cv1, .slice C1 (Ce.drawn (Ce.memory p) p.vals).cells.length cc1], .agg #[.slice V p.vals.length cv, .slice C p.cells.length cc]] W fun e w' => e = .returned (.bool (decide (Ce.drawn (Ce.memory p) p.vals = p))) ∧ Below W.heap.size W w') := Lib.hid fun q1 q2 V1 cv1 C1 cc1 W ha hb => by
    have := samePic_any (Ce.drawn (Ce.memory p) p.vals) p (szp_drawnOk q1 q2) V1 C1 V C cv1 cc1 cv cc W ha hb
    rwa [Ce.drawn_len] at this
  have HQ1 : Hid ((Ce.memOk (Ce.memory p) = true → Ce.check (Ce.memory p) = 0) ∧ (Ce.memOk (Ce.memory p) = false → Ce.check (Ce.memory p) = 4)) := Lib.hid ⟨Ce.check_ok, Ce.check_not⟩
  have HQ : Hid ((Ce.memOk (Ce.memory p) = true ∨ Ce.memOk (Ce.memory p) = false) ∧ (Ce.areValues p.vals p.cells.length = true ∨ Ce.areValues p.vals p.cells.length = false)) := Lib.hid ⟨by cases Ce.memOk (Ce.memory p) <;> simp, by cases Ce.areValues p.vals p.cells.length <;> simp⟩
  have HN : Hid ((Ce.memOk (Ce.memory p) = false ∨ 100 < p.vals.length ∨ Ce.areValues p.vals p.cells.length = false) → Ce.isPic p = false) := Lib.hid fun hh => by
    unfold Ce.isPic
    rcases hh with e | e | e
    · rw [e]; simp
    · rw [decide_eq_false (show ¬ p.vals.length ≤ 100 by omega)]; simp
    · rw [e]; simp
  have HY : Hid (Ce.memOk (Ce.memory p) = true → p.vals.length ≤ 100 → Ce.areValues p.vals p.cells.length = true → Ce.isPic p = decide (Ce.drawn (Ce.memory p) p.vals = p)) := Lib.hid fun e1 e2 e3 => by
    unfold Ce.isPic
    rw [e1, e3, decide_eq_true e2]
    rfl
  have HBD : Hid (Ce.isPic p = true ∨ Ce.isPic p = false) := Lib.hid (by cases Ce.isPic p <;> simp)
  have HPL : Hid ((p.vals.length : Int) ≤ 10000) := Lib.hid (by have := hp.vals; omega)
  generalize Ce.isPic p = R at *
  clear h hb0 hmz hml hp
  rcases HQ.out.1 with hq1 | hq1
  rotate_left
  · obtain rfl := HN.out (.inl hq1)
    have HC := Lib.hid (HCK.out 4 (HQ1.out.2 hq1))
    clear HDA HDR HSP HQ HQ1 HN HY HBD HCK hq1
    generalize p.vals.length = nv at *
    generalize p.cells.length = nc at *
    go_enter Tryz.func24, Tryz.ntmps24
    go_wp2_with fail
    refine HMY.out.mono ?_
    rintro e w1 ⟨⟨B, c, hs, rfl, hmo⟩, hb1⟩
    have hb2 : Below w1.heap.size w1 (w1.alloc (.cells #[.slice B nc c] 24)) := (Below.refl _ _).alloc (Nat.le_refl _) _
    have HM := Lib.hid (hmo.at_.below hb2)
    have HB2 := Lib.hid ((HB.out.trans (hb1.mono HB.out.size)).trans (hb2.mono (HB.out.trans (hb1.mono HB.out.size)).size))
    clear hmo hb1 hb2
    go_wp2_with fail
    refine (HC.out _ _ _ HM.out).mono ?_
    rintro e w3 ⟨rfl, hb3⟩
    go_wp2
    go_ret
    exact ⟨rfl, HB2.out.trans (hb3.mono HB2.out.size)⟩
  have HC := Lib.hid (HCK.out 0 (HQ1.out.1 hq1))
  clear HCK HQ1
  by_cases h100 : 100 < p.vals.length
  · obtain rfl := HN.out (.inr (.inl h100))
    have h100' : (100 : Int) < p.vals.length := by omega
    clear HDA HDR HSP HQ HN HY HBD hq1
    generalize p.vals.length = nv at *
    generalize p.cells.length = nc at *
    go_enter Tryz.func24, Tryz.ntmps24
    go_wp2_with fail
    refine HMY.out.mono ?_
    rintro e w1 ⟨⟨B, c, hs, rfl, hmo⟩, hb1⟩
    have hb2 : Below w1.heap.size w1 (w1.alloc (.cells #[.slice B nc c] 24)) := (Below.refl _ _).alloc (Nat.le_refl _) _
    have HM := Lib.hid (hmo.at_.below hb2)
    have HS2 := Lib.hid ((HS.out.step hb1).step hb2)
    have HB2 := Lib.hid ((HB.out.trans (hb1.mono HB.out.size)).trans (hb2.mono (HB.out.trans (hb1.mono HB.out.size)).size))
    clear hmo hb1 hb2
    go_wp2_with fail
    refine (HC.out _ _ _ HM.out).mono ?_
    rintro e w3 ⟨rfl, hb3⟩
    obtain ⟨_, x0, x1⟩ := HS2.out _ hb3
    go_wp2
    go_ret
    exact ⟨rfl, HB2.out.trans (hb3.mono HB2.out.size)⟩
  have h100' : decide ((100 : Int) < p.vals.length) = false := decide_eq_false (by omega)
  have HML : Hid (p.vals.length ≤ 100) := Lib.hid (by omega)
  rcases HQ.out.2 with hq2 | hq2
  rotate_left
  · obtain rfl := HN.out (.inr (.inr hq2))
    have HDA := Lib.hid (HDA.out _ hq2)
    clear HDR HSP HQ HN HY HBD hq1 hq2 HML h100
    generalize p.cells.length = nc at *
    go_enter Tryz.func24, Tryz.ntmps24
    go_wp2_with fail
    refine HMY.out.mono ?_
    rintro e w1 ⟨⟨B, c, hs, rfl, hmo⟩, hb1⟩
    have hb2 : Below w1.heap.size w1 (w1.alloc (.cells #[.slice B nc c] 24)) := (Below.refl _ _).alloc (Nat.le_refl _) _
    have HM := Lib.hid (hmo.at_.below hb2)
    have HS2 := Lib.hid ((HS.out.step hb1).step hb2)
    have HB2 := Lib.hid ((HB.out.trans (hb1.mono HB.out.size)).trans (hb2.mono (HB.out.trans (hb1.mono HB.out.size)).size))
    clear hmo hb1 hb2
    go_wp2_with fail
    refine (HC.out _ _ _ HM.out).mono ?_
    rintro e w3 ⟨rfl, hb3⟩
    have HS3 := Lib.hid (HS2.out.step hb3)
    have HB3 := Lib.hid (HB2.out.trans (hb3.mono HB2.out.size))
    clear hb3
    obtain ⟨hpa, x0, x1⟩ := HS3.out.at_
    have HV := Lib.hid hpa.v
    clear hpa
    go_wp2_with fail
    refine (HDA.out _ HV.out).mono ?_
    rintro e w4 ⟨rfl, hb4⟩
    go_wp2
    go_ret
    exact ⟨rfl, HB3.out.trans (hb4.mono HB3.out.size)⟩
  obtain rfl := HY.out hq1 HML.out hq2
  have HDA := Lib.hid (HDA.out _ hq2)
  have HDR := Lib.hid (fun B c W hm ha => HDR.out B c W hq1 HML.out hq2 hm ha)
  have HSP := Lib.hid (HSP.out hq1 HML.out)
  clear HQ HN HY HBD hq1 hq2
  generalize Ce.drawn (Ce.memory p) p.vals = D at *
  generalize decide (D = p) = R at *
  generalize hnc : p.cells.length = nc at *
  clear hnc
  go_enter Tryz.func24, Tryz.ntmps24
  go_wp2_with fail
  refine HMY.out.mono ?_
  rintro e w1 ⟨⟨B, c, hs, rfl, hmo⟩, hb1⟩
  have hb2 : Below w1.heap.size w1 (w1.alloc (.cells #[.slice B nc c] 24)) := (Below.refl _ _).alloc (Nat.le_refl _) _
  have HM := Lib.hid (hmo.at_.below hb2)
  have HS2 := Lib.hid (((HS.out.step hb1).step hb2).and ((hmo.at_.stay.step hb2).and (box1 (W := w1) (v := .slice B nc c) (t := 24))))
  have HB2 := Lib.hid ((HB.out.trans (hb1.mono HB.out.size)).trans (hb2.mono (HB.out.trans (hb1.mono HB.out.size)).size))
  clear hmo hb1 hb2
  go_wp2_with fail
  refine (HC.out _ _ _ HM.out).mono ?_
  rintro e w3 ⟨rfl, hb3⟩
  have HS3 := Lib.hid (HS2.out.step hb3)
  have HB3 := Lib.hid (HB2.out.trans (hb3.mono HB2.out.size))
  clear hb3
  obtain ⟨⟨hpa, x0, x1⟩, _, m0⟩ := HS3.out.at_
  have HV := Lib.hid hpa.v
  clear hpa
  go_wp2_with fail
  refine (HDA.out _ HV.out).mono ?_
  rintro e w4 ⟨rfl, hb4⟩
  have HS4 := Lib.hid (HS3.out.step hb4)
  have HB4 := Lib.hid (HB3.out.trans (hb4.mono HB3.out.size))
  clear hb4 HV HS2 HB2 HS3 HB3 HM x0 x1 m0
  have HALL : Hid (∀ W, Below w4.heap.size w4 W → W.cell? ⟨w.heap.size, 0, none⟩ = some (.slice V p.vals.length cv) ∧ W.cell? ⟨w.heap.size, 1, none⟩ = some (.slice C nc cc) ∧ W.cell? ⟨w1.heap.size, 0, none⟩ = some (.slice B nc c)) := Lib.hid fun W hb => ⟨(HS4.out W hb).1.2.1, (HS4.out W hb).1.2.2, (HS4.out W hb).2.2⟩
  have HMA := Lib.hid fun W (hb : Below w4.heap.size w4 W) => (HS4.out W hb).2.1
  have HPA := Lib.hid fun W (hb : Below w4.heap.size w4 W) => (HS4.out W hb).1.1
  obtain ⟨a0, a1, a2⟩ := HALL.out _ (Below.refl _ _)
  have hX : Below w4.heap.size w4 w4.drew := (Below.refl _ _).drew
  clear HS4
  go_wp2_with fail
  go_region_held3 (fun W => W.cell? ⟨w.heap.size, 0, none⟩ = some (.slice V p.vals.length cv) ∧ W.cell? ⟨w.heap.size, 1, none⟩ = some (.slice C nc cc) ∧ W.cell? ⟨w1.heap.size, 0, none⟩ = some (.slice B nc c))
    (go_keep)
    (first
      | (go_at_call 50; refine (HDR.out _ _ _ (HMA.out _ hX) (HPA.out _ hX).v).mono ?_; rintro e wq ⟨⟨V1, cv1, C1, cc1, hs1, rfl, ho1, hl1⟩, hbq⟩; have SD := Lib.hid (PicV.stay (LO.picV (p := D) ho1 hl1)); have hX : Below w4.heap.size w4 wq := hX.trans (hbq.mono hX.size); obtain ⟨a0, a1, a2⟩ := HALL.out _ hX; clear hbq ho1 hl1)
      | (go_at_call 22; refine (HSP.out _ _ _ _ _ (SD.out.at_).at_ (HPA.out _ hX)).mono ?_; rintro e wr ⟨rfl, hbq⟩; have hX : Below w4.heap.size w4 wr := hX.trans (hbq.mono hX.size); obtain ⟨a0, a1, a2⟩ := HALL.out _ hX; clear hbq))
  all_goals
    go_wp2_with fail
    go_ret
    exact ⟨rfl, HB4.out.trans (hX.mono HB4.out.size)⟩
end Go.Proofs.YtjldkndalcellaaGreatDoor
