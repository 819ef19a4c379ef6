/- Layer 5: the walk of the law RegionSplit. -/
import Derived.Test.YthagelnimmfhbaaRx
namespace Go.Proofs.Ythagelnimmfhbaa
open Go.RowKit Go.El

/-- the cells of a part -/
def IsPt (W : World) (g : Nat) (p : Rg.Pt) : Prop := W.cell? ⟨g, 0, none⟩ = some (.bool p.lo.size) ∧ W.cell? ⟨g, 1, none⟩ = some (.int .i64 p.lo.n) ∧ W.cell? ⟨g, 2, none⟩ = some (.bool p.hi.size) ∧ W.cell? ⟨g, 3, none⟩ = some (.int .i64 p.hi.n) ∧ W.cell? ⟨g, 4, none⟩ = some (.int .i64 p.step)
theorem IsPt.stay {W : World} {g : Nat} {p : Rg.Pt} (h : IsPt W g p) : Stay (fun V => IsPt V g p) W := fun _ hb => by
  obtain ⟨h0, h1, h2, h3, h4⟩ := h
  have hg := lt_of_cell h0
  exact ⟨((bcell hb).1 _ _ hg).trans h0, ((bcell hb).1 _ _ hg).trans h1, ((bcell hb).1 _ _ hg).trans h2, ((bcell hb).1 _ _ hg).trans h3, ((bcell hb).1 _ _ hg).trans h4⟩

set_option maxRecDepth 100000 in
set_option maxHeartbeats 8000000 in
theorem spl_inv (h : Prg) (l : List Rg.Pt) (hl : l.length ≤ maxLen) (A : Option Addr) (cap : Nat) (t s : Nat) (ht : t < 256) (hs : s < 256) (hq : (decide (l.length ≤ 6) && Rg.valid l) = false) (w : World) (ha : PtE.Arg w A l) :
    Calls Try.prog 9 #[.slice A l.length cap, .int .u8 t, .int .u8 s] w fun e w' => e = .returned (.bool true) ∧ Below w.heap.size w w' := by
  have HK := Lib.hid (fun W => known_any h W)
  have ht1 : (0 : Int) ≤ t := by omega
  have ht2 : (t : Int) < 256 := by omega
  have hs1 : (0 : Int) ≤ s := by omega
  have hs2 : (s : Int) < 256 := by omega
  have HV := Lib.hid (lawValid_of l _ hq hl A cap w ha)
  clear h hl ha hq ht hs
  go_enter Try.func9, Try.ntmps9
  have hB0 : Below w.heap.size w w := Below.refl _ _
  go_wp2_with fail
  refine (HV.out).mono ?_
  rintro e w1 ⟨rfl, hb1⟩
  have hB1 := hB0.trans (hb1.mono hB0.size)
  clear hb1
  go_wp2_with fail
  refine (HK.out _).mono ?_
  rintro e w2 ⟨rfl, hb2⟩
  have hB2 := hB1.trans (hb2.mono hB1.size)
  clear hb2 hB1
  go_wp2
  go_ret
  exact ⟨rfl, hB2⟩

set_option maxRecDepth 100000 in
set_option maxHeartbeats 8000000 in
theorem spl_none (h : Prg) (A : Option Addr) (cap : Nat) (t s : Nat) (ht : t < 256) (hs : s < 256) (w : World) :
    Calls Try.prog 9 #[.slice A 0 cap, .int .u8 t, .int .u8 s] w fun e w' => e = .returned (.bool true) ∧ Below w.heap.size w w' := by
  have HK := Lib.hid (fun W => known_any h W)
  have ht1 : (0 : Int) ≤ t := by omega
  have ht2 : (t : Int) < 256 := by omega
  have hs1 : (0 : Int) ≤ s := by omega
  have hs2 : (s : Int) < 256 := by omega
  have HV := Lib.hid (lawValid_of [] true (by decide) (by simp) A cap w (Arg.nil w A))
  simp only [List.length_nil] at HV
  clear h ht hs
  go_enter Try.func9, Try.ntmps9
  have hB0 : Below w.heap.size w w := Below.refl _ _
  go_wp2_with fail
  refine (HV.out).mono ?_
  rintro e w1 ⟨rfl, hb1⟩
  have hB1 := hB0.trans (hb1.mono hB0.size)
  clear hb1
  go_wp2_with fail
  refine (HK.out _).mono ?_
  rintro e w2 ⟨rfl, hb2⟩
  have hB2 := hB1.trans (hb2.mono hB1.size)
  clear hb2 hB1
  go_wp2
  go_ret
  exact ⟨rfl, hB2⟩

set_option maxRecDepth 100000 in
set_option maxHeartbeats 8000000 in
theorem spl_evn (h : Prg) (l : List Rg.Pt) (hl : l.length ≤ maxLen) (A : Option Addr) (cap : Nat) (hA : A = none → cap = 0) (hcap : l.length ≤ cap) (hcm : cap ≤ maxLen) (t s : Nat) (ht : t < 256) (hs : s < 256) (hq : (decide (l.length ≤ 6) && Rg.valid l) = true) (hl0 : l ≠ []) (hev : ((t : Int) % 2 == 0) = true) (w : World) (ha : PtE.Arg w A l) :
    Calls Try.prog 9 #[.slice A l.length cap, .int .u8 t, .int .u8 s] w fun e w' => e = .returned (.bool true) ∧ Below w.heap.size w w' := by
  have HK := Lib.hid (fun W => known_any h W)
  have ht1 : (0 : Int) ≤ t := by omega
  have ht2 : (t : Int) < 256 := by omega
  have hs1 : (0 : Int) ≤ s := by omega
  have hs2 : (s : Int) < 256 := by omega
  rw [Bool.and_eq_true] at hq
  obtain ⟨hq6, hq2⟩ := hq
  have h6 : l.length ≤ 6 := of_decide_eq_true hq6
  have HV := Lib.hid (fun A c W h => lawValid_of l true (by rw [hq6, hq2]; rfl) hl A c W h)
  have hpos : 0 < l.length := List.length_pos_iff.2 hl0
  have hlz : ((l.length : Int) == 0) = false := by rw [beq_eq_false_iff_ne]; omega
  obtain ⟨K, hK⟩ : ∃ K, K = t / 2 % l.length := ⟨_, rfl⟩
  have hKl : K < l.length := by rw [hK]; exact Nat.mod_lt _ hpos
  obtain ⟨J, hJ⟩ : ∃ J, J = K + 1 := ⟨_, rfl⟩
  have hJl : J ≤ l.length := by omega
  obtain ⟨S, hS⟩ : ∃ S, S = s % 101 := ⟨_, rfl⟩
  have hS1 : S ≤ 100 := by omega
  obtain ⟨p, hp⟩ : ∃ p, l[K]? = some p := ⟨_, List.getElem?_eq_getElem hKl⟩
  have hpo : p.ok = true := ((Rg.valid_iff l).1 hq2).2 p (List.mem_of_getElem? hp)
  have hpi := (p.ok_iff).1 hpo
  have b1 : 0 ≤ p.lo.n := hpi.1.1
  have b2 : p.lo.n ≤ 100 := hpi.1.2
  have b3 : 1 ≤ p.step := hpi.2.2.1
  have b4 : p.step ≤ 9 := hpi.2.2.2
  obtain ⟨O, hO⟩ : ∃ O, O = l.take K ++ l.drop J := ⟨_, rfl⟩
  have hOl : O.length + 1 = l.length := by rw [hO]; simp only [List.length_append, List.length_drop, List.length_take]; omega
  have hin : Rg.inS (S : Nat) = true := (Rg.inS_iff _).2 (by omega)
  have HC := Lib.hid (fun W => cells_code h.cells p S (p.cells S) 0 (by unfold Rg.cellsR; rw [hpo, hin]; rfl) W)
  have HM1 := Lib.hid (fun A c W ha => misses_code h.misses l hl S (Rg.misses l S) 0 (by unfold Rg.missesR; rw [hq2, hin]; rfl) A c W ha)
  have HM2 : Hid (p.lo.size = false → p.cells S ≠ [] → Rg.valid [p.halfA true, p.halfB true] = true → ∀ A c W (_ : PtE.Arg W A (O ++ [p.halfA true, p.halfB true])), Calls Try.prog 18 #[.slice A (O.length + 2) c, .int .i64 (S : Nat)] W fun e w' =>
      (∃ B c, e = .returned (.tuple #[.slice B (Rg.misses l S).length c, .int .i64 0]) ∧ OwnM w' W.heap.size B c (mv S (Rg.misses l S))) ∧ Below W.heap.size W w') := Lib.hid fun g1 g2 g3 A c W ha => by
    have hOv : Rg.valid (O ++ [p.halfA true, p.halfB true]) = true := by
      rw [Rg.valid_iff] at g3 ⊢
      refine ⟨by simp only [List.length_append, List.length_cons, List.length_nil]; omega, fun x hx => ?_⟩
      rcases List.mem_append.1 hx with hx | hx
      · rw [hO] at hx
        rcases List.mem_append.1 hx with hx | hx
        · exact ((Rg.valid_iff l).1 hq2).2 x (List.mem_of_mem_take hx)
        · exact ((Rg.valid_iff l).1 hq2).2 x (List.mem_of_mem_drop hx)
      · exact g3.2 x hx
    have hms : Rg.misses (O ++ [p.halfA true, p.halfB true]) S = Rg.misses l S := Rg.misses_congr fun c => by
      rw [hO, hJ]
      exact Rg.many_split l K p hp true b3 g1 S ((Rg.cells_ne p S).1 g2) c
    have := misses_code h.misses (O ++ [p.halfA true, p.halfB true]) (by simp only [maxLen, List.length_append, List.length_cons, List.length_nil]; omega) S (Rg.misses l S) 0 (by unfold Rg.missesR; rw [hOv, hin, hms]; rfl) A c W ha
    simp only [List.length_append, List.length_cons, List.length_nil] at this
    exact this
  have HVV := Lib.hid (fun (g : Nat) c (W : World) h => valid_of [p.halfA true, p.halfB true] _ rfl (by simp [maxLen]) (some ⟨g, 0, none⟩) c W h)
  have HO1 := Lib.hid (fun W h => own_of l (by omega) A cap hA W h)
  have hml : (mv S (Rg.misses l S)).length ≤ 3000000 := by rw [mv_len]; have := Rg.missK_len l S 401; exact Nat.le_trans this (by omega)
  have hsm := fun A C c1 c2 W h1 h2 => misses_any (mv S (Rg.misses l S)) hml A C c1 c2 W h1 h2
  rw [mv_len] at hsm
  have HSM := Lib.hid hsm
  have HL := Lib.hid (Arg.stay ha)
  have HOO := Lib.hid hO
  have HOL := Lib.hid hOl
  have HP := Lib.hid hp
  obtain ⟨b, o, rfl, hinl⟩ := ha.at_ hl0
  have e1 : (s : Int) % 101 = (S : Int) := by omega
  have e2 : (t : Int) / 2 % (l.length : Int) = (K : Int) := by rw [hK, show (t : Int) / 2 = ((t / 2 : Nat) : Int) from rfl]; exact (Int.natCast_emod (t / 2) l.length).symm
  have hj1 : (K : Int) + 1 = J := by omega
  have hj2 : IntKind.i64.wrap (J : Int) = J := IntWalk.i64_in _ (by omega)
  have hk0 : (0 : Int) ≤ K := by omega
  have hk1 : (K : Int) < l.length := by omega
  have hj0 : (0 : Int) ≤ J := by omega
  have hcK : (K : Int) ≤ cap := by omega
  have hjl : (J : Int) ≤ l.length := by omega
  have hcm2 : (cap : Int) ≤ 9223372036854775807 := by unfold maxLen at hcm; omega
  have E1 := Lib.hid e1
  have E2 := Lib.hid e2
  have HJ := Lib.hid hJ
  have HIN := Lib.hid hinl
  clear h hl ha hq6 hq2 hsm hml hO hOl hin hA ht hs e1 e2 hK hS hp hpo hpi hl0 hJ hinl
  generalize Rg.misses l S = L at HM1 HM2 HSM
  generalize p.cells S = C at HC HM2
  go_enter Try.func9, Try.ntmps9
  have hB0 : Below w.heap.size w w := Below.refl _ _
  go_wp2_with fail
  refine (HV.out _ _ _ HL.out.at_).mono ?_
  rintro e w1 ⟨rfl, hb1⟩
  have HL := Lib.hid (HL.out.step hb1)
  have hB1 := hB0.trans (hb1.mono hB0.size)
  clear hb1
  go_upto_region 5 with (fail)
  rw [E1.out, E2.out]
  have hbl := HIN.out.lt (by intro e; subst e; simp at hpos)
  obtain ⟨x0, x1, x2, x3, x4⟩ := PtE.at5 (HIN.out.below hB1 (fun _ => hbl)) HP.out
  go_upto_region 6 with (fail)
  clear x0 x1 x2 x3 x4
  have hx0 : PtE.Arg w1 (some ⟨b, o, none⟩) l := HL.out.at_
  have HL1 := Lib.hid (hx0.below ((Below.refl _ _).alloc (Nat.le_refl _) (Obj.cells #[.bool p.lo.size, .int .i64 p.lo.n, .bool p.hi.size, .int .i64 p.hi.n, .int .i64 p.step] 25)))
  have hz1 : (w1.alloc (Obj.cells #[.bool p.lo.size, .int .i64 p.lo.n, .bool p.hi.size, .int .i64 p.hi.n, .int .i64 p.step] 25)).heap.size = w1.heap.size + 1 := by simp
  have HZ1 := Lib.hid hz1
  clear hz1 hx0
  go_cut [10] (fun v wx => ∃ (X : Option Addr) (c : Nat), v = .slice X O.length c ∧ Hid (OwnP wx (w1.heap.size + 1) X c O) ∧ Below (w1.heap.size + 1) (w1.alloc (Obj.cells #[.bool p.lo.size, .int .i64 p.lo.n, .bool p.hi.size, .int .i64 p.hi.n, .int .i64 p.step] 25)) wx)
  case first =>
    clear HM1 HM2 HC HVV HO1 HSM HK HV hB1 HL
    have hmade : OwnP ((w1.alloc (Obj.cells #[.bool p.lo.size, .int .i64 p.lo.n, .bool p.hi.size, .int .i64 p.hi.n, .int .i64 p.step] 25)).alloc (.cells #[] 25)).drew (w1.heap.size + 1) (some ⟨w1.heap.size + 1, 0, none⟩) 0 [] := by
      have := Own.made PtE 25 (w1.alloc (Obj.cells #[.bool p.lo.size, .int .i64 p.lo.n, .bool p.hi.size, .int .i64 p.hi.n, .int .i64 p.step] 25)) (base := w1.heap.size + 1) (Nat.le_of_eq HZ1.out.symm)
      rwa [HZ1.out] at this
    have hB0 : Below (w1.heap.size + 1) (w1.alloc (Obj.cells #[.bool p.lo.size, .int .i64 p.lo.n, .bool p.hi.size, .int .i64 p.hi.n, .int .i64 p.step] 25)) ((w1.alloc (Obj.cells #[.bool p.lo.size, .int .i64 p.lo.n, .bool p.hi.size, .int .i64 p.hi.n, .int .i64 p.step] 25)).alloc (.cells #[] 25)).drew := ((Below.refl _ _).alloc (Nat.le_of_eq HZ1.out.symm) _).drew
    have hbase0 : w1.heap.size + 1 ≤ ((w1.alloc (Obj.cells #[.bool p.lo.size, .int .i64 p.lo.n, .bool p.hi.size, .int .i64 p.hi.n, .int .i64 p.step] 25)).alloc (.cells #[] 25)).drew.heap.size := by simp
    go_region_law (first
      | (refine step_append_any PtE _ rfl _ _ 31 25 rfl Try.underlying31 part_info rfl (w1.heap.size + 1) _ _ _ ([] ++ l.take K) (l.drop J) _ _ _ rfl (by simp; omega) rfl (by simp) (fun hh => by split at hh <;> cases hh) hown2 hLD (by simp [maxLen]; omega) (by simp; omega) hz2 ?_; intro A3 cap3 w3 hown3 hgrow3; have hB3 := hB2.grown hgrow3 hz2 (fun j hj => (hown2.lt j hj).1))
      | (refine step_append_any PtE _ rfl _ _ 31 25 rfl Try.underlying31 part_info rfl (w1.heap.size + 1) _ _ _ [] (l.take K) _ _ _ rfl rfl rfl (by simp; omega) (fun hh => by cases hh) hmade ((HL1.out.below (hB0.mono (Nat.le_of_eq HZ1.out))).take K) (by simp [maxLen]; omega) (by simp; omega) hbase0 ?_; intro A2 cap2 w2 hown2 hgrow2; have hB2 := hB0.grown hgrow2 hbase0 (fun j hj => (hmade.lt j hj).1); have hz2 := Nat.le_trans hbase0 hgrow2.size; have hLD := Arg.drop_if (n := J) (cap := cap) (j := J * 5) (HL1.out.below (hB2.mono (Nat.le_of_eq HZ1.out))) rfl hcap; rw [add_at] at hLD))
    all_goals
      generalize (if cap = J then some (⟨b, o, none⟩ : Addr) else some ⟨b, o + J * 5, none⟩) = AO
      go_wp2_with fail
      go_meet
      exact ⟨A3, cap3, congrArg (fun n => Value.slice A3 n cap3) (by have := HOL.out; have := HJ.out; omega), Lib.hid (by rw [HOO.out]; exact hown3), hB3⟩
  case rest =>
    obtain ⟨X, cx, rfl, HOX, hb2⟩ := hcut
    have hb2 := hb2.mono (Nat.le_of_eq HZ1.out)
    have HL := Lib.hid (HL1.out.stay.step hb2)
    have HBX := Lib.hid ((show Stay (fun V => IsPt V w1.heap.size p) (w1.alloc (Obj.cells #[.bool p.lo.size, .int .i64 p.lo.n, .bool p.hi.size, .int .i64 p.hi.n, .int .i64 p.step] 25)) from boxed).step hb2)
    have HX := Lib.hid (Own.stay HOX.out)
    have hB2 := (hB1.trans ((Below.refl _ _).alloc hB1.size _)).trans (hb2.mono (by rw [HZ1.out]; have := hB1.size; omega))
    have HW01 := Lib.hid hB1.size
    clear hb2 hB1 HOX HL1
    go_upto_region 7 with (fail)
    obtain ⟨x0, x1, x2, x3, x4⟩ := HBX.out.at_
    have hltb : w1.heap.size < wc.heap.size := lt_of_cell x0
    obtain ⟨w2, HW2⟩ : ∃ w2, Hid (w2 = wc) := ⟨_, Lib.hid rfl⟩
    have hwl := HBX.out.at_.1
    go_cut [11, 12] (fun a b wx => ∃ (ga gb : Nat), a = .pointer (some ⟨ga, 0, none⟩) ∧ b = .pointer (some ⟨gb, 0, none⟩) ∧ ga ≠ gb ∧ w2.heap.size ≤ ga ∧ w2.heap.size ≤ gb ∧ wx.heap[ga]? = some (Obj.cells #[.bool p.lo.size, .int .i64 p.lo.n, .bool p.hi.size, .int .i64 p.hi.n, .int .i64 p.step] 25) ∧ wx.heap[gb]? = some (Obj.cells #[.bool p.lo.size, .int .i64 p.lo.n, .bool p.hi.size, .int .i64 p.hi.n, .int .i64 p.step] 25) ∧ Below w2.heap.size w2 wx)
    case first =>
      clear HM1 HM2 HC HVV HO1 HSM HK HV HL HBX HX hwl
      go_region
      all_goals go_wp2_with fail
      all_goals go_meet
      · rw [HW2.out]
        exact ⟨_, _, rfl, rfl, by omega, Nat.le_refl _, Nat.le_succ _, heap_alloc2_old _ _ _, heap_alloc2_new _ _ _, (((Below.refl _ _).alloc (Nat.le_refl _) _).alloc (by simp) _).drew⟩
      · rw [HW2.out]
        exact ⟨_, _, rfl, rfl, by omega, Nat.le_succ _, Nat.le_refl _, heap_alloc2_new _ _ _, heap_alloc2_old _ _ _, (((Below.refl _ _).alloc (Nat.le_refl _) _).alloc (by simp) _).drew⟩
    case rest =>
      obtain ⟨ga, gb, rfl, rfl, hab, hga, hgb, hba, hbb, hb3⟩ := hcut
      rw [← HW2.out] at HL HBX HX hB2 hltb
      obtain ⟨x0, x1, x2, x3, x4⟩ := HBX.out _ hb3
      have hxa : w1.heap.size ≠ ga := by omega
      have hxb : w1.heap.size ≠ gb := by omega
      have hax : ga ≠ w1.heap.size := by omega
      have hbx : gb ≠ w1.heap.size := by omega
      have hba2 : gb ≠ ga := fun e => hab e.symm
      have hga2 := hga
      have a0 : wc.cell? ⟨ga, 0, none⟩ = some (.bool p.lo.size) := cell_of_row wc ga 0 _ _ _ hba
      have a1 : wc.cell? ⟨ga, 1, none⟩ = some (.int .i64 p.lo.n) := cell_of_row wc ga 1 _ _ _ hba
      have a2 : wc.cell? ⟨ga, 2, none⟩ = some (.bool p.hi.size) := cell_of_row wc ga 2 _ _ _ hba
      have a3 : wc.cell? ⟨ga, 3, none⟩ = some (.int .i64 p.hi.n) := cell_of_row wc ga 3 _ _ _ hba
      have a4 : wc.cell? ⟨ga, 4, none⟩ = some (.int .i64 p.step) := cell_of_row wc ga 4 _ _ _ hba
      have b0 : wc.cell? ⟨gb, 0, none⟩ = some (.bool p.lo.size) := cell_of_row wc gb 0 _ _ _ hbb
      have b1' : wc.cell? ⟨gb, 1, none⟩ = some (.int .i64 p.lo.n) := cell_of_row wc gb 1 _ _ _ hbb
      have b2' : wc.cell? ⟨gb, 2, none⟩ = some (.bool p.hi.size) := cell_of_row wc gb 2 _ _ _ hbb
      have b3' : wc.cell? ⟨gb, 3, none⟩ = some (.int .i64 p.hi.n) := cell_of_row wc gb 3 _ _ _ hbb
      have b4' : wc.cell? ⟨gb, 4, none⟩ = some (.int .i64 p.step) := cell_of_row wc gb 4 _ _ _ hbb
      have fa2 := frozen_of_row wc ga 2 _ _ hba
      have fa3 := frozen_of_row wc ga 3 _ _ hba
      have fa4 := frozen_of_row wc ga 4 _ _ hba
      have fb1 := frozen_of_row wc gb 1 _ _ hbb
      have fb4 := frozen_of_row wc gb 4 _ _ hbb
      clear hba hbb
      go_upto_region 10 with (fail)
      go_cut [11, 12] (fun va vb wx => va = .pointer (some ⟨ga, 0, none⟩) ∧ vb = .pointer (some ⟨gb, 0, none⟩) ∧ Hid (IsPt wx ga (p.halfA true)) ∧ Hid (IsPt wx gb (p.halfB true)) ∧ Below w2.heap.size w2 wx)
      case first =>
        clear HM1 HM2 HC HVV HO1 HSM HK HV HL HBX HX hwl
        go_region
        all_goals go_wp2_with fail
        all_goals go_meet
        all_goals
          refine ⟨rfl, rfl, Lib.hid ⟨?_, ?_, ?_, ?_, ?_⟩, Lib.hid ⟨?_, ?_, ?_, ?_, ?_⟩, ?_⟩
        all_goals first
          | exact (((hb3.setCell hgb _).setCell hga _).setCell hgb _).drew
          | (simp only [Rg.Pt.halfA, Rg.Pt.halfB, if_true]; go_simp)
      case rest =>
        obtain ⟨rfl, rfl, HHA, HHB, hb4⟩ := hcut
        clear x0 x1 x2 x3 x4 a0 a1 a2 a3 a4 b0 b1' b2' b3' b4' fa2 fa3 fa4 fb1 fb4 hb3
        have HL := Lib.hid (HL.out.step hb4)
        have HBX := Lib.hid (HBX.out.step hb4)
        have HX := Lib.hid (HX.out.step hb4)
        have SZ := Lib.hid ((show Stay (fun V => w1.heap.size < V.heap.size) w2 from fun _ hb => Nat.lt_of_lt_of_le hltb hb.size).step hb4)
        have SA := Lib.hid (IsPt.stay HHA.out)
        have SB := Lib.hid (IsPt.stay HHB.out)
        have hB4 := hB2.trans (hb4.mono hB2.size)
        clear hb4 hB2 HHA HHB
        obtain ⟨x0, x1, x2, x3, x4⟩ := HBX.out.at_
        go_wp2_with fail
        refine (HC.out _).mono ?_
        rintro e w5 ⟨⟨B1, c1, rfl, ho1⟩, hb5⟩
        have HL := Lib.hid (HL.out.step hb5)
        have HBX := Lib.hid (HBX.out.step hb5)
        have HX := Lib.hid (HX.out.step hb5)
        have SA := Lib.hid (SA.out.step hb5)
        have SB := Lib.hid (SB.out.step hb5)
        have SZ := Lib.hid (SZ.out.step hb5)
        have hB5 := hB4.trans (hb5.mono hB4.size)
        clear hb5 hB4 x0 x1 x2 x3 x4 ho1
        obtain ⟨x0, x1, x2, x3, x4⟩ := HBX.out.at_
        cases hz : p.lo.size with
        | true =>
          clear HL HX SA SB HBX SZ
          go_wp2_with fail
          refine (HK.out _).mono ?_
          rintro e w6 ⟨rfl, hb6⟩
          have hB6 := hB5.trans (hb6.mono hB5.size)
          clear hb6 hB5
          go_wp2
          go_ret
          exact ⟨rfl, hB6⟩
        | false =>
          cases C with
          | nil =>
            simp only [List.length_nil]
            clear HL HX SA SB HBX SZ
            go_wp2_with fail
            refine (HK.out _).mono ?_
            rintro e w6 ⟨rfl, hb6⟩
            have hB6 := hB5.trans (hb6.mono hB5.size)
            clear hb6 hB5
            go_wp2
            go_ret
            exact ⟨rfl, hB6⟩
          | cons c0 cr =>
            simp only [List.length_cons]
            have hcz : (((cr.length : Nat) : Int) + 1 == 0) = false := by rw [beq_eq_false_iff_ne]; omega
            obtain ⟨y0, y1, y2, y3, y4⟩ := SA.out.at_
            obtain ⟨z0, z1, z2, z3, z4⟩ := SB.out.at_
            have HMM := HM2.out hz (by simp)
            generalize hvq : Rg.valid [p.halfA true, p.halfB true] = q at HVV HMM
            generalize p.halfA true = pa at *
            generalize p.halfB true = pb at *
            have HMQ := Lib.hid HMM
            clear HM2 hvq HMM
            go_wp2_with fail
            have hb6 : Below w5.heap.size w5 (w5.alloc (Obj.cells #[.bool pa.lo.size, .int .i64 pa.lo.n, .bool pa.hi.size, .int .i64 pa.hi.n, .int .i64 pa.step, .bool pb.lo.size, .int .i64 pb.lo.n, .bool pb.hi.size, .int .i64 pb.hi.n, .int .i64 pb.step] 25)) := (Below.refl _ _).alloc (Nat.le_refl _) _
            have HL := Lib.hid (HL.out.step hb6)
            have HBX := Lib.hid (HBX.out.step hb6)
            have HX := Lib.hid (HX.out.step hb6)
            have SA := Lib.hid (SA.out.step hb6)
            have SB := Lib.hid (SB.out.step hb6)
            have SZ := Lib.hid (SZ.out.step hb6)
            have hB6 := hB5.trans (hb6.mono hB5.size)
            clear hb6 hB5
            clear x0 x1 x2 x3 x4 y0 y1 y2 y3 y4 z0 z1 z2 z3 z4 hz
            refine (HVV.out _ _ _ (row_arg (K := PtE) rfl rfl)).mono ?_
            rintro e w7 ⟨rfl, hb7⟩
            have HL := Lib.hid (HL.out.step hb7)
            have HBX := Lib.hid (HBX.out.step hb7)
            have HX := Lib.hid (HX.out.step hb7)
            have SA := Lib.hid (SA.out.step hb7)
            have SB := Lib.hid (SB.out.step hb7)
            have SZ := Lib.hid (SZ.out.step hb7)
            have hB7 := hB6.trans (hb7.mono hB6.size)
            clear hb7 hB6
            cases q with
            | false =>
              clear HL HX SA SB HBX SZ
              go_wp2_with fail
              refine (HK.out _).mono ?_
              rintro e w8 ⟨rfl, hb8⟩
              have hB8 := hB7.trans (hb8.mono hB7.size)
              clear hb8 hB7
              go_wp2
              go_ret
              exact ⟨rfl, hB8⟩
            | true =>
              clear HBX
              have HMM := Lib.hid (HMQ.out rfl)
              clear HMQ
              go_wp2_with fail
              refine (HO1.out _ HL.out.at_).mono ?_
              rintro e w8 ⟨⟨Y1, d1, rfl, ho⟩, hb8⟩
              have HL := Lib.hid (HL.out.step hb8)
              have HX := Lib.hid (HX.out.step hb8)
              have SA := Lib.hid (SA.out.step hb8)
              have SB := Lib.hid (SB.out.step hb8)
              have SZ := Lib.hid (SZ.out.step hb8)
              have hB8 := hB7.trans (hb8.mono hB7.size)
              clear hb8 hB7
              go_wp2_with fail
              refine (HM1.out _ _ _ (Own.arg ho)).mono ?_
              rintro e w9 ⟨⟨M1, m1, rfl, hm1⟩, hb9⟩
              have HL := Lib.hid (HL.out.step hb9)
              have HX := Lib.hid (HX.out.step hb9)
              have SA := Lib.hid (SA.out.step hb9)
              have SB := Lib.hid (SB.out.step hb9)
              have SZ := Lib.hid (SZ.out.step hb9)
              have hB9 := hB8.trans (hb9.mono hB8.size)
              clear hb9 hB8 ho
              have S1 := Lib.hid (Own.stay hm1)
              clear hm1
              clear HL
              obtain ⟨y0, y1, y2, y3, y4⟩ := SA.out.at_
              obtain ⟨z0, z1, z2, z3, z4⟩ := SB.out.at_
              have hr := row_arg (K := PtE) (W := w9) (t := 25) (cs := #[.bool pa.lo.size, .int .i64 pa.lo.n, .bool pa.hi.size, .int .i64 pa.hi.n, .int .i64 pa.step, .bool pb.lo.size, .int .i64 pb.lo.n, .bool pb.hi.size, .int .i64 pb.hi.n, .int .i64 pb.step]) (l := [pa, pb]) rfl rfl
              clear SA SB
              have hb10 : Below w9.heap.size w9 (w9.alloc (Obj.cells #[.bool pa.lo.size, .int .i64 pa.lo.n, .bool pa.hi.size, .int .i64 pa.hi.n, .int .i64 pa.step, .bool pb.lo.size, .int .i64 pb.lo.n, .bool pb.hi.size, .int .i64 pb.hi.n, .int .i64 pb.step] 25)) := (Below.refl _ _).alloc (Nat.le_refl _) _
              have HX := Lib.hid (HX.out.step hb10)
              have SZ := Lib.hid (SZ.out.step hb10)
              have S1 := Lib.hid (S1.out.step hb10)
              have hB10 := hB9.trans (hb10.mono hB9.size)
              clear hb10 hB9
              have hown := HX.out.at_
              have hOl6 : O.length ≤ 6 := by have := HOL.out; omega
              have hbs : w1.heap.size + 1 ≤ (w9.alloc (Obj.cells #[.bool pa.lo.size, .int .i64 pa.lo.n, .bool pa.hi.size, .int .i64 pa.hi.n, .int .i64 pa.step, .bool pb.lo.size, .int .i64 pb.lo.n, .bool pb.hi.size, .int .i64 pb.hi.n, .int .i64 pb.step] 25)).heap.size := SZ.out.at_
              obtain ⟨br, orr, hre, hrin⟩ := hr.at_ (by simp)
              injection hre with hre
              injection hre with hre1 hre2 _
              subst hre1 hre2
              go_wp2_with (at_builtin; refine wpList_append_el PtE _ rfl _ _ 31 25 rfl Try.underlying31 part_info rfl (w1.heap.size + 1) X cx O [pa, pb] w9.heap.size 0 2 rfl rfl hown hrin (by simp only [maxLen, List.length_cons, List.length_nil]; omega) (by simp; omega) hbs ?_; intro X3 cx3 w30 hown3 hgrow3)
              have hb30 : Below (w1.heap.size + 1) (w9.alloc (Obj.cells #[.bool pa.lo.size, .int .i64 pa.lo.n, .bool pa.hi.size, .int .i64 pa.hi.n, .int .i64 pa.step, .bool pb.lo.size, .int .i64 pb.lo.n, .bool pb.hi.size, .int .i64 pb.hi.n, .int .i64 pb.step] 25)) w30 := below_of_grown hgrow3 hbs (fun j hj => (hown.lt j hj).1)
              have hm := S1.out.at_
              have hm := World.ownsRow.kept hm hgrow3 (own_own_ne hm hown (by decide))
              have SM := Lib.hid (Own.stay (K := MissE) hm)
              have hB30 := hB10.trans (hb30.mono (Nat.le_succ_of_le HW01.out))
              clear hm hb30 hown hbs hrin hgrow3 S1 hB10 HX SZ
              refine (HMM.out _ _ _ (Own.arg hown3)).mono ?_
              rintro e w31 ⟨⟨M2, m2, rfl, hm2⟩, hb31⟩
              have SM := Lib.hid (SM.out.step hb31)
              have SM2 := Lib.hid (Own.stay hm2)
              have hB31 := hB30.trans (hb31.mono hB30.size)
              clear hb31 hB30 hm2 hown3
              go_wp2_with fail
              refine (HSM.out _ _ _ _ _ SM.out.at_.arg SM2.out.at_.arg).mono ?_
              rintro e w32 ⟨rfl, hb32⟩
              have SM := Lib.hid (SM.out.step hb32)
              have SM2 := Lib.hid (SM2.out.step hb32)
              have hB32 := hB31.trans (hb32.mono hB31.size)
              clear hb32 hB31
              clear SM SM2
              go_wp2_with fail
              refine (HK.out _).mono ?_
              rintro e w33 ⟨rfl, hb33⟩
              have hB33 := hB32.trans (hb33.mono hB32.size)
              clear hb33 hB32
              go_wp2
              go_ret
              exact ⟨rfl, hB33⟩

set_option maxRecDepth 100000 in
set_option maxHeartbeats 8000000 in
theorem spl_odd (h : Prg) (l : List Rg.Pt) (hl : l.length ≤ maxLen) (A : Option Addr) (cap : Nat) (hA : A = none → cap = 0) (hcap : l.length ≤ cap) (hcm : cap ≤ maxLen) (t s : Nat) (ht : t < 256) (hs : s < 256) (hq : (decide (l.length ≤ 6) && Rg.valid l) = true) (hl0 : l ≠ []) (hev : ((t : Int) % 2 == 0) = false) (w : World) (ha : PtE.Arg w A l) :
    Calls Try.prog 9 #[.slice A l.length cap, .int .u8 t, .int .u8 s] w fun e w' => e = .returned (.bool true) ∧ Below w.heap.size w w' := by
  have HK := Lib.hid (fun W => known_any h W)
  have ht1 : (0 : Int) ≤ t := by omega
  have ht2 : (t : Int) < 256 := by omega
  have hs1 : (0 : Int) ≤ s := by omega
  have hs2 : (s : Int) < 256 := by omega
  rw [Bool.and_eq_true] at hq
  obtain ⟨hq6, hq2⟩ := hq
  have h6 : l.length ≤ 6 := of_decide_eq_true hq6
  have HV := Lib.hid (fun A c W h => lawValid_of l true (by rw [hq6, hq2]; rfl) hl A c W h)
  have hpos : 0 < l.length := List.length_pos_iff.2 hl0
  have hlz : ((l.length : Int) == 0) = false := by rw [beq_eq_false_iff_ne]; omega
  obtain ⟨K, hK⟩ : ∃ K, K = t / 2 % l.length := ⟨_, rfl⟩
  have hKl : K < l.length := by rw [hK]; exact Nat.mod_lt _ hpos
  obtain ⟨J, hJ⟩ : ∃ J, J = K + 1 := ⟨_, rfl⟩
  have hJl : J ≤ l.length := by omega
  obtain ⟨S, hS⟩ : ∃ S, S = s % 101 := ⟨_, rfl⟩
  have hS1 : S ≤ 100 := by omega
  obtain ⟨p, hp⟩ : ∃ p, l[K]? = some p := ⟨_, List.getElem?_eq_getElem hKl⟩
  have hpo : p.ok = true := ((Rg.valid_iff l).1 hq2).2 p (List.mem_of_getElem? hp)
  have hpi := (p.ok_iff).1 hpo
  have b1 : 0 ≤ p.lo.n := hpi.1.1
  have b2 : p.lo.n ≤ 100 := hpi.1.2
  have b3 : 1 ≤ p.step := hpi.2.2.1
  have b4 : p.step ≤ 9 := hpi.2.2.2
  obtain ⟨O, hO⟩ : ∃ O, O = l.take K ++ l.drop J := ⟨_, rfl⟩
  have hOl : O.length + 1 = l.length := by rw [hO]; simp only [List.length_append, List.length_drop, List.length_take]; omega
  have hin : Rg.inS (S : Nat) = true := (Rg.inS_iff _).2 (by omega)
  have HC := Lib.hid (fun W => cells_code h.cells p S (p.cells S) 0 (by unfold Rg.cellsR; rw [hpo, hin]; rfl) W)
  have HM1 := Lib.hid (fun A c W ha => misses_code h.misses l hl S (Rg.misses l S) 0 (by unfold Rg.missesR; rw [hq2, hin]; rfl) A c W ha)
  have HM2 : Hid (p.lo.size = false → p.cells S ≠ [] → Rg.valid [p.halfA false, p.halfB false] = true → ∀ A c W (_ : PtE.Arg W A (O ++ [p.halfA false, p.halfB false])), Calls Try.prog 18 #[.slice A (O.length + 2) c, .int .i64 (S : Nat)] W fun e w' =>
      (∃ B c, e = .returned (.tuple #[.slice B (Rg.misses l S).length c, .int .i64 0]) ∧ OwnM w' W.heap.size B c (mv S (Rg.misses l S))) ∧ Below W.heap.size W w') := Lib.hid fun g1 g2 g3 A c W ha => by
    have hOv : Rg.valid (O ++ [p.halfA false, p.halfB false]) = true := by
      rw [Rg.valid_iff] at g3 ⊢
      refine ⟨by simp only [List.length_append, List.length_cons, List.length_nil]; omega, fun x hx => ?_⟩
      rcases List.mem_append.1 hx with hx | hx
      · rw [hO] at hx
        rcases List.mem_append.1 hx with hx | hx
        · exact ((Rg.valid_iff l).1 hq2).2 x (List.mem_of_mem_take hx)
        · exact ((Rg.valid_iff l).1 hq2).2 x (List.mem_of_mem_drop hx)
      · exact g3.2 x hx
    have hms : Rg.misses (O ++ [p.halfA false, p.halfB false]) S = Rg.misses l S := Rg.misses_congr fun c => by
      rw [hO, hJ]
      exact Rg.many_split l K p hp false b3 g1 S ((Rg.cells_ne p S).1 g2) c
    have := misses_code h.misses (O ++ [p.halfA false, p.halfB false]) (by simp only [maxLen, List.length_append, List.length_cons, List.length_nil]; omega) S (Rg.misses l S) 0 (by unfold Rg.missesR; rw [hOv, hin, hms]; rfl) A c W ha
    simp only [List.length_append, List.length_cons, List.length_nil] at this
    exact this
  have HVV := Lib.hid (fun (g : Nat) c (W : World) h => valid_of [p.halfA false, p.halfB false] _ rfl (by simp [maxLen]) (some ⟨g, 0, none⟩) c W h)
  have HO1 := Lib.hid (fun W h => own_of l (by omega) A cap hA W h)
  have hml : (mv S (Rg.misses l S)).length ≤ 3000000 := by rw [mv_len]; have := Rg.missK_len l S 401; exact Nat.le_trans this (by omega)
  have hsm := fun A C c1 c2 W h1 h2 => misses_any (mv S (Rg.misses l S)) hml A C c1 c2 W h1 h2
  rw [mv_len] at hsm
  have HSM := Lib.hid hsm
  have HL := Lib.hid (Arg.stay ha)
  have HOO := Lib.hid hO
  have HOL := Lib.hid hOl
  have HP := Lib.hid hp
  obtain ⟨b, o, rfl, hinl⟩ := ha.at_ hl0
  have e1 : (s : Int) % 101 = (S : Int) := by omega
  have e2 : (t : Int) / 2 % (l.length : Int) = (K : Int) := by rw [hK, show (t : Int) / 2 = ((t / 2 : Nat) : Int) from rfl]; exact (Int.natCast_emod (t / 2) l.length).symm
  have hj1 : (K : Int) + 1 = J := by omega
  have hj2 : IntKind.i64.wrap (J : Int) = J := IntWalk.i64_in _ (by omega)
  have hk0 : (0 : Int) ≤ K := by omega
  have hk1 : (K : Int) < l.length := by omega
  have hj0 : (0 : Int) ≤ J := by omega
  have hcK : (K : Int) ≤ cap := by omega
  have hjl : (J : Int) ≤ l.length := by omega
  have hcm2 : (cap : Int) ≤ 9223372036854775807 := by unfold maxLen at hcm; omega
  have E1 := Lib.hid e1
  have E2 := Lib.hid e2
  have HJ := Lib.hid hJ
  have HIN := Lib.hid hinl
  clear h hl ha hq6 hq2 hsm hml hO hOl hin hA ht hs e1 e2 hK hS hp hpo hpi hl0 hJ hinl
  generalize Rg.misses l S = L at HM1 HM2 HSM
  generalize p.cells S = C at HC HM2
  go_enter Try.func9, Try.ntmps9
  have hB0 : Below w.heap.size w w := Below.refl _ _
  go_wp2_with fail
  refine (HV.out _ _ _ HL.out.at_).mono ?_
  rintro e w1 ⟨rfl, hb1⟩
  have HL := Lib.hid (HL.out.step hb1)
  have hB1 := hB0.trans (hb1.mono hB0.size)
  clear hb1
  go_upto_region 5 with (fail)
  rw [E1.out, E2.out]
  have hbl := HIN.out.lt (by intro e; subst e; simp at hpos)
  obtain ⟨x0, x1, x2, x3, x4⟩ := PtE.at5 (HIN.out.below hB1 (fun _ => hbl)) HP.out
  go_upto_region 6 with (fail)
  clear x0 x1 x2 x3 x4
  have hx0 : PtE.Arg w1 (some ⟨b, o, none⟩) l := HL.out.at_
  have HL1 := Lib.hid (hx0.below ((Below.refl _ _).alloc (Nat.le_refl _) (Obj.cells #[.bool p.lo.size, .int .i64 p.lo.n, .bool p.hi.size, .int .i64 p.hi.n, .int .i64 p.step] 25)))
  have hz1 : (w1.alloc (Obj.cells #[.bool p.lo.size, .int .i64 p.lo.n, .bool p.hi.size, .int .i64 p.hi.n, .int .i64 p.step] 25)).heap.size = w1.heap.size + 1 := by simp
  have HZ1 := Lib.hid hz1
  clear hz1 hx0
  go_cut [10] (fun v wx => ∃ (X : Option Addr) (c : Nat), v = .slice X O.length c ∧ Hid (OwnP wx (w1.heap.size + 1) X c O) ∧ Below (w1.heap.size + 1) (w1.alloc (Obj.cells #[.bool p.lo.size, .int .i64 p.lo.n, .bool p.hi.size, .int .i64 p.hi.n, .int .i64 p.step] 25)) wx)
  case first =>
    clear HM1 HM2 HC HVV HO1 HSM HK HV hB1 HL
    have hmade : OwnP ((w1.alloc (Obj.cells #[.bool p.lo.size, .int .i64 p.lo.n, .bool p.hi.size, .int .i64 p.hi.n, .int .i64 p.step] 25)).alloc (.cells #[] 25)).drew (w1.heap.size + 1) (some ⟨w1.heap.size + 1, 0, none⟩) 0 [] := by
      have := Own.made PtE 25 (w1.alloc (Obj.cells #[.bool p.lo.size, .int .i64 p.lo.n, .bool p.hi.size, .int .i64 p.hi.n, .int .i64 p.step] 25)) (base := w1.heap.size + 1) (Nat.le_of_eq HZ1.out.symm)
      rwa [HZ1.out] at this
    have hB0 : Below (w1.heap.size + 1) (w1.alloc (Obj.cells #[.bool p.lo.size, .int .i64 p.lo.n, .bool p.hi.size, .int .i64 p.hi.n, .int .i64 p.step] 25)) ((w1.alloc (Obj.cells #[.bool p.lo.size, .int .i64 p.lo.n, .bool p.hi.size, .int .i64 p.hi.n, .int .i64 p.step] 25)).alloc (.cells #[] 25)).drew := ((Below.refl _ _).alloc (Nat.le_of_eq HZ1.out.symm) _).drew
    have hbase0 : w1.heap.size + 1 ≤ ((w1.alloc (Obj.cells #[.bool p.lo.size, .int .i64 p.lo.n, .bool p.hi.size, .int .i64 p.hi.n, .int .i64 p.step] 25)).alloc (.cells #[] 25)).drew.heap.size := by simp
    go_region_law (first
      | (refine step_append_any PtE _ rfl _ _ 31 25 rfl Try.underlying31 part_info rfl (w1.heap.size + 1) _ _ _ ([] ++ l.take K) (l.drop J) _ _ _ rfl (by simp; omega) rfl (by simp) (fun hh => by split at hh <;> cases hh) hown2 hLD (by simp [maxLen]; omega) (by simp; omega) hz2 ?_; intro A3 cap3 w3 hown3 hgrow3; have hB3 := hB2.grown hgrow3 hz2 (fun j hj => (hown2.lt j hj).1))
      | (refine step_append_any PtE _ rfl _ _ 31 25 rfl Try.underlying31 part_info rfl (w1.heap.size + 1) _ _ _ [] (l.take K) _ _ _ rfl rfl rfl (by simp; omega) (fun hh => by cases hh) hmade ((HL1.out.below (hB0.mono (Nat.le_of_eq HZ1.out))).take K) (by simp [maxLen]; omega) (by simp; omega) hbase0 ?_; intro A2 cap2 w2 hown2 hgrow2; have hB2 := hB0.grown hgrow2 hbase0 (fun j hj => (hmade.lt j hj).1); have hz2 := Nat.le_trans hbase0 hgrow2.size; have hLD := Arg.drop_if (n := J) (cap := cap) (j := J * 5) (HL1.out.below (hB2.mono (Nat.le_of_eq HZ1.out))) rfl hcap; rw [add_at] at hLD))
    all_goals
      generalize (if cap = J then some (⟨b, o, none⟩ : Addr) else some ⟨b, o + J * 5, none⟩) = AO
      go_wp2_with fail
      go_meet
      exact ⟨A3, cap3, congrArg (fun n => Value.slice A3 n cap3) (by have := HOL.out; have := HJ.out; omega), Lib.hid (by rw [HOO.out]; exact hown3), hB3⟩
  case rest =>
    obtain ⟨X, cx, rfl, HOX, hb2⟩ := hcut
    have hb2 := hb2.mono (Nat.le_of_eq HZ1.out)
    have HL := Lib.hid (HL1.out.stay.step hb2)
    have HBX := Lib.hid ((show Stay (fun V => IsPt V w1.heap.size p) (w1.alloc (Obj.cells #[.bool p.lo.size, .int .i64 p.lo.n, .bool p.hi.size, .int .i64 p.hi.n, .int .i64 p.step] 25)) from boxed).step hb2)
    have HX := Lib.hid (Own.stay HOX.out)
    have hB2 := (hB1.trans ((Below.refl _ _).alloc hB1.size _)).trans (hb2.mono (by rw [HZ1.out]; have := hB1.size; omega))
    have HW01 := Lib.hid hB1.size
    clear hb2 hB1 HOX HL1
    go_upto_region 7 with (fail)
    obtain ⟨x0, x1, x2, x3, x4⟩ := HBX.out.at_
    have hltb : w1.heap.size < wc.heap.size := lt_of_cell x0
    obtain ⟨w2, HW2⟩ : ∃ w2, Hid (w2 = wc) := ⟨_, Lib.hid rfl⟩
    have hwl := HBX.out.at_.1
    go_cut [11, 12] (fun a b wx => ∃ (ga gb : Nat), a = .pointer (some ⟨ga, 0, none⟩) ∧ b = .pointer (some ⟨gb, 0, none⟩) ∧ ga ≠ gb ∧ w2.heap.size ≤ ga ∧ w2.heap.size ≤ gb ∧ wx.heap[ga]? = some (Obj.cells #[.bool p.lo.size, .int .i64 p.lo.n, .bool p.hi.size, .int .i64 p.hi.n, .int .i64 p.step] 25) ∧ wx.heap[gb]? = some (Obj.cells #[.bool p.lo.size, .int .i64 p.lo.n, .bool p.hi.size, .int .i64 p.hi.n, .int .i64 p.step] 25) ∧ Below w2.heap.size w2 wx)
    case first =>
      clear HM1 HM2 HC HVV HO1 HSM HK HV HL HBX HX hwl
      go_region
      all_goals go_wp2_with fail
      all_goals go_meet
      · rw [HW2.out]
        exact ⟨_, _, rfl, rfl, by omega, Nat.le_refl _, Nat.le_succ _, heap_alloc2_old _ _ _, heap_alloc2_new _ _ _, (((Below.refl _ _).alloc (Nat.le_refl _) _).alloc (by simp) _).drew⟩
      · rw [HW2.out]
        exact ⟨_, _, rfl, rfl, by omega, Nat.le_succ _, Nat.le_refl _, heap_alloc2_new _ _ _, heap_alloc2_old _ _ _, (((Below.refl _ _).alloc (Nat.le_refl _) _).alloc (by simp) _).drew⟩
    case rest =>
      obtain ⟨ga, gb, rfl, rfl, hab, hga, hgb, hba, hbb, hb3⟩ := hcut
      rw [← HW2.out] at HL HBX HX hB2 hltb
      obtain ⟨x0, x1, x2, x3, x4⟩ := HBX.out _ hb3
      have hxa : w1.heap.size ≠ ga := by omega
      have hxb : w1.heap.size ≠ gb := by omega
      have hax : ga ≠ w1.heap.size := by omega
      have hbx : gb ≠ w1.heap.size := by omega
      have hba2 : gb ≠ ga := fun e => hab e.symm
      have hga2 := hga
      have a0 : wc.cell? ⟨ga, 0, none⟩ = some (.bool p.lo.size) := cell_of_row wc ga 0 _ _ _ hba
      have a1 : wc.cell? ⟨ga, 1, none⟩ = some (.int .i64 p.lo.n) := cell_of_row wc ga 1 _ _ _ hba
      have a2 : wc.cell? ⟨ga, 2, none⟩ = some (.bool p.hi.size) := cell_of_row wc ga 2 _ _ _ hba
      have a3 : wc.cell? ⟨ga, 3, none⟩ = some (.int .i64 p.hi.n) := cell_of_row wc ga 3 _ _ _ hba
      have a4 : wc.cell? ⟨ga, 4, none⟩ = some (.int .i64 p.step) := cell_of_row wc ga 4 _ _ _ hba
      have b0 : wc.cell? ⟨gb, 0, none⟩ = some (.bool p.lo.size) := cell_of_row wc gb 0 _ _ _ hbb
      have b1' : wc.cell? ⟨gb, 1, none⟩ = some (.int .i64 p.lo.n) := cell_of_row wc gb 1 _ _ _ hbb
      have b2' : wc.cell? ⟨gb, 2, none⟩ = some (.bool p.hi.size) := cell_of_row wc gb 2 _ _ _ hbb
      have b3' : wc.cell? ⟨gb, 3, none⟩ = some (.int .i64 p.hi.n) := cell_of_row wc gb 3 _ _ _ hbb
      have b4' : wc.cell? ⟨gb, 4, none⟩ = some (.int .i64 p.step) := cell_of_row wc gb 4 _ _ _ hbb
      have fa2 := frozen_of_row wc ga 2 _ _ hba
      have fa3 := frozen_of_row wc ga 3 _ _ hba
      have fa4 := frozen_of_row wc ga 4 _ _ hba
      have fb1 := frozen_of_row wc gb 1 _ _ hbb
      have fb4 := frozen_of_row wc gb 4 _ _ hbb
      clear hba hbb
      go_upto_region 11 with (fail)
      go_cut [11, 12] (fun va vb wx => va = .pointer (some ⟨ga, 0, none⟩) ∧ vb = .pointer (some ⟨gb, 0, none⟩) ∧ Hid (IsPt wx ga (p.halfA false)) ∧ Hid (IsPt wx gb (p.halfB false)) ∧ Below w2.heap.size w2 wx)
      case first =>
        clear HM1 HM2 HC HVV HO1 HSM HK HV HL HBX HX hwl
        skip
        all_goals go_wp2_with fail
        all_goals go_meet
        all_goals
          refine ⟨rfl, rfl, Lib.hid ⟨?_, ?_, ?_, ?_, ?_⟩, Lib.hid ⟨?_, ?_, ?_, ?_, ?_⟩, ?_⟩
        all_goals first
          | exact ((hb3.setCell hgb _).setCell hga _).setCell hga _
          | (simp only [Rg.Pt.halfA, Rg.Pt.halfB, Bool.false_eq_true, if_false]; go_simp)
      case rest =>
        obtain ⟨rfl, rfl, HHA, HHB, hb4⟩ := hcut
        clear x0 x1 x2 x3 x4 a0 a1 a2 a3 a4 b0 b1' b2' b3' b4' fa2 fa3 fa4 fb1 fb4 hb3
        have HL := Lib.hid (HL.out.step hb4)
        have HBX := Lib.hid (HBX.out.step hb4)
        have HX := Lib.hid (HX.out.step hb4)
        have SZ := Lib.hid ((show Stay (fun V => w1.heap.size < V.heap.size) w2 from fun _ hb => Nat.lt_of_lt_of_le hltb hb.size).step hb4)
        have SA := Lib.hid (IsPt.stay HHA.out)
        have SB := Lib.hid (IsPt.stay HHB.out)
        have hB4 := hB2.trans (hb4.mono hB2.size)
        clear hb4 hB2 HHA HHB
        obtain ⟨x0, x1, x2, x3, x4⟩ := HBX.out.at_
        go_wp2_with fail
        refine (HC.out _).mono ?_
        rintro e w5 ⟨⟨B1, c1, rfl, ho1⟩, hb5⟩
        have HL := Lib.hid (HL.out.step hb5)
        have HBX := Lib.hid (HBX.out.step hb5)
        have HX := Lib.hid (HX.out.step hb5)
        have SA := Lib.hid (SA.out.step hb5)
        have SB := Lib.hid (SB.out.step hb5)
        have SZ := Lib.hid (SZ.out.step hb5)
        have hB5 := hB4.trans (hb5.mono hB4.size)
        clear hb5 hB4 x0 x1 x2 x3 x4 ho1
        obtain ⟨x0, x1, x2, x3, x4⟩ := HBX.out.at_
        cases hz : p.lo.size with
        | true =>
          clear HL HX SA SB HBX SZ
          go_wp2_with fail
          refine (HK.out _).mono ?_
          rintro e w6 ⟨rfl, hb6⟩
          have hB6 := hB5.trans (hb6.mono hB5.size)
          clear hb6 hB5
          go_wp2
          go_ret
          exact ⟨rfl, hB6⟩
        | false =>
          cases C with
          | nil =>
            simp only [List.length_nil]
            clear HL HX SA SB HBX SZ
            go_wp2_with fail
            refine (HK.out _).mono ?_
            rintro e w6 ⟨rfl, hb6⟩
            have hB6 := hB5.trans (hb6.mono hB5.size)
            clear hb6 hB5
            go_wp2
            go_ret
            exact ⟨rfl, hB6⟩
          | cons c0 cr =>
            simp only [List.length_cons]
            have hcz : (((cr.length : Nat) : Int) + 1 == 0) = false := by rw [beq_eq_false_iff_ne]; omega
            obtain ⟨y0, y1, y2, y3, y4⟩ := SA.out.at_
            obtain ⟨z0, z1, z2, z3, z4⟩ := SB.out.at_
            have HMM := HM2.out hz (by simp)
            generalize hvq : Rg.valid [p.halfA false, p.halfB false] = q at HVV HMM
            generalize p.halfA false = pa at *
            generalize p.halfB false = pb at *
            have HMQ := Lib.hid HMM
            clear HM2 hvq HMM
            go_wp2_with fail
            have hb6 : Below w5.heap.size w5 (w5.alloc (Obj.cells #[.bool pa.lo.size, .int .i64 pa.lo.n, .bool pa.hi.size, .int .i64 pa.hi.n, .int .i64 pa.step, .bool pb.lo.size, .int .i64 pb.lo.n, .bool pb.hi.size, .int .i64 pb.hi.n, .int .i64 pb.step] 25)) := (Below.refl _ _).alloc (Nat.le_refl _) _
            have HL := Lib.hid (HL.out.step hb6)
            have HBX := Lib.hid (HBX.out.step hb6)
            have HX := Lib.hid (HX.out.step hb6)
            have SA := Lib.hid (SA.out.step hb6)
            have SB := Lib.hid (SB.out.step hb6)
            have SZ := Lib.hid (SZ.out.step hb6)
            have hB6 := hB5.trans (hb6.mono hB5.size)
            clear hb6 hB5
            clear x0 x1 x2 x3 x4 y0 y1 y2 y3 y4 z0 z1 z2 z3 z4 hz
            refine (HVV.out _ _ _ (row_arg (K := PtE) rfl rfl)).mono ?_
            rintro e w7 ⟨rfl, hb7⟩
            have HL := Lib.hid (HL.out.step hb7)
            have HBX := Lib.hid (HBX.out.step hb7)
            have HX := Lib.hid (HX.out.step hb7)
            have SA := Lib.hid (SA.out.step hb7)
            have SB := Lib.hid (SB.out.step hb7)
            have SZ := Lib.hid (SZ.out.step hb7)
            have hB7 := hB6.trans (hb7.mono hB6.size)
            clear hb7 hB6
            cases q with
            | false =>
              clear HL HX SA SB HBX SZ
              go_wp2_with fail
              refine (HK.out _).mono ?_
              rintro e w8 ⟨rfl, hb8⟩
              have hB8 := hB7.trans (hb8.mono hB7.size)
              clear hb8 hB7
              go_wp2
              go_ret
              exact ⟨rfl, hB8⟩
            | true =>
              clear HBX
              have HMM := Lib.hid (HMQ.out rfl)
              clear HMQ
              go_wp2_with fail
              refine (HO1.out _ HL.out.at_).mono ?_
              rintro e w8 ⟨⟨Y1, d1, rfl, ho⟩, hb8⟩
              have HL := Lib.hid (HL.out.step hb8)
              have HX := Lib.hid (HX.out.step hb8)
              have SA := Lib.hid (SA.out.step hb8)
              have SB := Lib.hid (SB.out.step hb8)
              have SZ := Lib.hid (SZ.out.step hb8)
              have hB8 := hB7.trans (hb8.mono hB7.size)
              clear hb8 hB7
              go_wp2_with fail
              refine (HM1.out _ _ _ (Own.arg ho)).mono ?_
              rintro e w9 ⟨⟨M1, m1, rfl, hm1⟩, hb9⟩
              have HL := Lib.hid (HL.out.step hb9)
              have HX := Lib.hid (HX.out.step hb9)
              have SA := Lib.hid (SA.out.step hb9)
              have SB := Lib.hid (SB.out.step hb9)
              have SZ := Lib.hid (SZ.out.step hb9)
              have hB9 := hB8.trans (hb9.mono hB8.size)
              clear hb9 hB8 ho
              have S1 := Lib.hid (Own.stay hm1)
              clear hm1
              clear HL
              obtain ⟨y0, y1, y2, y3, y4⟩ := SA.out.at_
              obtain ⟨z0, z1, z2, z3, z4⟩ := SB.out.at_
              have hr := row_arg (K := PtE) (W := w9) (t := 25) (cs := #[.bool pa.lo.size, .int .i64 pa.lo.n, .bool pa.hi.size, .int .i64 pa.hi.n, .int .i64 pa.step, .bool pb.lo.size, .int .i64 pb.lo.n, .bool pb.hi.size, .int .i64 pb.hi.n, .int .i64 pb.step]) (l := [pa, pb]) rfl rfl
              clear SA SB
              have hb10 : Below w9.heap.size w9 (w9.alloc (Obj.cells #[.bool pa.lo.size, .int .i64 pa.lo.n, .bool pa.hi.size, .int .i64 pa.hi.n, .int .i64 pa.step, .bool pb.lo.size, .int .i64 pb.lo.n, .bool pb.hi.size, .int .i64 pb.hi.n, .int .i64 pb.step] 25)) := (Below.refl _ _).alloc (Nat.le_refl _) _
              have HX := Lib.hid (HX.out.step hb10)
              have SZ := Lib.hid (SZ.out.step hb10)
              have S1 := Lib.hid (S1.out.step hb10)
              have hB10 := hB9.trans (hb10.mono hB9.size)
              clear hb10 hB9
              have hown := HX.out.at_
              have hOl6 : O.length ≤ 6 := by have := HOL.out; omega
              have hbs : w1.heap.size + 1 ≤ (w9.alloc (Obj.cells #[.bool pa.lo.size, .int .i64 pa.lo.n, .bool pa.hi.size, .int .i64 pa.hi.n, .int .i64 pa.step, .bool pb.lo.size, .int .i64 pb.lo.n, .bool pb.hi.size, .int .i64 pb.hi.n, .int .i64 pb.step] 25)).heap.size := SZ.out.at_
              obtain ⟨br, orr, hre, hrin⟩ := hr.at_ (by simp)
              injection hre with hre
              injection hre with hre1 hre2 _
              subst hre1 hre2
              go_wp2_with (at_builtin; refine wpList_append_el PtE _ rfl _ _ 31 25 rfl Try.underlying31 part_info rfl (w1.heap.size + 1) X cx O [pa, pb] w9.heap.size 0 2 rfl rfl hown hrin (by simp only [maxLen, List.length_cons, List.length_nil]; omega) (by simp; omega) hbs ?_; intro X3 cx3 w30 hown3 hgrow3)
              have hb30 : Below (w1.heap.size + 1) (w9.alloc (Obj.cells #[.bool pa.lo.size, .int .i64 pa.lo.n, .bool pa.hi.size, .int .i64 pa.hi.n, .int .i64 pa.step, .bool pb.lo.size, .int .i64 pb.lo.n, .bool pb.hi.size, .int .i64 pb.hi.n, .int .i64 pb.step] 25)) w30 := below_of_grown hgrow3 hbs (fun j hj => (hown.lt j hj).1)
              have hm := S1.out.at_
              have hm := World.ownsRow.kept hm hgrow3 (own_own_ne hm hown (by decide))
              have SM := Lib.hid (Own.stay (K := MissE) hm)
              have hB30 := hB10.trans (hb30.mono (Nat.le_succ_of_le HW01.out))
              clear hm hb30 hown hbs hrin hgrow3 S1 hB10 HX SZ
              refine (HMM.out _ _ _ (Own.arg hown3)).mono ?_
              rintro e w31 ⟨⟨M2, m2, rfl, hm2⟩, hb31⟩
              have SM := Lib.hid (SM.out.step hb31)
              have SM2 := Lib.hid (Own.stay hm2)
              have hB31 := hB30.trans (hb31.mono hB30.size)
              clear hb31 hB30 hm2 hown3
              go_wp2_with fail
              refine (HSM.out _ _ _ _ _ SM.out.at_.arg SM2.out.at_.arg).mono ?_
              rintro e w32 ⟨rfl, hb32⟩
              have SM := Lib.hid (SM.out.step hb32)
              have SM2 := Lib.hid (SM2.out.step hb32)
              have hB32 := hB31.trans (hb32.mono hB31.size)
              clear hb32 hB31
              clear SM SM2
              go_wp2_with fail
              refine (HK.out _).mono ?_
              rintro e w33 ⟨rfl, hb33⟩
              have hB33 := hB32.trans (hb33.mono hB32.size)
              clear hb33 hB32
              go_wp2
              go_ret
              exact ⟨rfl, hB33⟩

theorem split_law (h : Prg) (l : List Rg.Pt) (hl : l.length ≤ maxLen) (A : Option Addr) (cap : Nat) (hA : A = none → cap = 0) (hcap : l.length ≤ cap) (hcm : cap ≤ maxLen) (t s : Nat) (ht : t < 256) (hs : s < 256) (w : World) (ha : PtE.Arg w A l) :
    Calls Try.prog 9 #[.slice A l.length cap, .int .u8 t, .int .u8 s] w fun e w' => e = .returned (.bool true) ∧ Below w.heap.size w w' := by
  by_cases hl0 : l = []
  · subst hl0
    exact spl_none h A cap t s ht hs w
  · cases hq : (decide (l.length ≤ 6) && Rg.valid l) with
    | false => exact spl_inv h l hl A cap t s ht hs hq w ha
    | true =>
      cases hev : ((t : Int) % 2 == 0) with
      | true => exact spl_evn h l hl A cap hA hcap hcm t s ht hs hq hl0 hev w ha
      | false => exact spl_odd h l hl A cap hA hcap hcm t s ht hs hq hl0 hev w ha

end Go.Proofs.Ythagelnimmfhbaa
