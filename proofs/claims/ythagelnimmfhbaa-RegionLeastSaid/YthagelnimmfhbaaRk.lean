/- Layer 5: the walks of the reference's Cells, How, Misses. -/
import Derived.Test.YthagelnimmfhbaaRj
namespace Go.Proofs.Ythagelnimmfhbaa
open Go.RowKit Go.El

abbrev OwnI (w : World) (base : Nat) (A : Option Addr) (cap : Nat) (l : List Int) : Prop := IntE.Own 3 w base A cap l
abbrev OwnM (w : World) (base : Nat) (A : Option Addr) (cap : Nat) (l : List (Int × Int × Nat)) : Prop := MissE.Own 41 w base A cap l
abbrev OwnP (w : World) (base : Nat) (A : Option Addr) (cap : Nat) (l : List Rg.Pt) : Prop := PtE.Own 25 w base A cap l

section
variable {w : World} {ops : Array Oper} {rest : List Oper} {o : Oper} {a : Act} {Q : Exit → Act → World → Prop}
theorem append_I (hgd : o.guard = none) (x y : Operand) (ho : o.op = .call { callee := .builtin .append, args := #[x, y], argTypes := #[26, 26] }) (base : Nat) (A : Option Addr) (cap : Nat) (l : List Int) (m : Int) (b : Nat)
    (hx : a.eval x = .slice A l.length cap) (hy : a.eval y = .slice (some ⟨b, 0, none⟩) 1 1) (hown : OwnI w base A cap l) (hm : w.cell? ⟨b, 0, none⟩ = some (.int .i64 m)) (h1 : l.length ≤ 1000000) (hbase : base ≤ w.heap.size)
    (h : ∀ A' cap' w', OwnI w' base A' cap' (l ++ [m]) → w.grownBy w' (Value.slice A l.length cap).ownBlock → wpList Try.prog ops Q rest (a.put o.dst (.slice A' (l.length + 1) cap')) w') : wpList Try.prog ops Q (o :: rest) a w :=
  wpList_append_one IntE _ hgd x y 26 3 ho Try.underlying26 int_info rfl base A cap l m b hx hy hown (fun j u hj => by match j, hj with | 0, hj => simp [IntE] at hj; subst hj; exact hm) (by omega) (by omega) hbase h
theorem append_M (hgd : o.guard = none) (x y : Operand) (ho : o.op = .call { callee := .builtin .append, args := #[x, y], argTypes := #[37, 37] }) (base : Nat) (A : Option Addr) (cap : Nat) (l : List (Int × Int × Nat)) (m : Int × Int × Nat) (b : Nat)
    (hx : a.eval x = .slice A l.length cap) (hy : a.eval y = .slice (some ⟨b, 0, none⟩) 1 1) (hown : OwnM w base A cap l) (hm0 : w.cell? ⟨b, 0, none⟩ = some (.int .i64 m.1)) (hm1 : w.cell? ⟨b, 1, none⟩ = some (.int .i64 m.2.1)) (hm2 : w.cell? ⟨b, 2, none⟩ = some (.int .u8 m.2.2)) (h1 : l.length ≤ 1000000) (hbase : base ≤ w.heap.size)
    (h : ∀ A' cap' w', OwnM w' base A' cap' (l ++ [m]) → w.grownBy w' (Value.slice A l.length cap).ownBlock → wpList Try.prog ops Q rest (a.put o.dst (.slice A' (l.length + 1) cap')) w') : wpList Try.prog ops Q (o :: rest) a w :=
  wpList_append_one MissE _ hgd x y 37 41 ho Try.underlying37 miss_info rfl base A cap l m b hx hy hown (fun j u hj => by
    match j, hj with
    | 0, hj => simp [MissE, missC] at hj; subst hj; exact hm0
    | 1, hj => simp [MissE, missC] at hj; subst hj; exact hm1
    | 2, hj => simp [MissE, missC] at hj; subst hj; exact hm2) (by omega) (by omega) hbase h
theorem append_P (hgd : o.guard = none) (x y : Operand) (ho : o.op = .call { callee := .builtin .append, args := #[x, y], argTypes := #[31, 31] }) (base : Nat) (A : Option Addr) (cap : Nat) (l : List Rg.Pt) (m : Rg.Pt) (b : Nat)
    (hx : a.eval x = .slice A l.length cap) (hy : a.eval y = .slice (some ⟨b, 0, none⟩) 1 1) (hown : OwnP w base A cap l) (hm0 : w.cell? ⟨b, 0, none⟩ = some (.bool m.lo.size)) (hm1 : w.cell? ⟨b, 1, none⟩ = some (.int .i64 m.lo.n)) (hm2 : w.cell? ⟨b, 2, none⟩ = some (.bool m.hi.size)) (hm3 : w.cell? ⟨b, 3, none⟩ = some (.int .i64 m.hi.n)) (hm4 : w.cell? ⟨b, 4, none⟩ = some (.int .i64 m.step)) (h1 : l.length ≤ 1000000) (hbase : base ≤ w.heap.size)
    (h : ∀ A' cap' w', OwnP w' base A' cap' (l ++ [m]) → w.grownBy w' (Value.slice A l.length cap).ownBlock → wpList Try.prog ops Q rest (a.put o.dst (.slice A' (l.length + 1) cap')) w') : wpList Try.prog ops Q (o :: rest) a w :=
  wpList_append_one PtE _ hgd x y 31 25 ho Try.underlying31 part_info rfl base A cap l m b hx hy hown (fun j u hj => by
    match j, hj with
    | 0, hj => simp [PtE, ptC] at hj; subst hj; exact hm0
    | 1, hj => simp [PtE, ptC] at hj; subst hj; exact hm1
    | 2, hj => simp [PtE, ptC] at hj; subst hj; exact hm2
    | 3, hj => simp [PtE, ptC] at hj; subst hj; exact hm3
    | 4, hj => simp [PtE, ptC] at hj; subst hj; exact hm4) (by omega) (by omega) hbase h
end

theorem run_take_succ (a b st : Int) (i : Nat) (h : i < Rg.cnt a b st) : (Rg.run a b st).take (i + 1) = (Rg.run a b st).take i ++ [a + (i : Int) * st] := by
  have hg := Rg.run_get a b st i h
  obtain ⟨hi, e⟩ := List.getElem?_eq_some_iff.1 hg
  rw [List.take_succ_eq_append_getElem hi, e]

set_option maxRecDepth 100000 in
set_option maxHeartbeats 2000000 in
theorem refCells_any (p : Rg.Pt) (hp : p.ok = true) (s : Int) (h0 : 0 ≤ s) (h1 : s ≤ 109) (w : World) :
    Calls Try.prog 16 #[.agg (ptC p).toArray, .int .i64 s] w fun e w' => (∃ A cap, e = .returned (.slice A (p.cells s).length cap) ∧ OwnI w' w.heap.size A cap (p.cells s)) ∧ Below w.heap.size w w' := by
  have hln := Rg.cells_len hp h0 h1
  have ho := (p.ok_iff).1 hp
  have hlo : p.lo.ok = true := by simp [Rg.Bd.ok]; omega
  have hhi : p.hi.ok = true := by simp [Rg.Bd.ok]; omega
  have hv1 := fun W => value_any p.lo s hlo (by omega) (by omega) W
  have hv2 := fun W => value_any p.hi s hhi (by omega) (by omega) W
  have r1 := Rg.Bd.val_range hlo h0 h1
  have r2 := Rg.Bd.val_range hhi h0 h1
  have hs1 : 1 ≤ p.step := ho.2.2.1
  have hs2 : p.step ≤ 9 := ho.2.2.2
  have hct := fun i : Nat => Rg.cnt_lt (a := p.lo.val s) (b := p.hi.val s) hs1 i
  have hrl := Rg.run_len (p.lo.val s) (p.hi.val s) p.step
  unfold ptC
  unfold Rg.Pt.cells at hln ⊢
  generalize p.lo.val s = a at *
  generalize p.hi.val s = b at *
  generalize p.step = st at *
  have HV1 := Lib.hid hv1
  have HV2 := Lib.hid hv2
  have HCT := Lib.hid hct
  have HTS := Lib.hid (run_take_succ a b st)
  have HRL := Lib.hid hrl
  generalize Rg.run a b st = R at *
  generalize Rg.cnt a b st = C at *
  rw [hrl] at hln
  clear hv1 hv2 hlo hhi ho hp hct hrl
  go_enter Try.func16, Try.ntmps16
  go_wp2_with fail
  refine (HV1.out _).mono ?_
  rintro e w1 ⟨rfl, hb1⟩
  have hz1 : w.heap.size + 2 ≤ w1.heap.size := by have := hb1.size; simp at this; omega
  have hB1 : Below (w.heap.size + 1) (w.alloc (.cells #[.bool p.lo.size, .int .i64 p.lo.n, .bool p.hi.size, .int .i64 p.hi.n, .int .i64 st] 25)) w1 :=
    ((Below.refl _ _).alloc (by simp) _).trans (hb1.mono (by simp))
  have hown0 : OwnI w1 (w.heap.size + 1) (some ⟨w.heap.size + 1, 0, none⟩) 0 [] := by
    have h := Own.made IntE 3 (w.alloc (.cells #[.bool p.lo.size, .int .i64 p.lo.n, .bool p.hi.size, .int .i64 p.hi.n, .int .i64 st] 25)) (base := w.heap.size + 1) (by simp)
    simp only [World.size_alloc] at h
    exact h.below hb1
  clear hb1
  go_wp2_with fail
  go_loopw [5, 6] (fun o n wr => ∃ (D : List Int) (A : Option Addr) (cap i : Nat) (x : Int), -100 ≤ x ∧ x ≤ 118 ∧ D.length ≤ 210 ∧ w.heap.size + 1 ≤ wr.heap.size ∧ o = .slice A D.length cap ∧ n = .int .i64 x ∧ OwnI wr (w.heap.size + 1) A cap D ∧ Hid (D = R.take i ∧ x = a + i * st ∧ i ≤ C) ∧ Below (w.heap.size + 1) (w.alloc (.cells #[.bool p.lo.size, .int .i64 p.lo.n, .bool p.hi.size, .int .i64 p.hi.n, .int .i64 st] 25)) wr) (fun _ n _ => (119 - intOf n).toNat)
  case atStart => exact ⟨[], _, 0, 0, a, by omega, by omega, by simp, by omega, rfl, rfl, hown0, Lib.hid ⟨by simp, by simp, Nat.zero_le _⟩, hB1⟩
  case round =>
    obtain ⟨D, A, cap, i, x, hx0, hx1, hDl, hzr, rfl, rfl, hown, HX, hbw⟩ := hrel
    obtain ⟨hcw, hfw⟩ := bcell hbw
    by_cases hle : x ≤ b
    · go_wp2_with fail
      refine (HV2.out _).mono ?_
      rintro e w2 ⟨rfl, hb2⟩
      have hz2 := hb2.size
      have hown2 := hown.below hb2
      have hB2 := hbw.trans (hb2.mono hzr)
      obtain ⟨hc2, hf2⟩ := bcell hB2
      have hDlen : D.length = i := by
        obtain ⟨e1, e2, e3⟩ := HX.out
        rw [e1, List.length_take, HRL.out]; omega
      have HDL := Lib.hid hDlen
      have hiC : i < C := (HCT.out i).2 (by obtain ⟨e1, e2, e3⟩ := HX.out; omega)
      have HXN : Hid (D ++ [x] = R.take (i + 1) ∧ x + st = a + ((i + 1 : Nat) : Int) * st ∧ i + 1 ≤ C) := by
        obtain ⟨e1, e2, e3⟩ := HX.out
        refine Lib.hid ⟨by rw [HTS.out i hiC, ← e1, e2], ?_, hiC⟩
        rw [e2, Int.natCast_add, Int.add_mul]
        omega
      clear hDlen hown hb2 hbw hcw hfw
      go_wp2_with (at_builtin; refine append_I rfl _ _ rfl (w.heap.size + 1) A cap D x w2.heap.size rfl rfl (hown2.below ((Below.refl _ _).alloc (Nat.le_refl _) _)) (by simp) (by omega) (by simp; omega) ?_; intro A' cap' w3 hown3 hgrow3; have hz3 := hgrow3.size; simp only [World.size_alloc] at hz3; have hB3 := (hB2.alloc (show w.heap.size + 1 ≤ w2.heap.size by omega) (.cells #[.int .i64 x] 3)).grown hgrow3 (by simp; omega) (fun j hj => (hown2.lt j hj).1); obtain ⟨hc3, hf3⟩ := bcell hB3; clear hc2 hf2 hB2)
      go_roundw
      case rel => exact ⟨D ++ [x], A', cap', i + 1, x + st, by omega, by omega, by have := HDL.out; simp; omega, by omega, by simp, rfl, hown3, HXN, hB3⟩
      case measure => simp [intOf]; omega
    · have HE : Hid (D = R) := Lib.hid (by
        obtain ⟨e1, e2, e3⟩ := HX.out
        rw [e1, List.take_of_length_le]
        rw [HRL.out]
        rcases Nat.lt_or_ge i C with h | h
        · have := (HCT.out i).1 h; omega
        · exact h)
      go_wp2_with fail
      refine (HV2.out _).mono ?_
      rintro e w2 ⟨rfl, hb2⟩
      have hown2 := hown.below hb2
      have hB2 := hbw.trans (hb2.mono hzr)
      clear hown hb2 hbw hcw hfw
      go_wp2
      go_ret
      refine ⟨⟨A, cap, by rw [← HE.out]; rfl, by rw [← HE.out]; exact hown2.base_ (by omega)⟩, ?_⟩
      exact ((Below.refl _ _).alloc (Nat.le_refl _) _).trans (hB2.mono (by omega))

/-- how many of the first k parts have a cell -/
theorem many_take (l : List Rg.Pt) (k : Nat) (p : Rg.Pt) (hp : l[k]? = some p) (s c : Int) : Rg.many (l.take (k + 1)) s c = Rg.many (l.take k) s c + if p.has s c then 1 else 0 := by
  obtain ⟨hk, e⟩ := List.getElem?_eq_some_iff.1 hp
  rw [List.take_succ_eq_append_getElem hk, e, Rg.many_append, Rg.many_one]

set_option maxRecDepth 100000 in
set_option maxHeartbeats 2000000 in
theorem refHow_any (l : List Rg.Pt) (hv : Rg.valid l = true) (A : Option Addr) (cap : Nat) (s c : Int) (h0 : 0 ≤ s) (h1 : s ≤ 109) (c0 : -1000000 ≤ c) (c1 : c ≤ 1000000) (w : World) (h : PtE.Arg w A l) :
    Calls Try.prog 45 #[.slice A l.length cap, .int .i64 s, .int .i64 c] w fun e w' => e = .returned (.int .u8 (Rg.how l s c)) ∧ Below w.heap.size w w' := by
  have hvi := (Rg.valid_iff l).1 hv
  have hlen := hvi.1
  have hha := fun p (hp : p ∈ l) W => has_any p (hvi.2 p hp) s c h0 h1 c0 c1 W
  have HHA := Lib.hid hha
  have hin := fun W => in_any c 0 (s - 1) W
  have HIN := Lib.hid hin
  have H := Lib.hid h
  have HMT := Lib.hid (fun k p hp => many_take l k p hp s c)
  have hhow : Rg.how l s c = if 0 ≤ c ∧ c ≤ s - 1 then (if Rg.many l s c = 0 then 1 else if 1 < Rg.many l s c then 2 else 0) else if 0 < Rg.many l s c then 3 else 0 := rfl
  have HHOW := Lib.hid hhow
  clear hha hin h hvi hv hhow
  go_enter Try.func45, Try.ntmps45
  go_wp2_with fail
  go_loopw [7, 8] (fun m i wr => ∃ k n : Nat, k ≤ l.length ∧ n ≤ k ∧ i = .int .i64 k ∧ m = .int .i64 n ∧ Hid (Rg.many (l.take k) s c = n) ∧ Below w.heap.size w wr) (fun _ i _ => l.length - (intOf i).toNat)
  case atStart => exact ⟨0, 0, Nat.zero_le _, Nat.le_refl _, rfl, rfl, Lib.hid rfl, Below.refl _ _⟩
  case round =>
    obtain ⟨k, n, hk, hnk, rfl, rfl, HN, hbw⟩ := hrel
    have hzw := hbw.size
    by_cases hlt : k < l.length
    · have hlt' : (k : Int) < l.length := by omega
      obtain ⟨b, o, rfl, hin, hbl⟩ := H.out.at_lt hlt
      obtain ⟨p, hp⟩ : ∃ p, l[k]? = some p := ⟨_, List.getElem?_eq_getElem hlt⟩
      obtain ⟨x0, x1, x2, x3, x4⟩ := PtE.at5 (hin.below hbw (fun _ => hbl)) hp
      have hcall := fun W => HHA.out p (List.mem_of_getElem? hp) W
      unfold ptC at hcall
      have hnext := HMT.out k p hp
      rw [HN.out] at hnext
      have HCALL := Lib.hid hcall
      have HNEXT := Lib.hid hnext
      clear hcall hnext hin hp
      cases hq : p.has s c with
      | true =>
        rw [hq] at HCALL HNEXT
        clear hq
        go_wp2_with fail
        refine (HCALL.out _).mono ?_
        rintro e w1 ⟨rfl, hb1⟩
        go_wp2
        go_roundw
        case rel => exact ⟨k + 1, n + 1, by omega, by omega, by go_num, by go_num, Lib.hid (by rw [HNEXT.out]; rfl), hbw.trans (hb1.mono hzw)⟩
        case measure => simp [intOf]; omega
      | false =>
        rw [hq] at HCALL HNEXT
        clear hq
        go_wp2_with fail
        refine (HCALL.out _).mono ?_
        rintro e w1 ⟨rfl, hb1⟩
        go_wp2
        go_roundw
        case rel => exact ⟨k + 1, n, by omega, by omega, by go_num, rfl, Lib.hid (by rw [HNEXT.out]; rfl), hbw.trans (hb1.mono hzw)⟩
        case measure => simp [intOf]; omega
    · have hlt' : ¬ (k : Int) < l.length := by omega
      have HM : Hid (Rg.many l s c = n) := Lib.hid (by rw [← HN.out, List.take_of_length_le (by omega)])
      rw [HM.out] at HHOW
      clear HN HM HHA HMT H
      by_cases hci : 0 ≤ c ∧ c ≤ s - 1
      · have hib : (decide (0 ≤ c) && decide (c ≤ s - 1)) = true := by rw [decide_eq_true hci.1, decide_eq_true hci.2]; rfl
        rw [hib] at HIN
        rw [if_pos hci] at HHOW
        clear hib hci
        by_cases hn0 : n = 0
        · subst hn0
          have HV : Hid (Rg.how l s c = 1) := Lib.hid (by rw [HHOW.out]; rfl)
          clear HHOW
          go_wp2_with fail
          refine (HIN.out _).mono ?_
          rintro e w1 ⟨rfl, rfl⟩
          go_wp2
          go_ret
          exact ⟨by rw [HV.out]; rfl, hbw⟩
        · have n0 : ((n : Int) == 0) = false := by rw [beq_eq_false_iff_ne]; omega
          by_cases hn1 : 1 < n
          · have n1 : decide ((1 : Int) < n) = true := decide_eq_true (by omega)
            have HV : Hid (Rg.how l s c = 2) := Lib.hid (by rw [HHOW.out, if_neg hn0, if_pos hn1])
            clear HHOW
            go_wp2_with fail
            refine (HIN.out _).mono ?_
            rintro e w1 ⟨rfl, rfl⟩
            go_wp2
            go_ret
            exact ⟨by rw [HV.out]; rfl, hbw⟩
          · have n1 : decide ((1 : Int) < n) = false := decide_eq_false (by omega)
            have HV : Hid (Rg.how l s c = 0) := Lib.hid (by rw [HHOW.out, if_neg hn0, if_neg hn1])
            clear HHOW
            go_wp2_with fail
            refine (HIN.out _).mono ?_
            rintro e w1 ⟨rfl, rfl⟩
            go_wp2
            go_ret
            exact ⟨by rw [HV.out]; rfl, hbw⟩
      · have hib : (decide (0 ≤ c) && decide (c ≤ s - 1)) = false := by
          rcases Classical.not_and_iff_not_or_not.1 hci with h | h
          · rw [decide_eq_false h]; rfl
          · rw [decide_eq_false h, Bool.and_false]
        rw [hib] at HIN
        rw [if_neg hci] at HHOW
        clear hib hci
        by_cases hn0 : 0 < n
        · have n1 : decide ((0 : Int) < n) = true := decide_eq_true (by omega)
          have HV : Hid (Rg.how l s c = 3) := Lib.hid (by rw [HHOW.out, if_pos hn0])
          clear HHOW
          go_wp2_with fail
          refine (HIN.out _).mono ?_
          rintro e w1 ⟨rfl, rfl⟩
          go_wp2
          go_ret
          exact ⟨by rw [HV.out]; rfl, hbw⟩
        · have n1 : decide ((0 : Int) < n) = false := decide_eq_false (by omega)
          have HV : Hid (Rg.how l s c = 0) := Lib.hid (by rw [HHOW.out, if_neg hn0])
          clear HHOW
          go_wp2_with fail
          refine (HIN.out _).mono ?_
          rintro e w1 ⟨rfl, rfl⟩
          go_wp2
          go_ret
          exact ⟨by rw [HV.out]; rfl, hbw⟩

end Go.Proofs.Ythagelnimmfhbaa
