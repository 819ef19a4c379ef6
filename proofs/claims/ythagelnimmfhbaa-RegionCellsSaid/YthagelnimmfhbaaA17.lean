/- Layer 5, the program: slices.Clone, slices.DeleteFunc at parts; Slim. -/
import Derived.Test.YthagelnimmfhbaaA16
import Derived.Lib.SliceRun
namespace Go.Proofs.Ythagelnimmfhbaa
open Go.RowKit Go.El Go.Lib

def CloneIs (l : List Rg.Pt) (w w' : World) (e : Ending) : Prop := ∃ A c, e = .returned (.slice A l.length c) ∧ OwnP w' w.heap.size A c l
theorem eql_nil (a : Addr) (n c : Nat) : ∀ w : World, (binOp .eql 31 (.slice (some a) n c) (.slice none 0 0)).run Try.prog w = .ok (.bool false) w := fun w => Lib.run_eql_slice_nil w 31 25 (some a) n c 0 0 Try.underlying31
theorem eql_nil2 (n c : Nat) : ∀ w : World, (binOp .eql 31 (.slice none n c) (.slice none 0 0)).run Try.prog w = .ok (.bool true) w := fun w => Lib.run_eql_slice_nil w 31 25 none n c 0 0 Try.underlying31
set_option maxHeartbeats 1000000 in
theorem clone_nil (cap : Nat) (w : World) : Calls Try.prog 49 #[.slice none 0 cap] w fun e w' => CloneIs [] w w' e ∧ Below w.heap.size w w' := by
  have hq := eql_nil2 0 cap
  go_enter Try.func49, Try.ntmps49
  go_wp2
  go_ret
  exact ⟨⟨none, 0, rfl, Own.nil PtE 25 w _⟩, Below.refl _ _⟩
set_option maxHeartbeats 1000000 in
theorem clone_at (l : List Rg.Pt) (hn : l.length ≤ 100000) (blk off cap : Nat) (w : World) (ht : PtE.In w blk off l) :
    Calls Try.prog 49 #[.slice (some ⟨blk, off, none⟩) l.length cap] w fun e w' => CloneIs l w w' e ∧ Below w.heap.size w w' := by
  have HT : Hid (PtE.In (w.alloc (.cells #[] 25)) blk off l) := ht.below ((Below.refl _ _).alloc (Nat.le_refl _) _) (fun h => ht.lt h)
  have HO := Lib.hid (Own.made PtE 25 w (Nat.le_refl w.heap.size))
  have hq := eql_nil ⟨blk, off, none⟩ l.length cap
  clear ht
  go_enter Try.func49, Try.ntmps49
  go_wp2_with (at_builtin; refine wpList_append_el PtE _ rfl _ _ 31 25 rfl Try.underlying31 part_info rfl w.heap.size (some ⟨w.heap.size, 0, none⟩) 0 [] l blk off cap rfl rfl HO.out HT.out (by simp only [maxLen, List.length_nil]; omega) (by simp; omega) (by simp) ?_; intro A' cap' w2 hown2 hgrow2)
  go_ret
  refine ⟨⟨A', cap', by simp, by simpa using hown2⟩, ?_⟩
  exact ((Below.refl _ _).alloc (Nat.le_refl _) _).grown hgrow2 (by simp) (fun j hj => (HO.out.lt j hj).1)
set_option maxHeartbeats 1000000 in
theorem clone_empty (a : Addr) (cap : Nat) (w : World) : Calls Try.prog 49 #[.slice (some a) 0 cap] w fun e w' => CloneIs [] w w' e ∧ Below w.heap.size w w' := by
  have HO := Lib.hid (Own.made PtE 25 w (Nat.le_refl w.heap.size))
  have hq := eql_nil a 0 cap
  obtain ⟨i0, hi0, hz0, hz1, hz2⟩ := info_parts part_info
  go_enter Try.func49, Try.ntmps49
  go_wp2_with (at_builtin; refine wpList_append_own _ rfl _ _ 31 rfl w.heap.size 25 i0 _ 5 40 Try.underlying31 hi0 hz0 hz1 hz2 rfl (by decide) _ 0 [] rfl HO.out a 0 cap [] rfl rfl (fun j u h => by simp at h) (fun u h => by simp at h) (by simp [maxLen]) (by simp) (by simp) ?_; intro v' w2 hown2 hgrow2 _)
  go_ret
  have hf : ∃ A' cap', v' = .slice A' 0 cap' := by
    rcases hown2.2 with ⟨hv, h0⟩ | ⟨g, cap', cur, hv, _⟩
    · exact ⟨none, 0, hv⟩
    · exact ⟨_, _, hv⟩
  obtain ⟨A', cap', rfl⟩ := hf
  refine ⟨⟨A', cap', rfl, hown2⟩, ?_⟩
  exact ((Below.refl _ _).alloc (Nat.le_refl _) _).grown hgrow2 (by simp) (fun j hj => (HO.out.lt j hj).1)
theorem clone_any (l : List Rg.Pt) (hn : l.length ≤ 100000) (A : Option Addr) (cap : Nat) (w : World) (ht : PtE.Arg w A l) :
    Calls Try.prog 49 #[.slice A l.length cap] w fun e w' => CloneIs l w w' e ∧ Below w.heap.size w w' := by
  by_cases hne : l = []
  · subst hne
    cases A with
    | none => exact clone_nil cap w
    | some a => exact clone_empty a cap w
  · obtain ⟨b1, o1, rfl, i1⟩ := ht.at_ hne
    exact clone_at l hn b1 o1 cap w i1

theorem idle_any (p : Rg.Pt) (hp : p.ok = true) (w : World) : Calls Try.prog 50 #[.agg (ptC p).toArray] w fun e w' => e = .returned (.bool (idleB p)) ∧ Below w.heap.size w w' :=
  (callsIn_wide (n := 3)).1 (idle_in 3 (Nat.le_refl _) p hp w)

/-- where the first one is -/
theorem idxK_spec (p : Rg.Pt → Bool) : ∀ (l : List Rg.Pt) (k : Nat), match Rg.idxK p l k with
    | none => ∀ x ∈ l, p x = false
    | some n => k ≤ n ∧ n < k + l.length ∧ p l[n - k]! = true ∧ ∀ j, j < n - k → p l[j]! = false
  | [], _ => by simp [Rg.idxK]
  | x :: r, k => by
    rw [Rg.idxK]
    cases hx : p x with
    | true =>
      simp only [if_true]
      exact ⟨Nat.le_refl _, by simp, by simpa using hx, fun j hj => by omega⟩
    | false =>
      simp only [Bool.false_eq_true, if_false]
      have ih := idxK_spec p r (k + 1)
      cases hr : Rg.idxK p r (k + 1) with
      | none =>
        rw [hr] at ih
        intro y hy
        rcases List.mem_cons.1 hy with e | e
        · rw [e]; exact hx
        · exact ih y e
      | some n =>
        rw [hr] at ih
        simp only at ih ⊢
        obtain ⟨h1, h2, h3, h4⟩ := ih
        refine ⟨by omega, by simp only [List.length_cons]; omega, ?_, fun j hj => ?_⟩
        · rw [show n - k = (n - (k + 1)) + 1 by omega]; simpa using h3
        · cases j with
          | zero => simpa using hx
          | succ j => simpa using h4 j (by omega)
theorem slim_idle (l : List Rg.Pt) : Rg.slim l = l.filter fun p => !idleB p := by
  unfold Rg.slim idleB
  congr 1
  funext p
  rw [List.not_all_eq_any_not]

theorem get_arr (l : List Rg.Pt) (j : Nat) : l.toArray[j]! = l[j]! := by simp

def DelIs (l : List Rg.Pt) (base : Nat) (w' : World) (e : Ending) : Prop := ∃ A c, e = .returned (.slice A (Rg.slim l).length c) ∧ OwnP w' base A c (Rg.slim l)
set_option maxRecDepth 100000 in
set_option maxHeartbeats 4000000 in
theorem delete_any (l : List Rg.Pt) (hn : l.length ≤ 100000) (hv : ∀ p ∈ l, p.ok = true) (A : Option Addr) (cap base : Nat) (w : World) (hbase : base ≤ w.heap.size) (ho : OwnP w base A cap l) :
    Calls Try.prog 48 #[.slice A l.length cap, .func (.func 50) #[] #[]] w fun e w' => DelIs l base w' e ∧ Below base w w' := by
  have hI := indexFunc_any l (by omega) A cap idleB 50 #[] (enters_of Try.func50 (by kernel_rfl) rfl) w (Own.arg ho) (fun x hx W hb => (idle_any x (hv x hx) W).mono fun e w' ⟨he, hb'⟩ => ⟨he, hb.trans (hb'.mono hb.size)⟩)
  have hsp := idxK_spec idleB l 0
  cases hR : Rg.idxK idleB l 0 with
  | none =>
    rw [hR] at hI hsp
    have hs : Rg.slim l = l := by
      rw [slim_idle, List.filter_eq_self]
      intro p hp
      rw [hsp p hp]; rfl
    have HO := Lib.hid ho
    have HI : Hid _ := Lib.hid hI
    have HS := Lib.hid hs
    clear ho hI hs hR hsp
    go_enter Try.func48, Try.ntmps48
    go_wp2_with fail
    refine HI.out.mono ?_
    rintro e w1 ⟨rfl, hb1⟩
    unfold optV
    go_wp2
    go_ret
    exact ⟨⟨A, cap, by rw [HS.out]; rfl, by rw [HS.out]; exact HO.out.below hb1⟩, hb1.mono hbase⟩
  | some n =>
    rw [hR] at hI hsp
    simp only [Nat.sub_zero, Nat.zero_add] at hsp
    obtain ⟨_, h2, h3, h4⟩ := hsp
    have hne : l ≠ [] := by intro e; subst e; simp at h2
    obtain ⟨g, rfl, hbg, hltg, _⟩ := ho.in_ hne
    have hcap := ho.le.1
    obtain ⟨kp, HK⟩ : ∃ kp : Nat → Bool, Hid (kp = fun j => !idleB l.toArray[j]!) := ⟨_, Lib.hid rfl⟩
    have hfil : Rg.slim l = keptUpTo kp l.toArray l.toArray.size := by
      rw [slim_idle, HK.out]
      exact (keptUpTo_filter (fun p => !idleB p) l.toArray).symm
    have HKI : Hid (KeptInv kp l.toArray (n + 1) n l.toArray) := Lib.hid (KeptInv.start (fun j hj => by rw [HK.out]; simp only [get_arr]; rw [h4 j hj]; rfl) (by rw [HK.out]; simp only [get_arr]; rw [h3]; rfl))
    have HFIL := Lib.hid hfil
    have HO : Hid (OwnP w base (some ⟨g, 0, none⟩) cap l.toArray.toList) := Lib.hid ho
    have HI : Hid _ := Lib.hid hI
    have HMEM : Hid (∀ j, j < l.length → (l.toArray[j]!).ok = true) := Lib.hid fun j hj => hv _ (by rw [get_arr, getElem!_pos l j hj]; exact List.getElem_mem _)
    have hne1 : ((n : Int) == -1) = false := beq_eq_false_iff_ne.2 (by omega)
    have hszl : Hid (l.toArray.size = l.length) := Lib.hid (by simp)
    clear ho hI hR h3 h4 hfil hv
    go_enter Try.func48, Try.ntmps48
    go_wp2_with fail
    refine HI.out.mono ?_
    rintro e w1 ⟨rfl, hb1⟩
    unfold optV
    have hown1 := HO.out.below hb1
    have hB1 := hb1.mono hbase
    have hz1 := hb1.size
    clear hb1
    go_wp2_with fail
    go_loopw [5, 6] (fun s5 s6 wr => ∃ (i j : Nat) (dk : Array Rg.Pt), s5 = .int .i64 i ∧ s6 = .int .i64 j ∧ j ≤ l.length ∧ i < j ∧ Hid (KeptInv kp l.toArray j i dk) ∧ OwnP wr base (some ⟨g, 0, none⟩) cap dk.toList ∧ Below base w wr ∧ base ≤ wr.heap.size) (fun _ s6 _ => l.length - (intOf s6).toNat)
    case atStart => exact ⟨n, n + 1, l.toArray, rfl, by go_num, by omega, by omega, HKI, hown1, hB1, by omega⟩
    case round =>
      obtain ⟨i, j, dk, rfl, rfl, hjd, hij, HK2, hown, hB, hz⟩ := hrel
      have hdl : dk.toList.length = l.length := by have := HK2.out.size; simpa using this
      by_cases hlt : j < l.length
      · have hltz : (j : Int) < (l.length : Int) := by omega
        have hin := (hown.in_ (by intro e; rw [e] at hdl; simp at hdl; omega))
        obtain ⟨g', hg', _, hgl, hin⟩ := hin
        injection hg' with hg'
        injection hg' with hg' _
        subst hg'
        have hpj : dk.toList[j]? = some l.toArray[j]! := by
          have h5 := HK2.out.high j (by omega)
          have h6 : j < dk.size := by simpa using (show j < dk.toList.length by omega)
          rw [Array.getElem?_toList, Array.getElem?_eq_getElem h6, ← h5, getElem!_pos dk j h6]
        have hok := HMEM.out j hlt
        have HKP : Hid (kp j = !idleB l.toArray[j]!) := Lib.hid (by rw [HK.out])
        have HSTEP : Hid (kp j = true → KeptInv kp l.toArray (j + 1) (i + 1) (dk.setIfInBounds i l.toArray[j]!)) := Lib.hid fun h => HK2.out.keep (by rw [hszl.out]; exact hlt) h
        generalize l.toArray[j]! = p at *
        obtain ⟨x0, x1, x2, x3, x4⟩ := PtE.at5 hin hpj
        simp only [Nat.zero_add] at x0 x1 x2 x3 x4
        have hcall := fun W => idle_any p hok W
        unfold ptC at hcall
        clear hin hpj hok
        cases hq : idleB p with
        | true =>
          rw [hq] at hcall
          have HCALL := Lib.hid hcall
          have HN : Hid (KeptInv kp l.toArray (j + 1) i dk) := Lib.hid (HK2.out.skip (by rw [HKP.out, hq]; rfl))
          clear hcall hq
          have HDL := Lib.hid hdl
          clear hdl
          go_wp2_with fail
          refine (HCALL.out _).mono ?_
          rintro e w2 ⟨rfl, hb2⟩
          have hown2 := (hown.below ((Below.refl _ _).alloc (Nat.le_refl _) _)).below hb2
          have hB2 := (hB.alloc hz _).trans (hb2.mono (by simp; omega))
          have hz2 : base ≤ w2.heap.size := by have := hb2.size; simp at this; omega
          clear hb2
          go_wp2
          go_roundw
          case rel => exact ⟨i, j + 1, dk, rfl, by go_num, by omega, by omega, HN, hown2, hB2, hz2⟩
          case measure => simp [intOf]; omega
        | false =>
          rw [hq] at hcall
          have HCALL := Lib.hid hcall
          have HN : Hid (KeptInv kp l.toArray (j + 1) (i + 1) (dk.setIfInBounds i p)) := Lib.hid (HSTEP.out (by rw [HKP.out, hq]; rfl))
          have hil : i < dk.toList.length := by omega
          have hilz : (i : Int) < (l.length : Int) := by omega
          have HIL := Lib.hid hil
          clear hcall hq
          have HDL := Lib.hid hdl
          clear hdl hil
          go_wp2_with fail
          refine (HCALL.out _).mono ?_
          rintro e w2 ⟨rfl, hb2⟩
          have hown2 := (hown.below ((Below.refl _ _).alloc (Nat.le_refl _) _)).below hb2
          have hB2 := (hB.alloc hz _).trans (hb2.mono (by simp; omega))
          have hz2 : wr.heap.size < w2.heap.size := by have := hb2.size; simp at this; omega
          obtain ⟨hc2, hf2⟩ := bcell hb2
          have y0 : w2.cell? ⟨wr.heap.size, 0, none⟩ = some (.bool p.lo.size) := by rw [hc2 _ _ (by simp)]; go_simp
          have y1 : w2.cell? ⟨wr.heap.size, 1, none⟩ = some (.int .i64 p.lo.n) := by rw [hc2 _ _ (by simp)]; go_simp
          have y2 : w2.cell? ⟨wr.heap.size, 2, none⟩ = some (.bool p.hi.size) := by rw [hc2 _ _ (by simp)]; go_simp
          have y3 : w2.cell? ⟨wr.heap.size, 3, none⟩ = some (.int .i64 p.hi.n) := by rw [hc2 _ _ (by simp)]; go_simp
          have y4 : w2.cell? ⟨wr.heap.size, 4, none⟩ = some (.int .i64 p.step) := by rw [hc2 _ _ (by simp)]; go_simp
          obtain ⟨q, hq⟩ : ∃ q, dk.toList[i]? = some q := ⟨_, List.getElem?_eq_getElem HIL.out⟩
          obtain ⟨g', hg', _, hgl2, hin2⟩ := hown2.in_ (by intro e; rw [e] at hq; simp at hq)
          injection hg' with hg'
          injection hg' with hg' _
          subst hg'
          obtain ⟨z0, z1, z2, z3, z4⟩ := PtE.at5 hin2 hq
          simp only [Nat.zero_add] at z0 z1 z2 z3 z4
          have hfz := fun t => World.ownsRow.frozenAt hown2 t
          have hown3 := own_put hown2 i HIL.out p
          have HO3 := Lib.hid hown3
          have HB3 : Hid _ := Lib.hid (((((hB2.setCell (p := ⟨g, i * 5, none⟩) hbg (.bool p.lo.size)).setCell (p := ⟨g, i * 5 + 1, none⟩) hbg (.int .i64 p.lo.n)).setCell (p := ⟨g, i * 5 + 2, none⟩) hbg (.bool p.hi.size)).setCell (p := ⟨g, i * 5 + 3, none⟩) hbg (.int .i64 p.hi.n)).setCell (p := ⟨g, i * 5 + 4, none⟩) hbg (.int .i64 p.step))
          clear hb2 hc2 hf2 hq hin2 hown3 hown2 hB2 hown
          go_wp2
          go_roundw
          case rel => exact ⟨i + 1, j + 1, dk.setIfInBounds i p, by go_num, by go_num, by omega, by omega, HN, by rw [Array.toList_setIfInBounds]; exact HO3.out, HB3.out, by simp; omega⟩
          case measure => simp [intOf]; omega
      · obtain rfl : j = l.length := by omega
        have hltz : ¬ (l.length : Int) < (l.length : Int) := by omega
        have hil : i < dk.toList.length := by omega
        obtain ⟨vs, hcl⟩ := run_clear_parts hown i hil
        rw [hdl] at hcl
        have hci : ¬ cap = i := by omega
        have hilz : (i : Int) ≤ (l.length : Int) := by omega
        have hicz : (i : Int) ≤ (cap : Int) := by omega
        have HLEN : Hid ((Rg.slim l).length = i) := Lib.hid (by rw [HFIL.out, hszl.out]; exact HK2.out.len)
        have HOWN : Hid (OwnP (wr.setCells g (i * 5) vs) base (some ⟨g, 0, none⟩) cap (Rg.slim l)) := Lib.hid (by
          obtain ⟨xs', k1, k2⟩ := own_setCells vs (i * 5) wr _ hown
          have k3 := own_cut k1 (show i ≤ dk.toList.length by omega)
          have k4 : xs'.take (i * 5) = PtE.row (Rg.slim l) := by
            have k5 : xs'.take (i * 5) = (PtE.row dk.toList).take (i * 5) := by
              apply List.ext_getElem?
              intro t
              rw [List.getElem?_take, List.getElem?_take]
              split
              · rename_i h; exact k2 t h
              · rfl
            rw [k5, row_take _ _ (by omega)]
            congr 1
            rw [HFIL.out, hszl.out]
            apply List.ext_getElem?
            intro t
            rw [List.getElem?_take]
            split
            · rename_i h
              rw [HK2.out.low t h]
              have h6 : t < dk.size := by simpa using (show t < dk.toList.length by omega)
              rw [Array.getElem?_toList, Array.getElem?_eq_getElem h6, getElem!_pos dk t h6]
            · rename_i h
              rw [List.getElem?_eq_none (by have := HK2.out.len; omega)]
          show World.ownsRow _ _ _ 5 (.slice _ (Rg.slim l).length _) (Rg.slim l).length (PtE.row (Rg.slim l))
          rw [HLEN.out, ← k4]
          exact k3)
        have HBL : Hid (Below base w (wr.setCells g (i * 5) vs)) := Lib.hid (by
          clear hcl HOWN
          generalize i * 5 = o
          revert hB
          clear hown hz
          induction vs generalizing wr o with
          | nil => exact fun h => h
          | cons v r ih => exact fun h => ih (wr := wr.setCell ⟨g, o, none⟩ v) (o + 1) (h.setCell (p := ⟨g, o, none⟩) hbg v))
        have HDL := Lib.hid hdl
        have HIL := Lib.hid hil
        clear hown hB hdl hil
        go_wp2
        go_ret
        exact ⟨⟨some ⟨g, 0, none⟩, cap, by rw [HLEN.out]; rfl, HOWN.out⟩, HBL.out⟩

end Go.Proofs.Ythagelnimmfhbaa
