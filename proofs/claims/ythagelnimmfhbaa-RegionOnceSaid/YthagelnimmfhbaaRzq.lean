/- Layer 5: the walk of the law RegionOnce. -/
import Derived.Test.YthagelnimmfhbaaRzp
namespace Go.Proofs.Ythagelnimmfhbaa
open Go.RowKit Go.El

theorem whoR_in {l : List Rg.Pt} (hv : Rg.valid l = true) {S : Nat} (hS : S ≤ 100) {x : Int} {i : Nat} {p : Rg.Pt} (hp : l[i]? = some p) (hh : p.has S x = true) (h0 : 0 ≤ x) (h1 : x < S) : ∃ n, Rg.whoR l S x = (n, 0) ∧ n ≤ i := by
  obtain ⟨n, h2, h3⟩ := Rg.who_le hp hh
  refine ⟨n, ?_, h3⟩
  unfold Rg.whoR
  rw [hv, (Rg.inS_iff _).2 (by omega), decide_eq_true h0, decide_eq_true h1, h2]
  rfl

set_option maxRecDepth 100000 in
set_option maxHeartbeats 8000000 in
theorem once_main (h : Prg) (l : List Rg.Pt) (hl : l.length ≤ maxLen) (A : Option Addr) (cap : Nat) (hA : A = none → cap = 0) (s : Nat) (hs : s < 256) (hq : (decide (l.length ≤ 6) && Rg.valid l) = true) (w : World) (ha : PtE.Arg w A l) :
    Calls Try.prog 7 #[.slice A l.length cap, .int .u8 s] w fun e w' => e = .returned (.bool true) ∧ Below w.heap.size w w' := by
  have HK := Lib.hid (fun W => known_any h W)
  have hs1 : (0 : Int) ≤ s := by omega
  have hs2 : (s : Int) < 256 := by omega
  rw [Bool.and_eq_true] at hq
  obtain ⟨hq6, hq2⟩ := hq
  have h6 : l.length ≤ 6 := of_decide_eq_true hq6
  have HV := Lib.hid (fun A c W h => lawValid_of l true (by rw [hq6, hq2]; rfl) hl A c W h)
  obtain ⟨S, hS⟩ : ∃ S, S = s % 101 := ⟨_, rfl⟩
  have hS1 : S ≤ 100 := by omega
  have hin : Rg.inS (S : Nat) = true := (Rg.inS_iff _).2 (by omega)
  have hpok := ((Rg.valid_iff l).1 hq2).2
  have HOK := Lib.hid hpok
  have HC := Lib.hid (fun (p : Rg.Pt) (hp : p.ok = true) W => cells_code h.cells p S (p.cells S) 0 (by unfold Rg.cellsR; rw [hp, hin]; rfl) W)
  have HW := Lib.hid (fun (x : Int) A c W ha => who_code h.who l hl S x (Rg.whoR l S x).1 (Rg.whoR l S x).2 rfl A c W ha)
  have HWI := Lib.hid (fun (x : Int) (i : Nat) (p : Rg.Pt) hp hh h0 h1 => whoR_in hq2 hS1 (x := x) (i := i) (p := p) hp hh h0 h1)
  have HM1 := Lib.hid (fun A c W ha => misses_code h.misses l hl S (Rg.misses l S) 0 (by unfold Rg.missesR; rw [hq2, hin]; rfl) A c W ha)
  have HZ1 := Lib.hid (fun A c W ha => sizes_code h.sizes l hl (Rg.sizes l) 0 (by unfold Rg.sizesR; rw [hq2]; rfl) A c W ha)
  have HO1 := Lib.hid (fun W h => own_of l (by omega) A cap hA W h)
  have HL := Lib.hid (Arg.stay ha)
  have e1 : (s : Int) % 101 = (S : Int) := by omega
  have E1 := Lib.hid e1
  obtain ⟨i0, hi0, hz0, hz1, hz2⟩ := info_parts int_info
  clear h hl ha hA hq6 hq2 hin hpok e1 hs hS
  go_enter Try.func7, Try.ntmps7
  have hB0 : Below w.heap.size w w := Below.refl _ _
  go_wp2_with fail
  refine (HV.out _ _ _ HL.out.at_).mono ?_
  rintro e w1 ⟨rfl, hb1⟩
  have HL := Lib.hid (HL.out.step hb1)
  have hB1 := hB0.trans (hb1.mono hB0.size)
  clear hb1
  go_upto_region 4 with (fail)
  rw [E1.out]
  go_wp2_with (at_make; refine wpList_make_full _ rfl _ _ 26 rfl w1.heap.size 3 i0 (.int .i64 0) 1 Try.underlying26 hi0 hz0 hz1 .i64 .i64 500 500 500 rfl rfl rfl rfl (by rw [hz2]; decide) (by simp [maxLen]) (Nat.le_refl _) ?_; intro w2 hown2 hgrow2)
  have hcnt0 : Cnt w2 w1.heap.size (fun c => Rg.tally l S 0 0 c) := by
    have := cnt_made hown2
    have e : (fun c => Rg.tally l S 0 0 c) = fun _ => 0 := by funext c; rw [Rg.tally_zero]; rfl
    rw [e]; exact this
  have hb2 : Below w1.heap.size w1 w2 := below_of_grown hgrow2 (Nat.le_refl _) (fun j hj => by cases hj)
  clear hown2 hgrow2
  have hGw : w1.heap.size < w2.heap.size := hcnt0.lt
  go_loopw [7, 8, 9, 10, 11, 12] (fun i _ _ _ _ _ wr => ∃ k : Nat, k ≤ l.length ∧ i = .int .i64 k ∧ Hid (Cnt wr w1.heap.size (fun c => Rg.tally l S k 0 c)) ∧ Below w1.heap.size w1 wr) (fun i _ _ _ _ _ _ => l.length - (intOf i).toNat)
  case atStart => exact ⟨0, Nat.zero_le _, rfl, Lib.hid hcnt0, hb2⟩
  case round =>
    obtain ⟨k, hk, rfl, HCN, hbw⟩ := hrel
    have hzw := hbw.size
    have HGR := Lib.hid HCN.out.lt
    by_cases hlt : k < l.length
    · have hlt' : (k : Int) < l.length := by omega
      obtain ⟨p, hp⟩ : ∃ p, l[k]? = some p := ⟨_, List.getElem?_eq_getElem hlt⟩
      have hpo := HOK.out p (List.mem_of_getElem? hp)
      have harg := (HL.out _ hbw)
      obtain ⟨b, o, hAe, hin, hbl⟩ := harg.at_lt hlt
      subst hAe
      obtain ⟨x0, x1, x2, x3, x4⟩ := PtE.at5 hin hp
      have hcall := HC.out p hpo
      have hrg := Rg.cells_range hpo (s := S) (by omega) (by omega)
      have hln := Rg.cells_len hpo (s := S) (by omega) (by omega)
      have hts := fun n x hx c => Rg.tally_step (l := l) (s := S) (i := k) (n := n) (x := x) hp hx c
      have htn := fun c => Rg.tally_next (l := l) (s := S) (i := k) hp hpo c
      have hnx : ∀ (n : Nat) x y, (p.cells S)[n]? = some y → (p.cells S)[n + 1]? = some x → x = y + p.step := by
        intro n x y h1 h2
        have l2 := (List.getElem?_eq_some_iff.1 h2).1
        have hl2 : (p.cells S).length = Rg.cnt (p.lo.val S) (p.hi.val S) p.step := Rg.run_len _ _ _
        have g1 := Rg.run_get (p.lo.val S) (p.hi.val S) p.step n (by omega)
        have g2 := Rg.run_get (p.lo.val S) (p.hi.val S) p.step (n + 1) (by omega)
        have e1 : y = p.lo.val S + (n : Int) * p.step := Option.some.inj (h1.symm.trans g1)
        have e2 : x = p.lo.val S + ((n + 1 : Nat) : Int) * p.step := Option.some.inj (h2.symm.trans g2)
        rw [e2, e1, Int.natCast_add, Int.add_mul]
        omega
      have hwi := fun x (hx : x ∈ p.cells S) h0 h1 => HWI.out x k p hp ((p.mem_cells hpo S x).1 hx) h0 h1
      have hst9 : 1 ≤ p.step ∧ p.step ≤ 9 := ((p.ok_iff).1 hpo).2.2
      have HP := Lib.hid hp
      generalize hCe : p.cells S = C at hcall hrg hln hts htn hnx hwi
      have HCE := Lib.hid hCe
      clear hCe
      have HCALL := Lib.hid hcall
      have HRG := Lib.hid hrg
      have HLC := Lib.hid hln
      have HTS := Lib.hid hts
      have HTN := Lib.hid htn
      have HNX := Lib.hid hnx
      have HWJ := Lib.hid hwi
      clear hcall hrg hts htn hnx hwi hp hpo hin harg
      go_wp2_with fail
      refine (HCALL.out _).mono ?_
      rintro e w3 ⟨⟨B3, c3, rfl, ho3⟩, hb3⟩
      have hcn3 : Cnt w3 w1.heap.size (fun c => Rg.tally l S k 0 c) := HCN.out.below hb3 HGR.out
      have hb13 := hbw.trans (hb3.mono hzw)
      have HGB := HGR
      clear HCN HGR hb3 x0 x1 x2 x3 x4
      go_wp2_with fail
      obtain ⟨wo, rfl⟩ : ∃ wo : World, wo = wr := ⟨_, rfl⟩
      go_loopw [10, 11, 12] (fun i _ _ wr => ∃ n : Nat, n ≤ C.length ∧ i = .int .i64 n ∧ Hid (Cnt wr w1.heap.size (fun c => Rg.tally l S k n c)) ∧ Hid (OwnI wr wo.heap.size B3 c3 C) ∧ Below w1.heap.size w1 wr) (fun i _ _ _ => C.length - (intOf i).toNat)
      case atStart => exact ⟨0, Nat.zero_le _, rfl, Lib.hid hcn3, Lib.hid ho3, hb13⟩
      case round =>
        obtain ⟨n, hn, rfl, HCI, HOI, hbi⟩ := hrel
        have hzi := hbi.size
        by_cases hnl : n < C.length
        · have hnl' : (n : Int) < C.length := by omega
          obtain ⟨x, hx⟩ : ∃ x, C[n]? = some x := ⟨_, List.getElem?_eq_getElem hnl⟩
          have hxm := List.mem_of_getElem? hx
          have hxr := HRG.out x hxm
          obtain ⟨gC, rfl, hgC, hgCw, hinC⟩ := Own.in_ HOI.out (by intro e; subst e; simp at hnl)
          have hGC : w1.heap.size < gC := Nat.lt_of_lt_of_le HGB.out hgC
          have xc : wr.cell? ⟨gC, n, none⟩ = some (.int .i64 x) := by have := IntE.at1 hinC hx; rwa [Nat.zero_add] at this
          obtain ⟨b', o', hAe', hinl, hbl'⟩ := (HL.out _ hbi).at_lt hlt
          injection hAe' with hAe'
          injection hAe' with hAe1 hAe2
          subst hAe1 hAe2
          obtain ⟨x0, x1, x2, x3, x4⟩ := PtE.at5 hinl HP.out
          have hxlo : decide (x < -200) = false := decide_eq_false (by omega)
          have hxhi : decide (200 < x) = false := decide_eq_false (by omega)
          have hTS := Lib.hid (HTS.out n x hx)
          obtain ⟨J, hJ⟩ : ∃ J : Nat, x + 200 = J := ⟨(x + 200).toNat, by omega⟩
          have hJ5 : J < 500 := by omega
          have hJw : IntKind.i64.wrap (J : Int) = J := IntWalk.i64_in _ (by omega)
          have HJ := Lib.hid hJ
          have hT := tally_le l S k n x 210 (fun p' hp' => by rw [HP.out] at hp'; cases hp'; rw [HCE.out]; exact HLC.out)
          have tc : wr.cell? ⟨w1.heap.size, J, none⟩ = some (.int .i64 (Rg.tally l S k n x)) := by have := HCI.out.cell J hJ5; rwa [show (J : Int) - 200 = x by omega] at this
          have tf := HCI.out.free J
          obtain ⟨T, hTe⟩ : ∃ T, T = Rg.tally l S k n x := ⟨_, rfl⟩
          rw [← hTe] at tc hT
          have HTE := Lib.hid hTe
          have HX := Lib.hid hx
          have HXM := Lib.hid hxm
          have HINC := Lib.hid hinC
          have HYR := HRG
          clear hTe hx hxm hinC hinl hJ
          go_upto_region 14 with (fail)
          go_cut [87] (fun v wx => v = .bool false ∧ ∃ nq, wx = wr.drewN nq)
          case first =>
            clear HC HW HWI HM1 HZ1 HO1 HL HCALL HRG HTS HTN HWJ HCI HOI hTS HK HV HOK
            by_cases hn0 : n = 0
            · subst hn0
              go_quiet (fail)
              go_wp2_with fail
              go_meet
              exact ⟨rfl, _, rfl⟩
            · obtain ⟨m, hm⟩ : ∃ m, n = m + 1 := ⟨n - 1, by omega⟩
              obtain ⟨y, hy⟩ : ∃ y, C[m]? = some y := ⟨_, List.getElem?_eq_getElem (by omega)⟩
              have hsum := HNX.out m x y hy (by rw [← hm]; exact HX.out)
              obtain rfl : y = x - p.step := by omega
              have hyr := HYR.out _ (List.mem_of_getElem? hy)
              have yc : wr.cell? ⟨gC, m, none⟩ = some (.int .i64 (x - p.step)) := by have := IntE.at1 HINC.out hy; rwa [Nat.zero_add] at this
              have hn1 : decide (0 < n) = true := decide_eq_true (by omega)
              have hn2 : 0 < n := by omega
              have hm1 : (n : Int) - 1 = m := by omega
              have hm2 : IntKind.i64.wrap (m : Int) = m := IntWalk.i64_in _ (by omega)
              have hm3 : (0 : Int) ≤ m := by omega
              have hm4 : (m : Int) < C.length := by omega
              clear hn0 hm hy hsum
              go_quiet (fail)
              go_wp2_with fail
              go_meet
              exact ⟨rfl, _, rfl⟩
          case rest =>
            obtain ⟨rfl, nq, hwc⟩ := hcut
            have xc2 : wc.cell? ⟨gC, n, none⟩ = some (.int .i64 x) := by rw [hwc, cell_drewN]; exact xc
            have tc2 : wc.cell? ⟨w1.heap.size, J, none⟩ = some (.int .i64 T) := by rw [hwc, cell_drewN]; exact tc
            have tf2 : wc.frozen? ⟨w1.heap.size, J, none⟩ = false := by rw [hwc, frozen_drewN]; exact tf
            have HCI2 : Hid (Cnt wc w1.heap.size (fun c => Rg.tally l S k n c)) := Lib.hid ⟨fun j hj => by rw [hwc, cell_drewN]; exact HCI.out.cell j hj, fun j => by rw [hwc, frozen_drewN]; exact HCI.out.free j⟩
            have hO2 : OwnI wc wo.heap.size (some ⟨gC, 0, none⟩) c3 C := by
              have := HOI.out
              unfold OwnI El.Own World.ownsRow at this ⊢
              rw [hwc, heap_drewN]
              exact this
            have hbc : Below w1.heap.size w1 wc := by rw [hwc]; exact below_drewN hbi nq
            have HW2 := Lib.hid hwc
            have hj1 := HJ.out
            have hj2 : (0 : Int) ≤ J := by omega
            have hj3 : (J : Int) < 500 := by omega
            have hTi : (T : Int) ≤ 1000 := by omega
            have hne1 : gC ≠ w1.heap.size := by omega
            have hne2 : w1.heap.size ≠ gC := by omega
            have HTU : Hid (Cnt (wc.setCell ⟨w1.heap.size, J, none⟩ (.int .i64 ((T : Int) + 1))) w1.heap.size (fun c => Rg.tally l S k (n + 1) c)) := Lib.hid (HCI2.out.set_ (x := x) hj1 hJ5 (by rw [HTE.out]) hTS.out)
            have HOU : Hid (OwnI (wc.setCell ⟨w1.heap.size, J, none⟩ (.int .i64 ((T : Int) + 1))) wo.heap.size (some ⟨gC, 0, none⟩) c3 C) := Lib.hid (World.ownsRow.kept hO2 (grownBy_setCell1 wc w1.heap.size J _) (by right; simp [Value.ownBlock]; omega))
            have hbu : Below w1.heap.size w1 (wc.setCell ⟨w1.heap.size, J, none⟩ (.int .i64 ((T : Int) + 1))) := hbc.setCell (Nat.le_refl _) _
            clear hwc HCI HOI hO2 xc tc tf HCI2 hbc x0 x1 x2 x3 x4
            go_upto_region 17 with (fail)
            have z0 : (wc.setCell ⟨w1.heap.size, J, none⟩ (.int .i64 ((T : Int) + 1))).cell? ⟨gC, n, none⟩ = some (.int .i64 x) := by
              obtain ⟨g', hg', _, _, hin'⟩ := Own.in_ HOU.out (by intro e; rw [e] at hnl; simp at hnl)
              injection hg' with hg'
              injection hg' with hg' _
              subst hg'
              have := IntE.at1 hin' HX.out
              rwa [Nat.zero_add] at this
            clear xc2 tc2 tf2 hj1 hj2 hj3 hTi hne1 hne2 HW2
            generalize wc.setCell ⟨w1.heap.size, J, none⟩ (.int .i64 ((T : Int) + 1)) = W5 at *
            have HLa := Lib.hid (HL.out _ hbu)
            have hz : gC < W5.heap.size := lt_of_cell z0
            have HW1 := HW.out x
            generalize hR1 : (Rg.whoR l S x).1 = wa at HW1
            generalize hR2 : (Rg.whoR l S x).2 = we at HW1
            have HWW := Lib.hid HW1
            have HRR : Hid (Rg.whoR l S x = (wa, we)) := Lib.hid (by rw [← hR1, ← hR2])
            clear HW1 hR1 hR2
            have hBx : Below W5.heap.size W5 W5.drew := (Below.refl _ _).drew
            go_cut [11, 12] (fun va vb wx => va = .int .i64 (wa : Nat) ∧ vb = .int .i64 (we : Nat) ∧ wx.cell? ⟨gC, n, none⟩ = some (.int .i64 x) ∧ Below W5.heap.size W5 wx)
            case first =>
              clear HC HW HWI HM1 HZ1 HL HCALL HRG HTS HTN HWJ hTS HK HV HOK HTU HOU hbu hbi
              go_region_with (first
                | (go_at_call 17; refine (HO1.out _ (HLa.out.below hBx)).mono ?_; rintro e wq ⟨⟨Y, d, rfl, hoY⟩, hbq⟩; have z0 := ((bcell hbq).1 _ _ hz).trans z0; have hz := Nat.lt_of_lt_of_le hz hbq.size; have hBx := hBx.trans (hbq.mono hBx.size))
                | (go_at_call 30; refine (HWW.out _ _ _ (Own.arg hoY)).mono ?_; rintro e wv ⟨rfl, hbv⟩; have z0 := ((bcell hbv).1 _ _ hz).trans z0; have hBx := hBx.trans (hbv.mono hBx.size)))
              all_goals (go_wp2_with fail; go_meet; exact ⟨rfl, rfl, z0, hBx⟩)
            case rest =>
              obtain ⟨rfl, rfl, z1, hb5⟩ := hcut
              have HTU := Lib.hid (HTU.out.below hb5 HTU.out.lt)
              have HOU := Lib.hid (Own.below HOU.out hb5)
              have hbu := hbu.trans (hb5.mono hbu.size)
              clear z0 hz HLa hBx hb5
              by_cases hx0 : 0 ≤ x
              · have d0 : decide (0 ≤ x) = true := decide_eq_true hx0
                by_cases hxS : x < S
                · have d1 : decide (x < (S : Int)) = true := decide_eq_true hxS
                  obtain ⟨q, hq1, hq2⟩ := HWJ.out x HXM.out hx0 hxS
                  rw [HRR.out] at hq1
                  injection hq1 with hq3 hq4
                  subst hq3 hq4
                  have d2 : decide ((k : Int) < wa) = false := decide_eq_false (by omega)
                  have d3 : decide (k < wa) = false := decide_eq_false (by omega)
                  have d4 : ¬ k < wa := by omega
                  have d5 : decide ((wa : Int) < 0) = false := decide_eq_false (by omega)
                  go_wp2_with fail
                  go_roundw
                  case rel => exact ⟨n + 1, by omega, by go_num, HTU, HOU, hbu⟩
                  case measure => simp [intOf]; omega
                · have d1 : decide (x < (S : Int)) = false := decide_eq_false hxS
                  go_wp2_with fail
                  go_roundw
                  case rel => exact ⟨n + 1, by omega, by go_num, HTU, HOU, hbu⟩
                  case measure => simp [intOf]; omega
              · have d0 : decide (0 ≤ x) = false := decide_eq_false hx0
                go_wp2_with fail
                go_roundw
                case rel => exact ⟨n + 1, by omega, by go_num, HTU, HOU, hbu⟩
                case measure => simp [intOf]; omega
        · have hnl' : ¬ (n : Int) < C.length := by omega
          have HCF : Hid (Cnt wr w1.heap.size (fun c => Rg.tally l S (k + 1) 0 c)) := Lib.hid (by
            have := HCI.out
            rw [show n = C.length by omega] at this
            have e : (fun c => Rg.tally l S k C.length c) = fun c => Rg.tally l S (k + 1) 0 c := funext HTN.out
            rw [e] at this
            exact this)
          go_wp2
          go_roundw
          case rel => exact ⟨k + 1, by omega, by go_num, HCF, hbi⟩
          case measure => simp [intOf]; omega
    · have hlt' : ¬ (k : Int) < l.length := by omega
      have HCF : Hid (Cnt wr w1.heap.size (fun c => Rg.many l S c)) := Lib.hid (by
        have := HCN.out
        rw [show k = l.length by omega] at this
        have e : (fun c => Rg.tally l S l.length 0 c) = fun c => Rg.many l S c := funext (Rg.tally_all l S)
        rw [e] at this
        exact this)
      have hGo := HCF.out.lt
      clear HC HW HWI HCN HGR
      go_wp2_with fail
      obtain ⟨wo, rfl⟩ : ∃ wo : World, wo = wr := ⟨_, rfl⟩
      have hst : ∀ j : Nat, Rg.missK l S (j + 1) = Rg.missK l S j ++ (if Rg.how l S ((j : Int) - 200) = 0 then [] else [((j : Int) - 200, Rg.how l S ((j : Int) - 200))]) := fun j => rfl
      have HST := Lib.hid hst
      have hhw : ∀ x : Int, Rg.how l S x = if 0 ≤ x ∧ x ≤ (S : Int) - 1 then (if Rg.many l S x = 0 then 1 else if 1 < Rg.many l S x then 2 else 0) else if 0 < Rg.many l S x then 3 else 0 := fun x => rfl
      have HHW := Lib.hid hhw
      have HML := Lib.hid (fun x => show Rg.many l S x ≤ 6 from Nat.le_trans List.countP_le_length h6)
      have HLE := Lib.hid (fun j => Rg.missK_len l S j)
      have h401 : Rg.missK l S 401 = Rg.misses l S := rfl
      have H401 := Lib.hid h401
      clear hst hhw h401
      go_loopw [13, 14, 15, 16] (fun o i _ _ wr => ∃ (k2 : Nat) (x : Int) (D : List (Int × Int × Nat)) (B : Option Addr) (c : Nat), k2 ≤ 401 ∧ x = k2 - 200 ∧ i = .int .i64 x ∧ o = .slice B D.length c ∧ Hid (D = mv S (Rg.missK l S k2)) ∧ D.length ≤ 401 ∧ OwnM wr wo.heap.size B c D ∧ Below wo.heap.size wo wr) (fun _ i _ _ _ => (201 - intOf i).toNat)
      case atStart => exact ⟨0, -200, [], _, 0, by omega, by omega, rfl, rfl, Lib.hid rfl, by simp, Own.made MissE 41 wo (Nat.le_refl _), (Below.refl _ _).alloc (Nat.le_refl _) _⟩
      case round =>
        obtain ⟨k2, x, D, B, c, hk2, hx, rfl, rfl, HD, hDl, hown, hbi⟩ := hrel
        have hzi := hbi.size
        have HX2 := Lib.hid hx
        have hx0 : -200 ≤ x := by omega
        have hx1 : x ≤ 201 := by omega
        by_cases hlt2 : k2 < 401
        · have hx2 : x ≤ 200 := by omega
          have hnx := HST.out k2
          rw [← hx] at hnx
          have hhow := HHW.out x
          have hml := HML.out x
          have tc := (HCF.out.below hbi hGo).cell k2 (by omega)
          rw [← hx] at tc
          generalize Rg.many l S x = N at hhow hml tc
          have HNX2 := Lib.hid hnx
          have hj1 : x + 200 = (k2 : Int) := by omega
          have hj2 : IntKind.i64.wrap (k2 : Int) = k2 := IntWalk.i64_in _ (by omega)
          have hj3 : (0 : Int) ≤ k2 := by omega
          have hj4 : (k2 : Int) < 500 := by omega
          have HDL : Hid (D.length ≤ k2) := Lib.hid (by rw [HD.out, mv_len]; exact HLE.out k2)
          clear hx hnx
          by_cases hxi : 0 ≤ x ∧ x ≤ (S : Int) - 1
          · rw [if_pos hxi] at hhow
            have d0 : decide (0 ≤ x) = true := decide_eq_true hxi.1
            have d1 : decide (x < (S : Int)) = true := decide_eq_true (by omega)
            clear hxi
            by_cases hn0 : N = 0
            · subst hn0
              have HVV : Hid (Rg.how l S x = 1) := Lib.hid (by rw [hhow]; rfl)
              have HN0 : Hid (D ++ [((S : Int), x, 1)] = mv S (Rg.missK l S (k2 + 1))) := Lib.hid (by rw [HNX2.out, HVV.out, if_neg (by decide), mv_snoc, ← HD.out])
              clear HVV HNX2 hhow
              go_wp2_with (at_builtin; refine append_M rfl _ _ rfl wo.heap.size B c D ((S : Int), x, 1) wr.heap.size rfl rfl (hown.below ((Below.refl _ _).alloc (Nat.le_refl _) _)) (by simp) (by simp) (by simp) (by omega) (by simp; omega) ?_; intro B' c' w7 hown7 hgrow7)
              go_roundw
              case rel => exact ⟨k2 + 1, x + 1, D ++ [((S : Int), x, 1)], B', c', by omega, by have := HX2.out; omega, by go_num, by simp, HN0, by have := HDL.out; simp; omega, hown7, (hbi.alloc hzi _).grown hgrow7 (by simp; omega) (fun j hj => (hown.lt j hj).1)⟩
              case measure => simp [intOf]; omega
            · have n0 : ((N : Int) == 0) = false := by rw [beq_eq_false_iff_ne]; omega
              by_cases hn1 : 1 < N
              · have n1 : decide ((1 : Int) < N) = true := decide_eq_true (by omega)
                have HVV : Hid (Rg.how l S x = 2) := Lib.hid (by rw [hhow, if_neg hn0, if_pos hn1])
                have HN0 : Hid (D ++ [((S : Int), x, 2)] = mv S (Rg.missK l S (k2 + 1))) := Lib.hid (by rw [HNX2.out, HVV.out, if_neg (by decide), mv_snoc, ← HD.out])
                clear HVV HNX2 hhow
                go_wp2_with (at_builtin; refine append_M rfl _ _ rfl wo.heap.size B c D ((S : Int), x, 2) wr.heap.size rfl rfl (hown.below ((Below.refl _ _).alloc (Nat.le_refl _) _)) (by simp) (by simp) (by simp) (by omega) (by simp; omega) ?_; intro B' c' w7 hown7 hgrow7)
                go_roundw
                case rel => exact ⟨k2 + 1, x + 1, D ++ [((S : Int), x, 2)], B', c', by omega, by have := HX2.out; omega, by go_num, by simp, HN0, by have := HDL.out; simp; omega, hown7, (hbi.alloc hzi _).grown hgrow7 (by simp; omega) (fun j hj => (hown.lt j hj).1)⟩
                case measure => simp [intOf]; omega
              · have n1 : decide ((1 : Int) < N) = false := decide_eq_false (by omega)
                have HVV : Hid (Rg.how l S x = 0) := Lib.hid (by rw [hhow, if_neg hn0, if_neg hn1])
                have HN0 : Hid (D = mv S (Rg.missK l S (k2 + 1))) := Lib.hid (by rw [HNX2.out, HVV.out, if_pos rfl, List.append_nil]; exact HD.out)
                clear HVV HNX2 hhow
                go_wp2_with fail
                go_roundw
                case rel => exact ⟨k2 + 1, x + 1, D, B, c, by omega, by have := HX2.out; omega, by go_num, rfl, HN0, hDl, hown, hbi⟩
                case measure => simp [intOf]; omega
          · rw [if_neg hxi] at hhow
            by_cases hx00 : 0 ≤ x
            · have d0 : decide (0 ≤ x) = true := decide_eq_true hx00
              have d1 : decide (x < (S : Int)) = false := decide_eq_false (by omega)
              clear hxi
              by_cases hn0 : 0 < N
              · have n1 : decide ((0 : Int) < N) = true := decide_eq_true (by omega)
                have HVV : Hid (Rg.how l S x = 3) := Lib.hid (by rw [hhow, if_pos hn0])
                have HN0 : Hid (D ++ [((S : Int), x, 3)] = mv S (Rg.missK l S (k2 + 1))) := Lib.hid (by rw [HNX2.out, HVV.out, if_neg (by decide), mv_snoc, ← HD.out])
                clear HVV HNX2 hhow
                go_wp2_with (at_builtin; refine append_M rfl _ _ rfl wo.heap.size B c D ((S : Int), x, 3) wr.heap.size rfl rfl (hown.below ((Below.refl _ _).alloc (Nat.le_refl _) _)) (by simp) (by simp) (by simp) (by omega) (by simp; omega) ?_; intro B' c' w7 hown7 hgrow7)
                go_roundw
                case rel => exact ⟨k2 + 1, x + 1, D ++ [((S : Int), x, 3)], B', c', by omega, by have := HX2.out; omega, by go_num, by simp, HN0, by have := HDL.out; simp; omega, hown7, (hbi.alloc hzi _).grown hgrow7 (by simp; omega) (fun j hj => (hown.lt j hj).1)⟩
                case measure => simp [intOf]; omega
              · have n1 : decide ((0 : Int) < N) = false := decide_eq_false (by omega)
                have HVV : Hid (Rg.how l S x = 0) := Lib.hid (by rw [hhow, if_neg hn0])
                have HN0 : Hid (D = mv S (Rg.missK l S (k2 + 1))) := Lib.hid (by rw [HNX2.out, HVV.out, if_pos rfl, List.append_nil]; exact HD.out)
                clear HVV HNX2 hhow
                go_wp2_with fail
                go_roundw
                case rel => exact ⟨k2 + 1, x + 1, D, B, c, by omega, by have := HX2.out; omega, by go_num, rfl, HN0, hDl, hown, hbi⟩
                case measure => simp [intOf]; omega
            · have d0 : decide (0 ≤ x) = false := decide_eq_false hx00
              clear hxi
              by_cases hn0 : 0 < N
              · have n1 : decide ((0 : Int) < N) = true := decide_eq_true (by omega)
                have HVV : Hid (Rg.how l S x = 3) := Lib.hid (by rw [hhow, if_pos hn0])
                have HN0 : Hid (D ++ [((S : Int), x, 3)] = mv S (Rg.missK l S (k2 + 1))) := Lib.hid (by rw [HNX2.out, HVV.out, if_neg (by decide), mv_snoc, ← HD.out])
                clear HVV HNX2 hhow
                go_wp2_with (at_builtin; refine append_M rfl _ _ rfl wo.heap.size B c D ((S : Int), x, 3) wr.heap.size rfl rfl (hown.below ((Below.refl _ _).alloc (Nat.le_refl _) _)) (by simp) (by simp) (by simp) (by omega) (by simp; omega) ?_; intro B' c' w7 hown7 hgrow7)
                go_roundw
                case rel => exact ⟨k2 + 1, x + 1, D ++ [((S : Int), x, 3)], B', c', by omega, by have := HX2.out; omega, by go_num, by simp, HN0, by have := HDL.out; simp; omega, hown7, (hbi.alloc hzi _).grown hgrow7 (by simp; omega) (fun j hj => (hown.lt j hj).1)⟩
                case measure => simp [intOf]; omega
              · have n1 : decide ((0 : Int) < N) = false := decide_eq_false (by omega)
                have HVV : Hid (Rg.how l S x = 0) := Lib.hid (by rw [hhow, if_neg hn0])
                have HN0 : Hid (D = mv S (Rg.missK l S (k2 + 1))) := Lib.hid (by rw [HNX2.out, HVV.out, if_pos rfl, List.append_nil]; exact HD.out)
                clear HVV HNX2 hhow
                go_wp2_with fail
                go_roundw
                case rel => exact ⟨k2 + 1, x + 1, D, B, c, by omega, by have := HX2.out; omega, by go_num, rfl, HN0, hDl, hown, hbi⟩
                case measure => simp [intOf]; omega
        · have hx2 : ¬ x ≤ 200 := by omega
          have HE : Hid (D = mv S (Rg.misses l S)) := Lib.hid (by rw [HD.out, show k2 = 401 by omega, H401.out])
          have hbt := hbw.trans (hbi.mono hzw)
          have HLw := Lib.hid (Arg.stay (HL.out _ hbt))
          have SD := Lib.hid (Own.stay hown)
          have hBw := hB1.trans (hbt.mono hB1.size)
          have hml : (mv S (Rg.misses l S)).length ≤ 3000000 := by rw [mv_len]; have := Rg.missK_len l S 401; exact Nat.le_trans this (by omega)
          have hmem := Rg.mem_sizes l S
          have hri : Rg.right l (S : Nat) = (Rg.misses l S).isEmpty := rfl
          rw [hri] at hmem
          have hzl : (Rg.sizes l).length ≤ 101 := Rg.sizesK_len l 101
          generalize Rg.misses l S = M at HM1 HE hml hmem
          generalize Rg.sizes l = Z at HZ1 hmem hzl
          have HME := Lib.hid hmem
          have hDM : D.length = M.length := by rw [HE.out, mv_len]
          have HDM := Lib.hid hDM
          have HSM := Lib.hid (fun A C c1 c2 W h1 h2 => misses_any (mv S M) hml A C c1 c2 W h1 h2)
          clear hmem hml hDM hown hbi hbt H401 HST HHW HML HLE HD HCF hGo hx
          go_wp2_with fail
          refine (HO1.out _ HLw.out.at_).mono ?_
          rintro e w10 ⟨⟨Y1, y1, rfl, ho⟩, hb10⟩
          have HLw := Lib.hid (HLw.out.step hb10)
          have SD := Lib.hid (SD.out.step hb10)
          have hB10 := hBw.trans (hb10.mono hBw.size)
          clear hb10 hBw
          go_wp2_with fail
          refine (HM1.out _ _ _ (Own.arg ho)).mono ?_
          rintro e w11 ⟨⟨M1, m1, rfl, hm1⟩, hb11⟩
          have HLw := Lib.hid (HLw.out.step hb11)
          have SD := Lib.hid (SD.out.step hb11)
          have hB11 := hB10.trans (hb11.mono hB10.size)
          clear hb11 hB10 ho
          have SM := Lib.hid (Own.stay hm1)
          clear hm1
          go_wp2_with fail
          refine (HO1.out _ HLw.out.at_).mono ?_
          rintro e w12 ⟨⟨Y2, y2, rfl, ho⟩, hb12⟩
          have HLw := Lib.hid (HLw.out.step hb12)
          have SD := Lib.hid (SD.out.step hb12)
          have SM := Lib.hid (SM.out.step hb12)
          have hB12 := hB11.trans (hb12.mono hB11.size)
          clear hb12 hB11
          go_wp2_with fail
          refine (HZ1.out _ _ _ (Own.arg ho)).mono ?_
          rintro e w13 ⟨⟨Z1, z1, rfl, hz⟩, hb13⟩
          have HLw := Lib.hid (HLw.out.step hb13)
          have SD := Lib.hid (SD.out.step hb13)
          have SM := Lib.hid (SM.out.step hb13)
          have hB13 := hB12.trans (hb13.mono hB12.size)
          clear hb13 hB12 ho
          clear HLw
          go_wp2_with fail
          obtain ⟨wp, HWP⟩ : ∃ wp : World, Hid (wp = w13) := ⟨_, Lib.hid rfl⟩
          have HZO := Lib.hid hz
          clear hz
          go_loopw [21, 22] (fun q i wr => ∃ j : Nat, j ≤ Z.length ∧ i = .int .i64 j ∧ q = .bool (decide (S ∈ Z.take j)) ∧ wr = w13) (fun _ i _ => Z.length - (intOf i).toNat)
          case atStart => exact ⟨0, Nat.zero_le _, rfl, by simp, rfl⟩
          case round =>
            obtain ⟨j, hj, rfl, rfl, rfl⟩ := hrel
            by_cases hjl : j < Z.length
            · have hjl' : (j : Int) < Z.length := by omega
              obtain ⟨z, hz⟩ : ∃ z, Z[j]? = some z := ⟨_, List.getElem?_eq_getElem hjl⟩
              have hz2 : (iv Z)[j]? = some (z : Int) := by unfold iv; rw [List.getElem?_map, hz]; rfl
              obtain ⟨gZ, rfl, _, _, hinZ⟩ := Own.in_ HZO.out (by intro e; rw [e] at hz2; cases hz2)
              have zc : wr.cell? ⟨gZ, j, none⟩ = some (.int .i64 z) := by have := IntE.at1 hinZ hz2; rwa [Nat.zero_add] at this
              have hnx : decide (S ∈ Z.take (j + 1)) = (decide (S ∈ Z.take j) || ((z : Int) == (S : Int))) := by
                obtain ⟨hjj, e⟩ := List.getElem?_eq_some_iff.1 hz
                rw [List.take_succ_eq_append_getElem hjj, e, Bool.eq_iff_iff]
                simp
                constructor
                · rintro (h | h)
                  · exact .inl h
                  · exact .inr (by omega)
                · rintro (h | h)
                  · exact .inl h
                  · exact .inr (by omega)
              generalize decide (S ∈ Z.take j) = q at hnx
              have HNX3 := Lib.hid hnx
              clear hnx hz hz2 hinZ
              cases q with
              | true =>
                have HQ3 : Hid (decide (S ∈ Z.take (j + 1)) = true) := Lib.hid (by rw [HNX3.out]; rfl)
                clear HNX3
                go_wp2_with fail
                go_roundw
                case rel => exact ⟨j + 1, by omega, by go_num, by rw [HQ3.out], trivial⟩
                case measure => simp [intOf]; omega
              | false =>
                cases hzS : ((z : Int) == (S : Int)) with
                | true =>
                  have HQ3 : Hid (decide (S ∈ Z.take (j + 1)) = true) := Lib.hid (by rw [HNX3.out, hzS]; rfl)
                  have hzS2 : (z == S) = true := by rw [beq_iff_eq] at hzS ⊢; omega
                  clear HNX3
                  go_wp2_with fail
                  go_roundw
                  case rel => exact ⟨j + 1, by omega, by go_num, by rw [HQ3.out], trivial⟩
                  case measure => simp [intOf]; omega
                | false =>
                  have HQ3 : Hid (decide (S ∈ Z.take (j + 1)) = false) := Lib.hid (by rw [HNX3.out, hzS]; rfl)
                  have hzS2 : (z == S) = false := by rw [beq_eq_false_iff_ne] at hzS ⊢; omega
                  clear HNX3
                  go_wp2_with fail
                  go_roundw
                  case rel => exact ⟨j + 1, by omega, by go_num, by rw [HQ3.out], trivial⟩
                  case measure => simp [intOf]; omega
            · have hjl' : ¬ (j : Int) < Z.length := by omega
              have hSZ : decide (S ∈ Z.take j) = M.isEmpty := by
                rw [List.take_of_length_le (by omega), Bool.eq_iff_iff, decide_eq_true_iff, HME.out]
                exact ⟨fun h => h.2, fun h => ⟨hS1, h⟩⟩
              have hSM := HSM.out
              rw [mv_len] at hSM
              have HSMM := Lib.hid hSM
              have SDM := SD.out.at_
              have hDl2 := HDM.out
              have HDD : Hid (MissE.Arg wr B (mv S M)) := Lib.hid (by have := SDM.arg; rwa [HE.out] at this)
              rw [hSZ, hDl2]
              clear hSZ hSM SDM HSM HE SD hDl2 HDM
              cases M with
              | nil =>
                simp only [List.isEmpty_nil, List.length_nil] at HSMM ⊢
                go_wp2_with fail
                refine (HSMM.out _ _ _ _ _ SM.out.at_.arg HDD.out).mono ?_
                rintro e w20 ⟨rfl, hb20⟩
                go_wp2_with fail
                refine (HK.out _).mono ?_
                rintro e w21 ⟨rfl, hb21⟩
                go_wp2
                go_ret
                exact ⟨rfl, hB13.trans ((hb20.trans (hb21.mono hb20.size)).mono (hB13).size)⟩
              | cons m0 mr =>
                simp only [List.isEmpty_cons, List.length_cons] at HSMM ⊢
                have hq3 : (((mr.length : Nat) : Int) + 1 == 0) = false := by rw [beq_eq_false_iff_ne]; omega
                go_wp2_with fail
                refine (HSMM.out _ _ _ _ _ SM.out.at_.arg HDD.out).mono ?_
                rintro e w20 ⟨rfl, hb20⟩
                go_wp2_with fail
                refine (HK.out _).mono ?_
                rintro e w21 ⟨rfl, hb21⟩
                go_wp2
                go_ret
                exact ⟨rfl, hB13.trans ((hb20.trans (hb21.mono hb20.size)).mono (hB13).size)⟩

set_option maxRecDepth 100000 in
theorem once_inv (h : Prg) (l : List Rg.Pt) (hl : l.length ≤ maxLen) (A : Option Addr) (cap : Nat) (s : Nat) (hs : s < 256) (hq : (decide (l.length ≤ 6) && Rg.valid l) = false) (w : World) (ha : PtE.Arg w A l) :
    Calls Try.prog 7 #[.slice A l.length cap, .int .u8 s] w fun e w' => e = .returned (.bool true) ∧ Below w.heap.size w w' := by
  have HK := Lib.hid (fun W => known_any h W)
  have hs1 : (0 : Int) ≤ s := by omega
  have hs2 : (s : Int) < 256 := by omega
  have HV := Lib.hid (lawValid_of l _ hq hl A cap w ha)
  clear h hl ha hq hs
  go_enter Try.func7, Try.ntmps7
  have hB0 : Below w.heap.size w w := Below.refl _ _
  go_wp2_with fail
  refine (HV.out).mono ?_
  rintro e w1 ⟨rfl, hb1⟩
  have hB1 := hB0.trans (hb1.mono hB0.size)
  go_wp2_with fail
  refine (HK.out _).mono ?_
  rintro e w2 ⟨rfl, hb2⟩
  go_wp2
  go_ret
  exact ⟨rfl, hB1.trans (hb2.mono hB1.size)⟩
theorem once_law (h : Prg) (l : List Rg.Pt) (hl : l.length ≤ maxLen) (A : Option Addr) (cap : Nat) (hA : A = none → cap = 0) (s : Nat) (hs : s < 256) (w : World) (ha : PtE.Arg w A l) :
    Calls Try.prog 7 #[.slice A l.length cap, .int .u8 s] w fun e w' => e = .returned (.bool true) ∧ Below w.heap.size w w' := by
  cases hq : (decide (l.length ≤ 6) && Rg.valid l) with
  | false => exact once_inv h l hl A cap s hs hq w ha
  | true => exact once_main h l hl A cap hA s hs hq w ha

end Go.Proofs.Ythagelnimmfhbaa
