/- Layer 5: the walk of the law RegionOrder. -/
import Derived.Test.YthagelnimmfhbaaRw
import Derived.Deep.RegionLaw
import Derived.Deep.DeepCutAuto
namespace Go.Proofs.Ythagelnimmfhbaa
open Go.RowKit Go.El

theorem own_of (l : List Rg.Pt) (hn : l.length ≤ 100000) (A : Option Addr) (cap : Nat) (hA : A = none → cap = 0) (w : World) (ht : PtE.Arg w A l) :
    Calls Try.prog 17 #[.slice A l.length cap] w fun e w' => (∃ A c, e = .returned (.slice A l.length c) ∧ OwnP w' w.heap.size A c l) ∧ Below w.heap.size w w' := own_any l hn A cap hA w ht

set_option maxRecDepth 100000 in
set_option maxHeartbeats 8000000 in
theorem ord_inv (h : Prg) (l : List Rg.Pt) (hl : l.length ≤ maxLen) (A : Option Addr) (cap : Nat) (t s : Nat) (ht : t < 256) (hs : s < 256) (hq : (decide (l.length ≤ 6) && Rg.valid l) = false) (w : World) (ha : PtE.Arg w A l) :
    Calls Try.prog 8 #[.slice A l.length cap, .int .u8 t, .int .u8 s] w fun e w' => e = .returned (.bool true) ∧ Below w.heap.size w w' := by
  have HK := Lib.hid (fun W => known_any h W)
  have ht1 : (0 : Int) ≤ t := by omega
  have ht2 : (t : Int) < 256 := by omega
  have hs1 : (0 : Int) ≤ s := by omega
  have hs2 : (s : Int) < 256 := by omega
  have HV := Lib.hid (lawValid_of l _ hq hl A cap w ha)
  clear h hl ha hq ht hs
  go_enter Try.func8, Try.ntmps8
  have hB0 : Below w.heap.size w w := Below.refl _ _
  go_wp2_with fail
  refine (HV.out).mono ?_
  rintro e w1 ⟨rfl, hb1⟩
  have hB1 := hB0.trans (hb1.mono hB0.size)
  clear hb1
  go_wp2_with fail
  refine (HK.out _).mono ?_
  rintro e w2 ⟨rfl, hb2⟩
  have hB2 := hB1.trans (hb2.mono hB1.size)
  clear hb2 hB1
  go_wp2
  go_ret
  exact ⟨rfl, hB2⟩

set_option maxRecDepth 100000 in
set_option maxHeartbeats 8000000 in
theorem ord_main (h : Prg) (l : List Rg.Pt) (hl : l.length ≤ maxLen) (A : Option Addr) (cap : Nat) (hA : A = none → cap = 0) (hcap : l.length ≤ cap) (hcm : cap ≤ maxLen) (t s : Nat) (ht : t < 256) (hs : s < 256) (hq : (decide (l.length ≤ 6) && Rg.valid l) = true) (n k : Nat) (hR : Rg.leastR l = (n, k)) (w : World) (ha : PtE.Arg w A l) :
    Calls Try.prog 8 #[.slice A l.length cap, .int .u8 t, .int .u8 s] w fun e w' => e = .returned (.bool true) ∧ Below w.heap.size w w' := by
  have HK := Lib.hid (fun W => known_any h W)
  have ht1 : (0 : Int) ≤ t := by omega
  have ht2 : (t : Int) < 256 := by omega
  have hs1 : (0 : Int) ≤ s := by omega
  have hs2 : (s : Int) < 256 := by omega
  rw [Bool.and_eq_true] at hq
  obtain ⟨hq6, hq2⟩ := hq
  have h6 : l.length ≤ 6 := of_decide_eq_true hq6
  have HV := Lib.hid (fun A c W h => lawValid_of l true (by rw [hq6, hq2]; rfl) hl A c W h)
  obtain ⟨K, hK⟩ : ∃ K, K = t % (l.length + 1) := ⟨_, rfl⟩
  have hKl : K ≤ l.length := by rw [hK]; have := Nat.mod_lt t (show 0 < l.length + 1 by omega); omega
  obtain ⟨S, hS⟩ : ∃ S, S = s % 101 := ⟨_, rfl⟩
  have hS1 : S ≤ 100 := by omega
  obtain ⟨O, hO⟩ : ∃ O, O = l.drop K ++ l.take K := ⟨_, rfl⟩
  have hOl : O.length = l.length := by rw [hO]; simp only [List.length_append, List.length_drop, List.length_take]; omega
  have hOv : Rg.valid O = true := by rw [hO]; exact Rg.valid_turn hq2 K
  have hPl : (Rg.slim l).length ≤ l.length := Rg.slim_len l
  have hPv : Rg.valid (Rg.slim l) = true := Rg.valid_slim hq2
  have hin : Rg.inS (S : Nat) = true := (Rg.inS_iff _).2 (by omega)
  have HM1 := Lib.hid (fun A c W ha => misses_code h.misses l hl S (Rg.misses l S) 0 (by unfold Rg.missesR; rw [hq2, hin]; rfl) A c W ha)
  have HM2 := Lib.hid (fun A c W ha => misses_code h.misses O (by omega) S (Rg.misses l S) 0 (by unfold Rg.missesR; rw [hOv, hin, hO, Rg.misses_turn]; rfl) A c W ha)
  have HM3 := Lib.hid (fun A c W ha => misses_code h.misses (Rg.slim l) (by omega) S (Rg.misses l S) 0 (by unfold Rg.missesR; rw [hPv, hin, Rg.misses_slim hq2 hS1]; rfl) A c W ha)
  have HE1 := Lib.hid (fun A c W ha => least_code h.least l hl n k hR A c W ha)
  have HE2 := Lib.hid (fun A c W ha => least_code h.least O (by omega) n k (by rw [← hR]; unfold Rg.leastR; rw [hOv, hq2, hO, Rg.least_turn]) A c W ha)
  have HE3 := Lib.hid (fun A c W ha => least_code h.least (Rg.slim l) (by omega) n k (by rw [← hR]; unfold Rg.leastR; rw [hPv, hq2, Rg.least_slim hq2]) A c W ha)
  have HZ1 := Lib.hid (fun A c W ha => sizes_code h.sizes l hl (Rg.sizes l) 0 (by unfold Rg.sizesR; rw [hq2]; rfl) A c W ha)
  have HZ2 := Lib.hid (fun A c W ha => sizes_code h.sizes (Rg.slim l) (by omega) (Rg.sizes l) 0 (by unfold Rg.sizesR; rw [hPv, Rg.sizes_slim hq2]; rfl) A c W ha)
  have HI := Lib.hid (fun A c W ha => slim_code h.slim l hl (Rg.slim l) 0 (by unfold Rg.slimR; rw [hq2]; rfl) A c W ha)
  have HO1 := Lib.hid (fun W h => own_of l (by omega) A cap hA W h)
  have HO2 := Lib.hid (fun A c hA W h => own_of O (by omega) A c hA W h)
  have HO3 := Lib.hid (fun A c hA W h => own_of (Rg.slim l) (by omega) A c hA W h)
  have hml : (mv S (Rg.misses l S)).length ≤ 3000000 := by rw [mv_len]; have := Rg.missK_len l S 401; exact Nat.le_trans this (by omega)
  have hsm := fun A C c1 c2 W h1 h2 => misses_any (mv S (Rg.misses l S)) hml A C c1 c2 W h1 h2
  rw [mv_len] at hsm
  have HSM := Lib.hid hsm
  have hsz := fun A C c1 c2 W h1 h2 => same_any (iv (Rg.sizes l)) (by rw [iv_len]; exact Nat.le_trans (Rg.sizesK_len l 101) (by omega)) A C c1 c2 W h1 h2
  rw [iv_len] at hsz
  have HSZ := Lib.hid hsz
  have HL := Lib.hid (Arg.stay ha)
  have HOO := Lib.hid hO
  have HOL := Lib.hid hOl
  have HHA := Lib.hid hA
  have hkk : ((k : Int) == k) = true := beq_self_eq_true _
  have hnn : ((n : Int) == n) = true := beq_self_eq_true _
  have e1 : (s : Int) % 101 = (S : Int) := by omega
  have e2 : (t : Int) % ((l.length : Int) + 1) = (K : Int) := by rw [hK]; exact (Int.natCast_emod t (l.length + 1)).symm
  have hpl : decide ((l.length : Int) < ((Rg.slim l).length : Int)) = false := decide_eq_false (by omega)
  have hpl2 : decide (l.length < (Rg.slim l).length) = false := decide_eq_false (by omega)
  have E1 := Lib.hid e1
  have E2 := Lib.hid e2
  clear h hl ha hq6 hq2 hR hsm hsz hml hO hOl hOv hPl hPv hin hA ht hs e1 e2 hK hS
  generalize Rg.misses l S = L at *
  generalize Rg.sizes l = Z at *
  generalize Rg.slim l = P at *
  go_enter Try.func8, Try.ntmps8
  have hB0 : Below w.heap.size w w := Below.refl _ _
  go_wp2_with fail
  refine (HV.out _ _ _ HL.out.at_).mono ?_
  rintro e w1 ⟨rfl, hb1⟩
  have HL := Lib.hid (HL.out.step hb1)
  have hB1 := hB0.trans (hb1.mono hB0.size)
  clear hb1
  go_upto_region 5 with (fail)
  rw [E1.out, E2.out]
  have hcm2 : (cap : Int) ≤ 9223372036854775807 := by unfold maxLen at hcm; omega
  go_cut [9] (fun v wx => ∃ (X : Option Addr) (c : Nat), v = .slice X O.length c ∧ Hid (OwnP wx w1.heap.size X c O) ∧ Below w1.heap.size w1 wx)
  case first =>
    have HL1 := Lib.hid (HL.out.at_)
    clear HM1 HM2 HM3 HE1 HE2 HE3 HZ1 HZ2 HI HO1 HO2 HO3 HSM HSZ HK HV hB1
    cases A with
    | none =>
      have hc0 := HHA.out rfl
      subst hc0
      have hl0 : l.length = 0 := by omega
      have hK0 : K = 0 := by omega
      have hO0 : O = [] := by rw [HOO.out, hK0, List.eq_nil_of_length_eq_zero hl0]; rfl
      subst hO0 hK0
      obtain rfl : l = [] := List.eq_nil_of_length_eq_zero hl0
      go_region
      go_wp2_with fail
      go_meet
      exact ⟨_, _, rfl, Lib.hid (Own.made PtE 25 w1 (Nat.le_refl _)), ((Below.refl _ _).alloc (Nat.le_refl _) _).drew⟩
    | some a =>
      have hKc : (K : Int) ≤ cap := by omega
      have hKl' : (K : Int) ≤ l.length := by omega
      have hK0 : (0 : Int) ≤ K := by omega
      have hmade : OwnP (w1.alloc (.cells #[] 25)).drew w1.heap.size (some ⟨w1.heap.size, 0, none⟩) 0 [] := Own.made PtE 25 w1 (Nat.le_refl _)
      have hB0 : Below w1.heap.size w1 (w1.alloc (.cells #[] 25)).drew := ((Below.refl _ _).alloc (Nat.le_refl _) _).drew
      have hLD : PtE.Arg (w1.alloc (.cells #[] 25)).drew (if cap = K then some a else some (a.add (K * 5))) (l.drop K) := (HL1.out.below hB0).drop_if (j := K * 5) rfl hcap
      go_region_law (first
        | (refine step_append_any PtE _ rfl _ _ 31 25 rfl Try.underlying31 part_info rfl w1.heap.size _ _ _ ([] ++ l.drop K) (l.take K) _ _ _ rfl (by simp) rfl (by simp; omega) (fun hh => by cases hh) hown2 ((HL1.out.below hB2).take K) (by simp [maxLen]; omega) (by simp; omega) hB2.size ?_; intro A3 cap3 w3 hown3 hgrow3; have hB3 := hB2.grown hgrow3 hB2.size (fun j hj => (hown2.lt j hj).1))
        | (refine step_append_any PtE _ rfl _ _ 31 25 rfl Try.underlying31 part_info rfl w1.heap.size _ _ _ [] (l.drop K) _ _ _ rfl rfl rfl (by simp) (fun hh => by split at hh <;> cases hh) hmade hLD (by simp [maxLen]; omega) (by simp; omega) (by simp) ?_; intro A2 cap2 w2 hown2 hgrow2; have hB2 := hB0.grown hgrow2 (by simp) (fun j hj => (hmade.lt j hj).1)))
      all_goals
        generalize (if cap = K then some a else some (a.add (K * 5))) = AO
        go_wp2_with fail
        go_meet
        exact ⟨A3, cap3, by rw [HOL.out], Lib.hid (by rw [HOO.out]; exact hown3), hB3⟩
  case rest =>
    obtain ⟨X, cx, rfl, HOX, hb2⟩ := hcut
    have HL := Lib.hid (HL.out.step hb2)
    have hXn := (Own.le HOX.out).2
    have SX := Lib.hid (Arg.stay (Own.arg HOX.out))
    have hB2 := hB1.trans (hb2.mono hB1.size)
    clear hb2 hB1 HOX
    have HXN := Lib.hid hXn
    clear hXn
    go_wp2_with fail
    refine (HO1.out _ HL.out.at_).mono ?_
    rintro e w3 ⟨⟨Y1, d1, rfl, ho⟩, hb3⟩
    have HL := Lib.hid (HL.out.step hb3)
    have SX := Lib.hid (SX.out.step hb3)
    have hB3 := hB2.trans (hb3.mono hB2.size)
    clear hb3 hB2
    go_wp2_with fail
    refine (HI.out _ _ _ (Own.arg ho)).mono ?_
    rintro e w4 ⟨⟨Q, cq, rfl, hoq⟩, hb4⟩
    have HL := Lib.hid (HL.out.step hb4)
    have SX := Lib.hid (SX.out.step hb4)
    have hB4 := hB3.trans (hb4.mono hB3.size)
    clear hb4 hB3 ho
    have HQN := Lib.hid (Own.le hoq).2
    have SQ := Lib.hid (Arg.stay (Own.arg hoq))
    clear hoq
    go_wp2_with fail
    refine (HO1.out _ HL.out.at_).mono ?_
    rintro e w5 ⟨⟨Y2, d2, rfl, ho⟩, hb5⟩
    have HL := Lib.hid (HL.out.step hb5)
    have SX := Lib.hid (SX.out.step hb5)
    have SQ := Lib.hid (SQ.out.step hb5)
    have hB5 := hB4.trans (hb5.mono hB4.size)
    clear hb5 hB4
    go_wp2_with fail
    refine (HM1.out _ _ _ (Own.arg ho)).mono ?_
    rintro e w6 ⟨⟨M1, m1, rfl, hm1⟩, hb6⟩
    have HL := Lib.hid (HL.out.step hb6)
    have SX := Lib.hid (SX.out.step hb6)
    have SQ := Lib.hid (SQ.out.step hb6)
    have hB6 := hB5.trans (hb6.mono hB5.size)
    clear hb6 hB5 ho
    have SA := Lib.hid (Own.stay hm1)
    clear hm1
    go_wp2_with fail
    refine (HO2.out _ _ HXN.out _ SX.out.at_).mono ?_
    rintro e w7 ⟨⟨Y3, d3, rfl, ho⟩, hb7⟩
    have HL := Lib.hid (HL.out.step hb7)
    have SX := Lib.hid (SX.out.step hb7)
    have SQ := Lib.hid (SQ.out.step hb7)
    have SA := Lib.hid (SA.out.step hb7)
    have hB7 := hB6.trans (hb7.mono hB6.size)
    clear hb7 hB6
    go_wp2_with fail
    refine (HM2.out _ _ _ (Own.arg ho)).mono ?_
    rintro e w8 ⟨⟨M2, m2, rfl, hm2⟩, hb8⟩
    have HL := Lib.hid (HL.out.step hb8)
    have SX := Lib.hid (SX.out.step hb8)
    have SQ := Lib.hid (SQ.out.step hb8)
    have SA := Lib.hid (SA.out.step hb8)
    have hB8 := hB7.trans (hb8.mono hB7.size)
    clear hb8 hB7 ho
    have SB := Lib.hid (Own.stay hm2)
    clear hm2
    go_wp2_with fail
    refine (HO3.out _ _ HQN.out _ SQ.out.at_).mono ?_
    rintro e w9 ⟨⟨Y4, d4, rfl, ho⟩, hb9⟩
    have HL := Lib.hid (HL.out.step hb9)
    have SX := Lib.hid (SX.out.step hb9)
    have SQ := Lib.hid (SQ.out.step hb9)
    have SA := Lib.hid (SA.out.step hb9)
    have SB := Lib.hid (SB.out.step hb9)
    have hB9 := hB8.trans (hb9.mono hB8.size)
    clear hb9 hB8
    go_wp2_with fail
    refine (HM3.out _ _ _ (Own.arg ho)).mono ?_
    rintro e w10 ⟨⟨M3, m3, rfl, hm3⟩, hb10⟩
    have HL := Lib.hid (HL.out.step hb10)
    have SX := Lib.hid (SX.out.step hb10)
    have SQ := Lib.hid (SQ.out.step hb10)
    have SA := Lib.hid (SA.out.step hb10)
    have SB := Lib.hid (SB.out.step hb10)
    have hB10 := hB9.trans (hb10.mono hB9.size)
    clear hb10 hB9 ho
    have SC := Lib.hid (Own.stay hm3)
    clear hm3
    go_wp2_with fail
    refine (HO1.out _ HL.out.at_).mono ?_
    rintro e w11 ⟨⟨Y5, d5, rfl, ho⟩, hb11⟩
    have HL := Lib.hid (HL.out.step hb11)
    have SX := Lib.hid (SX.out.step hb11)
    have SQ := Lib.hid (SQ.out.step hb11)
    have SA := Lib.hid (SA.out.step hb11)
    have SB := Lib.hid (SB.out.step hb11)
    have SC := Lib.hid (SC.out.step hb11)
    have hB11 := hB10.trans (hb11.mono hB10.size)
    clear hb11 hB10
    go_wp2_with fail
    refine (HE1.out _ _ _ (Own.arg ho)).mono ?_
    rintro e w12 ⟨rfl, hb12⟩
    have HL := Lib.hid (HL.out.step hb12)
    have SX := Lib.hid (SX.out.step hb12)
    have SQ := Lib.hid (SQ.out.step hb12)
    have SA := Lib.hid (SA.out.step hb12)
    have SB := Lib.hid (SB.out.step hb12)
    have SC := Lib.hid (SC.out.step hb12)
    have hB12 := hB11.trans (hb12.mono hB11.size)
    clear hb12 hB11 ho
    go_wp2_with fail
    refine (HO2.out _ _ HXN.out _ SX.out.at_).mono ?_
    rintro e w13 ⟨⟨Y6, d6, rfl, ho⟩, hb13⟩
    have HL := Lib.hid (HL.out.step hb13)
    have SX := Lib.hid (SX.out.step hb13)
    have SQ := Lib.hid (SQ.out.step hb13)
    have SA := Lib.hid (SA.out.step hb13)
    have SB := Lib.hid (SB.out.step hb13)
    have SC := Lib.hid (SC.out.step hb13)
    have hB13 := hB12.trans (hb13.mono hB12.size)
    clear hb13 hB12
    go_wp2_with fail
    refine (HE2.out _ _ _ (Own.arg ho)).mono ?_
    rintro e w14 ⟨rfl, hb14⟩
    have HL := Lib.hid (HL.out.step hb14)
    have SX := Lib.hid (SX.out.step hb14)
    have SQ := Lib.hid (SQ.out.step hb14)
    have SA := Lib.hid (SA.out.step hb14)
    have SB := Lib.hid (SB.out.step hb14)
    have SC := Lib.hid (SC.out.step hb14)
    have hB14 := hB13.trans (hb14.mono hB13.size)
    clear hb14 hB13 ho
    go_wp2_with fail
    refine (HO3.out _ _ HQN.out _ SQ.out.at_).mono ?_
    rintro e w15 ⟨⟨Y7, d7, rfl, ho⟩, hb15⟩
    have HL := Lib.hid (HL.out.step hb15)
    have SX := Lib.hid (SX.out.step hb15)
    have SQ := Lib.hid (SQ.out.step hb15)
    have SA := Lib.hid (SA.out.step hb15)
    have SB := Lib.hid (SB.out.step hb15)
    have SC := Lib.hid (SC.out.step hb15)
    have hB15 := hB14.trans (hb15.mono hB14.size)
    clear hb15 hB14
    go_wp2_with fail
    refine (HE3.out _ _ _ (Own.arg ho)).mono ?_
    rintro e w16 ⟨rfl, hb16⟩
    have HL := Lib.hid (HL.out.step hb16)
    have SX := Lib.hid (SX.out.step hb16)
    have SQ := Lib.hid (SQ.out.step hb16)
    have SA := Lib.hid (SA.out.step hb16)
    have SB := Lib.hid (SB.out.step hb16)
    have SC := Lib.hid (SC.out.step hb16)
    have hB16 := hB15.trans (hb16.mono hB15.size)
    clear hb16 hB15 ho
    go_wp2_with fail
    refine (HO1.out _ HL.out.at_).mono ?_
    rintro e w17 ⟨⟨Y8, d8, rfl, ho⟩, hb17⟩
    have HL := Lib.hid (HL.out.step hb17)
    have SX := Lib.hid (SX.out.step hb17)
    have SQ := Lib.hid (SQ.out.step hb17)
    have SA := Lib.hid (SA.out.step hb17)
    have SB := Lib.hid (SB.out.step hb17)
    have SC := Lib.hid (SC.out.step hb17)
    have hB17 := hB16.trans (hb17.mono hB16.size)
    clear hb17 hB16
    go_wp2_with fail
    refine (HZ1.out _ _ _ (Own.arg ho)).mono ?_
    rintro e w18 ⟨⟨Z1, z1, rfl, hz1⟩, hb18⟩
    have HL := Lib.hid (HL.out.step hb18)
    have SX := Lib.hid (SX.out.step hb18)
    have SQ := Lib.hid (SQ.out.step hb18)
    have SA := Lib.hid (SA.out.step hb18)
    have SB := Lib.hid (SB.out.step hb18)
    have SC := Lib.hid (SC.out.step hb18)
    have hB18 := hB17.trans (hb18.mono hB17.size)
    clear hb18 hB17 ho
    have SD := Lib.hid (Own.stay hz1)
    clear hz1
    go_wp2_with fail
    refine (HO3.out _ _ HQN.out _ SQ.out.at_).mono ?_
    rintro e w19 ⟨⟨Y9, d9, rfl, ho⟩, hb19⟩
    have HL := Lib.hid (HL.out.step hb19)
    have SX := Lib.hid (SX.out.step hb19)
    have SQ := Lib.hid (SQ.out.step hb19)
    have SA := Lib.hid (SA.out.step hb19)
    have SB := Lib.hid (SB.out.step hb19)
    have SC := Lib.hid (SC.out.step hb19)
    have SD := Lib.hid (SD.out.step hb19)
    have hB19 := hB18.trans (hb19.mono hB18.size)
    clear hb19 hB18
    go_wp2_with fail
    refine (HZ2.out _ _ _ (Own.arg ho)).mono ?_
    rintro e w20 ⟨⟨Z2, z2, rfl, hz2⟩, hb20⟩
    have HL := Lib.hid (HL.out.step hb20)
    have SX := Lib.hid (SX.out.step hb20)
    have SQ := Lib.hid (SQ.out.step hb20)
    have SA := Lib.hid (SA.out.step hb20)
    have SB := Lib.hid (SB.out.step hb20)
    have SC := Lib.hid (SC.out.step hb20)
    have SD := Lib.hid (SD.out.step hb20)
    have hB20 := hB19.trans (hb20.mono hB19.size)
    clear hb20 hB19 ho
    have SE := Lib.hid (Own.stay hz2)
    clear hz2
    clear HL SX SQ
    go_wp2_with fail
    refine (HSM.out _ _ _ _ _ SA.out.at_.arg SB.out.at_.arg).mono ?_
    rintro e w21 ⟨rfl, hb21⟩
    have SA := Lib.hid (SA.out.step hb21)
    have SB := Lib.hid (SB.out.step hb21)
    have SC := Lib.hid (SC.out.step hb21)
    have SD := Lib.hid (SD.out.step hb21)
    have SE := Lib.hid (SE.out.step hb21)
    have hB21 := hB20.trans (hb21.mono hB20.size)
    clear hb21 hB20
    go_wp2_with fail
    refine (HSM.out _ _ _ _ _ SA.out.at_.arg SC.out.at_.arg).mono ?_
    rintro e w22 ⟨rfl, hb22⟩
    have SA := Lib.hid (SA.out.step hb22)
    have SB := Lib.hid (SB.out.step hb22)
    have SC := Lib.hid (SC.out.step hb22)
    have SD := Lib.hid (SD.out.step hb22)
    have SE := Lib.hid (SE.out.step hb22)
    have hB22 := hB21.trans (hb22.mono hB21.size)
    clear hb22 hB21
    go_wp2_with fail
    refine (HSZ.out _ _ _ _ _ SD.out.at_.arg SE.out.at_.arg).mono ?_
    rintro e w23 ⟨rfl, hb23⟩
    have SA := Lib.hid (SA.out.step hb23)
    have SB := Lib.hid (SB.out.step hb23)
    have SC := Lib.hid (SC.out.step hb23)
    have SD := Lib.hid (SD.out.step hb23)
    have SE := Lib.hid (SE.out.step hb23)
    have hB23 := hB22.trans (hb23.mono hB22.size)
    clear hb23 hB22
    clear SA SB SC SD SE
    go_wp2_with fail
    refine (HK.out _).mono ?_
    rintro e w24 ⟨rfl, hb24⟩
    have hB24 := hB23.trans (hb24.mono hB23.size)
    clear hb24 hB23
    go_wp2
    go_ret
    exact ⟨rfl, hB24⟩

theorem order_law (h : Prg) (l : List Rg.Pt) (hl : l.length ≤ maxLen) (A : Option Addr) (cap : Nat) (hA : A = none → cap = 0) (hcap : l.length ≤ cap) (hcm : cap ≤ maxLen) (t s : Nat) (ht : t < 256) (hs : s < 256) (w : World) (ha : PtE.Arg w A l) :
    Calls Try.prog 8 #[.slice A l.length cap, .int .u8 t, .int .u8 s] w fun e w' => e = .returned (.bool true) ∧ Below w.heap.size w w' := by
  cases hq : (decide (l.length ≤ 6) && Rg.valid l) with
  | false => exact ord_inv h l hl A cap t s ht hs hq w ha
  | true => exact ord_main h l hl A cap hA hcap hcm t s ht hs hq _ _ rfl w ha

end Go.Proofs.Ythagelnimmfhbaa
