/- The walk of the law LexTexts. -/
import Derived.Test.YtkhgmoljhehbnaaDoorF1
namespace Go.Proofs.YtkhgmoljhehbnaaDoor
open Go.RowKit

set_option maxHeartbeats 1000000 in
theorem texts_vast (ts : List LT) (hm : ts.length ≤ maxLen) (hsz : ∀ x ∈ ts, x.text.size ≤ maxLen) (h : vastP ts = true) (A : Option Addr) (cap : Nat) (w : World) (he : Env w) (ht : Arg w A ts) :
    Calls Tryd.prog 7 #[.slice A ts.length cap] w fun e w' => e = .returned (.bool true) ∧ Below w.heap.size w w' := by
  have hv := vast_any ts hm hsz A cap w ht
  rw [h] at hv
  have HV := Lib.hid hv
  have HK := Lib.hid (fun W hE => known_any W hE)
  have HE := Lib.hid he
  clear he hv ht hsz
  go_enter Tryd.func7, Tryd.ntmps7
  go_wp2_with fail
  refine HV.out.mono ?_
  rintro e w1 ⟨rfl, rfl⟩
  go_wp2_with fail
  refine (HK.out _ HE.out).mono ?_
  rintro e w1 ⟨rfl, hb⟩
  go_wp2
  go_ret
  exact ⟨rfl, hb⟩

set_option maxRecDepth 100000 in
set_option maxHeartbeats 4000000 in
theorem texts_small (ts : List LT) (hm : ts.length ≤ maxLen) (hsz0 : ∀ x ∈ ts, x.text.size ≤ maxLen) (hkd : ∀ x ∈ ts, x.kind < 256) (h : vastP ts = false) (A : Option Addr) (cap : Nat) (hA : A = none → cap = 0) (w : World) (he : Env w) (ht : Arg w A ts) :
    Calls Tryd.prog 7 #[.slice A ts.length cap] w fun e w' => e = .returned (.bool true) ∧ Below w.heap.size w w' := by
  obtain ⟨_, hn, hs60⟩ := vastP_false h
  have hsz : ∀ x ∈ ts, x.text.size ≤ 2500 := fun x hx => by have := hs60 x hx; omega
  have hv := vast_any ts hm hsz0 A cap w ht
  rw [h] at hv
  have how := fun W hT => own_any ts (by omega) A cap hA W hT
  have htx := fun A' c W hE hT => lexText_any ts hsz (by omega) A' c W hE hT
  have hrt := fun W hT => refText_any ts hsz hkd (by omega) A cap W hT
  have hsm := fun A1 c1 A2 c2 W h1 h2 => same_any ts (by omega) A1 A2 c1 c2 W h1 h2
  generalize writeP ts = R at htx hrt
  generalize hX : (⟨R.1.toArray⟩ : ByteArray) = X at htx hrt
  generalize R.2 = er at htx hrt
  clear hX
  have HV := Lib.hid hv
  have HOW := Lib.hid how
  have HTX := Lib.hid htx
  have HRT := Lib.hid hrt
  have HSM := Lib.hid hsm
  have HK := Lib.hid (fun W hE => known_any W hE)
  have HE := Lib.hid he
  have HT := Lib.hid ht
  clear he hv ht hsz hsz0 how htx hrt hsm hs60 hkd h
  go_enter Tryd.func7, Tryd.ntmps7
  go_wp2_with fail
  refine HV.out.mono ?_
  rintro e w1 ⟨rfl, rfl⟩
  go_wp2_with fail
  refine (HOW.out _ HT.out).mono ?_
  rintro e w1 ⟨⟨A1, c1, rfl, hown⟩, hb1⟩
  have HE1 := Lib.hid (HE.out.below hb1 HE.out.lt)
  have HT1 := Lib.hid (HT.out.below hb1)
  have ho1 := hown.arg
  have HO1 := Lib.hid ho1
  clear hown ho1
  go_wp2_with fail
  refine (HTX.out _ _ _ HE1.out HO1.out).mono ?_
  rintro e w2 ⟨rfl, hb2⟩
  have HE2 := Lib.hid (HE1.out.below hb2 HE1.out.lt)
  have HT2 := Lib.hid (HT1.out.below hb2)
  have HO2 := Lib.hid (HO1.out.below hb2)
  have hB2 := hb1.trans (hb2.mono hb1.size)
  clear HE HE1 HT HT1 HO1
  go_wp2_with fail
  refine (HRT.out _ HT2.out).mono ?_
  rintro e w3 ⟨rfl, hb3⟩
  have HE3 := Lib.hid (HE2.out.below hb3 HE2.out.lt)
  have HT3 := Lib.hid (HT2.out.below hb3)
  have HO3 := Lib.hid (HO2.out.below hb3)
  have hB3 := hB2.trans (hb3.mono hB2.size)
  clear HE2 HT2 HO2 hb1 hb2 hb3 hB2
  go_wp2_with fail
  refine (HSM.out _ _ _ _ _ HO3.out HT3.out).mono ?_
  rintro e w4 ⟨rfl, hb4⟩
  have HE4 := Lib.hid (HE3.out.below hb4 HE3.out.lt)
  have hB4 := hB3.trans (hb4.mono hB3.size)
  clear hb4 hB3 HE3
  go_wp2_with fail
  refine (HK.out _ HE4.out).mono ?_
  rintro e w5 ⟨rfl, hb5⟩
  go_wp2
  go_ret
  exact ⟨rfl, hB4.trans (hb5.mono hB4.size)⟩

theorem texts_any (ts : List LT) (hm : ts.length ≤ maxLen) (hsz : ∀ x ∈ ts, x.text.size ≤ maxLen) (hkd : ∀ x ∈ ts, x.kind < 256) (A : Option Addr) (cap : Nat) (hA : A = none → cap = 0) (w : World) (he : Env w) (ht : Arg w A ts) :
    Calls Tryd.prog 7 #[.slice A ts.length cap] w fun e w' => e = .returned (.bool true) ∧ Below w.heap.size w w' := by
  cases h : vastP ts with
  | true => exact texts_vast ts hm hsz h A cap w he ht
  | false => exact texts_small ts hm hsz hkd h A cap hA w he ht

end Go.Proofs.YtkhgmoljhehbnaaDoor
