/- The walks of every and (vocabulary).write. -/
import Derived.Test.YtkhgmoljhehbnaaDoorB4
namespace Go.Proofs.YtkhgmoljhehbnaaDoor
open Go.RowKit

def rightL (x : LT) : Bool := rightB x.kind x.text
theorem right_ex (k : Nat) (t : ByteArray) (a : Int) (hs : t.size ≤ 281474976710656) (bm bs : Nat) (w : World) (hv : Voc w bm bs) (he : Env w) :
    Calls Tryd.prog 56 #[.agg #[.map (some bm), .slice (some ⟨bs, 0, none⟩) 26 26], .agg #[.int .u8 k, .string t, .int .i64 a]] w fun e w' => e = .returned (.bool (rightB k t)) ∧ Below w.heap.size w w' :=
  right_any k t a hs bm bs w hv he

set_option maxRecDepth 100000 in
set_option maxHeartbeats 2000000 in
theorem every_any (ts : List LT) (hsz : ∀ x ∈ ts, x.text.size ≤ 281474976710656) (hn : ts.length ≤ 3000000) (bm bs blk off cap : Nat) (w : World) (hv : Voc w bm bs) (he : Env w) (ht : ToksIn w blk off ts) :
    Calls Tryd.prog 85 #[.slice (some ⟨blk, off, none⟩) ts.length cap, .func (.func 56) #[.agg #[.map (some bm), .slice (some ⟨bs, 0, none⟩) 26 26]] #[]] w fun e w' => e = .returned (.bool (ts.all rightL)) ∧ Below w.heap.size w w' := by
  have HV := Lib.hid hv
  have HE := Lib.hid he
  have HT := Lib.hid ht
  have HS := Lib.hid hsz
  have hblk : ts ≠ [] → blk < w.heap.size := fun h => ht.lt h
  clear hv he ht hsz
  go_enter Tryd.func85, Tryd.ntmps85
  go_wp2_with fail
  go_loopw [9] (fun a wr => ∃ k : Nat, k ≤ ts.length ∧ a = .int .i64 k ∧ Hid ((ts.take k).all rightL = true) ∧ Below w.heap.size w wr) (fun a _ => ts.length - (intOf a).toNat)
  case atStart => exact ⟨0, Nat.zero_le _, rfl, Lib.hid (by simp), Below.refl _ _⟩
  case round =>
    obtain ⟨k, hk, rfl, HK, hbw⟩ := hrel
    have hzw := hbw.size
    by_cases hlt : k < ts.length
    · have hlt' : (k : Int) < ts.length := by omega
      obtain ⟨x, hx⟩ : ∃ x, ts[k]? = some x := ⟨_, List.getElem?_eq_getElem hlt⟩
      obtain ⟨x0, x1, x2⟩ := (HT.out.below hbw hblk) k x hx
      have hr := fun W hV hE => right_ex x.kind x.text x.at_ (HS.out x (List.mem_of_getElem? hx)) bm bs W hV hE
      have htake : Hid (∀ q, rightL x = q → (ts.take (k + 1)).all rightL = q) := by
        show ∀ q, _ → _
        intro q hq
        have hk' := HK.out
        rw [List.take_add_one, hx, List.all_append, hk']
        simp [hq]
      have hfin : Hid (rightL x = false → ts.all rightL = false) := by
        show _ → _
        intro hq
        rw [List.all_eq_false]
        exact ⟨x, List.mem_of_getElem? hx, by simp [hq]⟩
      have hrl : rightB x.kind x.text = rightL x := rfl
      rw [hrl] at hr
      generalize rightL x = q at hr htake hfin
      have HR := Lib.hid hr
      have VV := Lib.hid ((HV.out.below hbw).alloc (.cells #[.int .u8 x.kind, .string x.text, .int .i64 x.at_] 47))
      have EE := Lib.hid ((HE.out.below hbw HE.out.lt).alloc (.cells #[.int .u8 x.kind, .string x.text, .int .i64 x.at_] 47))
      clear hr hx hrl
      go_wp2_with fail
      refine (HR.out _ VV.out EE.out).mono ?_
      rintro e w2 ⟨rfl, hb2⟩
      have hb : Below w.heap.size w w2 := (hbw.alloc (by omega) _).trans (hb2.mono (by simp; omega))
      cases q with
      | false =>
        have HF := Lib.hid (hfin.out rfl)
        clear htake hfin hb2 x0 x1 x2
        go_wp2
        go_ret
        exact ⟨by rw [HF.out]; rfl, hb⟩
      | true =>
        have HF := Lib.hid (htake.out true rfl)
        clear htake hfin hb2 x0 x1 x2
        go_wp2_with fail
        go_roundw
        case rel => exact ⟨k + 1, by omega, by go_num, HF, hb⟩
        case measure => simp [intOf]; omega
    · have hlt' : ¬ (k : Int) < ts.length := by omega
      have hkn : k = ts.length := by omega
      have hall := HK.out
      rw [hkn, List.take_length] at hall
      have HA := Lib.hid hall
      clear hall
      go_wp2
      go_ret
      exact ⟨by rw [HA.out]; rfl, hbw⟩

set_option maxRecDepth 100000 in
theorem every_empty (v : Value) (A : Option Addr) (cap : Nat) (w : World) :
    Calls Tryd.prog 85 #[.slice A 0 cap, v] w fun e w' => e = .returned (.bool true) ∧ w' = w := by
  go_enter Tryd.func85, Tryd.ntmps85
  go_wp2_with fail
  go_loopw [9] (fun a wr => a = .int .i64 0 ∧ wr = w) (fun _ _ => 0)
  case atStart => exact ⟨rfl, rfl⟩
  case round =>
    obtain ⟨rfl, rfl⟩ := hrel
    go_wp2
    go_ret
    exact ⟨rfl, rfl⟩

/-- a list of tokens as an argument -/
structure Arg (w : World) (A : Option Addr) (ts : List LT) : Prop where
  at_ : ts ≠ [] → ∃ blk off, A = some ⟨blk, off, none⟩ ∧ ToksIn w blk off ts
theorem Arg.below {w w' : World} {A : Option Addr} {ts : List LT} (h : Arg w A ts) (hb : Below w.heap.size w w') : Arg w' A ts :=
  ⟨fun hne => by obtain ⟨blk, off, h1, h2⟩ := h.at_ hne; exact ⟨blk, off, h1, h2.below hb (fun h => h2.lt h)⟩⟩

theorem every_arg (ts : List LT) (hsz : ∀ x ∈ ts, x.text.size ≤ 2500) (hn : ts.length ≤ 3000000) (bm bs : Nat) (A : Option Addr) (cap : Nat) (w : World) (hv : Voc w bm bs) (he : Env w) (ht : Arg w A ts) :
    Calls Tryd.prog 85 #[.slice A ts.length cap, .func (.func 56) #[.agg #[.map (some bm), .slice (some ⟨bs, 0, none⟩) 26 26]] #[]] w fun e w' => e = .returned (.bool (ts.all rightL)) ∧ Below w.heap.size w w' := by
  by_cases hne : ts = []
  · subst hne
    refine (every_empty _ A cap w).mono ?_
    rintro e w' ⟨rfl, rfl⟩
    exact ⟨rfl, Below.refl _ _⟩
  · obtain ⟨blk, off, rfl, hin⟩ := ht.at_ hne
    exact every_any ts (fun x hx => by have := hsz x hx; omega) hn bm bs blk off cap w hv he hin

theorem bareP_small (ts : List LT) (hsz : ∀ x ∈ ts, x.text.size ≤ 2500) (hn : ts.length ≤ 900) : (bareP ts).length ≤ 3000000 := by
  have h := bareN_small 2500 ts hsz ts.length
  have h3 : ts.length * (2500 + 1) ≤ 900 * 2501 := Nat.mul_le_mul_right _ hn
  unfold bareP
  omega

theorem bare_arg (ts : List LT) (hsz : ∀ x ∈ ts, x.text.size ≤ 2500) (hn : ts.length ≤ 900) (bm bs : Nat) (A : Option Addr) (cap : Nat) (w : World) (hv : Voc w bm bs) (he : Env w) (ht : Arg w A ts) :
    Calls Tryd.prog 47 #[.agg #[.map (some bm), .slice (some ⟨bs, 0, none⟩) 26 26], .slice A ts.length cap] w fun e w' => e = .returned (.string ⟨(bareP ts).toArray⟩) ∧ Below w.heap.size w w' := by
  by_cases hne : ts = []
  · subst hne
    exact bare_empty _ _ _ A cap w
  · obtain ⟨blk, off, rfl, hin⟩ := ht.at_ hne
    exact bare_any ts (bareP_small ts hsz hn) (by omega) bm bs blk off cap w hv he hin hne

/-- write, plainly -/
def writeP (ts : List LT) : Lx.B × Nat :=
  if 900 < ts.length then ([], 5) else if ts.all rightL = false then ([], 4) else if 2500 < (bareP ts).length then ([], 5) else (bareP ts, 0)

set_option maxRecDepth 100000 in
set_option maxHeartbeats 2000000 in
theorem write_any (ts : List LT) (hsz : ∀ x ∈ ts, x.text.size ≤ 2500) (hn : ts.length ≤ 3000000) (bm bs : Nat) (A : Option Addr) (cap : Nat) (w : World) (hv : Voc w bm bs) (he : Env w) (ht : Arg w A ts) :
    Calls Tryd.prog 59 #[.agg #[.map (some bm), .slice (some ⟨bs, 0, none⟩) 26 26], .slice A ts.length cap] w fun e w' => e = .returned (.tuple #[.string ⟨(writeP ts).1.toArray⟩, .int .i64 ((writeP ts).2 : Nat)]) ∧ Below w.heap.size w w' := by
  by_cases h9 : 900 < ts.length
  · have HW : Hid (writeP ts = ([], 5)) := by show _ = _; unfold writeP; rw [if_pos h9]
    have h9' : (900 : Int) < ts.length := by omega
    clear hsz hv he ht
    go_enter Tryd.func59, Tryd.ntmps59
    go_wp2
    go_ret2
    exact ⟨by rw [HW.out]; rfl, (Below.refl _ _).alloc (Nat.le_refl _) _⟩
  · have h9' : ¬ (900 : Int) < ts.length := by omega
    have hev := fun W hV hE hT => every_arg ts hsz hn bm bs A cap W hV hE hT
    have hba := fun W hV hE hT => bare_arg ts hsz (by omega) bm bs A cap W hV hE hT
    have hbl := bareP_small ts hsz (by omega)
    have hwp : writeP ts = if ts.all rightL = false then ([], 5 - 1) else if 2500 < (bareP ts).length then ([], 5) else (bareP ts, 0) := by unfold writeP; rw [if_neg h9]
    generalize writeP ts = R at hwp ⊢
    generalize ts.all rightL = q at hev hwp
    generalize bareP ts = tx at hba hbl hwp
    have HEV := Lib.hid hev
    have HBA := Lib.hid hba
    have HV := Lib.hid hv
    have HE := Lib.hid he
    have HT := Lib.hid ht
    have hb0 : Below w.heap.size w (w.alloc (vocObj bm bs)) := (Below.refl _ _).alloc (Nat.le_refl _) _
    clear hev hba hv he ht hsz
    have htz : (ByteArray.size ⟨tx.toArray⟩) = tx.length := by simp [ByteArray.size]
    cases q with
    | false =>
      rw [if_pos rfl] at hwp
      have HW := Lib.hid hwp
      clear hwp HBA
      go_enter Tryd.func59, Tryd.ntmps59
      go_wp2_with fail
      refine (HEV.out _ (HV.out.alloc _) (HE.out.alloc _) (HT.out.below hb0)).mono ?_
      rintro e w1 ⟨rfl, hb1⟩
      go_wp2
      go_ret2
      exact ⟨by rw [HW.out]; rfl, hb0.trans (hb1.mono (by simp))⟩
    | true =>
      rw [if_neg (by simp)] at hwp
      by_cases h25 : 2500 < tx.length
      · rw [if_pos h25] at hwp
        have HW := Lib.hid hwp
        have h25' : (2500 : Int) < tx.length := by omega
        clear hwp
        go_enter Tryd.func59, Tryd.ntmps59
        go_wp2_with fail
        refine (HEV.out _ (HV.out.alloc _) (HE.out.alloc _) (HT.out.below hb0)).mono ?_
        rintro e w1 ⟨rfl, hb1⟩
        obtain ⟨v0, v1⟩ := (VocAt.new w bm bs).below hb1 (by simp)
        have hb01 := hb0.trans (hb1.mono (by simp))
        have HV1 := Lib.hid (HV.out.below hb01)
        have HE1 := Lib.hid (HE.out.below hb01 HE.out.lt)
        have HT1 := Lib.hid (HT.out.below hb01)
        have hz1 := hb01.size
        clear hb1
        go_wp2_with fail
        refine (HBA.out _ HV1.out HE1.out HT1.out).mono ?_
        rintro e w2 ⟨rfl, hb2⟩
        go_wp2
        go_ret2
        exact ⟨by rw [HW.out]; rfl, hb01.trans (hb2.mono hz1)⟩
      · rw [if_neg h25] at hwp
        have HW := Lib.hid hwp
        have h25' : ¬ (2500 : Int) < tx.length := by omega
        clear hwp
        go_enter Tryd.func59, Tryd.ntmps59
        go_wp2_with fail
        refine (HEV.out _ (HV.out.alloc _) (HE.out.alloc _) (HT.out.below hb0)).mono ?_
        rintro e w1 ⟨rfl, hb1⟩
        obtain ⟨v0, v1⟩ := (VocAt.new w bm bs).below hb1 (by simp)
        have hb01 := hb0.trans (hb1.mono (by simp))
        have HV1 := Lib.hid (HV.out.below hb01)
        have HE1 := Lib.hid (HE.out.below hb01 HE.out.lt)
        have HT1 := Lib.hid (HT.out.below hb01)
        have hz1 := hb01.size
        clear hb1
        go_wp2_with fail
        refine (HBA.out _ HV1.out HE1.out HT1.out).mono ?_
        rintro e w2 ⟨rfl, hb2⟩
        go_wp2
        go_ret2
        exact ⟨by rw [HW.out]; rfl, hb01.trans (hb2.mono hz1)⟩

end Go.Proofs.YtkhgmoljhehbnaaDoor
