/- The walks of the reference's AreRight and Text. -/
import Derived.Test.YtkhgmoljhehbnaaDoorE1
import Derived.Test.YtkhgmoljhehbnaaDoorL5
namespace Go.Proofs.YtkhgmoljhehbnaaDoor
open Go.RowKit

set_option maxRecDepth 100000 in
set_option maxHeartbeats 2000000 in
theorem refAreRight_at (ts : List LT) (hsz : ∀ x ∈ ts, x.text.size ≤ 281474976710656) (hkd : ∀ x ∈ ts, x.kind < 256) (hn : ts.length ≤ 3000000) (blk off cap : Nat) (w : World) (ht : ToksIn w blk off ts) :
    Calls Tryd.prog 50 #[.slice (some ⟨blk, off, none⟩) ts.length cap] w fun e w' => e = .returned (.bool (ts.all rightL)) ∧ Below w.heap.size w w' := by
  have HT := Lib.hid ht
  have HS := Lib.hid hsz
  have HK := Lib.hid hkd
  have hblk : ts ≠ [] → blk < w.heap.size := fun h => ht.lt h
  clear ht hsz hkd
  go_enter Tryd.func50, Tryd.ntmps50
  go_wp2_with fail
  go_loopw [3] (fun a wr => ∃ k : Nat, k ≤ ts.length ∧ a = .int .i64 k ∧ Hid ((ts.take k).all rightL = true) ∧ Below w.heap.size w wr) (fun a _ => ts.length - (intOf a).toNat)
  case atStart => exact ⟨0, Nat.zero_le _, rfl, Lib.hid (by simp), Below.refl _ _⟩
  case round =>
    obtain ⟨k, hk, rfl, HJ, hbw⟩ := hrel
    have hzw := hbw.size
    by_cases hlt : k < ts.length
    · have hlt' : (k : Int) < ts.length := by omega
      obtain ⟨x, hx⟩ : ∃ x, ts[k]? = some x := ⟨_, List.getElem?_eq_getElem hlt⟩
      obtain ⟨x0, x1, x2⟩ := (HT.out.below hbw hblk) k x hx
      have hr := fun W => refIsRight_any x.kind (HK.out x (List.mem_of_getElem? hx)) x.text x.at_ (HS.out x (List.mem_of_getElem? hx)) W
      have htake : Hid (∀ q, rightL x = q → (ts.take (k + 1)).all rightL = q) := by
        show ∀ q, _ → _
        intro q hq
        have hk' := HJ.out
        rw [List.take_add_one, hx, List.all_append, hk']
        simp [hq]
      have hfin : Hid (rightL x = false → ts.all rightL = false) := by
        show _ → _
        intro hq
        rw [List.all_eq_false]
        exact ⟨x, List.mem_of_getElem? hx, by simp [hq]⟩
      have hrl : rightB x.kind x.text = rightL x := rfl
      rw [hrl] at hr
      generalize rightL x = q at hr htake hfin
      have HR := Lib.hid hr
      clear hr hx hrl
      go_wp2_with fail
      refine (HR.out _).mono ?_
      rintro e w2 ⟨rfl, hb2⟩
      have hb : Below w.heap.size w w2 := hbw.trans (hb2.mono hzw)
      cases q with
      | false =>
        have HF := Lib.hid (hfin.out rfl)
        clear htake hfin hb2 x0 x1 x2
        go_wp2
        go_ret
        exact ⟨by rw [HF.out]; rfl, hb⟩
      | true =>
        have HF := Lib.hid (htake.out true rfl)
        clear htake hfin hb2 x0 x1 x2
        go_wp2_with fail
        go_roundw
        case rel => exact ⟨k + 1, by omega, by go_num, HF, hb⟩
        case measure => simp [intOf]; omega
    · have hlt' : ¬ (k : Int) < ts.length := by omega
      have hkn : k = ts.length := by omega
      have hall := HJ.out
      rw [hkn, List.take_length] at hall
      have HA := Lib.hid hall
      clear hall
      go_wp2
      go_ret
      exact ⟨by rw [HA.out]; rfl, hbw⟩

set_option maxRecDepth 100000 in
theorem refAreRight_none (A : Option Addr) (cap : Nat) (w : World) :
    Calls Tryd.prog 50 #[.slice A 0 cap] w fun e w' => e = .returned (.bool true) ∧ w' = w := by
  go_enter Tryd.func50, Tryd.ntmps50
  go_wp2_with fail
  go_loopw [3] (fun a wr => a = .int .i64 0 ∧ wr = w) (fun _ _ => 0)
  case atStart => exact ⟨rfl, rfl⟩
  case round =>
    obtain ⟨rfl, rfl⟩ := hrel
    go_wp2
    go_ret
    exact ⟨rfl, rfl⟩

theorem refAreRight_any (ts : List LT) (hsz : ∀ x ∈ ts, x.text.size ≤ 2500) (hkd : ∀ x ∈ ts, x.kind < 256) (hn : ts.length ≤ 3000000) (A : Option Addr) (cap : Nat) (w : World) (ht : Arg w A ts) :
    Calls Tryd.prog 50 #[.slice A ts.length cap] w fun e w' => e = .returned (.bool (ts.all rightL)) ∧ Below w.heap.size w w' := by
  by_cases hne : ts = []
  · subst hne
    refine (refAreRight_none A cap w).mono ?_
    rintro e w' ⟨rfl, rfl⟩
    exact ⟨rfl, Below.refl _ _⟩
  · obtain ⟨blk, off, rfl, hin⟩ := ht.at_ hne
    exact refAreRight_at ts (fun x hx => by have := hsz x hx; omega) hkd hn blk off cap w hin

theorem bareN_first (ts : List LT) (x : LT) (hx : ts[0]? = some x) : bareN ts 1 = x.text.data.toList := by
  simp [bareN, sepAt, txtAt, hx]
theorem bareN_next (ts : List LT) (j : Nat) (x y : LT) (hx : ts[j]? = some x) (hy : ts[j + 1]? = some y) : bareN ts (j + 1 + 1) = bareN ts (j + 1) ++ (if apartB x.kind x.text y.text then [32] else []) ++ y.text.data.toList := by
  rw [bareN]; simp [sepAt, txtAt, hx, hy]

set_option maxRecDepth 100000 in
set_option maxHeartbeats 2000000 in
/-- the texts put one behind the other -/
theorem refText_all (ts : List LT) (hsz : ∀ x ∈ ts, x.text.size ≤ 2500) (hkd : ∀ x ∈ ts, x.kind < 256) (h9 : ts.length ≤ 900) (hall : ts.all rightL = true) (blk off cap : Nat) (w : World) (ht : ToksIn w blk off ts) :
    Calls Tryd.prog 23 #[.slice (some ⟨blk, off, none⟩) ts.length cap] w fun e w' => e = .returned (.tuple #[.string ⟨(writeP ts).1.toArray⟩, .int .i64 ((writeP ts).2 : Nat)]) ∧ Below w.heap.size w w' := by
  have h9' : ¬ (900 : Int) < ts.length := by omega
  have hwp : writeP ts = if 2500 < (bareP ts).length then ([], 5) else (bareP ts, 0) := by unfold writeP; rw [if_neg (by omega), hall, if_neg (by simp)]
  have har := fun W hT => refAreRight_any ts hsz hkd (by omega) (some ⟨blk, off, none⟩) cap W hT
  rw [hall] at har
  have hbl := bareP_small ts hsz h9
  have hap : ∀ j x y, ts[j]? = some x → ts[j + 1]? = some y → ∀ W, Calls Tryd.prog 31 #[.agg #[.int .u8 x.kind, .string x.text, .int .i64 x.at_], .agg #[.int .u8 y.kind, .string y.text, .int .i64 y.at_]] W fun e w' => e = .returned (.bool (apartB x.kind x.text y.text)) ∧ Below W.heap.size W w' := by
    intro j x y hx hy W
    have mx := List.mem_of_getElem? hx
    have my := List.mem_of_getElem? hy
    have sx := hsz x mx
    have sy := hsz y my
    have rx : rightB x.kind x.text = true := (List.all_eq_true.1 hall) x mx
    have ry : rightB y.kind y.text = true := (List.all_eq_true.1 hall) y my
    have := refApart_any x.kind y.kind x.text y.text x.at_ y.at_ (by omega) W
    rwa [apart_eq rx ry] at this
  have HAP := Lib.hid hap
  have HAR := Lib.hid har
  have HWP := Lib.hid hwp
  have HT := Lib.hid ht
  have HS := Lib.hid hsz
  have HB := Lib.hid hbl
  have hblk : ts ≠ [] → blk < w.heap.size := fun h => ht.lt h
  have HARG : Hid (Arg w (some ⟨blk, off, none⟩) ts) := ⟨fun _ => ⟨blk, off, rfl, ht⟩⟩
  clear ht hsz hkd hap har hwp hall hbl
  generalize writeP ts = R at HWP ⊢
  go_enter Tryd.func23, Tryd.ntmps23
  go_wp2_with fail
  refine (HAR.out _ HARG.out).mono ?_
  rintro e w1 ⟨rfl, hb1⟩
  have hz1 := hb1.size
  go_wp2_with fail
  go_loopw [4, 5] (fun o i wr => ∃ (k : Nat) (B : ByteArray), k ≤ ts.length ∧ i = .int .i64 k ∧ o = .string B ∧ Hid (B.data.toList = bareN ts k) ∧ Below w.heap.size w wr) (fun _ i _ => ts.length - (intOf i).toNat)
  case atStart => exact ⟨0, _, Nat.zero_le _, rfl, rfl, Lib.hid rfl, hb1⟩
  case round =>
    obtain ⟨k, B, hk, rfl, rfl, HJ, hbw⟩ := hrel
    have hzw := hbw.size
    by_cases hlt : k < ts.length
    · have hlt' : (k : Int) < ts.length := by omega
      obtain ⟨y, hy⟩ : ∃ y, ts[k]? = some y := ⟨_, List.getElem?_eq_getElem hlt⟩
      obtain ⟨y0, y1, y2⟩ := (HT.out.below hbw hblk) k y hy
      have hsy := HS.out y (List.mem_of_getElem? hy)
      have hBs : B.size ≤ 3000000 := by
        have h1 := bareN_le ts ts.length k hk
        have h2 := HB.out
        have h3 := congrArg List.length HJ.out
        rw [← Lib.size_eq] at h3
        unfold bareP at h2
        omega
      by_cases hkz : k = 0
      · subst hkz
        have HN : Hid ((B ++ y.text).data.toList = bareN ts (0 + 1)) := by
          show _ = _
          rw [append_data, HJ.out, bareN_first ts y hy]; rfl
        clear hy
        have hsum : B.size + y.text.size ≤ 281474976710656 := by omega
        simp only [Nat.zero_mul, Nat.add_zero] at y0 y1 y2
        go_wp2_with fail
        go_region
        go_wp2_with fail
        go_roundw
        case rel => exact ⟨0 + 1, B ++ y.text, by omega, by go_num, rfl, HN, hbw.drew⟩
        case measure => simp [intOf]; omega
      · obtain ⟨j, hkj⟩ : ∃ j, k = j + 1 := ⟨k - 1, by omega⟩
        obtain ⟨x, hx⟩ : ∃ x, ts[j]? = some x := ⟨_, List.getElem?_eq_getElem (by omega)⟩
        obtain ⟨x0, x1, x2⟩ := (HT.out.below hbw hblk) j x hx
        have hy' := hy
        rw [hkj] at hy'
        have hbn := bareN_next ts j x y hx hy'
        have ha := HAP.out j x y hx hy'
        rw [← hkj] at hbn
        generalize apartB x.kind x.text y.text = q at ha hbn
        have HA := Lib.hid ha
        have hs1 : (k : Int) - 1 = j := by omega
        have hj0 : (0 : Int) ≤ j := by omega
        have hj1 : (j : Int) < ts.length := by omega
        have hj2 : j < ts.length := by omega
        have hjm : (j : Int) ≤ 9223372036854775807 := by omega
        have hwr : IntKind.i64.wrap (j : Int) = j := by rw [IntKind.wrap_i64]; omega
        have hk0 : (0 : Int) < (k : Int) := by omega
        have hkn : 0 < k := by omega
        have hkb : decide ((0 : Int) < (k : Int)) = true := by simp [hkn]
        have hkz' : ¬ (k : Int) ≤ 0 := by omega
        have hbl : blk < wr.drew.heap.size := lt_of_cell x0
        clear hx hy hy' ha hkj
        cases q with
        | false =>
          have HN : Hid ((B ++ y.text).data.toList = bareN ts (k + 1)) := by
            show _ = _
            rw [append_data, HJ.out, hbn]; simp
          clear hbn
          have hsum : B.size + y.text.size ≤ 281474976710656 := by omega
          go_wp2_with fail
          go_region_held3 (fun W => W.cell? ⟨blk, off + j * 3, none⟩ = some (.int .u8 x.kind) ∧ W.cell? ⟨blk, off + j * 3 + 1, none⟩ = some (.string x.text) ∧ W.cell? ⟨blk, off + j * 3 + 2, none⟩ = some (.int .i64 x.at_) ∧ W.cell? ⟨blk, off + k * 3, none⟩ = some (.int .u8 y.kind) ∧ W.cell? ⟨blk, off + k * 3 + 1, none⟩ = some (.string y.text) ∧ W.cell? ⟨blk, off + k * 3 + 2, none⟩ = some (.int .i64 y.at_))
            (first
              | exact ⟨x0, x1, x2, y0, y1, y2⟩
              | exact ⟨((bcell hb2).1 _ _ hbl).trans x0, ((bcell hb2).1 _ _ hbl).trans x1, ((bcell hb2).1 _ _ hbl).trans x2, ((bcell hb2).1 _ _ hbl).trans y0, ((bcell hb2).1 _ _ hbl).trans y1, ((bcell hb2).1 _ _ hbl).trans y2⟩)
            ((first
              | (go_at_call 31; refine (HA.out wr.drew).mono ?_; rintro e w2 ⟨rfl, hb2⟩)))
          have hb : Below w.heap.size w w2 := hbw.drew.trans (hb2.mono hzw)
          have y1' := ((bcell hb2).1 _ _ hbl).trans y1
          clear x0 x1 x2 y0 y1 y2
          go_wp2_with fail
          go_roundw
          case rel => exact ⟨k + 1, B ++ y.text, by omega, by go_num, rfl, HN, hb⟩
          case measure => simp [intOf]; omega
        | true =>
          have HN : Hid ((B ++ ⟨#[32]⟩ ++ y.text).data.toList = bareN ts (k + 1)) := by
            show _ = _
            rw [append_data, append_data, HJ.out, hbn]; simp
          clear hbn
          have hsum1 : B.size + (⟨#[32]⟩ : ByteArray).size ≤ 281474976710656 := by have : (⟨#[32]⟩ : ByteArray).size = 1 := rfl; omega
          have hsum : (B ++ ⟨#[32]⟩).size + y.text.size ≤ 281474976710656 := by have : (⟨#[32]⟩ : ByteArray).size = 1 := rfl; rw [ByteArray.size_append]; omega
          go_wp2_with fail
          go_region_held3 (fun W => W.cell? ⟨blk, off + j * 3, none⟩ = some (.int .u8 x.kind) ∧ W.cell? ⟨blk, off + j * 3 + 1, none⟩ = some (.string x.text) ∧ W.cell? ⟨blk, off + j * 3 + 2, none⟩ = some (.int .i64 x.at_) ∧ W.cell? ⟨blk, off + k * 3, none⟩ = some (.int .u8 y.kind) ∧ W.cell? ⟨blk, off + k * 3 + 1, none⟩ = some (.string y.text) ∧ W.cell? ⟨blk, off + k * 3 + 2, none⟩ = some (.int .i64 y.at_))
            (first
              | exact ⟨x0, x1, x2, y0, y1, y2⟩
              | exact ⟨((bcell hb2).1 _ _ hbl).trans x0, ((bcell hb2).1 _ _ hbl).trans x1, ((bcell hb2).1 _ _ hbl).trans x2, ((bcell hb2).1 _ _ hbl).trans y0, ((bcell hb2).1 _ _ hbl).trans y1, ((bcell hb2).1 _ _ hbl).trans y2⟩)
            ((first
              | (go_at_call 31; refine (HA.out wr.drew).mono ?_; rintro e w2 ⟨rfl, hb2⟩)))
          have hb : Below w.heap.size w w2 := hbw.drew.trans (hb2.mono hzw)
          have y1' := ((bcell hb2).1 _ _ hbl).trans y1
          clear x0 x1 x2 y0 y1 y2
          go_wp2_with fail
          go_roundw
          case rel => exact ⟨k + 1, B ++ ⟨#[32]⟩ ++ y.text, by omega, by go_num, rfl, HN, hb⟩
          case measure => simp [intOf]; omega
    · have hlt' : ¬ (k : Int) < ts.length := by omega
      have hkn : k = ts.length := by omega
      have HBP : Hid (B.data.toList = bareP ts) := Lib.hid (by rw [HJ.out, hkn]; rfl)
      have hBl : B.size = (bareP ts).length := by rw [← HBP.out]; exact Lib.size_eq B
      by_cases h25 : 2500 < B.size
      · have h25' : (2500 : Int) < B.size := by omega
        have HR : Hid (R = ([], 5)) := Lib.hid (by rw [HWP.out, if_pos (by omega)])
        clear hBl
        go_wp2
        go_ret2
        exact ⟨by rw [HR.out]; rfl, hbw⟩
      · have h25' : ¬ (2500 : Int) < B.size := by omega
        have HR : Hid (R = (bareP ts, 0)) := Lib.hid (by rw [HWP.out, if_neg (by omega)])
        clear hBl
        go_wp2
        go_ret2
        exact ⟨by rw [HR.out, ← HBP.out]; rfl, hbw⟩

set_option maxHeartbeats 1000000 in
theorem refText_many (ts : List LT) (h9 : 900 < ts.length) (hn : ts.length ≤ 3000000) (A : Option Addr) (cap : Nat) (w : World) :
    Calls Tryd.prog 23 #[.slice A ts.length cap] w fun e w' => e = .returned (.tuple #[.string ⟨(writeP ts).1.toArray⟩, .int .i64 ((writeP ts).2 : Nat)]) ∧ Below w.heap.size w w' := by
  have HW : Hid (writeP ts = ([], 5)) := by show _ = _; unfold writeP; rw [if_pos h9]
  have h9' : (900 : Int) < ts.length := by omega
  generalize writeP ts = R at HW ⊢
  go_enter Tryd.func23, Tryd.ntmps23
  go_wp2
  go_ret2
  exact ⟨by rw [HW.out]; rfl, Below.refl _ _⟩

set_option maxHeartbeats 1000000 in
theorem refText_wrong (ts : List LT) (hsz : ∀ x ∈ ts, x.text.size ≤ 2500) (hkd : ∀ x ∈ ts, x.kind < 256) (h9 : ts.length ≤ 900) (hall : ts.all rightL = false) (A : Option Addr) (cap : Nat) (w : World) (ht : Arg w A ts) :
    Calls Tryd.prog 23 #[.slice A ts.length cap] w fun e w' => e = .returned (.tuple #[.string ⟨(writeP ts).1.toArray⟩, .int .i64 ((writeP ts).2 : Nat)]) ∧ Below w.heap.size w w' := by
  have HW : Hid (writeP ts = ([], 4)) := by show _ = _; unfold writeP; rw [if_neg (by omega), if_pos hall]
  have h9' : ¬ (900 : Int) < ts.length := by omega
  have har := fun W hT => refAreRight_any ts hsz hkd (by omega) A cap W hT
  rw [hall] at har
  have HAR := Lib.hid har
  have HT := Lib.hid ht
  clear har ht hsz hkd hall
  generalize writeP ts = R at HW ⊢
  go_enter Tryd.func23, Tryd.ntmps23
  go_wp2_with fail
  refine (HAR.out _ HT.out).mono ?_
  rintro e w1 ⟨rfl, hb1⟩
  go_wp2
  go_ret2
  exact ⟨by rw [HW.out]; rfl, hb1⟩

set_option maxHeartbeats 1000000 in
theorem refText_none (A : Option Addr) (cap : Nat) (w : World) :
    Calls Tryd.prog 23 #[.slice A 0 cap] w fun e w' => e = .returned (.tuple #[.string ⟨#[]⟩, .int .i64 0]) ∧ Below w.heap.size w w' := by
  have HAR := Lib.hid (fun W => refAreRight_none A cap W)
  go_enter Tryd.func23, Tryd.ntmps23
  go_wp2_with fail
  refine (HAR.out _).mono ?_
  rintro e w1 ⟨rfl, hw1⟩
  subst hw1
  go_wp2_with fail
  go_loopw [4, 5] (fun o i wr => o = .string ⟨#[]⟩ ∧ i = .int .i64 0 ∧ Below w1.heap.size w1 wr) (fun _ _ _ => 0)
  case atStart => exact ⟨rfl, rfl, Below.refl _ _⟩
  case round =>
    obtain ⟨rfl, rfl, hbw⟩ := hrel
    go_wp2
    go_ret2
    exact ⟨rfl, hbw⟩

/-- the reference's Text is what is written -/
theorem refText_any (ts : List LT) (hsz : ∀ x ∈ ts, x.text.size ≤ 2500) (hkd : ∀ x ∈ ts, x.kind < 256) (hn : ts.length ≤ 3000000) (A : Option Addr) (cap : Nat) (w : World) (ht : Arg w A ts) :
    Calls Tryd.prog 23 #[.slice A ts.length cap] w fun e w' => e = .returned (.tuple #[.string ⟨(writeP ts).1.toArray⟩, .int .i64 ((writeP ts).2 : Nat)]) ∧ Below w.heap.size w w' := by
  by_cases h9 : 900 < ts.length
  · exact refText_many ts h9 hn A cap w
  · by_cases hne : ts = []
    · subst hne
      exact refText_none A cap w
    · cases hall : ts.all rightL with
      | false => exact refText_wrong ts hsz hkd (by omega) hall A cap w ht
      | true =>
        obtain ⟨blk, off, rfl, hin⟩ := ht.at_ hne
        exact refText_all ts hsz hkd (by omega) hall blk off cap w hin

end Go.Proofs.YtkhgmoljhehbnaaDoor
