/- The walks of slices.IndexFunc at strings, of (vocabulary).sign and its closure. -/
import Derived.Test.YtkhgmoljhehbnaaDoorW6
namespace Go.Proofs.YtkhgmoljhehbnaaDoor
open Go.RowKit

set_option maxHeartbeats 1000000 in
theorem sign1_any (s t : ByteArray) (hs : s.size ≤ maxLen) (ht : t.size ≤ 100) (p : Addr) (w : World) (hp : w.cell? p = some (.string s)) :
    Calls Tryd.prog 100 #[.string t, .pointer (some p)] w fun e w' => e = .returned (.bool (Lx.hasPrefix s.data.toList t.data.toList)) ∧ w = w' := by
  have hcall := hasPrefix_any s t hs ht w
  generalize Lx.hasPrefix s.data.toList t.data.toList = q at hcall ⊢
  go_enter Tryd.func100, Tryd.ntmps100
  go_wp2_with (go_at_call 101; refine hcall.mono ?_; rintro e w' ⟨rfl, rfl⟩)
  go_ret
  exact ⟨rfl, rfl⟩

set_option maxHeartbeats 1000000 in
theorem indexStr_any (s : ByteArray) (hs : s.size ≤ maxLen) (p : Addr) (b cap : Nat) (xs : List Lx.B) (hx : xs.length ≤ 100) (hxs : ∀ t ∈ xs, t.length ≤ 100) (w : World) (hp : w.cell? p = some (.string s)) (hr : ∀ (j : Nat) t, xs[j]? = some t → w.cell? ⟨b, j, none⟩ = some (sv t)) :
    Calls Tryd.prog 99 #[.slice (some ⟨b, 0, none⟩) xs.length cap, .func (.func 100) #[] #[.pointer (some p)]] w fun e w' => e = .returned (.int .i64 (Lx.fidx (Lx.hasPrefix s.data.toList) xs 0)) ∧ w = w' := by
  go_enter Tryd.func99, Tryd.ntmps99
  have eg : ∀ args w, (callFunc 100 args).run Tryd.prog w = .ok (.enter 100 args) w := enters_of Tryd.func100 (by kernel_rfl) rfl
  have HR := Lib.hid hr
  have HX := Lib.hid hxs
  clear hr hxs
  go_wp2
  go_loop [5, 8] (fun _ i => ∃ j : Nat, j ≤ xs.length ∧ i = .int .i64 j ∧ Hid (∀ i y, i < j → xs[i]? = some y → Lx.hasPrefix s.data.toList y = false)) (fun _ i => xs.length - (intOf i).toNat)
  case atStart => exact ⟨0, Nat.zero_le _, rfl, fun i y hi => absurd hi (by omega)⟩
  case round =>
    obtain ⟨j, hj, rfl, HJ⟩ := hrel
    by_cases hlt : j < xs.length
    · obtain ⟨t, hxj⟩ : ∃ t, xs[j]? = some t := ⟨_, List.getElem?_eq_getElem hlt⟩
      have HT := Lib.hid hxj
      have hcell := HR.out j t hxj
      unfold sv at hcell
      have htl := HX.out t (List.mem_of_getElem? hxj)
      clear hxj
      have hcall := sign1_any s ⟨t.toArray⟩ hs (by show t.toArray.size ≤ _; simpa using htl) p w hp
      simp only at hcall
      cases hpx : Lx.hasPrefix s.data.toList t
      · rw [hpx] at hcall
        have HP := Lib.hid hpx
        clear hpx
        go_wp2_with (go_at_fn 100; refine hcall.mono ?_; rintro e w' ⟨rfl, rfl⟩)
        go_round
        case rel =>
          refine ⟨j + 1, by omega, by go_num, fun i y hi hy => ?_⟩
          by_cases e : i = j
          · subst e; rw [HT.out] at hy; cases hy; exact HP.out
          · exact HJ.out i y (by omega) hy
        case measure => simp [intOf]; omega
      · rw [hpx] at hcall
        have HP := Lib.hid hpx
        clear hpx
        go_wp2_with (go_at_fn 100; refine hcall.mono ?_; rintro e w' ⟨rfl, rfl⟩)
        go_ret
        refine ⟨?_, rfl⟩
        rw [Lx.fidx_hit _ xs 0 j t HT.out HP.out HJ.out, Nat.zero_add]
        rfl
    · have : j = xs.length := by omega
      subst this
      go_wp2
      go_ret
      refine ⟨?_, rfl⟩
      rw [Lx.fidx_miss _ xs 0 (fun y hy => by
        obtain ⟨i, hi, rfl⟩ := List.getElem_of_mem hy
        exact HJ.out i _ hi (List.getElem?_eq_getElem hi))]
      rfl

def signsOf (l : Lx.B) : Option (Nat × Lx.B) := (Lx.signOf Lx.signs l).map fun t => (4, t)
theorem signs_short : ∀ t ∈ Lx.signs, t.length ≤ 2 := by decide

set_option maxHeartbeats 1000000 in
theorem sign_any (s : ByteArray) (hs : s.size ≤ maxLen) (bm bs : Nat) (w : World) (hv : Voc w bm bs) :
    Calls Tryd.prog 83 #[vocV bm bs, .string s] w fun e w' => e = .returned (optV (signsOf s.data.toList)) ∧ Below w.heap.size w w' := by
  have hv' := ((hv.alloc (.cells #[.map (some bm), .slice (some ⟨bs, 0, none⟩) 26 26] 79)).alloc (.cells #[.string s] 9)).alloc (.cells #[.int .u8 0, .string ⟨#[]⟩, .int .i64 0] 47)
  have hcall := indexStr_any s hs ⟨w.heap.size + 1, 0, none⟩ bs 26 Lx.signs (by decide) (fun t ht => by have := signs_short t ht; omega) _ (by simp [go_sem]) hv'.signs
  rw [show Lx.signs.length = 26 from rfl] at hcall
  have HV := Lib.hid hv'.signs
  have hb : Below w.heap.size w (((w.alloc (.cells #[.map (some bm), .slice (some ⟨bs, 0, none⟩) 26 26] 79)).alloc (.cells #[.string s] 9)).alloc (.cells #[.int .u8 0, .string ⟨#[]⟩, .int .i64 0] 47)) := (((Below.refl _ _).alloc (Nat.le_refl _) _).alloc (by simp) _).alloc (by simp; omega) _
  have HB := Lib.hid hb
  have hbs := hv.lt
  clear hv' hb hv
  unfold vocV
  rcases Lx.fidx_find (Lx.hasPrefix s.data.toList) Lx.signs 0 with ⟨h1, h2⟩ | ⟨j, t, h1, h2, h3, h4, h5⟩
  · rw [h1] at hcall
    have HW : Hid (signsOf s.data.toList = none) := by show _ = _; unfold signsOf Lx.signOf; rw [h2]; rfl
    clear h1 h2
    go_enter Tryd.func83, Tryd.ntmps83
    go_wp2_with (go_at_call 99; refine hcall.mono ?_; rintro e w' ⟨rfl, rfl⟩)
    refine bodyPost_ret (v := optV none) (by simp [results, Tryd.results83, go_sem, optV]) rfl ⟨by rw [HW.out], ?_⟩
    exact (((Below.refl _ _).alloc (Nat.le_refl _) _).alloc (by simp) _).alloc (by simp; omega) _
  · rw [h1, Nat.zero_add] at hcall
    have HW : Hid (signsOf s.data.toList = some (4, t)) := by show _ = _; unfold signsOf Lx.signOf; rw [h3]; rfl
    have hc := HV.out j t h2
    have hj : (j : Int) < 26 := by have : Lx.signs.length = 26 := rfl; omega
    have hj' : j < 26 := by omega
    unfold sv at hc

    clear h1 h2 h3 h4 h5
    go_enter Tryd.func83, Tryd.ntmps83
    go_wp2_with (go_at_call 99; refine hcall.mono ?_; rintro e w' ⟨rfl, rfl⟩)
    refine bodyPost_ret (v := .tuple #[.agg #[.int .u8 4, .string ⟨t.toArray⟩, .int .i64 0], .bool true]) (by simp [results, Tryd.results83, go_sem]) rfl ⟨by rw [HW.out]; rfl, ?_⟩
    exact (((Below.refl _ _).alloc (Nat.le_refl _) _).alloc (by simp) _).alloc (by simp; omega) _

end Go.Proofs.YtkhgmoljhehbnaaDoor
