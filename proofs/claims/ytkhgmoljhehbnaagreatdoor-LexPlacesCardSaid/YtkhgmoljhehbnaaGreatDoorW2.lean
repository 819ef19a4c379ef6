/- The walks of slices.IndexFunc and ContainsFunc at sorts of bytes, and of prefix. -/
import Derived.Test.YtkhgmoljhehbnaaGreatDoorW1
namespace Go.Proofs.YtkhgmoljhehbnaaGreatDoor
open Go.RowKit

/-- a slice of sorts, as it lies in memory -/
def SrtRow (w : World) (b : Nat) (xs : List Srt) : Prop := ∀ j x, xs[j]? = some x → w.cell? ⟨b, j, none⟩ = some x.v

def findIdx (p : Srt → Bool) : List Srt → Nat → Int
  | [], _ => -1
  | x :: r, k => if p x then (k : Int) else findIdx p r (k + 1)
theorem findIdx_miss (p : Srt → Bool) : ∀ (xs : List Srt) (k : Nat), (∀ x ∈ xs, p x = false) → findIdx p xs k = -1
  | [], _, _ => rfl
  | x :: r, k, h => by
    unfold findIdx
    rw [if_neg (by simp [h x (by simp)])]
    exact findIdx_miss p r (k + 1) fun y hy => h y (by simp [hy])
theorem findIdx_hit (p : Srt → Bool) : ∀ (xs : List Srt) (k j : Nat) (x : Srt), xs[j]? = some x → p x = true → (∀ i y, i < j → xs[i]? = some y → p y = false) → findIdx p xs k = ((k + j : Nat) : Int)
  | [], _, j, x, h, _, _ => by simp at h
  | y :: r, k, 0, x, h, hp, _ => by
    simp at h; subst h; simp [findIdx, hp]
  | y :: r, k, j + 1, x, h, hp, hm => by
    unfold findIdx
    rw [if_neg (by simp [hm 0 y (by omega) rfl])]
    rw [findIdx_hit p r (k + 1) j x (by simpa using h) hp (fun i z hi hz => hm (i + 1) z (by omega) (by simpa using hz))]
    congr 1; omega

set_option maxHeartbeats 1000000 in
theorem indexSrt_any (c : UInt8) (s : ByteArray) (k : Nat) (hk : k < s.size) (hs : s.size ≤ maxLen) (hc0 : c = s[k]) (p q : Addr) (b cap : Nat) (xs : List Srt) (hx : xs.length ≤ 100) (w : World) (hp : w.cell? p = some (.string s)) (hq : w.cell? q = some (.int .i64 k)) (hr : SrtRow w b xs) :
    Calls Tryz.prog 52 #[.slice (some ⟨b, 0, none⟩) xs.length cap, .func (.func 41) #[] #[.pointer (some p), .pointer (some q)]] w fun e w' => e = .returned (.int .i64 (findIdx (fun x => x.is c) xs 0)) ∧ w = w' := by
  go_enter Tryz.func52, Tryz.ntmps52
  have eg : ∀ args w, (callFunc 41 args).run Tryz.prog w = .ok (.enter 41 args) w := enters_of Tryz.func41 (by kernel_rfl) rfl
  have HC := Lib.hid hc0
  clear hc0
  go_wp2
  go_loop [5, 8] (fun _ i => ∃ j : Nat, j ≤ xs.length ∧ i = .int .i64 j ∧ Hid (∀ i y, i < j → xs[i]? = some y → y.is c = false)) (fun _ i => xs.length - (intOf i).toNat)
  case atStart => exact ⟨0, Nat.zero_le _, rfl, fun i y hi => absurd hi (by omega)⟩
  case round =>
    obtain ⟨j, hj, rfl, HJ⟩ := hrel
    by_cases hlt : j < xs.length
    · obtain ⟨x, hxj⟩ : ∃ x, xs[j]? = some x := ⟨_, List.getElem?_eq_getElem hlt⟩
      have HX := Lib.hid hxj
      have hcell := hr j x hxj
      clear hxj
      have hcall := prefix1_any x s k hk hs p q w hp hq
      rw [← HC.out] at hcall
      clear hr
      cases hpx : x.is c
      · rw [hpx] at hcall
        have HP := Lib.hid hpx
        clear hpx
        go_wp2_with (go_at_fn 41; refine hcall.mono ?_; rintro e w' ⟨rfl, rfl⟩)
        go_round
        case rel =>
          refine ⟨j + 1, by omega, by go_num, fun i y hi hy => ?_⟩
          by_cases e : i = j
          · subst e; rw [HX.out] at hy; cases hy; exact HP.out
          · exact HJ.out i y (by omega) hy
        case measure => simp [intOf]; omega
      · rw [hpx] at hcall
        have HP := Lib.hid hpx
        clear hpx
        go_wp2_with (go_at_fn 41; refine hcall.mono ?_; rintro e w' ⟨rfl, rfl⟩)
        go_ret
        refine ⟨?_, rfl⟩
        rw [findIdx_hit _ xs 0 j x HX.out HP.out HJ.out, Nat.zero_add]
        rfl
    · have : j = xs.length := by omega
      subst this
      go_wp2
      go_ret
      refine ⟨?_, rfl⟩
      rw [findIdx_miss _ xs 0 (fun y hy => by
        obtain ⟨i, hi, rfl⟩ := List.getElem_of_mem hy
        exact HJ.out i _ hi (List.getElem?_eq_getElem hi))]
      rfl

theorem findIdx_pos (p : Srt → Bool) : ∀ (xs : List Srt) (k : Nat), decide (0 ≤ findIdx p xs k) = xs.any p
  | [], _ => rfl
  | x :: r, k => by
    unfold findIdx
    by_cases h : p x = true
    · simp [h]
    · have h' : p x = false := by simpa using h
      simp only [h', Bool.false_eq_true, if_false, List.any_cons, Bool.false_or]
      exact findIdx_pos p r (k + 1)

theorem findIdx_le (p : Srt → Bool) : ∀ (xs : List Srt) (k : Nat), -1 ≤ findIdx p xs k ∧ findIdx p xs k ≤ (k + xs.length : Nat)
  | [], k => by simp [findIdx]
  | x :: r, k => by
    unfold findIdx
    have := findIdx_le p r (k + 1)
    split <;> simp only [List.length_cons] <;> omega

set_option maxHeartbeats 1000000 in
theorem containsSrt_any (c : UInt8) (s : ByteArray) (k : Nat) (hk : k < s.size) (hs : s.size ≤ maxLen) (hc0 : c = s[k]) (p q : Addr) (b cap : Nat) (xs : List Srt) (hx : xs.length ≤ 100) (w : World) (hp : w.cell? p = some (.string s)) (hq : w.cell? q = some (.int .i64 k)) (hr : SrtRow w b xs) :
    Calls Tryz.prog 40 #[.slice (some ⟨b, 0, none⟩) xs.length cap, .func (.func 41) #[] #[.pointer (some p), .pointer (some q)]] w fun e w' => e = .returned (.bool (xs.any fun x => x.is c)) ∧ w = w' := by
  have hcall := indexSrt_any c s k hk hs hc0 p q b cap xs hx w hp hq hr
  have hpos := findIdx_pos (fun x => x.is c) xs 0
  clear hr hc0 hp hq
  generalize findIdx (fun x => x.is c) xs 0 = r at hcall hpos
  have HP := Lib.hid hpos
  clear hpos
  go_enter Tryz.func40, Tryz.ntmps40
  go_wp2_with (go_at_call 52; refine hcall.mono ?_; rintro e w' ⟨rfl, rfl⟩)
  go_ret
  refine ⟨?_, rfl⟩
  rw [← HP.out]; rfl

end Go.Proofs.YtkhgmoljhehbnaaGreatDoor
