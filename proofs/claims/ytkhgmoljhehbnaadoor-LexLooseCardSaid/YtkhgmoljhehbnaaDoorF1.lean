/- The walks of the law's own vast and own, and of lex.Text. -/
import Derived.Test.YtkhgmoljhehbnaaDoorE3
import Derived.Test.YtkhgmoljhehbnaaDoorT3
import Derived.Laws.AppendOwnNone
namespace Go.Proofs.YtkhgmoljhehbnaaDoor
open Go.RowKit

def vastP (ts : List LT) : Bool := (decide (60 < ts.length) && decide (ts.length ≤ 900)) || decide (1800 < ts.length) || ts.any (fun x => decide (60 < x.text.size))

theorem vastP_false {ts : List LT} (h : vastP ts = false) : (ts.length ≤ 60 ∨ 900 < ts.length) ∧ ts.length ≤ 1800 ∧ ∀ x ∈ ts, x.text.size ≤ 60 := by
  unfold vastP at h
  simp only [Bool.or_eq_false_iff, Bool.and_eq_false_iff, decide_eq_false_iff_not, List.any_eq_false] at h
  obtain ⟨⟨h1, h2⟩, h3⟩ := h
  exact ⟨by rcases h1 with h | h <;> omega, by omega, fun x hx => by have := h3 x hx; simp at this; omega⟩

set_option maxRecDepth 100000 in
set_option maxHeartbeats 2000000 in
theorem vast_at (ts : List LT) (h1 : ¬ (60 < ts.length ∧ ts.length ≤ 900)) (h2 : ¬ 1800 < ts.length) (hsz : ∀ x ∈ ts, x.text.size ≤ maxLen) (blk off cap : Nat) (w : World) (ht : ToksIn w blk off ts) :
    Calls Tryd.prog 32 #[.slice (some ⟨blk, off, none⟩) ts.length cap] w fun e w' => e = .returned (.bool (vastP ts)) ∧ w' = w := by
  have hv : vastP ts = ts.any (fun x => decide (60 < x.text.size)) := by unfold vastP; simp [h2]; intro a b; exact absurd ⟨a, b⟩ h1
  have h2' : ¬ (1800 : Int) < ts.length := by omega
  have HV := Lib.hid hv
  have HT := Lib.hid ht
  have HS := Lib.hid hsz
  generalize vastP ts = V at HV ⊢
  clear hv ht hsz
  have key : Calls Tryd.prog 32 #[.slice (some ⟨blk, off, none⟩) ts.length cap] w fun e w' => e = .returned (.bool V) ∧ w' = w := by
    by_cases h60 : 60 < ts.length
    all_goals
      first
      | have h60' : (60 : Int) < ts.length := by omega
        have h9 : ¬ (ts.length : Int) ≤ 900 := by omega
      | have h60' : ¬ (60 : Int) < ts.length := by omega
      clear h1 h2
      go_enter Tryd.func32, Tryd.ntmps32
      go_wp2_with fail
      go_loopw [3] (fun i wr => ∃ k : Nat, k ≤ ts.length ∧ i = .int .i64 k ∧ wr = w ∧ Hid ((ts.take k).any (fun x => decide (60 < x.text.size)) = false)) (fun i _ => ts.length - (intOf i).toNat)
      case atStart => exact ⟨0, Nat.zero_le _, rfl, rfl, Lib.hid (by simp)⟩
      case round =>
        obtain ⟨k, hk, rfl, rfl, HJ⟩ := hrel
        by_cases hlt : k < ts.length
        · have hlt' : (k : Int) < ts.length := by omega
          obtain ⟨x, hx⟩ : ∃ x, ts[k]? = some x := ⟨_, List.getElem?_eq_getElem hlt⟩
          obtain ⟨x0, x1, x2⟩ := HT.out k x hx
          have hxs := HS.out x (List.mem_of_getElem? hx)
          have hxs' : (x.text.size : Int) ≤ 9223372036854775807 := by unfold maxLen at hxs; omega
          by_cases hq : 60 < x.text.size
          · have hq' : (60 : Int) < x.text.size := by omega
            have HF : Hid (V = true) := Lib.hid (by
              rw [HV.out, List.any_eq_true]
              exact ⟨x, List.mem_of_getElem? hx, by simp [hq]⟩)
            clear hx hxs
            go_wp2
            go_ret
            exact ⟨by rw [HF.out]; rfl, rfl⟩
          · have hq' : ¬ (60 : Int) < x.text.size := by omega
            have HN : Hid ((ts.take (k + 1)).any (fun x => decide (60 < x.text.size)) = false) := Lib.hid (by
              rw [List.take_add_one, hx, List.any_append, HJ.out]
              simp; omega)
            clear hx hxs
            go_wp2
            go_roundw
            case rel => exact ⟨k + 1, by omega, by go_num, by trivial, HN⟩
            case measure => simp [intOf]; omega
        · have hlt' : ¬ (k : Int) < ts.length := by omega
          have hkn : k = ts.length := by omega
          have HF : Hid (V = false) := Lib.hid (by rw [HV.out, ← HJ.out, hkn, List.take_length])
          go_wp2
          go_ret
          exact ⟨by rw [HF.out]; rfl, rfl⟩
  exact key

set_option maxHeartbeats 1000000 in
theorem vast_big (n cap : Nat) (hm : n ≤ maxLen) (h : (60 < n ∧ n ≤ 900) ∨ 1800 < n) (A : Option Addr) (w : World) :
    Calls Tryd.prog 32 #[.slice A n cap] w fun e w' => e = .returned (.bool true) ∧ w' = w := by
  have hmi : (n : Int) ≤ 9223372036854775807 := by unfold maxLen at hm; omega
  have h60 : (60 : Int) < n := by omega
  by_cases h9 : n ≤ 900
  · have h9' : (n : Int) ≤ 900 := by omega
    go_enter Tryd.func32, Tryd.ntmps32
    go_wp2
    go_ret
    exact ⟨rfl, rfl⟩
  · have h9' : ¬ (n : Int) ≤ 900 := by omega
    have h18 : (1800 : Int) < n := by omega
    go_enter Tryd.func32, Tryd.ntmps32
    go_wp2
    go_ret
    exact ⟨rfl, rfl⟩

set_option maxRecDepth 100000 in
theorem vast_none (A : Option Addr) (cap : Nat) (w : World) :
    Calls Tryd.prog 32 #[.slice A 0 cap] w fun e w' => e = .returned (.bool false) ∧ w' = w := by
  go_enter Tryd.func32, Tryd.ntmps32
  go_wp2_with fail
  go_loopw [3] (fun i wr => i = .int .i64 0 ∧ wr = w) (fun _ _ => 0)
  case atStart => exact ⟨rfl, rfl⟩
  case round =>
    obtain ⟨rfl, rfl⟩ := hrel
    go_wp2
    go_ret
    exact ⟨rfl, rfl⟩

theorem vast_any (ts : List LT) (hm : ts.length ≤ maxLen) (hsz : ∀ x ∈ ts, x.text.size ≤ maxLen) (A : Option Addr) (cap : Nat) (w : World) (ht : Arg w A ts) :
    Calls Tryd.prog 32 #[.slice A ts.length cap] w fun e w' => e = .returned (.bool (vastP ts)) ∧ w' = w := by
  by_cases h : (60 < ts.length ∧ ts.length ≤ 900) ∨ 1800 < ts.length
  · have hv : vastP ts = true := by unfold vastP; rcases h with ⟨h1, h2⟩ | h <;> simp [*]
    rw [hv]
    exact vast_big ts.length cap hm h A w
  · by_cases hne : ts = []
    · subst hne
      exact vast_none A cap w
    · obtain ⟨b1, o1, rfl, i1⟩ := ht.at_ hne
      exact vast_at ts (fun h1 => h (.inl h1)) (fun h1 => h (.inr h1)) hsz b1 o1 cap w i1

theorem ownLT_empty (w : World) (base : Nat) (h : base ≤ w.heap.size) : OwnLT (w.alloc (.cells #[] 47)) base (some ⟨w.heap.size, 0, none⟩) 0 [] := by
  have := World.ownsRow_made (base := base) (e := 47) (size := 3) w #[] 0 h (by simp [maxLen]) (by simp)
  simpa [OwnLT, ltRow] using this

def OwnIs (ts : List LT) (w w' : World) (e : Ending) : Prop := ∃ A c, e = .returned (.slice A ts.length c) ∧ OwnLT w' w.heap.size A c ts

set_option maxHeartbeats 1000000 in
theorem own_at (ts : List LT) (hn : ts.length ≤ 100000) (blk off cap : Nat) (w : World) (ht : ToksIn w blk off ts) :
    Calls Tryd.prog 33 #[.slice (some ⟨blk, off, none⟩) ts.length cap] w fun e w' => OwnIs ts w w' e ∧ Below w.heap.size w w' := by
  have HT : Hid (ToksIn (w.alloc (.cells #[] 47)) blk off ts) := ht.below ((Below.refl _ _).alloc (Nat.le_refl _) _) (fun h => ht.lt h)
  have HO := Lib.hid (ownLT_empty w w.heap.size (Nat.le_refl _))
  clear ht
  go_enter Tryd.func33, Tryd.ntmps33
  go_wp2_with (at_builtin; refine wpList_append_lt _ rfl _ _ rfl w.heap.size (some ⟨w.heap.size, 0, none⟩) 0 [] ts blk off cap rfl rfl HO.out HT.out (by simp; omega) (by simp) ?_; intro A' cap' w2 hown2 hgrow2)
  go_ret
  refine ⟨⟨A', cap', by simp, by simpa using hown2⟩, ?_⟩
  exact ((Below.refl _ _).alloc (Nat.le_refl _) _).grown hgrow2 (by simp) (fun j hj => (HO.out.lt j hj).1)

set_option maxHeartbeats 1000000 in
theorem own_nil (w : World) : Calls Tryd.prog 33 #[.slice none 0 0] w fun e w' => OwnIs [] w w' e ∧ Below w.heap.size w w' := by
  have HO := Lib.hid (ownLT_empty w w.heap.size (Nat.le_refl _))
  obtain ⟨i0, hi0, hz0, hz1, hz2⟩ := info_parts lex_info
  go_enter Tryd.func33, Tryd.ntmps33
  go_wp2_with (at_builtin; refine wpList_append_own_none rfl _ _ 31 rfl w.heap.size 47 i0 3 Tryd.underlying31 hi0 _ 0 [] rfl HO.out rfl ?_)
  go_ret
  exact ⟨⟨_, _, rfl, HO.out⟩, (Below.refl _ _).alloc (Nat.le_refl _) _⟩

set_option maxHeartbeats 1000000 in
theorem own_empty (a : Addr) (cap : Nat) (w : World) : Calls Tryd.prog 33 #[.slice (some a) 0 cap] w fun e w' => OwnIs [] w w' e ∧ Below w.heap.size w w' := by
  have HO := Lib.hid (ownLT_empty w w.heap.size (Nat.le_refl _))
  obtain ⟨i0, hi0, hz0, hz1, hz2⟩ := info_parts lex_info
  go_enter Tryd.func33, Tryd.ntmps33
  go_wp2_with (at_builtin; refine wpList_append_own _ rfl _ _ 31 rfl w.heap.size 47 i0 _ 3 32 Tryd.underlying31 hi0 hz0 hz1 hz2 rfl (by decide) _ 0 [] rfl HO.out a 0 cap [] rfl rfl (fun j u h => by simp at h) (fun u h => by simp at h) (by simp [maxLen]) (by simp) (by simp) ?_; intro v' w2 hown2 hgrow2 _)
  go_ret
  have hf : ∃ A' cap', v' = .slice A' 0 cap' := by
    rcases hown2.2 with ⟨hv, h0⟩ | ⟨g, cap', cur, hv, _⟩
    · exact ⟨none, 0, hv⟩
    · exact ⟨_, _, hv⟩
  obtain ⟨A', cap', rfl⟩ := hf
  refine ⟨⟨A', cap', rfl, hown2⟩, ?_⟩
  exact ((Below.refl _ _).alloc (Nat.le_refl _) _).grown hgrow2 (by simp) (fun j hj => (HO.out.lt j hj).1)

theorem own_any (ts : List LT) (hn : ts.length ≤ 100000) (A : Option Addr) (cap : Nat) (hA : A = none → cap = 0) (w : World) (ht : Arg w A ts) :
    Calls Tryd.prog 33 #[.slice A ts.length cap] w fun e w' => OwnIs ts w w' e ∧ Below w.heap.size w w' := by
  by_cases hne : ts = []
  · subst hne
    cases A with
    | none => rw [hA rfl]; exact own_nil w
    | some a => exact own_empty a cap w
  · obtain ⟨b1, o1, rfl, i1⟩ := ht.at_ hne
    exact own_at ts hn b1 o1 cap w i1

set_option maxHeartbeats 1000000 in
theorem lexText_any (ts : List LT) (hsz : ∀ x ∈ ts, x.text.size ≤ 2500) (hn : ts.length ≤ 3000000) (A : Option Addr) (cap : Nat) (w : World) (he : Env w) (ht : Arg w A ts) :
    Calls Tryd.prog 34 #[.slice A ts.length cap] w fun e w' => e = .returned (.tuple #[.string ⟨(writeP ts).1.toArray⟩, .int .i64 ((writeP ts).2 : Nat)]) ∧ Below w.heap.size w w' := by
  have hv := newVocabulary_any w
  have hw := fun bm bs W hV hE hT => write_any ts hsz hn bm bs A cap W hV hE hT
  generalize writeP ts = R at hw ⊢
  have HW := Lib.hid hw
  have HE := Lib.hid he
  have HT := Lib.hid ht
  clear hw he ht hsz
  unfold vocV at hv
  go_enter Tryd.func34, Tryd.ntmps34
  go_wp2_with fail
  refine hv.mono ?_
  rintro e w1 ⟨bm, bs, rfl, hV, h1, h2, hb1⟩
  have HV := Lib.hid hV
  clear hV h1 h2
  go_wp2_with fail
  refine (HW.out bm bs w1 HV.out (HE.out.below hb1 HE.out.lt) (HT.out.below hb1)).mono ?_
  rintro e w2 ⟨rfl, hb2⟩
  have hz := hb1.size
  go_wp2
  go_ret2
  exact ⟨rfl, hb1.trans (hb2.mono hz)⟩

end Go.Proofs.YtkhgmoljhehbnaaDoor
