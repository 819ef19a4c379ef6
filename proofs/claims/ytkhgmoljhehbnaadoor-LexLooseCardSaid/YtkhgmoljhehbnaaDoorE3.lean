/- The walk of the law's own comparison of lists. -/
import Derived.Test.YtkhgmoljhehbnaaDoorE2
import Derived.Test.YtkhgmoljhehbnaaDoorK2
namespace Go.Proofs.YtkhgmoljhehbnaaDoor
open Go.RowKit

set_option maxRecDepth 100000 in
set_option maxHeartbeats 2000000 in
theorem same_at (ts : List LT) (hn : ts.length ≤ 3000000) (b1 o1 cap1 b2 o2 cap2 : Nat) (w : World) (h1 : ToksIn w b1 o1 ts) (h2 : ToksIn w b2 o2 ts) :
    Calls Tryd.prog 22 #[.slice (some ⟨b1, o1, none⟩) ts.length cap1, .slice (some ⟨b2, o2, none⟩) ts.length cap2] w fun e w' => e = .returned (.bool true) ∧ Below w.heap.size w w' := by
  have H1 := Lib.hid h1
  have H2 := Lib.hid h2
  clear h1 h2
  go_enter Tryd.func22, Tryd.ntmps22
  go_wp2_with fail
  go_loopw [5] (fun i wr => ∃ k : Nat, k ≤ ts.length ∧ i = .int .i64 k ∧ Below w.heap.size w wr) (fun i _ => ts.length - (intOf i).toNat)
  case atStart => exact ⟨0, Nat.zero_le _, rfl, Below.refl _ _⟩
  case round =>
    obtain ⟨k, hk, rfl, hbw⟩ := hrel
    by_cases hlt : k < ts.length
    · have hlt' : (k : Int) < ts.length := by omega
      obtain ⟨x, hx⟩ : ∃ x, ts[k]? = some x := ⟨_, List.getElem?_eq_getElem hlt⟩
      obtain ⟨x0, x1, x2⟩ := (H1.out.below hbw (fun h => H1.out.lt h)) k x hx
      obtain ⟨y0, y1, y2⟩ := (H2.out.below hbw (fun h => H2.out.lt h)) k x hx
      clear hx
      go_wp2_with fail
      go_region
      go_wp2_with fail
      go_roundw
      case rel => exact ⟨k + 1, by omega, by go_num, hbw.drew⟩
      case measure => simp [intOf]; omega
    · have hlt' : ¬ (k : Int) < ts.length := by omega
      go_wp2
      go_ret
      exact ⟨rfl, hbw⟩

set_option maxRecDepth 100000 in
theorem same_none (A C : Option Addr) (cap1 cap2 : Nat) (w : World) :
    Calls Tryd.prog 22 #[.slice A 0 cap1, .slice C 0 cap2] w fun e w' => e = .returned (.bool true) ∧ w' = w := by
  go_enter Tryd.func22, Tryd.ntmps22
  go_wp2_with fail
  go_loopw [5] (fun i wr => i = .int .i64 0 ∧ wr = w) (fun _ _ => 0)
  case atStart => exact ⟨rfl, rfl⟩
  case round =>
    obtain ⟨rfl, rfl⟩ := hrel
    go_wp2
    go_ret
    exact ⟨rfl, rfl⟩

theorem same_any (ts : List LT) (hn : ts.length ≤ 3000000) (A C : Option Addr) (cap1 cap2 : Nat) (w : World) (h1 : Arg w A ts) (h2 : Arg w C ts) :
    Calls Tryd.prog 22 #[.slice A ts.length cap1, .slice C ts.length cap2] w fun e w' => e = .returned (.bool true) ∧ Below w.heap.size w w' := by
  by_cases hne : ts = []
  · subst hne
    refine (same_none A C cap1 cap2 w).mono ?_
    rintro e w' ⟨rfl, rfl⟩
    exact ⟨rfl, Below.refl _ _⟩
  · obtain ⟨b1, o1, rfl, i1⟩ := h1.at_ hne
    obtain ⟨b2, o2, rfl, i2⟩ := h2.at_ hne
    exact same_at ts hn b1 o1 cap1 b2 o2 cap2 w i1 i2

theorem arg_of_own {w : World} {B : Nat} {A : Option Addr} {cap : Nat} {ts : List Lx.Tok} (h : OwnToks w B A cap ts) : Arg w A (ts.map LT.of) := by
  refine ⟨fun hne => ?_⟩
  have hn : ts ≠ [] := fun e => hne (by rw [e]; rfl)
  obtain ⟨g, rfl, _, hin⟩ := toksIn_of_own h hn
  exact ⟨g, 0, rfl, hin⟩

end Go.Proofs.YtkhgmoljhehbnaaDoor
