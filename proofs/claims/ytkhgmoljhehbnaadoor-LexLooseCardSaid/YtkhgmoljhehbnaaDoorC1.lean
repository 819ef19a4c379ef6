/- The walks of lex.Check and (*reader).step. -/
import Derived.Test.YtkhgmoljhehbnaaDoorR6
import Derived.Deep.RegionHeld3
namespace Go.Proofs.YtkhgmoljhehbnaaDoor
open Go.RowKit

set_option maxHeartbeats 1000000 in
theorem check_any (s : ByteArray) (hs : s.size ≤ maxLen) (w : World) :
    Calls Tryd.prog 15 #[.string s] w fun e w' => e = .returned (chkV (Lx.check s.data.toList)) ∧ Below w.heap.size w w' := by
  have hm : (s.size : Int) ≤ 9223372036854775807 := by unfold maxLen at hs; omega
  have hsz := Lib.size_eq s
  have hp := prefix_ok s _ rfl hs w
  have hl := Lx.run_le Lx.okByte s.data.toList
  by_cases h : 2500 < s.size
  · rw [check_long (by omega)]
    have h' : (2500 : Int) < s.size := by omega
    clear hsz hp hl
    go_enter Tryd.func15, Tryd.ntmps15
    go_wp2
    go_ret2
    exact ⟨rfl, Below.refl _ _⟩
  · have h' : ¬ (2500 : Int) < s.size := by omega
    generalize hr : Lx.run Lx.okByte s.data.toList = r at hp hl
    by_cases hlt : r < s.size
    · rw [check_bad (by omega) hr (by omega)]
      have hlt' : (r : Int) < s.size := by omega
      clear hsz hr hl
      go_enter Tryd.func15, Tryd.ntmps15
      go_wp2_with (go_at_call 42; refine hp.mono ?_; rintro e w' ⟨rfl, hb⟩)
      go_ret2
      exact ⟨rfl, hb⟩
    · rw [check_ok (by omega) (by omega)]
      have hlt' : ¬ (r : Int) < s.size := by omega
      clear hsz hr hl
      go_enter Tryd.func15, Tryd.ntmps15
      go_wp2_with (go_at_call 42; refine hp.mono ?_; rintro e w' ⟨rfl, hb⟩)
      go_ret2
      exact ⟨rfl, hb⟩

end Go.Proofs.YtkhgmoljhehbnaaDoor
