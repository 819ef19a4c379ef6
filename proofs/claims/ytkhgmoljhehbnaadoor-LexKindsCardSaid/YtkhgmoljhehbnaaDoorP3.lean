/- The tied card of LexKinds. -/
import Derived.Test.YtkhgmoljhehbnaaDoorP2
import Derived.Test.YtkhgmoljhehbnaaDoorTie
import Derived.Test.YtkhgmoljhehbnaaDoorCards
import Derived.SevenTiedAt
namespace Go.Proofs.YtkhgmoljhehbnaaDoor
open Go

theorem lexKinds_card : Rows.LexKindsCardSaid :=
  Claim7.holds_tied_plain_at .later [] [.data, .data, .data, .sentinel, .sentinel] true (true, "f51a4df611f266c61089f3f16e5fd496e205699899bcbcf703f8f4943d053c1c") true
    lexKinds_holds (fun _ h => by cases h) (by kernel_rfl) (fun _ h => by cases h) lexKinds_row_tie rfl ⟨rfl, rfl⟩ (by kernel_rfl) rfl
    (fun f fn hf hfn => by
      obtain rfl : f = 6 := Option.some.inj ((show Tryd.prog.funcNamed "floodgate/floodgatelaw01.LexKinds" = some 6 by kernel_rfl).symm.trans hf) |>.symm
      obtain rfl : fn = Tryd.f6 := (Option.some.inj (Tryd.func6.symm.trans hfn)).symm
      exact ⟨by kernel_rfl, fun j t ht => by
        rw [Tryd.params6] at ht
        have hm : t ∈ [47, 47] := by simpa using Array.mem_of_getElem? ht
        have hall : ([47, 47].all fun u => !Tryd.prog.wantsStandIn u) = true := by kernel_rfl
        exact (show Tryd.prog.wantsStandIn t = false by simpa using List.all_eq_true.1 hall t hm)⟩)
    (by kernel_rfl)
end Go.Proofs.YtkhgmoljhehbnaaDoor
