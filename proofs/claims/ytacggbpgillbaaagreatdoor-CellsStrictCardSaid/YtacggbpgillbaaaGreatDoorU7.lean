/- CellsStrict: what the kernel finds of its row. -/
import Derived.Test.YtacggbpgillbaaaGreatDoorU1
import Derived.Test.YtacggbpgillbaaaGreatDoorTie
import Derived.Test.YtacggbpgillbaaaGreatDoorCards
import Derived.SevenTiedAt
import Derived.ChangeMaps5
import Derived.LaidMore
namespace Go.Proofs.YtacggbpgillbaaaGreatDoor
open Go.ChangeShapes Go.WideShapes Go.ChangeAt Go.RowKit Go.El


theorem strictly_named : Tryz.checked.prog.funcNamed Rows.cellsStrictRow.func = some 12 := by kernel_rfl
theorem strictly_closed : joinedFacts Tryz.checked.prog 12 Tryz.f12 Rows.cellsStrictSpec Rows.cellsStrictRow = true := by kernel_rfl
theorem strictly_door (os : Os) (args : Array Value) : laidMetH Tryz.prog Rows.cellsStrictRow.laid ((World.doorLaid Tryz.prog 400 os).forCall (fun _ _ => 0) ⟨#[], args, []⟩).memory :=
  laidMetH_of_parts3 (fuel := 8) (laidMet_of_run' 8 (by kernel_rfl) (by kernel_rfl)) (by kernel_rfl) (by kernel_rfl)
end Go.Proofs.YtacggbpgillbaaaGreatDoor
