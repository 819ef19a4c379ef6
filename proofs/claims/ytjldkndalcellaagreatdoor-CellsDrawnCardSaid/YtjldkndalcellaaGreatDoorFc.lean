/- CellsDrawn: what the kernel finds of its row. -/
import Derived.Test.YtjldkndalcellaaGreatDoorRows
import Derived.Test.YtjldkndalcellaaGreatDoorTie
import Derived.Test.YtjldkndalcellaaGreatDoorCards
import Derived.SevenTiedAt
import Derived.ChangeMaps5
import Derived.LaidMore
import Derived.ProofKit
namespace Go.Proofs.YtjldkndalcellaaGreatDoor
open Go.ChangeShapes Go.WideShapes Go.ChangeAt Go.RowKit

theorem cellsDrawn_named : Tryz.checked.prog.funcNamed Rows.cellsDrawnRow.func = some 7 := by kernel_rfl
theorem cellsDrawn_closed : joinedFacts Tryz.checked.prog 7 Tryz.f7 Rows.cellsDrawnSpec Rows.cellsDrawnRow = true := by kernel_rfl
theorem cellsDrawn_door (os : Os) (args : Array Value) : laidMetH Tryz.prog Rows.cellsDrawnRow.laid ((World.doorLaid Tryz.prog 400 os).forCall (fun _ _ => 0) ⟨#[], args, []⟩).memory :=
  laidMetH_of_parts3 (fuel := 8) (laidMet_of_run' 8 (by kernel_rfl) (by kernel_rfl)) (by kernel_rfl) (by kernel_rfl)
end Go.Proofs.YtjldkndalcellaaGreatDoor
