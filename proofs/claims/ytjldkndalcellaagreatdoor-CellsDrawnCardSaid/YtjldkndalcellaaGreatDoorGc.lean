/- CellsDrawn: what the kernel finds of its card. -/
import Derived.Test.YtjldkndalcellaaGreatDoorTie
import Derived.Test.YtjldkndalcellaaGreatDoorCards
import Derived.SevenTiedAt
namespace Go.Proofs.YtjldkndalcellaaGreatDoor

theorem cellsDrawn_wf : Rows.cellsDrawnRow.wfByText (OpenSpec.ofChange Rows.cellsDrawnSpec) = true := by kernel_rfl
theorem cellsDrawn_main : Tryz.checked.prog.mainIs = some (true, "707ef8b073346df9e11223088edd6547071e7ec2b30287a8e0bf4f094b3ee9fe".toList) := by kernel_rfl
theorem cellsDrawn_looks : false = Tryz.checked.prog.looks [] := by kernel_rfl
theorem cellsDrawn_goes : false = Rows.cellsDrawnRow.goesBy Tryz.checked.prog := by kernel_rfl
theorem cellsDrawn_func : Tryz.checked.prog.funcNamed "floodgate/floodgatelaw06.CellsDrawn" = some 7 := by kernel_rfl
end Go.Proofs.YtjldkndalcellaaGreatDoor
