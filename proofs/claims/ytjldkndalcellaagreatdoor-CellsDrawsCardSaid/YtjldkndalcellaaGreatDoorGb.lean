/- CellsDraws: what the kernel finds of its card. -/
import Derived.Test.YtjldkndalcellaaGreatDoorTie
import Derived.Test.YtjldkndalcellaaGreatDoorCards
import Derived.SevenTiedAt
namespace Go.Proofs.YtjldkndalcellaaGreatDoor

theorem cellsDraws_wf : Rows.cellsDrawsRow.wfByText (OpenSpec.ofChange Rows.cellsDrawsSpec) = true := by kernel_rfl
theorem cellsDraws_main : Tryz.checked.prog.mainIs = some (true, "707ef8b073346df9e11223088edd6547071e7ec2b30287a8e0bf4f094b3ee9fe".toList) := by kernel_rfl
theorem cellsDraws_looks : false = Tryz.checked.prog.looks [] := by kernel_rfl
theorem cellsDraws_goes : false = Rows.cellsDrawsRow.goesBy Tryz.checked.prog := by kernel_rfl
theorem cellsDraws_func : Tryz.checked.prog.funcNamed "floodgate/floodgatelaw06.CellsDraws" = some 4 := by kernel_rfl
end Go.Proofs.YtjldkndalcellaaGreatDoor
