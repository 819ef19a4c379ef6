/- CellsReckons: what the kernel finds of its card. -/
import Derived.Test.YtacggbpgillbaaaGreatDoorTie
import Derived.Test.YtacggbpgillbaaaGreatDoorCards
import Derived.SevenTiedAt
namespace Go.Proofs.YtacggbpgillbaaaGreatDoor

theorem reckons_wf : Rows.cellsReckonsRow.wfByText (OpenSpec.ofChange Rows.cellsReckonsSpec) = true := by kernel_rfl
theorem reckons_main : Tryz.checked.prog.mainIs = some (true, "8ff0c39d060ca7005f9edfea675a1b8a74e736012c3a26bfb96f06905f52f772".toList) := by kernel_rfl
theorem reckons_looks : false = Tryz.checked.prog.looks [] := by kernel_rfl
theorem reckons_goes : false = Rows.cellsReckonsRow.goesBy Tryz.checked.prog := by kernel_rfl
theorem reckons_func : Tryz.checked.prog.funcNamed "floodgate/floodgatelaw06.CellsReckons" = some 3 := by kernel_rfl
end Go.Proofs.YtacggbpgillbaaaGreatDoor
