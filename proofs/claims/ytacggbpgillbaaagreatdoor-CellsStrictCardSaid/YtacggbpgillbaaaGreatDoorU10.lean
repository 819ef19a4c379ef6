/- CellsStrict: what the kernel finds of its card. -/
import Derived.Test.YtacggbpgillbaaaGreatDoorTie
import Derived.Test.YtacggbpgillbaaaGreatDoorCards
import Derived.SevenTiedAt
namespace Go.Proofs.YtacggbpgillbaaaGreatDoor

theorem strictly_wf : Rows.cellsStrictRow.wfByText (OpenSpec.ofChange Rows.cellsStrictSpec) = true := by kernel_rfl
theorem strictly_main : Tryz.checked.prog.mainIs = some (true, "8ff0c39d060ca7005f9edfea675a1b8a74e736012c3a26bfb96f06905f52f772".toList) := by kernel_rfl
theorem strictly_looks : false = Tryz.checked.prog.looks [] := by kernel_rfl
theorem strictly_goes : false = Rows.cellsStrictRow.goesBy Tryz.checked.prog := by kernel_rfl
theorem strictly_func : Tryz.checked.prog.funcNamed "floodgate/floodgatelaw06.CellsStrict" = some 12 := by kernel_rfl
end Go.Proofs.YtacggbpgillbaaaGreatDoor
