/-
  NARROWER THAN 'FOR EVERY INPUT', by the rows' own cells (each row's printed sentence says how): CellsChecks: laid · CellsDraws: laid · CellsBelow: laid · CellsBuilds: laid · CellsDrawn: laid · CellsBuilt: laid.
  DERIVED. THE GIVEN ROWS OF THIS SEAT. 6 by the template 'for every input the law returns true; each argument reads behind the call as it read before'; 0 by the template 'total and deterministic' (their statements: YtjldkndalcellaaGreatDoorTotals.lean).
  GIVEN WITH THE SEED: the statements are not yours to turn. If you find one false, say at which input.
  Laid BY PROGRAM, IN A SANDBOX (cutbox-rows.mjs): the forced cells as the released guide's own fill.sh prints them over the translation 5dd17c748142ebee… (all of the seat's roots in one cut). By AI agents, Wed Nov 11 2026. No macro, syntax, notation, axiom, sorry.
-/
import Derived.Test.YtjldkndalcellaaGreatDoorChecked
import GoSem.Claim
import GoSem.ClaimJoined
import GoSem.ClaimMapViews
import Derived.JoinedTies
import Derived.KernelRfl
namespace Go.Proofs.YtjldkndalcellaaGreatDoor
/- THE CELL 'sum', in the pinned program and in every row, IS THE sha256 OF THE DUMP (.gsa) THAT YtjldkndalcellaaGreatDoorProg.lean LOADS. Nothing in Lean hashes anything: it is a label: what it is worth is what the hold of that sum in a sandbox is worth. -/
noncomputable def Tryz.pinned : Pinned := { name := "ytjldkndalcellaagreatdoor", sum := "5dd17c748142ebeeef1b5ab262a447fc81d986b2fee88f342ff3ac7d1439ea20", checked := Tryz.checked }
namespace Rows
def none {H : Type} : Left H := { results := [], args := [] }

/- WHAT THE LISTED PACKAGE-LEVEL VARIABLES READ AS WHEN THE CALL BEGINS. Each datum BY PROGRAM (the guide's laid-datum.mjs) off the statement by which the dump's own 'gosem.cut.vars' lays the variable. In a bare row this is a premise. The card (YtjldkndalcellaaGreatDoorCards.lean) ties it to the program's text. -/
def laid_math_bits_deBruijn32tab {H : Type} : DataW H := .agg [.lit (.int .u8 0), .lit (.int .u8 1), .lit (.int .u8 28), .lit (.int .u8 2), .lit (.int .u8 29), .lit (.int .u8 14), .lit (.int .u8 24), .lit (.int .u8 3), .lit (.int .u8 30), .lit (.int .u8 22), .lit (.int .u8 20), .lit (.int .u8 15), .lit (.int .u8 25), .lit (.int .u8 17), .lit (.int .u8 4), .lit (.int .u8 8), .lit (.int .u8 31), .lit (.int .u8 27), .lit (.int .u8 13), .lit (.int .u8 23), .lit (.int .u8 21), .lit (.int .u8 19), .lit (.int .u8 16), .lit (.int .u8 7), .lit (.int .u8 26), .lit (.int .u8 12), .lit (.int .u8 18), .lit (.int .u8 6), .lit (.int .u8 11), .lit (.int .u8 5), .lit (.int .u8 10), .lit (.int .u8 9)]
def laid_math_bits_deBruijn64tab {H : Type} : DataW H := .agg [.lit (.int .u8 0), .lit (.int .u8 1), .lit (.int .u8 56), .lit (.int .u8 2), .lit (.int .u8 57), .lit (.int .u8 49), .lit (.int .u8 28), .lit (.int .u8 3), .lit (.int .u8 61), .lit (.int .u8 58), .lit (.int .u8 42), .lit (.int .u8 50), .lit (.int .u8 38), .lit (.int .u8 29), .lit (.int .u8 17), .lit (.int .u8 4), .lit (.int .u8 62), .lit (.int .u8 47), .lit (.int .u8 59), .lit (.int .u8 36), .lit (.int .u8 45), .lit (.int .u8 43), .lit (.int .u8 51), .lit (.int .u8 22), .lit (.int .u8 53), .lit (.int .u8 39), .lit (.int .u8 33), .lit (.int .u8 30), .lit (.int .u8 24), .lit (.int .u8 18), .lit (.int .u8 12), .lit (.int .u8 5), .lit (.int .u8 63), .lit (.int .u8 55), .lit (.int .u8 48), .lit (.int .u8 27), .lit (.int .u8 60), .lit (.int .u8 41), .lit (.int .u8 37), .lit (.int .u8 16), .lit (.int .u8 46), .lit (.int .u8 35), .lit (.int .u8 44), .lit (.int .u8 21), .lit (.int .u8 52), .lit (.int .u8 32), .lit (.int .u8 23), .lit (.int .u8 11), .lit (.int .u8 54), .lit (.int .u8 26), .lit (.int .u8 40), .lit (.int .u8 15), .lit (.int .u8 34), .lit (.int .u8 20), .lit (.int .u8 31), .lit (.int .u8 10), .lit (.int .u8 25), .lit (.int .u8 14), .lit (.int .u8 19), .lit (.int .u8 9), .lit (.int .u8 13), .lit (.int .u8 8), .lit (.int .u8 7), .lit (.int .u8 6)]
def laid_internal_strconv_uint64pow10 {H : Type} : DataW H := .agg [.lit (.int .u64 1), .lit (.int .u64 10), .lit (.int .u64 100), .lit (.int .u64 1000), .lit (.int .u64 10000), .lit (.int .u64 100000), .lit (.int .u64 1000000), .lit (.int .u64 10000000), .lit (.int .u64 100000000), .lit (.int .u64 1000000000), .lit (.int .u64 10000000000), .lit (.int .u64 100000000000), .lit (.int .u64 1000000000000), .lit (.int .u64 10000000000000), .lit (.int .u64 100000000000000), .lit (.int .u64 1000000000000000), .lit (.int .u64 10000000000000000), .lit (.int .u64 100000000000000000), .lit (.int .u64 1000000000000000000), .lit (.int .u64 10000000000000000000)]
def laid_floodgate_cells_faults {H : Type} : DataW H := .agg [.lit (.string []), .lit (.string [122, 101, 114, 111, 33]), .lit (.string [114, 97, 110, 103, 101, 33]), .lit (.string [105, 110, 100, 101, 120, 33]), .lit (.string [115, 105, 122, 101, 33]), .lit (.string [107, 105, 110, 100, 33])]

/-- 'floodgatelaw06.CellsChecks': WHATEVER THE INPUT: true; the input reads as it did. -/
def cellsChecksSpec : ChangeSpec := { name := "cellsChecks", fn := fun _ => fun
  | [d] => { results := [.lit (.bool true)], args := [d] }
  | _ => none }
def cellsChecksRow : OpenClaim := { program := "ytjldkndalcellaagreatdoor", sum := "5dd17c748142ebeeef1b5ab262a447fc81d986b2fee88f342ff3ac7d1439ea20", func := "floodgate/floodgatelaw06.CellsChecks", spec := "cellsChecks", inPlace := ["internal/abi.NoEscape"], unfollowed := true, recurses := true, named := ["floodgate/cells.faults", "internal/strconv.uint64pow10", "math/bits.deBruijn32tab", "math/bits.deBruijn64tab"], apart := false, laid := [("math/bits.deBruijn32tab", laid_math_bits_deBruijn32tab), ("math/bits.deBruijn64tab", laid_math_bits_deBruijn64tab), ("internal/strconv.uint64pow10", laid_internal_strconv_uint64pow10), ("floodgate/cells.faults", laid_floodgate_cells_faults)] }
def CellsChecksSaid : Prop := cellsChecksRow.holds Tryz.pinned (OpenSpec.ofChange cellsChecksSpec)

/-- ITS FALSE NEIGHBOUR: 'it returns false'. Refute it at one input. -/
def cellsChecksWrong : ChangeSpec := { name := "cellsChecks", fn := fun _ => fun
  | [d] => { results := [.lit (.bool false)], args := [d] }
  | _ => none }
def CellsChecksWrongFalsely : Prop := cellsChecksRow.holds Tryz.pinned (OpenSpec.ofChange cellsChecksWrong)

/-- 'floodgatelaw06.CellsDraws': WHATEVER THE INPUT: true; the input reads as it did. -/
def cellsDrawsSpec : ChangeSpec := { name := "cellsDraws", fn := fun _ => fun
  | [d1, d2, d3] => { results := [.lit (.bool true)], args := [d1, d2, d3] }
  | _ => none }
def cellsDrawsRow : OpenClaim := { program := "ytjldkndalcellaagreatdoor", sum := "5dd17c748142ebeeef1b5ab262a447fc81d986b2fee88f342ff3ac7d1439ea20", func := "floodgate/floodgatelaw06.CellsDraws", spec := "cellsDraws", inPlace := ["internal/abi.NoEscape"], unfollowed := true, recurses := true, named := ["floodgate/cells.faults", "internal/strconv.uint64pow10", "math/bits.deBruijn32tab", "math/bits.deBruijn64tab"], apart := false, laid := [("math/bits.deBruijn32tab", laid_math_bits_deBruijn32tab), ("math/bits.deBruijn64tab", laid_math_bits_deBruijn64tab), ("internal/strconv.uint64pow10", laid_internal_strconv_uint64pow10), ("floodgate/cells.faults", laid_floodgate_cells_faults)] }
def CellsDrawsSaid : Prop := cellsDrawsRow.holds Tryz.pinned (OpenSpec.ofChange cellsDrawsSpec)

/-- ITS FALSE NEIGHBOUR: 'it returns false'. Refute it at one input. -/
def cellsDrawsWrong : ChangeSpec := { name := "cellsDraws", fn := fun _ => fun
  | [d1, d2, d3] => { results := [.lit (.bool false)], args := [d1, d2, d3] }
  | _ => none }
def CellsDrawsWrongFalsely : Prop := cellsDrawsRow.holds Tryz.pinned (OpenSpec.ofChange cellsDrawsWrong)

/-- 'floodgatelaw06.CellsBelow': WHATEVER THE INPUT: true; the input reads as it did. -/
def cellsBelowSpec : ChangeSpec := { name := "cellsBelow", fn := fun _ => fun
  | [d1, d2] => { results := [.lit (.bool true)], args := [d1, d2] }
  | _ => none }
def cellsBelowRow : OpenClaim := { program := "ytjldkndalcellaagreatdoor", sum := "5dd17c748142ebeeef1b5ab262a447fc81d986b2fee88f342ff3ac7d1439ea20", func := "floodgate/floodgatelaw06.CellsBelow", spec := "cellsBelow", inPlace := ["internal/abi.NoEscape"], unfollowed := true, recurses := true, named := ["floodgate/cells.faults", "internal/strconv.uint64pow10", "math/bits.deBruijn32tab", "math/bits.deBruijn64tab"], apart := false, laid := [("math/bits.deBruijn32tab", laid_math_bits_deBruijn32tab), ("math/bits.deBruijn64tab", laid_math_bits_deBruijn64tab), ("internal/strconv.uint64pow10", laid_internal_strconv_uint64pow10), ("floodgate/cells.faults", laid_floodgate_cells_faults)] }
def CellsBelowSaid : Prop := cellsBelowRow.holds Tryz.pinned (OpenSpec.ofChange cellsBelowSpec)

/-- ITS FALSE NEIGHBOUR: 'it returns false'. Refute it at one input. -/
def cellsBelowWrong : ChangeSpec := { name := "cellsBelow", fn := fun _ => fun
  | [d1, d2] => { results := [.lit (.bool false)], args := [d1, d2] }
  | _ => none }
def CellsBelowWrongFalsely : Prop := cellsBelowRow.holds Tryz.pinned (OpenSpec.ofChange cellsBelowWrong)

/-- 'floodgatelaw06.CellsBuilds': WHATEVER THE INPUT: true; the input reads as it did. -/
def cellsBuildsSpec : ChangeSpec := { name := "cellsBuilds", fn := fun _ => fun
  | [d1, d2] => { results := [.lit (.bool true)], args := [d1, d2] }
  | _ => none }
def cellsBuildsRow : OpenClaim := { program := "ytjldkndalcellaagreatdoor", sum := "5dd17c748142ebeeef1b5ab262a447fc81d986b2fee88f342ff3ac7d1439ea20", func := "floodgate/floodgatelaw06.CellsBuilds", spec := "cellsBuilds", inPlace := ["internal/abi.NoEscape"], unfollowed := true, recurses := true, named := ["floodgate/cells.faults", "internal/strconv.uint64pow10", "math/bits.deBruijn32tab", "math/bits.deBruijn64tab"], apart := false, laid := [("math/bits.deBruijn32tab", laid_math_bits_deBruijn32tab), ("math/bits.deBruijn64tab", laid_math_bits_deBruijn64tab), ("internal/strconv.uint64pow10", laid_internal_strconv_uint64pow10), ("floodgate/cells.faults", laid_floodgate_cells_faults)] }
def CellsBuildsSaid : Prop := cellsBuildsRow.holds Tryz.pinned (OpenSpec.ofChange cellsBuildsSpec)

/-- ITS FALSE NEIGHBOUR: 'it returns false'. Refute it at one input. -/
def cellsBuildsWrong : ChangeSpec := { name := "cellsBuilds", fn := fun _ => fun
  | [d1, d2] => { results := [.lit (.bool false)], args := [d1, d2] }
  | _ => none }
def CellsBuildsWrongFalsely : Prop := cellsBuildsRow.holds Tryz.pinned (OpenSpec.ofChange cellsBuildsWrong)

/-- 'floodgatelaw06.CellsDrawn': WHATEVER THE INPUT: true; the input reads as it did. -/
def cellsDrawnSpec : ChangeSpec := { name := "cellsDrawn", fn := fun _ => fun
  | [d] => { results := [.lit (.bool true)], args := [d] }
  | _ => none }
def cellsDrawnRow : OpenClaim := { program := "ytjldkndalcellaagreatdoor", sum := "5dd17c748142ebeeef1b5ab262a447fc81d986b2fee88f342ff3ac7d1439ea20", func := "floodgate/floodgatelaw06.CellsDrawn", spec := "cellsDrawn", inPlace := ["internal/abi.NoEscape"], unfollowed := true, recurses := true, named := ["floodgate/cells.faults", "internal/strconv.uint64pow10", "math/bits.deBruijn32tab", "math/bits.deBruijn64tab"], apart := false, laid := [("math/bits.deBruijn32tab", laid_math_bits_deBruijn32tab), ("math/bits.deBruijn64tab", laid_math_bits_deBruijn64tab), ("internal/strconv.uint64pow10", laid_internal_strconv_uint64pow10), ("floodgate/cells.faults", laid_floodgate_cells_faults)] }
def CellsDrawnSaid : Prop := cellsDrawnRow.holds Tryz.pinned (OpenSpec.ofChange cellsDrawnSpec)

/-- ITS FALSE NEIGHBOUR: 'it returns false'. Refute it at one input. -/
def cellsDrawnWrong : ChangeSpec := { name := "cellsDrawn", fn := fun _ => fun
  | [d] => { results := [.lit (.bool false)], args := [d] }
  | _ => none }
def CellsDrawnWrongFalsely : Prop := cellsDrawnRow.holds Tryz.pinned (OpenSpec.ofChange cellsDrawnWrong)

/-- 'floodgatelaw06.CellsBuilt': WHATEVER THE INPUT: true; the input reads as it did. -/
def cellsBuiltSpec : ChangeSpec := { name := "cellsBuilt", fn := fun _ => fun
  | [d1, d2] => { results := [.lit (.bool true)], args := [d1, d2] }
  | _ => none }
def cellsBuiltRow : OpenClaim := { program := "ytjldkndalcellaagreatdoor", sum := "5dd17c748142ebeeef1b5ab262a447fc81d986b2fee88f342ff3ac7d1439ea20", func := "floodgate/floodgatelaw06.CellsBuilt", spec := "cellsBuilt", inPlace := ["internal/abi.NoEscape"], unfollowed := true, recurses := true, named := ["floodgate/cells.faults", "internal/strconv.uint64pow10", "math/bits.deBruijn32tab", "math/bits.deBruijn64tab"], apart := false, laid := [("math/bits.deBruijn32tab", laid_math_bits_deBruijn32tab), ("math/bits.deBruijn64tab", laid_math_bits_deBruijn64tab), ("internal/strconv.uint64pow10", laid_internal_strconv_uint64pow10), ("floodgate/cells.faults", laid_floodgate_cells_faults)] }
def CellsBuiltSaid : Prop := cellsBuiltRow.holds Tryz.pinned (OpenSpec.ofChange cellsBuiltSpec)

/-- ITS FALSE NEIGHBOUR: 'it returns false'. Refute it at one input. -/
def cellsBuiltWrong : ChangeSpec := { name := "cellsBuilt", fn := fun _ => fun
  | [d1, d2] => { results := [.lit (.bool false)], args := [d1, d2] }
  | _ => none }
def CellsBuiltWrongFalsely : Prop := cellsBuiltRow.holds Tryz.pinned (OpenSpec.ofChange cellsBuiltWrong)

/- THE SECOND FORM. 'bulk': how many values and letters a reading holds, each counted each time it is reached (what is shared counts as often as it is met; a slice's spare places count too). A statement '..UptoSaid' is the law's where the arguments, and the package variables that the reading takes, are together of bulk at most 1048576: NARROWER than '..Said'. Prove '..Said' where nothing that the law and all that it calls make is longer than what came in: it says more and counts as full. Else prove '..UptoSaid'. A law counts once. -/
mutual
def uptoBulk {H : Type} : DataW H → Nat
  | .lit (.string bytes) => bytes.length + 1
  | .lit _ => 1
  | .nil => 1
  | .ptr d => uptoBulk d + 1
  | .slice elems spare => uptoBulkAll elems + uptoBulkAll spare + 1
  | .agg parts => uptoBulkAll parts + 1
  | .iface _ d => uptoBulk d + 1
  | .map entries => uptoBulkEntries entries + 1
  | .held _ => 1
def uptoBulkAll {H : Type} : List (DataW H) → Nat
  | [] => 0
  | d :: r => uptoBulk d + uptoBulkAll r
def uptoBulkEntries {H : Type} : List (Lit × DataW H) → Nat
  | [] => 0
  | x :: r => uptoBulkEntry x + uptoBulkEntries r
def uptoBulkEntry {H : Type} : Lit × DataW H → Nat
  | (.string bytes, d) => bytes.length + uptoBulk d + 1
  | (_, d) => uptoBulk d + 1
 end
def uptoSmall : (H : Type) → List (DataW H) → Bool := fun _ ds => decide (uptoBulkAll ds ≤ 1048576)
def OpenSpec.upto (s : _root_.Go.ChangeSpec) : _root_.Go.OpenSpec := { _root_.Go.OpenSpec.ofChange s with cond := some uptoSmall }

/-- 'floodgatelaw06.CellsChecks', WHERE WHAT IT READS IS OF BULK AT MOST 1048576: true; the input reads as it did. -/
def cellsChecksUptoRow : OpenClaim := { program := "ytjldkndalcellaagreatdoor", sum := "5dd17c748142ebeeef1b5ab262a447fc81d986b2fee88f342ff3ac7d1439ea20", func := "floodgate/floodgatelaw06.CellsChecks", spec := "cellsChecks", inPlace := ["internal/abi.NoEscape"], unfollowed := true, recurses := true, named := ["floodgate/cells.faults", "internal/strconv.uint64pow10", "math/bits.deBruijn32tab", "math/bits.deBruijn64tab"], apart := false, laid := [("math/bits.deBruijn32tab", laid_math_bits_deBruijn32tab), ("math/bits.deBruijn64tab", laid_math_bits_deBruijn64tab), ("internal/strconv.uint64pow10", laid_internal_strconv_uint64pow10), ("floodgate/cells.faults", laid_floodgate_cells_faults)], narrowed := true }
def CellsChecksUptoSaid : Prop := cellsChecksUptoRow.holds Tryz.pinned (OpenSpec.upto cellsChecksSpec)

/-- 'floodgatelaw06.CellsDraws', WHERE WHAT IT READS IS OF BULK AT MOST 1048576: true; the input reads as it did. -/
def cellsDrawsUptoRow : OpenClaim := { program := "ytjldkndalcellaagreatdoor", sum := "5dd17c748142ebeeef1b5ab262a447fc81d986b2fee88f342ff3ac7d1439ea20", func := "floodgate/floodgatelaw06.CellsDraws", spec := "cellsDraws", inPlace := ["internal/abi.NoEscape"], unfollowed := true, recurses := true, named := ["floodgate/cells.faults", "internal/strconv.uint64pow10", "math/bits.deBruijn32tab", "math/bits.deBruijn64tab"], apart := false, laid := [("math/bits.deBruijn32tab", laid_math_bits_deBruijn32tab), ("math/bits.deBruijn64tab", laid_math_bits_deBruijn64tab), ("internal/strconv.uint64pow10", laid_internal_strconv_uint64pow10), ("floodgate/cells.faults", laid_floodgate_cells_faults)], narrowed := true }
def CellsDrawsUptoSaid : Prop := cellsDrawsUptoRow.holds Tryz.pinned (OpenSpec.upto cellsDrawsSpec)

/-- 'floodgatelaw06.CellsBelow', WHERE WHAT IT READS IS OF BULK AT MOST 1048576: true; the input reads as it did. -/
def cellsBelowUptoRow : OpenClaim := { program := "ytjldkndalcellaagreatdoor", sum := "5dd17c748142ebeeef1b5ab262a447fc81d986b2fee88f342ff3ac7d1439ea20", func := "floodgate/floodgatelaw06.CellsBelow", spec := "cellsBelow", inPlace := ["internal/abi.NoEscape"], unfollowed := true, recurses := true, named := ["floodgate/cells.faults", "internal/strconv.uint64pow10", "math/bits.deBruijn32tab", "math/bits.deBruijn64tab"], apart := false, laid := [("math/bits.deBruijn32tab", laid_math_bits_deBruijn32tab), ("math/bits.deBruijn64tab", laid_math_bits_deBruijn64tab), ("internal/strconv.uint64pow10", laid_internal_strconv_uint64pow10), ("floodgate/cells.faults", laid_floodgate_cells_faults)], narrowed := true }
def CellsBelowUptoSaid : Prop := cellsBelowUptoRow.holds Tryz.pinned (OpenSpec.upto cellsBelowSpec)

/-- 'floodgatelaw06.CellsBuilds', WHERE WHAT IT READS IS OF BULK AT MOST 1048576: true; the input reads as it did. -/
def cellsBuildsUptoRow : OpenClaim := { program := "ytjldkndalcellaagreatdoor", sum := "5dd17c748142ebeeef1b5ab262a447fc81d986b2fee88f342ff3ac7d1439ea20", func := "floodgate/floodgatelaw06.CellsBuilds", spec := "cellsBuilds", inPlace := ["internal/abi.NoEscape"], unfollowed := true, recurses := true, named := ["floodgate/cells.faults", "internal/strconv.uint64pow10", "math/bits.deBruijn32tab", "math/bits.deBruijn64tab"], apart := false, laid := [("math/bits.deBruijn32tab", laid_math_bits_deBruijn32tab), ("math/bits.deBruijn64tab", laid_math_bits_deBruijn64tab), ("internal/strconv.uint64pow10", laid_internal_strconv_uint64pow10), ("floodgate/cells.faults", laid_floodgate_cells_faults)], narrowed := true }
def CellsBuildsUptoSaid : Prop := cellsBuildsUptoRow.holds Tryz.pinned (OpenSpec.upto cellsBuildsSpec)

/-- 'floodgatelaw06.CellsDrawn', WHERE WHAT IT READS IS OF BULK AT MOST 1048576: true; the input reads as it did. -/
def cellsDrawnUptoRow : OpenClaim := { program := "ytjldkndalcellaagreatdoor", sum := "5dd17c748142ebeeef1b5ab262a447fc81d986b2fee88f342ff3ac7d1439ea20", func := "floodgate/floodgatelaw06.CellsDrawn", spec := "cellsDrawn", inPlace := ["internal/abi.NoEscape"], unfollowed := true, recurses := true, named := ["floodgate/cells.faults", "internal/strconv.uint64pow10", "math/bits.deBruijn32tab", "math/bits.deBruijn64tab"], apart := false, laid := [("math/bits.deBruijn32tab", laid_math_bits_deBruijn32tab), ("math/bits.deBruijn64tab", laid_math_bits_deBruijn64tab), ("internal/strconv.uint64pow10", laid_internal_strconv_uint64pow10), ("floodgate/cells.faults", laid_floodgate_cells_faults)], narrowed := true }
def CellsDrawnUptoSaid : Prop := cellsDrawnUptoRow.holds Tryz.pinned (OpenSpec.upto cellsDrawnSpec)

/-- 'floodgatelaw06.CellsBuilt', WHERE WHAT IT READS IS OF BULK AT MOST 1048576: true; the input reads as it did. -/
def cellsBuiltUptoRow : OpenClaim := { program := "ytjldkndalcellaagreatdoor", sum := "5dd17c748142ebeeef1b5ab262a447fc81d986b2fee88f342ff3ac7d1439ea20", func := "floodgate/floodgatelaw06.CellsBuilt", spec := "cellsBuilt", inPlace := ["internal/abi.NoEscape"], unfollowed := true, recurses := true, named := ["floodgate/cells.faults", "internal/strconv.uint64pow10", "math/bits.deBruijn32tab", "math/bits.deBruijn64tab"], apart := false, laid := [("math/bits.deBruijn32tab", laid_math_bits_deBruijn32tab), ("math/bits.deBruijn64tab", laid_math_bits_deBruijn64tab), ("internal/strconv.uint64pow10", laid_internal_strconv_uint64pow10), ("floodgate/cells.faults", laid_floodgate_cells_faults)], narrowed := true }
def CellsBuiltUptoSaid : Prop := cellsBuiltUptoRow.holds Tryz.pinned (OpenSpec.upto cellsBuiltSpec)

end Rows
end Go.Proofs.YtjldkndalcellaaGreatDoor
