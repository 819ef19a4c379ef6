/-
  DERIVED. GIVEN WITH THE SEED: THE CARDS: each row of YtjldkndalcellaaGreatDoorRows.lean that lists a variable, with what it lists TIED to the program's text (the seventh form; the later family's looks); each row that meets fmt, with fmt's text TOLD by the authors' own Lean function (tested against real Go, not proved from fmt's source: count such statements apart). THE CARD IS WHAT COUNTS. Prove the row's statement (the work); the ties are given (YtjldkndalcellaaGreatDoorTie.lean); close each card by the builder's one call (the guide's Derived/Test/ToyasCard.lean, 'card_holds'). Laid BY PROGRAM, IN A SANDBOX (cutbox-door.mjs). By AI agents, Wed Nov 11 2026. No macro, syntax, notation, axiom, sorry.
-/
import Derived.Test.YtjldkndalcellaaGreatDoorRows
import GoSem.ClaimSeven
namespace Go.Proofs.YtjldkndalcellaaGreatDoor
namespace Rows

/-- THE TIED CARD OF 'floodgatelaw06.CellsChecks'. -/
def cellsChecksCard : Claim7 := { stood := { row := cellsChecksRow, standIns := [], harness := (true, "707ef8b073346df9e11223088edd6547071e7ec2b30287a8e0bf4f094b3ee9fe"), looks := false }, kinds := [], alts := [], laidByText := true, laidKinds := [.data, .data, .data, .data], laidTests := true, laidLooks := .later }
def CellsChecksCardSaid : Prop := Claim7.holds Tryz.pinned (.plain (OpenSpec.ofChange cellsChecksSpec)) cellsChecksCard

/-- THE TIED CARD OF 'floodgatelaw06.CellsDraws'. -/
def cellsDrawsCard : Claim7 := { stood := { row := cellsDrawsRow, standIns := [], harness := (true, "707ef8b073346df9e11223088edd6547071e7ec2b30287a8e0bf4f094b3ee9fe"), looks := false }, kinds := [], alts := [], laidByText := true, laidKinds := [.data, .data, .data, .data], laidTests := true, laidLooks := .later }
def CellsDrawsCardSaid : Prop := Claim7.holds Tryz.pinned (.plain (OpenSpec.ofChange cellsDrawsSpec)) cellsDrawsCard

/-- THE TIED CARD OF 'floodgatelaw06.CellsBelow'. -/
def cellsBelowCard : Claim7 := { stood := { row := cellsBelowRow, standIns := [], harness := (true, "707ef8b073346df9e11223088edd6547071e7ec2b30287a8e0bf4f094b3ee9fe"), looks := false }, kinds := [], alts := [], laidByText := true, laidKinds := [.data, .data, .data, .data], laidTests := true, laidLooks := .later }
def CellsBelowCardSaid : Prop := Claim7.holds Tryz.pinned (.plain (OpenSpec.ofChange cellsBelowSpec)) cellsBelowCard

/-- THE TIED CARD OF 'floodgatelaw06.CellsBuilds'. -/
def cellsBuildsCard : Claim7 := { stood := { row := cellsBuildsRow, standIns := [], harness := (true, "707ef8b073346df9e11223088edd6547071e7ec2b30287a8e0bf4f094b3ee9fe"), looks := false }, kinds := [], alts := [], laidByText := true, laidKinds := [.data, .data, .data, .data], laidTests := true, laidLooks := .later }
def CellsBuildsCardSaid : Prop := Claim7.holds Tryz.pinned (.plain (OpenSpec.ofChange cellsBuildsSpec)) cellsBuildsCard

/-- THE TIED CARD OF 'floodgatelaw06.CellsDrawn'. -/
def cellsDrawnCard : Claim7 := { stood := { row := cellsDrawnRow, standIns := [], harness := (true, "707ef8b073346df9e11223088edd6547071e7ec2b30287a8e0bf4f094b3ee9fe"), looks := false }, kinds := [], alts := [], laidByText := true, laidKinds := [.data, .data, .data, .data], laidTests := true, laidLooks := .later }
def CellsDrawnCardSaid : Prop := Claim7.holds Tryz.pinned (.plain (OpenSpec.ofChange cellsDrawnSpec)) cellsDrawnCard

/-- THE TIED CARD OF 'floodgatelaw06.CellsBuilt'. -/
def cellsBuiltCard : Claim7 := { stood := { row := cellsBuiltRow, standIns := [], harness := (true, "707ef8b073346df9e11223088edd6547071e7ec2b30287a8e0bf4f094b3ee9fe"), looks := false }, kinds := [], alts := [], laidByText := true, laidKinds := [.data, .data, .data, .data], laidTests := true, laidLooks := .later }
def CellsBuiltCardSaid : Prop := Claim7.holds Tryz.pinned (.plain (OpenSpec.ofChange cellsBuiltSpec)) cellsBuiltCard

/-- THE SECOND FORM's CARD OF 'floodgatelaw06.CellsChecks'. -/
def cellsChecksUptoCard : Claim7 := { stood := { row := cellsChecksUptoRow, standIns := [], harness := (true, "707ef8b073346df9e11223088edd6547071e7ec2b30287a8e0bf4f094b3ee9fe"), looks := false }, kinds := [], alts := [], laidByText := true, laidKinds := [.data, .data, .data, .data], laidTests := true, laidLooks := .later }
def CellsChecksUptoCardSaid : Prop := Claim7.holds Tryz.pinned (.plain (OpenSpec.upto cellsChecksSpec)) cellsChecksUptoCard

/-- THE SECOND FORM's CARD OF 'floodgatelaw06.CellsDraws'. -/
def cellsDrawsUptoCard : Claim7 := { stood := { row := cellsDrawsUptoRow, standIns := [], harness := (true, "707ef8b073346df9e11223088edd6547071e7ec2b30287a8e0bf4f094b3ee9fe"), looks := false }, kinds := [], alts := [], laidByText := true, laidKinds := [.data, .data, .data, .data], laidTests := true, laidLooks := .later }
def CellsDrawsUptoCardSaid : Prop := Claim7.holds Tryz.pinned (.plain (OpenSpec.upto cellsDrawsSpec)) cellsDrawsUptoCard

/-- THE SECOND FORM's CARD OF 'floodgatelaw06.CellsBelow'. -/
def cellsBelowUptoCard : Claim7 := { stood := { row := cellsBelowUptoRow, standIns := [], harness := (true, "707ef8b073346df9e11223088edd6547071e7ec2b30287a8e0bf4f094b3ee9fe"), looks := false }, kinds := [], alts := [], laidByText := true, laidKinds := [.data, .data, .data, .data], laidTests := true, laidLooks := .later }
def CellsBelowUptoCardSaid : Prop := Claim7.holds Tryz.pinned (.plain (OpenSpec.upto cellsBelowSpec)) cellsBelowUptoCard

/-- THE SECOND FORM's CARD OF 'floodgatelaw06.CellsBuilds'. -/
def cellsBuildsUptoCard : Claim7 := { stood := { row := cellsBuildsUptoRow, standIns := [], harness := (true, "707ef8b073346df9e11223088edd6547071e7ec2b30287a8e0bf4f094b3ee9fe"), looks := false }, kinds := [], alts := [], laidByText := true, laidKinds := [.data, .data, .data, .data], laidTests := true, laidLooks := .later }
def CellsBuildsUptoCardSaid : Prop := Claim7.holds Tryz.pinned (.plain (OpenSpec.upto cellsBuildsSpec)) cellsBuildsUptoCard

/-- THE SECOND FORM's CARD OF 'floodgatelaw06.CellsDrawn'. -/
def cellsDrawnUptoCard : Claim7 := { stood := { row := cellsDrawnUptoRow, standIns := [], harness := (true, "707ef8b073346df9e11223088edd6547071e7ec2b30287a8e0bf4f094b3ee9fe"), looks := false }, kinds := [], alts := [], laidByText := true, laidKinds := [.data, .data, .data, .data], laidTests := true, laidLooks := .later }
def CellsDrawnUptoCardSaid : Prop := Claim7.holds Tryz.pinned (.plain (OpenSpec.upto cellsDrawnSpec)) cellsDrawnUptoCard

/-- THE SECOND FORM's CARD OF 'floodgatelaw06.CellsBuilt'. -/
def cellsBuiltUptoCard : Claim7 := { stood := { row := cellsBuiltUptoRow, standIns := [], harness := (true, "707ef8b073346df9e11223088edd6547071e7ec2b30287a8e0bf4f094b3ee9fe"), looks := false }, kinds := [], alts := [], laidByText := true, laidKinds := [.data, .data, .data, .data], laidTests := true, laidLooks := .later }
def CellsBuiltUptoCardSaid : Prop := Claim7.holds Tryz.pinned (.plain (OpenSpec.upto cellsBuiltSpec)) cellsBuiltUptoCard
end Rows
end Go.Proofs.YtjldkndalcellaaGreatDoor
