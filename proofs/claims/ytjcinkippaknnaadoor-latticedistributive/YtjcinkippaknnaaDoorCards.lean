/-
  DERIVED. GIVEN WITH THE SEED: THE CARDS: each row of YtjcinkippaknnaaDoorRows.lean that lists a variable, with what it lists TIED to the program's text (the seventh form; the later family's looks); each row that meets fmt, with fmt's text TOLD by the authors' own Lean function (tested against real Go, not proved from fmt's source: count such statements apart). THE CARD IS WHAT COUNTS. Prove the row's statement (the work); the ties are given (YtjcinkippaknnaaDoorTie.lean); close each card by the builder's one call (the guide's Derived/Test/ToyasCard.lean, 'card_holds'). Laid BY PROGRAM, IN A SANDBOX (cutbox-door.mjs). By AI agents, Wed Nov 11 2026. No macro, syntax, notation, axiom, sorry.
-/
import Derived.Test.YtjcinkippaknnaaDoorRows
import GoSem.ClaimSeven
namespace Go.Proofs.YtjcinkippaknnaaDoor
namespace Rows

/-- THE TIED CARD OF 'hasselaw.LatticeChecks'. -/
def latticeChecksCard : Claim7 := { stood := { row := latticeChecksRow, standIns := [], harness := (true, "855aabc809ff22224052ee9d0a11ddbc85cee687179db8711079d2cb13a51508"), looks := false }, kinds := [], alts := [], laidByText := true, laidKinds := [.data, .data], laidTests := true, laidLooks := .later }
def LatticeChecksCardSaid : Prop := Claim7.holds Tryd.pinned (.plain (OpenSpec.ofChange latticeChecksSpec)) latticeChecksCard

/-- THE TIED CARD OF 'hasselaw.LatticeTables'. -/
def latticeTablesCard : Claim7 := { stood := { row := latticeTablesRow, standIns := [], harness := (true, "855aabc809ff22224052ee9d0a11ddbc85cee687179db8711079d2cb13a51508"), looks := false }, kinds := [], alts := [], laidByText := true, laidKinds := [.data, .data], laidTests := true, laidLooks := .later }
def LatticeTablesCardSaid : Prop := Claim7.holds Tryd.pinned (.plain (OpenSpec.ofChange latticeTablesSpec)) latticeTablesCard

/-- THE TIED CARD OF 'hasselaw.LatticeOrders'. -/
def latticeOrdersCard : Claim7 := { stood := { row := latticeOrdersRow, standIns := [], harness := (true, "855aabc809ff22224052ee9d0a11ddbc85cee687179db8711079d2cb13a51508"), looks := false }, kinds := [], alts := [], laidByText := true, laidKinds := [.data, .data], laidTests := true, laidLooks := .later }
def LatticeOrdersCardSaid : Prop := Claim7.holds Tryd.pinned (.plain (OpenSpec.ofChange latticeOrdersSpec)) latticeOrdersCard

/-- THE TIED CARD OF 'hasselaw.LatticeModular'. -/
def latticeModularCard : Claim7 := { stood := { row := latticeModularRow, standIns := [], harness := (true, "855aabc809ff22224052ee9d0a11ddbc85cee687179db8711079d2cb13a51508"), looks := false }, kinds := [], alts := [], laidByText := true, laidKinds := [.data, .data], laidTests := true, laidLooks := .later }
def LatticeModularCardSaid : Prop := Claim7.holds Tryd.pinned (.plain (OpenSpec.ofChange latticeModularSpec)) latticeModularCard

/-- THE TIED CARD OF 'hasselaw.LatticeDistributive'. -/
def latticeDistributiveCard : Claim7 := { stood := { row := latticeDistributiveRow, standIns := [], harness := (true, "855aabc809ff22224052ee9d0a11ddbc85cee687179db8711079d2cb13a51508"), looks := false }, kinds := [], alts := [], laidByText := true, laidKinds := [.data, .data], laidTests := true, laidLooks := .later }
def LatticeDistributiveCardSaid : Prop := Claim7.holds Tryd.pinned (.plain (OpenSpec.ofChange latticeDistributiveSpec)) latticeDistributiveCard

/-- THE TIED CARD OF 'hasselaw.LatticePentagon'. -/
def latticePentagonCard : Claim7 := { stood := { row := latticePentagonRow, standIns := [], harness := (true, "855aabc809ff22224052ee9d0a11ddbc85cee687179db8711079d2cb13a51508"), looks := false }, kinds := [], alts := [], laidByText := true, laidKinds := [.data, .data], laidTests := true, laidLooks := .later }
def LatticePentagonCardSaid : Prop := Claim7.holds Tryd.pinned (.plain (OpenSpec.ofChange latticePentagonSpec)) latticePentagonCard

/-- THE SECOND FORM's CARD OF 'hasselaw.LatticeChecks'. -/
def latticeChecksUptoCard : Claim7 := { stood := { row := latticeChecksUptoRow, standIns := [], harness := (true, "855aabc809ff22224052ee9d0a11ddbc85cee687179db8711079d2cb13a51508"), looks := false }, kinds := [], alts := [], laidByText := true, laidKinds := [.data, .data], laidTests := true, laidLooks := .later }
def LatticeChecksUptoCardSaid : Prop := Claim7.holds Tryd.pinned (.plain (OpenSpec.upto latticeChecksSpec)) latticeChecksUptoCard

/-- THE SECOND FORM's CARD OF 'hasselaw.LatticeTables'. -/
def latticeTablesUptoCard : Claim7 := { stood := { row := latticeTablesUptoRow, standIns := [], harness := (true, "855aabc809ff22224052ee9d0a11ddbc85cee687179db8711079d2cb13a51508"), looks := false }, kinds := [], alts := [], laidByText := true, laidKinds := [.data, .data], laidTests := true, laidLooks := .later }
def LatticeTablesUptoCardSaid : Prop := Claim7.holds Tryd.pinned (.plain (OpenSpec.upto latticeTablesSpec)) latticeTablesUptoCard

/-- THE SECOND FORM's CARD OF 'hasselaw.LatticeOrders'. -/
def latticeOrdersUptoCard : Claim7 := { stood := { row := latticeOrdersUptoRow, standIns := [], harness := (true, "855aabc809ff22224052ee9d0a11ddbc85cee687179db8711079d2cb13a51508"), looks := false }, kinds := [], alts := [], laidByText := true, laidKinds := [.data, .data], laidTests := true, laidLooks := .later }
def LatticeOrdersUptoCardSaid : Prop := Claim7.holds Tryd.pinned (.plain (OpenSpec.upto latticeOrdersSpec)) latticeOrdersUptoCard

/-- THE SECOND FORM's CARD OF 'hasselaw.LatticeModular'. -/
def latticeModularUptoCard : Claim7 := { stood := { row := latticeModularUptoRow, standIns := [], harness := (true, "855aabc809ff22224052ee9d0a11ddbc85cee687179db8711079d2cb13a51508"), looks := false }, kinds := [], alts := [], laidByText := true, laidKinds := [.data, .data], laidTests := true, laidLooks := .later }
def LatticeModularUptoCardSaid : Prop := Claim7.holds Tryd.pinned (.plain (OpenSpec.upto latticeModularSpec)) latticeModularUptoCard

/-- THE SECOND FORM's CARD OF 'hasselaw.LatticeDistributive'. -/
def latticeDistributiveUptoCard : Claim7 := { stood := { row := latticeDistributiveUptoRow, standIns := [], harness := (true, "855aabc809ff22224052ee9d0a11ddbc85cee687179db8711079d2cb13a51508"), looks := false }, kinds := [], alts := [], laidByText := true, laidKinds := [.data, .data], laidTests := true, laidLooks := .later }
def LatticeDistributiveUptoCardSaid : Prop := Claim7.holds Tryd.pinned (.plain (OpenSpec.upto latticeDistributiveSpec)) latticeDistributiveUptoCard

/-- THE SECOND FORM's CARD OF 'hasselaw.LatticePentagon'. -/
def latticePentagonUptoCard : Claim7 := { stood := { row := latticePentagonUptoRow, standIns := [], harness := (true, "855aabc809ff22224052ee9d0a11ddbc85cee687179db8711079d2cb13a51508"), looks := false }, kinds := [], alts := [], laidByText := true, laidKinds := [.data, .data], laidTests := true, laidLooks := .later }
def LatticePentagonUptoCardSaid : Prop := Claim7.holds Tryd.pinned (.plain (OpenSpec.upto latticePentagonSpec)) latticePentagonUptoCard
end Rows
end Go.Proofs.YtjcinkippaknnaaDoor
