/-
  DERIVED. GIVEN WITH THE SEED: THE CARDS: each row of YtcgffklagnjecaaDoorRows.lean that lists a variable, with what it lists TIED to the program's text (the seventh form; the later family's looks); each row that meets fmt, with fmt's text TOLD by the authors' own Lean function (tested against real Go, not proved from fmt's source: count such statements apart). THE CARD IS WHAT COUNTS. Prove the row's statement (the work); the ties are given (YtcgffklagnjecaaDoorTie.lean); close each card by the builder's one call (the guide's Derived/Test/ToyasCard.lean, 'card_holds'). Laid BY PROGRAM, IN A SANDBOX (cutbox-door.mjs). By AI agents, Wed Nov 11 2026. No macro, syntax, notation, axiom, sorry.
-/
import Derived.Test.YtcgffklagnjecaaDoorRows
import GoSem.ClaimSeven
namespace Go.Proofs.YtcgffklagnjecaaDoor
namespace Rows

/-- THE TIED CARD OF 'hasselaw.LatticeOrders'. -/
def latticeOrdersCard : Claim7 := { stood := { row := latticeOrdersRow, standIns := [], harness := (true, "def90c591d4f58a7ae500a02ad05b3ea7fa3e4e0907d477ab946c4b2c6c51f76"), looks := false }, kinds := [], alts := [], laidByText := true, laidKinds := [.data, .data], laidTests := true, laidLooks := .later }
def LatticeOrdersCardSaid : Prop := Claim7.holds Tryd.pinned (.plain (OpenSpec.ofChange latticeOrdersSpec)) latticeOrdersCard

/-- THE TIED CARD OF 'hasselaw.LatticeModular'. -/
def latticeModularCard : Claim7 := { stood := { row := latticeModularRow, standIns := [], harness := (true, "def90c591d4f58a7ae500a02ad05b3ea7fa3e4e0907d477ab946c4b2c6c51f76"), looks := false }, kinds := [], alts := [], laidByText := true, laidKinds := [.data, .data], laidTests := true, laidLooks := .later }
def LatticeModularCardSaid : Prop := Claim7.holds Tryd.pinned (.plain (OpenSpec.ofChange latticeModularSpec)) latticeModularCard

/-- THE TIED CARD OF 'hasselaw.LatticePentagon'. -/
def latticePentagonCard : Claim7 := { stood := { row := latticePentagonRow, standIns := [], harness := (true, "def90c591d4f58a7ae500a02ad05b3ea7fa3e4e0907d477ab946c4b2c6c51f76"), looks := false }, kinds := [], alts := [], laidByText := true, laidKinds := [.data, .data], laidTests := true, laidLooks := .later }
def LatticePentagonCardSaid : Prop := Claim7.holds Tryd.pinned (.plain (OpenSpec.ofChange latticePentagonSpec)) latticePentagonCard

/-- THE TIED CARD OF 'hasselaw.LatticeBack'. -/
def latticeBackCard : Claim7 := { stood := { row := latticeBackRow, standIns := [], harness := (true, "def90c591d4f58a7ae500a02ad05b3ea7fa3e4e0907d477ab946c4b2c6c51f76"), looks := false }, kinds := [], alts := [], laidByText := true, laidKinds := [.data, .data], laidTests := true, laidLooks := .later }
def LatticeBackCardSaid : Prop := Claim7.holds Tryd.pinned (.plain (OpenSpec.ofChange latticeBackSpec)) latticeBackCard

/-- THE TIED CARD OF 'hasselaw.LatticeDedekind'. -/
def latticeDedekindCard : Claim7 := { stood := { row := latticeDedekindRow, standIns := [], harness := (true, "def90c591d4f58a7ae500a02ad05b3ea7fa3e4e0907d477ab946c4b2c6c51f76"), looks := false }, kinds := [], alts := [], laidByText := true, laidKinds := [.data, .data], laidTests := true, laidLooks := .later }
def LatticeDedekindCardSaid : Prop := Claim7.holds Tryd.pinned (.plain (OpenSpec.ofChange latticeDedekindSpec)) latticeDedekindCard

/-- THE TIED CARD OF 'hasselaw.LatticeBirkhoff'. -/
def latticeBirkhoffCard : Claim7 := { stood := { row := latticeBirkhoffRow, standIns := [], harness := (true, "def90c591d4f58a7ae500a02ad05b3ea7fa3e4e0907d477ab946c4b2c6c51f76"), looks := false }, kinds := [], alts := [], laidByText := true, laidKinds := [.data, .data], laidTests := true, laidLooks := .later }
def LatticeBirkhoffCardSaid : Prop := Claim7.holds Tryd.pinned (.plain (OpenSpec.ofChange latticeBirkhoffSpec)) latticeBirkhoffCard

/-- THE SECOND FORM's CARD OF 'hasselaw.LatticeOrders'. -/
def latticeOrdersUptoCard : Claim7 := { stood := { row := latticeOrdersUptoRow, standIns := [], harness := (true, "def90c591d4f58a7ae500a02ad05b3ea7fa3e4e0907d477ab946c4b2c6c51f76"), looks := false }, kinds := [], alts := [], laidByText := true, laidKinds := [.data, .data], laidTests := true, laidLooks := .later }
def LatticeOrdersUptoCardSaid : Prop := Claim7.holds Tryd.pinned (.plain (OpenSpec.upto latticeOrdersSpec)) latticeOrdersUptoCard

/-- THE SECOND FORM's CARD OF 'hasselaw.LatticeModular'. -/
def latticeModularUptoCard : Claim7 := { stood := { row := latticeModularUptoRow, standIns := [], harness := (true, "def90c591d4f58a7ae500a02ad05b3ea7fa3e4e0907d477ab946c4b2c6c51f76"), looks := false }, kinds := [], alts := [], laidByText := true, laidKinds := [.data, .data], laidTests := true, laidLooks := .later }
def LatticeModularUptoCardSaid : Prop := Claim7.holds Tryd.pinned (.plain (OpenSpec.upto latticeModularSpec)) latticeModularUptoCard

/-- THE SECOND FORM's CARD OF 'hasselaw.LatticePentagon'. -/
def latticePentagonUptoCard : Claim7 := { stood := { row := latticePentagonUptoRow, standIns := [], harness := (true, "def90c591d4f58a7ae500a02ad05b3ea7fa3e4e0907d477ab946c4b2c6c51f76"), looks := false }, kinds := [], alts := [], laidByText := true, laidKinds := [.data, .data], laidTests := true, laidLooks := .later }
def LatticePentagonUptoCardSaid : Prop := Claim7.holds Tryd.pinned (.plain (OpenSpec.upto latticePentagonSpec)) latticePentagonUptoCard

/-- THE SECOND FORM's CARD OF 'hasselaw.LatticeBack'. -/
def latticeBackUptoCard : Claim7 := { stood := { row := latticeBackUptoRow, standIns := [], harness := (true, "def90c591d4f58a7ae500a02ad05b3ea7fa3e4e0907d477ab946c4b2c6c51f76"), looks := false }, kinds := [], alts := [], laidByText := true, laidKinds := [.data, .data], laidTests := true, laidLooks := .later }
def LatticeBackUptoCardSaid : Prop := Claim7.holds Tryd.pinned (.plain (OpenSpec.upto latticeBackSpec)) latticeBackUptoCard

/-- THE SECOND FORM's CARD OF 'hasselaw.LatticeDedekind'. -/
def latticeDedekindUptoCard : Claim7 := { stood := { row := latticeDedekindUptoRow, standIns := [], harness := (true, "def90c591d4f58a7ae500a02ad05b3ea7fa3e4e0907d477ab946c4b2c6c51f76"), looks := false }, kinds := [], alts := [], laidByText := true, laidKinds := [.data, .data], laidTests := true, laidLooks := .later }
def LatticeDedekindUptoCardSaid : Prop := Claim7.holds Tryd.pinned (.plain (OpenSpec.upto latticeDedekindSpec)) latticeDedekindUptoCard

/-- THE SECOND FORM's CARD OF 'hasselaw.LatticeBirkhoff'. -/
def latticeBirkhoffUptoCard : Claim7 := { stood := { row := latticeBirkhoffUptoRow, standIns := [], harness := (true, "def90c591d4f58a7ae500a02ad05b3ea7fa3e4e0907d477ab946c4b2c6c51f76"), looks := false }, kinds := [], alts := [], laidByText := true, laidKinds := [.data, .data], laidTests := true, laidLooks := .later }
def LatticeBirkhoffUptoCardSaid : Prop := Claim7.holds Tryd.pinned (.plain (OpenSpec.upto latticeBirkhoffSpec)) latticeBirkhoffUptoCard
end Rows
end Go.Proofs.YtcgffklagnjecaaDoor
