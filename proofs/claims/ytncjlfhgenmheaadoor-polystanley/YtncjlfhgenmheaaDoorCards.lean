/-
  DERIVED. GIVEN WITH THE SEED: THE CARDS: each row of YtncjlfhgenmheaaDoorRows.lean that lists a variable, with what it lists TIED to the program's text (the seventh form; the later family's looks); each row that meets fmt, with fmt's text TOLD by the authors' own Lean function (tested against real Go, not proved from fmt's source: count such statements apart). THE CARD IS WHAT COUNTS. Prove the row's statement (the work); the ties are given (YtncjlfhgenmheaaDoorTie.lean); close each card by the builder's one call (the guide's Derived/Test/ToyasCard.lean, 'card_holds'). Laid BY PROGRAM, IN A SANDBOX (cutbox-door.mjs). By AI agents, Wed Nov 11 2026. No macro, syntax, notation, axiom, sorry.
-/
import Derived.Test.YtncjlfhgenmheaaDoorRows
import GoSem.ClaimSeven
namespace Go.Proofs.YtncjlfhgenmheaaDoor
namespace Rows

/-- THE TIED CARD OF 'hasselaw.PolyOnto'. -/
def polyOntoCard : Claim7 := { stood := { row := polyOntoRow, standIns := [], harness := (true, "a26f78bbc917ffb2ec04570e5c5c220704239b30c3185556c7596dbf8395a8dc"), looks := false }, kinds := [], alts := [], laidByText := true, laidKinds := [.data, .data], laidTests := true, laidLooks := .later }
def PolyOntoCardSaid : Prop := Claim7.holds Tryd.pinned (.plain (OpenSpec.ofChange polyOntoSpec)) polyOntoCard

/-- THE TIED CARD OF 'hasselaw.PolyValues'. -/
def polyValuesCard : Claim7 := { stood := { row := polyValuesRow, standIns := [], harness := (true, "a26f78bbc917ffb2ec04570e5c5c220704239b30c3185556c7596dbf8395a8dc"), looks := false }, kinds := [], alts := [], laidByText := true, laidKinds := [.data, .data], laidTests := true, laidLooks := .later }
def PolyValuesCardSaid : Prop := Claim7.holds Tryd.pinned (.plain (OpenSpec.ofChange polyValuesSpec)) polyValuesCard

/-- THE TIED CARD OF 'hasselaw.PolyStrict'. -/
def polyStrictCard : Claim7 := { stood := { row := polyStrictRow, standIns := [], harness := (true, "a26f78bbc917ffb2ec04570e5c5c220704239b30c3185556c7596dbf8395a8dc"), looks := false }, kinds := [], alts := [], laidByText := true, laidKinds := [.data, .data], laidTests := true, laidLooks := .later }
def PolyStrictCardSaid : Prop := Claim7.holds Tryd.pinned (.plain (OpenSpec.ofChange polyStrictSpec)) polyStrictCard

/-- THE TIED CARD OF 'hasselaw.PolyZeta'. -/
def polyZetaCard : Claim7 := { stood := { row := polyZetaRow, standIns := [], harness := (true, "a26f78bbc917ffb2ec04570e5c5c220704239b30c3185556c7596dbf8395a8dc"), looks := false }, kinds := [], alts := [], laidByText := true, laidKinds := [.data, .data], laidTests := true, laidLooks := .later }
def PolyZetaCardSaid : Prop := Claim7.holds Tryd.pinned (.plain (OpenSpec.ofChange polyZetaSpec)) polyZetaCard

/-- THE TIED CARD OF 'hasselaw.PolyCounts'. -/
def polyCountsCard : Claim7 := { stood := { row := polyCountsRow, standIns := [], harness := (true, "a26f78bbc917ffb2ec04570e5c5c220704239b30c3185556c7596dbf8395a8dc"), looks := false }, kinds := [], alts := [], laidByText := true, laidKinds := [.data, .data], laidTests := true, laidLooks := .later }
def PolyCountsCardSaid : Prop := Claim7.holds Tryd.pinned (.plain (OpenSpec.ofChange polyCountsSpec)) polyCountsCard

/-- THE TIED CARD OF 'hasselaw.PolyStanley'. -/
def polyStanleyCard : Claim7 := { stood := { row := polyStanleyRow, standIns := [], harness := (true, "a26f78bbc917ffb2ec04570e5c5c220704239b30c3185556c7596dbf8395a8dc"), looks := false }, kinds := [], alts := [], laidByText := true, laidKinds := [.data, .data], laidTests := true, laidLooks := .later }
def PolyStanleyCardSaid : Prop := Claim7.holds Tryd.pinned (.plain (OpenSpec.ofChange polyStanleySpec)) polyStanleyCard

/-- THE SECOND FORM's CARD OF 'hasselaw.PolyOnto'. -/
def polyOntoUptoCard : Claim7 := { stood := { row := polyOntoUptoRow, standIns := [], harness := (true, "a26f78bbc917ffb2ec04570e5c5c220704239b30c3185556c7596dbf8395a8dc"), looks := false }, kinds := [], alts := [], laidByText := true, laidKinds := [.data, .data], laidTests := true, laidLooks := .later }
def PolyOntoUptoCardSaid : Prop := Claim7.holds Tryd.pinned (.plain (OpenSpec.upto polyOntoSpec)) polyOntoUptoCard

/-- THE SECOND FORM's CARD OF 'hasselaw.PolyValues'. -/
def polyValuesUptoCard : Claim7 := { stood := { row := polyValuesUptoRow, standIns := [], harness := (true, "a26f78bbc917ffb2ec04570e5c5c220704239b30c3185556c7596dbf8395a8dc"), looks := false }, kinds := [], alts := [], laidByText := true, laidKinds := [.data, .data], laidTests := true, laidLooks := .later }
def PolyValuesUptoCardSaid : Prop := Claim7.holds Tryd.pinned (.plain (OpenSpec.upto polyValuesSpec)) polyValuesUptoCard

/-- THE SECOND FORM's CARD OF 'hasselaw.PolyStrict'. -/
def polyStrictUptoCard : Claim7 := { stood := { row := polyStrictUptoRow, standIns := [], harness := (true, "a26f78bbc917ffb2ec04570e5c5c220704239b30c3185556c7596dbf8395a8dc"), looks := false }, kinds := [], alts := [], laidByText := true, laidKinds := [.data, .data], laidTests := true, laidLooks := .later }
def PolyStrictUptoCardSaid : Prop := Claim7.holds Tryd.pinned (.plain (OpenSpec.upto polyStrictSpec)) polyStrictUptoCard

/-- THE SECOND FORM's CARD OF 'hasselaw.PolyZeta'. -/
def polyZetaUptoCard : Claim7 := { stood := { row := polyZetaUptoRow, standIns := [], harness := (true, "a26f78bbc917ffb2ec04570e5c5c220704239b30c3185556c7596dbf8395a8dc"), looks := false }, kinds := [], alts := [], laidByText := true, laidKinds := [.data, .data], laidTests := true, laidLooks := .later }
def PolyZetaUptoCardSaid : Prop := Claim7.holds Tryd.pinned (.plain (OpenSpec.upto polyZetaSpec)) polyZetaUptoCard

/-- THE SECOND FORM's CARD OF 'hasselaw.PolyCounts'. -/
def polyCountsUptoCard : Claim7 := { stood := { row := polyCountsUptoRow, standIns := [], harness := (true, "a26f78bbc917ffb2ec04570e5c5c220704239b30c3185556c7596dbf8395a8dc"), looks := false }, kinds := [], alts := [], laidByText := true, laidKinds := [.data, .data], laidTests := true, laidLooks := .later }
def PolyCountsUptoCardSaid : Prop := Claim7.holds Tryd.pinned (.plain (OpenSpec.upto polyCountsSpec)) polyCountsUptoCard

/-- THE SECOND FORM's CARD OF 'hasselaw.PolyStanley'. -/
def polyStanleyUptoCard : Claim7 := { stood := { row := polyStanleyUptoRow, standIns := [], harness := (true, "a26f78bbc917ffb2ec04570e5c5c220704239b30c3185556c7596dbf8395a8dc"), looks := false }, kinds := [], alts := [], laidByText := true, laidKinds := [.data, .data], laidTests := true, laidLooks := .later }
def PolyStanleyUptoCardSaid : Prop := Claim7.holds Tryd.pinned (.plain (OpenSpec.upto polyStanleySpec)) polyStanleyUptoCard
end Rows
end Go.Proofs.YtncjlfhgenmheaaDoor
