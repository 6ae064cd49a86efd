/-
  DERIVED. GIVEN WITH THE SEED: THE CARDS: each row of YtgmpmmdginikdaaDoorRows.lean that lists a variable, with what it lists TIED to the program's text (the seventh form; the later family's looks); each row that meets fmt, with fmt's text TOLD by the authors' own Lean function (tested against real Go, not proved from fmt's source: count such statements apart). THE CARD IS WHAT COUNTS. Prove the row's statement (the work); the ties are given (YtgmpmmdginikdaaDoorTie.lean); close each card by the builder's one call (the guide's Derived/Test/ToyasCard.lean, 'card_holds'). Laid BY PROGRAM, IN A SANDBOX (cutbox-door.mjs). By AI agents, Wed Nov 11 2026. No macro, syntax, notation, axiom, sorry.
-/
import Derived.Test.YtgmpmmdginikdaaDoorRows
import GoSem.ClaimSeven
namespace Go.Proofs.YtgmpmmdginikdaaDoor
namespace Rows

/-- THE TIED CARD OF 'hasselaw.FixMonotone'. -/
def fixMonotoneCard : Claim7 := { stood := { row := fixMonotoneRow, standIns := [], harness := (true, "2312a01f663710c83ec3baa46d62ffa71cbca530ee115cf2ed6bf6728e6efec8"), looks := false }, kinds := [], alts := [], laidByText := true, laidKinds := [.data, .data], laidTests := true, laidLooks := .later }
def FixMonotoneCardSaid : Prop := Claim7.holds Tryd.pinned (.plain (OpenSpec.ofChange fixMonotoneSpec)) fixMonotoneCard

/-- THE TIED CARD OF 'hasselaw.FixCounts'. -/
def fixCountsCard : Claim7 := { stood := { row := fixCountsRow, standIns := [], harness := (true, "2312a01f663710c83ec3baa46d62ffa71cbca530ee115cf2ed6bf6728e6efec8"), looks := false }, kinds := [], alts := [], laidByText := true, laidKinds := [.data, .data], laidTests := true, laidLooks := .later }
def FixCountsCardSaid : Prop := Claim7.holds Tryd.pinned (.plain (OpenSpec.ofChange fixCountsSpec)) fixCountsCard

/-- THE TIED CARD OF 'hasselaw.FixFixed'. -/
def fixFixedCard : Claim7 := { stood := { row := fixFixedRow, standIns := [], harness := (true, "2312a01f663710c83ec3baa46d62ffa71cbca530ee115cf2ed6bf6728e6efec8"), looks := false }, kinds := [], alts := [], laidByText := true, laidKinds := [.data, .data], laidTests := true, laidLooks := .later }
def FixFixedCardSaid : Prop := Claim7.holds Tryd.pinned (.plain (OpenSpec.ofChange fixFixedSpec)) fixFixedCard

/-- THE TIED CARD OF 'hasselaw.FixAlways'. -/
def fixAlwaysCard : Claim7 := { stood := { row := fixAlwaysRow, standIns := [], harness := (true, "2312a01f663710c83ec3baa46d62ffa71cbca530ee115cf2ed6bf6728e6efec8"), looks := false }, kinds := [], alts := [], laidByText := true, laidKinds := [.data, .data], laidTests := true, laidLooks := .later }
def FixAlwaysCardSaid : Prop := Claim7.holds Tryd.pinned (.plain (OpenSpec.ofChange fixAlwaysSpec)) fixAlwaysCard

/-- THE TIED CARD OF 'hasselaw.FixCores'. -/
def fixCoresCard : Claim7 := { stood := { row := fixCoresRow, standIns := [], harness := (true, "2312a01f663710c83ec3baa46d62ffa71cbca530ee115cf2ed6bf6728e6efec8"), looks := false }, kinds := [], alts := [], laidByText := true, laidKinds := [.data, .data], laidTests := true, laidLooks := .later }
def FixCoresCardSaid : Prop := Claim7.holds Tryd.pinned (.plain (OpenSpec.ofChange fixCoresSpec)) fixCoresCard

/-- THE TIED CARD OF 'hasselaw.FixEnds'. -/
def fixEndsCard : Claim7 := { stood := { row := fixEndsRow, standIns := [], harness := (true, "2312a01f663710c83ec3baa46d62ffa71cbca530ee115cf2ed6bf6728e6efec8"), looks := false }, kinds := [], alts := [], laidByText := true, laidKinds := [.data, .data], laidTests := true, laidLooks := .later }
def FixEndsCardSaid : Prop := Claim7.holds Tryd.pinned (.plain (OpenSpec.ofChange fixEndsSpec)) fixEndsCard

/-- THE SECOND FORM's CARD OF 'hasselaw.FixMonotone'. -/
def fixMonotoneUptoCard : Claim7 := { stood := { row := fixMonotoneUptoRow, standIns := [], harness := (true, "2312a01f663710c83ec3baa46d62ffa71cbca530ee115cf2ed6bf6728e6efec8"), looks := false }, kinds := [], alts := [], laidByText := true, laidKinds := [.data, .data], laidTests := true, laidLooks := .later }
def FixMonotoneUptoCardSaid : Prop := Claim7.holds Tryd.pinned (.plain (OpenSpec.upto fixMonotoneSpec)) fixMonotoneUptoCard

/-- THE SECOND FORM's CARD OF 'hasselaw.FixCounts'. -/
def fixCountsUptoCard : Claim7 := { stood := { row := fixCountsUptoRow, standIns := [], harness := (true, "2312a01f663710c83ec3baa46d62ffa71cbca530ee115cf2ed6bf6728e6efec8"), looks := false }, kinds := [], alts := [], laidByText := true, laidKinds := [.data, .data], laidTests := true, laidLooks := .later }
def FixCountsUptoCardSaid : Prop := Claim7.holds Tryd.pinned (.plain (OpenSpec.upto fixCountsSpec)) fixCountsUptoCard

/-- THE SECOND FORM's CARD OF 'hasselaw.FixFixed'. -/
def fixFixedUptoCard : Claim7 := { stood := { row := fixFixedUptoRow, standIns := [], harness := (true, "2312a01f663710c83ec3baa46d62ffa71cbca530ee115cf2ed6bf6728e6efec8"), looks := false }, kinds := [], alts := [], laidByText := true, laidKinds := [.data, .data], laidTests := true, laidLooks := .later }
def FixFixedUptoCardSaid : Prop := Claim7.holds Tryd.pinned (.plain (OpenSpec.upto fixFixedSpec)) fixFixedUptoCard

/-- THE SECOND FORM's CARD OF 'hasselaw.FixAlways'. -/
def fixAlwaysUptoCard : Claim7 := { stood := { row := fixAlwaysUptoRow, standIns := [], harness := (true, "2312a01f663710c83ec3baa46d62ffa71cbca530ee115cf2ed6bf6728e6efec8"), looks := false }, kinds := [], alts := [], laidByText := true, laidKinds := [.data, .data], laidTests := true, laidLooks := .later }
def FixAlwaysUptoCardSaid : Prop := Claim7.holds Tryd.pinned (.plain (OpenSpec.upto fixAlwaysSpec)) fixAlwaysUptoCard

/-- THE SECOND FORM's CARD OF 'hasselaw.FixCores'. -/
def fixCoresUptoCard : Claim7 := { stood := { row := fixCoresUptoRow, standIns := [], harness := (true, "2312a01f663710c83ec3baa46d62ffa71cbca530ee115cf2ed6bf6728e6efec8"), looks := false }, kinds := [], alts := [], laidByText := true, laidKinds := [.data, .data], laidTests := true, laidLooks := .later }
def FixCoresUptoCardSaid : Prop := Claim7.holds Tryd.pinned (.plain (OpenSpec.upto fixCoresSpec)) fixCoresUptoCard

/-- THE SECOND FORM's CARD OF 'hasselaw.FixEnds'. -/
def fixEndsUptoCard : Claim7 := { stood := { row := fixEndsUptoRow, standIns := [], harness := (true, "2312a01f663710c83ec3baa46d62ffa71cbca530ee115cf2ed6bf6728e6efec8"), looks := false }, kinds := [], alts := [], laidByText := true, laidKinds := [.data, .data], laidTests := true, laidLooks := .later }
def FixEndsUptoCardSaid : Prop := Claim7.holds Tryd.pinned (.plain (OpenSpec.upto fixEndsSpec)) fixEndsUptoCard
end Rows
end Go.Proofs.YtgmpmmdginikdaaDoor
