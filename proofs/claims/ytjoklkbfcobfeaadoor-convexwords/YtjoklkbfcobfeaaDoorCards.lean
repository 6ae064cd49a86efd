/-
  DERIVED. GIVEN WITH THE SEED: THE CARDS: each row of YtjoklkbfcobfeaaDoorRows.lean that lists a variable, with what it lists TIED to the program's text (the seventh form; the later family's looks); each row that meets fmt, with fmt's text TOLD by the authors' own Lean function (tested against real Go, not proved from fmt's source: count such statements apart). THE CARD IS WHAT COUNTS. Prove the row's statement (the work); the ties are given (YtjoklkbfcobfeaaDoorTie.lean); close each card by the builder's one call (the guide's Derived/Test/ToyasCard.lean, 'card_holds'). Laid BY PROGRAM, IN A SANDBOX (cutbox-door.mjs). By AI agents, Wed Nov 11 2026. No macro, syntax, notation, axiom, sorry.
-/
import Derived.Test.YtjoklkbfcobfeaaDoorRows
import GoSem.ClaimSeven
namespace Go.Proofs.YtjoklkbfcobfeaaDoor
namespace Rows

/-- THE TIED CARD OF 'hasselaw.ConvexChecks'. -/
def convexChecksCard : Claim7 := { stood := { row := convexChecksRow, standIns := [], harness := (true, "9cf4bcc0b01b0e0aa332464c3f256fd9e69f0dceb2def3d8f262d81dc24a7fec"), looks := false }, kinds := [], alts := [], laidByText := true, laidKinds := [.data, .data], laidTests := true, laidLooks := .later }
def ConvexChecksCardSaid : Prop := Claim7.holds Tryd.pinned (.plain (OpenSpec.ofChange convexChecksSpec)) convexChecksCard

/-- THE TIED CARD OF 'hasselaw.ConvexFamilies'. -/
def convexFamiliesCard : Claim7 := { stood := { row := convexFamiliesRow, standIns := [], harness := (true, "9cf4bcc0b01b0e0aa332464c3f256fd9e69f0dceb2def3d8f262d81dc24a7fec"), looks := false }, kinds := [], alts := [], laidByText := true, laidKinds := [.data, .data], laidTests := true, laidLooks := .later }
def ConvexFamiliesCardSaid : Prop := Claim7.holds Tryd.pinned (.plain (OpenSpec.ofChange convexFamiliesSpec)) convexFamiliesCard

/-- THE TIED CARD OF 'hasselaw.ConvexHulls'. -/
def convexHullsCard : Claim7 := { stood := { row := convexHullsRow, standIns := [], harness := (true, "9cf4bcc0b01b0e0aa332464c3f256fd9e69f0dceb2def3d8f262d81dc24a7fec"), looks := false }, kinds := [], alts := [], laidByText := true, laidKinds := [.data, .data], laidTests := true, laidLooks := .later }
def ConvexHullsCardSaid : Prop := Claim7.holds Tryd.pinned (.plain (OpenSpec.ofChange convexHullsSpec)) convexHullsCard

/-- THE TIED CARD OF 'hasselaw.ConvexCorners'. -/
def convexCornersCard : Claim7 := { stood := { row := convexCornersRow, standIns := [], harness := (true, "9cf4bcc0b01b0e0aa332464c3f256fd9e69f0dceb2def3d8f262d81dc24a7fec"), looks := false }, kinds := [], alts := [], laidByText := true, laidKinds := [.data, .data], laidTests := true, laidLooks := .later }
def ConvexCornersCardSaid : Prop := Claim7.holds Tryd.pinned (.plain (OpenSpec.ofChange convexCornersSpec)) convexCornersCard

/-- THE TIED CARD OF 'hasselaw.ConvexWords'. -/
def convexWordsCard : Claim7 := { stood := { row := convexWordsRow, standIns := [], harness := (true, "9cf4bcc0b01b0e0aa332464c3f256fd9e69f0dceb2def3d8f262d81dc24a7fec"), looks := false }, kinds := [], alts := [], laidByText := true, laidKinds := [.data, .data], laidTests := true, laidLooks := .later }
def ConvexWordsCardSaid : Prop := Claim7.holds Tryd.pinned (.plain (OpenSpec.ofChange convexWordsSpec)) convexWordsCard

/-- THE TIED CARD OF 'hasselaw.ConvexMinkowski'. -/
def convexMinkowskiCard : Claim7 := { stood := { row := convexMinkowskiRow, standIns := [], harness := (true, "9cf4bcc0b01b0e0aa332464c3f256fd9e69f0dceb2def3d8f262d81dc24a7fec"), looks := false }, kinds := [], alts := [], laidByText := true, laidKinds := [.data, .data], laidTests := true, laidLooks := .later }
def ConvexMinkowskiCardSaid : Prop := Claim7.holds Tryd.pinned (.plain (OpenSpec.ofChange convexMinkowskiSpec)) convexMinkowskiCard

/-- THE SECOND FORM's CARD OF 'hasselaw.ConvexChecks'. -/
def convexChecksUptoCard : Claim7 := { stood := { row := convexChecksUptoRow, standIns := [], harness := (true, "9cf4bcc0b01b0e0aa332464c3f256fd9e69f0dceb2def3d8f262d81dc24a7fec"), looks := false }, kinds := [], alts := [], laidByText := true, laidKinds := [.data, .data], laidTests := true, laidLooks := .later }
def ConvexChecksUptoCardSaid : Prop := Claim7.holds Tryd.pinned (.plain (OpenSpec.upto convexChecksSpec)) convexChecksUptoCard

/-- THE SECOND FORM's CARD OF 'hasselaw.ConvexFamilies'. -/
def convexFamiliesUptoCard : Claim7 := { stood := { row := convexFamiliesUptoRow, standIns := [], harness := (true, "9cf4bcc0b01b0e0aa332464c3f256fd9e69f0dceb2def3d8f262d81dc24a7fec"), looks := false }, kinds := [], alts := [], laidByText := true, laidKinds := [.data, .data], laidTests := true, laidLooks := .later }
def ConvexFamiliesUptoCardSaid : Prop := Claim7.holds Tryd.pinned (.plain (OpenSpec.upto convexFamiliesSpec)) convexFamiliesUptoCard

/-- THE SECOND FORM's CARD OF 'hasselaw.ConvexHulls'. -/
def convexHullsUptoCard : Claim7 := { stood := { row := convexHullsUptoRow, standIns := [], harness := (true, "9cf4bcc0b01b0e0aa332464c3f256fd9e69f0dceb2def3d8f262d81dc24a7fec"), looks := false }, kinds := [], alts := [], laidByText := true, laidKinds := [.data, .data], laidTests := true, laidLooks := .later }
def ConvexHullsUptoCardSaid : Prop := Claim7.holds Tryd.pinned (.plain (OpenSpec.upto convexHullsSpec)) convexHullsUptoCard

/-- THE SECOND FORM's CARD OF 'hasselaw.ConvexCorners'. -/
def convexCornersUptoCard : Claim7 := { stood := { row := convexCornersUptoRow, standIns := [], harness := (true, "9cf4bcc0b01b0e0aa332464c3f256fd9e69f0dceb2def3d8f262d81dc24a7fec"), looks := false }, kinds := [], alts := [], laidByText := true, laidKinds := [.data, .data], laidTests := true, laidLooks := .later }
def ConvexCornersUptoCardSaid : Prop := Claim7.holds Tryd.pinned (.plain (OpenSpec.upto convexCornersSpec)) convexCornersUptoCard

/-- THE SECOND FORM's CARD OF 'hasselaw.ConvexWords'. -/
def convexWordsUptoCard : Claim7 := { stood := { row := convexWordsUptoRow, standIns := [], harness := (true, "9cf4bcc0b01b0e0aa332464c3f256fd9e69f0dceb2def3d8f262d81dc24a7fec"), looks := false }, kinds := [], alts := [], laidByText := true, laidKinds := [.data, .data], laidTests := true, laidLooks := .later }
def ConvexWordsUptoCardSaid : Prop := Claim7.holds Tryd.pinned (.plain (OpenSpec.upto convexWordsSpec)) convexWordsUptoCard

/-- THE SECOND FORM's CARD OF 'hasselaw.ConvexMinkowski'. -/
def convexMinkowskiUptoCard : Claim7 := { stood := { row := convexMinkowskiUptoRow, standIns := [], harness := (true, "9cf4bcc0b01b0e0aa332464c3f256fd9e69f0dceb2def3d8f262d81dc24a7fec"), looks := false }, kinds := [], alts := [], laidByText := true, laidKinds := [.data, .data], laidTests := true, laidLooks := .later }
def ConvexMinkowskiUptoCardSaid : Prop := Claim7.holds Tryd.pinned (.plain (OpenSpec.upto convexMinkowskiSpec)) convexMinkowskiUptoCard
end Rows
end Go.Proofs.YtjoklkbfcobfeaaDoor
