/-
  DERIVED. GIVEN WITH THE SEED: THE CARDS: each row of YtfcaeicekpcilaaDoorRows.lean that lists a variable, with what it lists TIED to the program's text (the seventh form; the later family's looks); each row that meets fmt, with fmt's text TOLD by the authors' own Lean function (tested against real Go, not proved from fmt's source: count such statements apart). THE CARD IS WHAT COUNTS. Prove the row's statement (the work); the ties are given (YtfcaeicekpcilaaDoorTie.lean); close each card by the builder's one call (the guide's Derived/Test/ToyasCard.lean, 'card_holds'). Laid BY PROGRAM, IN A SANDBOX (cutbox-door.mjs). By AI agents, Wed Nov 11 2026. No macro, syntax, notation, axiom, sorry.
-/
import Derived.Test.YtfcaeicekpcilaaDoorRows
import GoSem.ClaimSeven
namespace Go.Proofs.YtfcaeicekpcilaaDoor
namespace Rows

/-- THE TIED CARD OF 'hasselaw.ChainWidest'. -/
def chainWidestCard : Claim7 := { stood := { row := chainWidestRow, standIns := [], harness := (true, "3aa3ab02afeeb153a26ca8cbbedf76f6ffe13f90a2e462c5b951234371ac7f5e"), looks := false }, kinds := [], alts := [], laidByText := true, laidKinds := [.data, .data], laidTests := true, laidLooks := .later }
def ChainWidestCardSaid : Prop := Claim7.holds Tryd.pinned (.plain (OpenSpec.ofChange chainWidestSpec)) chainWidestCard

/-- THE TIED CARD OF 'hasselaw.ChainParts'. -/
def chainPartsCard : Claim7 := { stood := { row := chainPartsRow, standIns := [], harness := (true, "3aa3ab02afeeb153a26ca8cbbedf76f6ffe13f90a2e462c5b951234371ac7f5e"), looks := false }, kinds := [], alts := [], laidByText := true, laidKinds := [.data, .data], laidTests := true, laidLooks := .later }
def ChainPartsCardSaid : Prop := Claim7.holds Tryd.pinned (.plain (OpenSpec.ofChange chainPartsSpec)) chainPartsCard

/-- THE TIED CARD OF 'hasselaw.ChainShapes'. -/
def chainShapesCard : Claim7 := { stood := { row := chainShapesRow, standIns := [], harness := (true, "3aa3ab02afeeb153a26ca8cbbedf76f6ffe13f90a2e462c5b951234371ac7f5e"), looks := false }, kinds := [], alts := [], laidByText := true, laidKinds := [.data, .data], laidTests := true, laidLooks := .later }
def ChainShapesCardSaid : Prop := Claim7.holds Tryd.pinned (.plain (OpenSpec.ofChange chainShapesSpec)) chainShapesCard

/-- THE TIED CARD OF 'hasselaw.ChainDilworth'. -/
def chainDilworthCard : Claim7 := { stood := { row := chainDilworthRow, standIns := [], harness := (true, "3aa3ab02afeeb153a26ca8cbbedf76f6ffe13f90a2e462c5b951234371ac7f5e"), looks := false }, kinds := [], alts := [], laidByText := true, laidKinds := [.data, .data], laidTests := true, laidLooks := .later }
def ChainDilworthCardSaid : Prop := Claim7.holds Tryd.pinned (.plain (OpenSpec.ofChange chainDilworthSpec)) chainDilworthCard

/-- THE TIED CARD OF 'hasselaw.ChainGreene'. -/
def chainGreeneCard : Claim7 := { stood := { row := chainGreeneRow, standIns := [], harness := (true, "3aa3ab02afeeb153a26ca8cbbedf76f6ffe13f90a2e462c5b951234371ac7f5e"), looks := false }, kinds := [], alts := [], laidByText := true, laidKinds := [.data, .data], laidTests := true, laidLooks := .later }
def ChainGreeneCardSaid : Prop := Claim7.holds Tryd.pinned (.plain (OpenSpec.ofChange chainGreeneSpec)) chainGreeneCard

/-- THE SECOND FORM's CARD OF 'hasselaw.ChainWidest'. -/
def chainWidestUptoCard : Claim7 := { stood := { row := chainWidestUptoRow, standIns := [], harness := (true, "3aa3ab02afeeb153a26ca8cbbedf76f6ffe13f90a2e462c5b951234371ac7f5e"), looks := false }, kinds := [], alts := [], laidByText := true, laidKinds := [.data, .data], laidTests := true, laidLooks := .later }
def ChainWidestUptoCardSaid : Prop := Claim7.holds Tryd.pinned (.plain (OpenSpec.upto chainWidestSpec)) chainWidestUptoCard

/-- THE SECOND FORM's CARD OF 'hasselaw.ChainParts'. -/
def chainPartsUptoCard : Claim7 := { stood := { row := chainPartsUptoRow, standIns := [], harness := (true, "3aa3ab02afeeb153a26ca8cbbedf76f6ffe13f90a2e462c5b951234371ac7f5e"), looks := false }, kinds := [], alts := [], laidByText := true, laidKinds := [.data, .data], laidTests := true, laidLooks := .later }
def ChainPartsUptoCardSaid : Prop := Claim7.holds Tryd.pinned (.plain (OpenSpec.upto chainPartsSpec)) chainPartsUptoCard

/-- THE SECOND FORM's CARD OF 'hasselaw.ChainShapes'. -/
def chainShapesUptoCard : Claim7 := { stood := { row := chainShapesUptoRow, standIns := [], harness := (true, "3aa3ab02afeeb153a26ca8cbbedf76f6ffe13f90a2e462c5b951234371ac7f5e"), looks := false }, kinds := [], alts := [], laidByText := true, laidKinds := [.data, .data], laidTests := true, laidLooks := .later }
def ChainShapesUptoCardSaid : Prop := Claim7.holds Tryd.pinned (.plain (OpenSpec.upto chainShapesSpec)) chainShapesUptoCard

/-- THE SECOND FORM's CARD OF 'hasselaw.ChainDilworth'. -/
def chainDilworthUptoCard : Claim7 := { stood := { row := chainDilworthUptoRow, standIns := [], harness := (true, "3aa3ab02afeeb153a26ca8cbbedf76f6ffe13f90a2e462c5b951234371ac7f5e"), looks := false }, kinds := [], alts := [], laidByText := true, laidKinds := [.data, .data], laidTests := true, laidLooks := .later }
def ChainDilworthUptoCardSaid : Prop := Claim7.holds Tryd.pinned (.plain (OpenSpec.upto chainDilworthSpec)) chainDilworthUptoCard

/-- THE SECOND FORM's CARD OF 'hasselaw.ChainGreene'. -/
def chainGreeneUptoCard : Claim7 := { stood := { row := chainGreeneUptoRow, standIns := [], harness := (true, "3aa3ab02afeeb153a26ca8cbbedf76f6ffe13f90a2e462c5b951234371ac7f5e"), looks := false }, kinds := [], alts := [], laidByText := true, laidKinds := [.data, .data], laidTests := true, laidLooks := .later }
def ChainGreeneUptoCardSaid : Prop := Claim7.holds Tryd.pinned (.plain (OpenSpec.upto chainGreeneSpec)) chainGreeneUptoCard
end Rows
end Go.Proofs.YtfcaeicekpcilaaDoor
