/-
  DERIVED. GIVEN WITH THE SEED: THE CARDS: each row of YtankimgomfhfjaaDoorRows.lean that lists a variable, with what it lists TIED to the program's text (the seventh form; the later family's looks); each row that meets fmt, with fmt's text TOLD by the authors' own Lean function (tested against real Go, not proved from fmt's source: count such statements apart). THE CARD IS WHAT COUNTS. Prove the row's statement (the work); the ties are given (YtankimgomfhfjaaDoorTie.lean); close each card by the builder's one call (the guide's Derived/Test/ToyasCard.lean, 'card_holds'). Laid BY PROGRAM, IN A SANDBOX (cutbox-door.mjs). By AI agents, Wed Nov 11 2026. No macro, syntax, notation, axiom, sorry.
-/
import Derived.Test.YtankimgomfhfjaaDoorRows
import GoSem.ClaimSeven
namespace Go.Proofs.YtankimgomfhfjaaDoor
namespace Rows

/-- THE TIED CARD OF 'hasselaw.ImplyChecks'. -/
def implyChecksCard : Claim7 := { stood := { row := implyChecksRow, standIns := [], harness := (true, "992199283ef11f4dbb3ef23afeaf72bf1a9c711196aa360c10e551a3c7cec0a4"), looks := false }, kinds := [], alts := [], laidByText := true, laidKinds := [.data, .data], laidTests := true, laidLooks := .later }
def ImplyChecksCardSaid : Prop := Claim7.holds Tryd.pinned (.plain (OpenSpec.ofChange implyChecksSpec)) implyChecksCard

/-- THE TIED CARD OF 'hasselaw.ImplyCloses'. -/
def implyClosesCard : Claim7 := { stood := { row := implyClosesRow, standIns := [], harness := (true, "992199283ef11f4dbb3ef23afeaf72bf1a9c711196aa360c10e551a3c7cec0a4"), looks := false }, kinds := [], alts := [], laidByText := true, laidKinds := [.data, .data], laidTests := true, laidLooks := .later }
def ImplyClosesCardSaid : Prop := Claim7.holds Tryd.pinned (.plain (OpenSpec.ofChange implyClosesSpec)) implyClosesCard

/-- THE TIED CARD OF 'hasselaw.ImplyFollows'. -/
def implyFollowsCard : Claim7 := { stood := { row := implyFollowsRow, standIns := [], harness := (true, "992199283ef11f4dbb3ef23afeaf72bf1a9c711196aa360c10e551a3c7cec0a4"), looks := false }, kinds := [], alts := [], laidByText := true, laidKinds := [.data, .data], laidTests := true, laidLooks := .later }
def ImplyFollowsCardSaid : Prop := Claim7.holds Tryd.pinned (.plain (OpenSpec.ofChange implyFollowsSpec)) implyFollowsCard

/-- THE TIED CARD OF 'hasselaw.ImplyKeys'. -/
def implyKeysCard : Claim7 := { stood := { row := implyKeysRow, standIns := [], harness := (true, "992199283ef11f4dbb3ef23afeaf72bf1a9c711196aa360c10e551a3c7cec0a4"), looks := false }, kinds := [], alts := [], laidByText := true, laidKinds := [.data, .data], laidTests := true, laidLooks := .later }
def ImplyKeysCardSaid : Prop := Claim7.holds Tryd.pinned (.plain (OpenSpec.ofChange implyKeysSpec)) implyKeysCard

/-- THE TIED CARD OF 'hasselaw.ImplyBases'. -/
def implyBasesCard : Claim7 := { stood := { row := implyBasesRow, standIns := [], harness := (true, "992199283ef11f4dbb3ef23afeaf72bf1a9c711196aa360c10e551a3c7cec0a4"), looks := false }, kinds := [], alts := [], laidByText := true, laidKinds := [.data, .data], laidTests := true, laidLooks := .later }
def ImplyBasesCardSaid : Prop := Claim7.holds Tryd.pinned (.plain (OpenSpec.ofChange implyBasesSpec)) implyBasesCard

/-- THE TIED CARD OF 'hasselaw.ImplyOf'. -/
def implyOfCard : Claim7 := { stood := { row := implyOfRow, standIns := [], harness := (true, "992199283ef11f4dbb3ef23afeaf72bf1a9c711196aa360c10e551a3c7cec0a4"), looks := false }, kinds := [], alts := [], laidByText := true, laidKinds := [.data, .data], laidTests := true, laidLooks := .later }
def ImplyOfCardSaid : Prop := Claim7.holds Tryd.pinned (.plain (OpenSpec.ofChange implyOfSpec)) implyOfCard

/-- THE SECOND FORM's CARD OF 'hasselaw.ImplyChecks'. -/
def implyChecksUptoCard : Claim7 := { stood := { row := implyChecksUptoRow, standIns := [], harness := (true, "992199283ef11f4dbb3ef23afeaf72bf1a9c711196aa360c10e551a3c7cec0a4"), looks := false }, kinds := [], alts := [], laidByText := true, laidKinds := [.data, .data], laidTests := true, laidLooks := .later }
def ImplyChecksUptoCardSaid : Prop := Claim7.holds Tryd.pinned (.plain (OpenSpec.upto implyChecksSpec)) implyChecksUptoCard

/-- THE SECOND FORM's CARD OF 'hasselaw.ImplyCloses'. -/
def implyClosesUptoCard : Claim7 := { stood := { row := implyClosesUptoRow, standIns := [], harness := (true, "992199283ef11f4dbb3ef23afeaf72bf1a9c711196aa360c10e551a3c7cec0a4"), looks := false }, kinds := [], alts := [], laidByText := true, laidKinds := [.data, .data], laidTests := true, laidLooks := .later }
def ImplyClosesUptoCardSaid : Prop := Claim7.holds Tryd.pinned (.plain (OpenSpec.upto implyClosesSpec)) implyClosesUptoCard

/-- THE SECOND FORM's CARD OF 'hasselaw.ImplyFollows'. -/
def implyFollowsUptoCard : Claim7 := { stood := { row := implyFollowsUptoRow, standIns := [], harness := (true, "992199283ef11f4dbb3ef23afeaf72bf1a9c711196aa360c10e551a3c7cec0a4"), looks := false }, kinds := [], alts := [], laidByText := true, laidKinds := [.data, .data], laidTests := true, laidLooks := .later }
def ImplyFollowsUptoCardSaid : Prop := Claim7.holds Tryd.pinned (.plain (OpenSpec.upto implyFollowsSpec)) implyFollowsUptoCard

/-- THE SECOND FORM's CARD OF 'hasselaw.ImplyKeys'. -/
def implyKeysUptoCard : Claim7 := { stood := { row := implyKeysUptoRow, standIns := [], harness := (true, "992199283ef11f4dbb3ef23afeaf72bf1a9c711196aa360c10e551a3c7cec0a4"), looks := false }, kinds := [], alts := [], laidByText := true, laidKinds := [.data, .data], laidTests := true, laidLooks := .later }
def ImplyKeysUptoCardSaid : Prop := Claim7.holds Tryd.pinned (.plain (OpenSpec.upto implyKeysSpec)) implyKeysUptoCard

/-- THE SECOND FORM's CARD OF 'hasselaw.ImplyBases'. -/
def implyBasesUptoCard : Claim7 := { stood := { row := implyBasesUptoRow, standIns := [], harness := (true, "992199283ef11f4dbb3ef23afeaf72bf1a9c711196aa360c10e551a3c7cec0a4"), looks := false }, kinds := [], alts := [], laidByText := true, laidKinds := [.data, .data], laidTests := true, laidLooks := .later }
def ImplyBasesUptoCardSaid : Prop := Claim7.holds Tryd.pinned (.plain (OpenSpec.upto implyBasesSpec)) implyBasesUptoCard

/-- THE SECOND FORM's CARD OF 'hasselaw.ImplyOf'. -/
def implyOfUptoCard : Claim7 := { stood := { row := implyOfUptoRow, standIns := [], harness := (true, "992199283ef11f4dbb3ef23afeaf72bf1a9c711196aa360c10e551a3c7cec0a4"), looks := false }, kinds := [], alts := [], laidByText := true, laidKinds := [.data, .data], laidTests := true, laidLooks := .later }
def ImplyOfUptoCardSaid : Prop := Claim7.holds Tryd.pinned (.plain (OpenSpec.upto implyOfSpec)) implyOfUptoCard
end Rows
end Go.Proofs.YtankimgomfhfjaaDoor
