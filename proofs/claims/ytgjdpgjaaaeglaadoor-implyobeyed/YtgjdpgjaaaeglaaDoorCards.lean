/-
  DERIVED. GIVEN WITH THE SEED: THE CARDS: each row of YtgjdpgjaaaeglaaDoorRows.lean that lists a variable, with what it lists TIED to the program's text (the seventh form; the later family's looks); each row that meets fmt, with fmt's text TOLD by the authors' own Lean function (tested against real Go, not proved from fmt's source: count such statements apart). THE CARD IS WHAT COUNTS. Prove the row's statement (the work); the ties are given (YtgjdpgjaaaeglaaDoorTie.lean); close each card by the builder's one call (the guide's Derived/Test/ToyasCard.lean, 'card_holds'). Laid BY PROGRAM, IN A SANDBOX (cutbox-door.mjs). By AI agents, Wed Nov 11 2026. No macro, syntax, notation, axiom, sorry.
-/
import Derived.Test.YtgjdpgjaaaeglaaDoorRows
import GoSem.ClaimSeven
namespace Go.Proofs.YtgjdpgjaaaeglaaDoor
namespace Rows

/-- THE TIED CARD OF 'hasselaw.ImplyKeys'. -/
def implyKeysCard : Claim7 := { stood := { row := implyKeysRow, standIns := [], harness := (true, "d1ad752602ad1303ea5b61e66884bf3173283eccd13b8996d90038590e946f62"), looks := false }, kinds := [], alts := [], laidByText := true, laidKinds := [.data, .data], laidTests := true, laidLooks := .later }
def ImplyKeysCardSaid : Prop := Claim7.holds Tryd.pinned (.plain (OpenSpec.ofChange implyKeysSpec)) implyKeysCard

/-- THE TIED CARD OF 'hasselaw.ImplyBases'. -/
def implyBasesCard : Claim7 := { stood := { row := implyBasesRow, standIns := [], harness := (true, "d1ad752602ad1303ea5b61e66884bf3173283eccd13b8996d90038590e946f62"), looks := false }, kinds := [], alts := [], laidByText := true, laidKinds := [.data, .data], laidTests := true, laidLooks := .later }
def ImplyBasesCardSaid : Prop := Claim7.holds Tryd.pinned (.plain (OpenSpec.ofChange implyBasesSpec)) implyBasesCard

/-- THE TIED CARD OF 'hasselaw.ImplyOf'. -/
def implyOfCard : Claim7 := { stood := { row := implyOfRow, standIns := [], harness := (true, "d1ad752602ad1303ea5b61e66884bf3173283eccd13b8996d90038590e946f62"), looks := false }, kinds := [], alts := [], laidByText := true, laidKinds := [.data, .data], laidTests := true, laidLooks := .later }
def ImplyOfCardSaid : Prop := Claim7.holds Tryd.pinned (.plain (OpenSpec.ofChange implyOfSpec)) implyOfCard

/-- THE TIED CARD OF 'hasselaw.ImplyGuigues'. -/
def implyGuiguesCard : Claim7 := { stood := { row := implyGuiguesRow, standIns := [], harness := (true, "d1ad752602ad1303ea5b61e66884bf3173283eccd13b8996d90038590e946f62"), looks := false }, kinds := [], alts := [], laidByText := true, laidKinds := [.data, .data], laidTests := true, laidLooks := .later }
def ImplyGuiguesCardSaid : Prop := Claim7.holds Tryd.pinned (.plain (OpenSpec.ofChange implyGuiguesSpec)) implyGuiguesCard

/-- THE TIED CARD OF 'hasselaw.ImplyObeyed'. -/
def implyObeyedCard : Claim7 := { stood := { row := implyObeyedRow, standIns := [], harness := (true, "d1ad752602ad1303ea5b61e66884bf3173283eccd13b8996d90038590e946f62"), looks := false }, kinds := [], alts := [], laidByText := true, laidKinds := [.data, .data], laidTests := true, laidLooks := .later }
def ImplyObeyedCardSaid : Prop := Claim7.holds Tryd.pinned (.plain (OpenSpec.ofChange implyObeyedSpec)) implyObeyedCard

/-- THE SECOND FORM's CARD OF 'hasselaw.ImplyKeys'. -/
def implyKeysUptoCard : Claim7 := { stood := { row := implyKeysUptoRow, standIns := [], harness := (true, "d1ad752602ad1303ea5b61e66884bf3173283eccd13b8996d90038590e946f62"), looks := false }, kinds := [], alts := [], laidByText := true, laidKinds := [.data, .data], laidTests := true, laidLooks := .later }
def ImplyKeysUptoCardSaid : Prop := Claim7.holds Tryd.pinned (.plain (OpenSpec.upto implyKeysSpec)) implyKeysUptoCard

/-- THE SECOND FORM's CARD OF 'hasselaw.ImplyBases'. -/
def implyBasesUptoCard : Claim7 := { stood := { row := implyBasesUptoRow, standIns := [], harness := (true, "d1ad752602ad1303ea5b61e66884bf3173283eccd13b8996d90038590e946f62"), looks := false }, kinds := [], alts := [], laidByText := true, laidKinds := [.data, .data], laidTests := true, laidLooks := .later }
def ImplyBasesUptoCardSaid : Prop := Claim7.holds Tryd.pinned (.plain (OpenSpec.upto implyBasesSpec)) implyBasesUptoCard

/-- THE SECOND FORM's CARD OF 'hasselaw.ImplyOf'. -/
def implyOfUptoCard : Claim7 := { stood := { row := implyOfUptoRow, standIns := [], harness := (true, "d1ad752602ad1303ea5b61e66884bf3173283eccd13b8996d90038590e946f62"), looks := false }, kinds := [], alts := [], laidByText := true, laidKinds := [.data, .data], laidTests := true, laidLooks := .later }
def ImplyOfUptoCardSaid : Prop := Claim7.holds Tryd.pinned (.plain (OpenSpec.upto implyOfSpec)) implyOfUptoCard

/-- THE SECOND FORM's CARD OF 'hasselaw.ImplyGuigues'. -/
def implyGuiguesUptoCard : Claim7 := { stood := { row := implyGuiguesUptoRow, standIns := [], harness := (true, "d1ad752602ad1303ea5b61e66884bf3173283eccd13b8996d90038590e946f62"), looks := false }, kinds := [], alts := [], laidByText := true, laidKinds := [.data, .data], laidTests := true, laidLooks := .later }
def ImplyGuiguesUptoCardSaid : Prop := Claim7.holds Tryd.pinned (.plain (OpenSpec.upto implyGuiguesSpec)) implyGuiguesUptoCard

/-- THE SECOND FORM's CARD OF 'hasselaw.ImplyObeyed'. -/
def implyObeyedUptoCard : Claim7 := { stood := { row := implyObeyedUptoRow, standIns := [], harness := (true, "d1ad752602ad1303ea5b61e66884bf3173283eccd13b8996d90038590e946f62"), looks := false }, kinds := [], alts := [], laidByText := true, laidKinds := [.data, .data], laidTests := true, laidLooks := .later }
def ImplyObeyedUptoCardSaid : Prop := Claim7.holds Tryd.pinned (.plain (OpenSpec.upto implyObeyedSpec)) implyObeyedUptoCard
end Rows
end Go.Proofs.YtgjdpgjaaaeglaaDoor
