/-
  DERIVED. GIVEN WITH THE SEED: THE CARDS: each row of YtpagbjblibckoaaDoorRows.lean that lists a variable, with what it lists TIED to the program's text (the seventh form; the later family's looks); each row that meets fmt, with fmt's text TOLD by the authors' own Lean function (tested against real Go, not proved from fmt's source: count such statements apart). THE CARD IS WHAT COUNTS. Prove the row's statement (the work); the ties are given (YtpagbjblibckoaaDoorTie.lean); close each card by the builder's one call (the guide's Derived/Test/ToyasCard.lean, 'card_holds'). Laid BY PROGRAM, IN A SANDBOX (cutbox-door.mjs). By AI agents, Wed Nov 11 2026. No macro, syntax, notation, axiom, sorry.
-/
import Derived.Test.YtpagbjblibckoaaDoorRows
import GoSem.ClaimSeven
namespace Go.Proofs.YtpagbjblibckoaaDoor
namespace Rows

/-- THE TIED CARD OF 'hasselaw.LevelLongest'. -/
def levelLongestCard : Claim7 := { stood := { row := levelLongestRow, standIns := [], harness := (true, "c0e005415c1241be2410377612d6c04efde05cfba696ff8b73b13aa98a76dc23"), looks := false }, kinds := [], alts := [], laidByText := true, laidKinds := [.data, .data], laidTests := true, laidLooks := .later }
def LevelLongestCardSaid : Prop := Claim7.holds Tryd.pinned (.plain (OpenSpec.ofChange levelLongestSpec)) levelLongestCard

/-- THE TIED CARD OF 'hasselaw.LevelMirsky'. -/
def levelMirskyCard : Claim7 := { stood := { row := levelMirskyRow, standIns := [], harness := (true, "c0e005415c1241be2410377612d6c04efde05cfba696ff8b73b13aa98a76dc23"), looks := false }, kinds := [], alts := [], laidByText := true, laidKinds := [.data, .data], laidTests := true, laidLooks := .later }
def LevelMirskyCardSaid : Prop := Claim7.holds Tryd.pinned (.plain (OpenSpec.ofChange levelMirskySpec)) levelMirskyCard

/-- THE SECOND FORM's CARD OF 'hasselaw.LevelLongest'. -/
def levelLongestUptoCard : Claim7 := { stood := { row := levelLongestUptoRow, standIns := [], harness := (true, "c0e005415c1241be2410377612d6c04efde05cfba696ff8b73b13aa98a76dc23"), looks := false }, kinds := [], alts := [], laidByText := true, laidKinds := [.data, .data], laidTests := true, laidLooks := .later }
def LevelLongestUptoCardSaid : Prop := Claim7.holds Tryd.pinned (.plain (OpenSpec.upto levelLongestSpec)) levelLongestUptoCard

/-- THE SECOND FORM's CARD OF 'hasselaw.LevelMirsky'. -/
def levelMirskyUptoCard : Claim7 := { stood := { row := levelMirskyUptoRow, standIns := [], harness := (true, "c0e005415c1241be2410377612d6c04efde05cfba696ff8b73b13aa98a76dc23"), looks := false }, kinds := [], alts := [], laidByText := true, laidKinds := [.data, .data], laidTests := true, laidLooks := .later }
def LevelMirskyUptoCardSaid : Prop := Claim7.holds Tryd.pinned (.plain (OpenSpec.upto levelMirskySpec)) levelMirskyUptoCard
end Rows
end Go.Proofs.YtpagbjblibckoaaDoor
