/-
  DERIVED. GIVEN WITH THE SEED: THE CARDS: each row of YtceelfomgcbkiaaGreatDoorRows.lean that lists a variable, with what it lists TIED to the program's text (the seventh form; the later family's looks); each row that meets fmt, with fmt's text TOLD by the authors' own Lean function (tested against real Go, not proved from fmt's source: count such statements apart). THE CARD IS WHAT COUNTS. Prove the row's statement (the work); the ties are given (YtceelfomgcbkiaaGreatDoorTie.lean); close each card by the builder's one call (the guide's Derived/Test/ToyasCard.lean, 'card_holds'). Laid BY PROGRAM, IN A SANDBOX (cutbox-door.mjs). By AI agents, Wed Nov 11 2026. No macro, syntax, notation, axiom, sorry.
-/
import Derived.Test.YtceelfomgcbkiaaGreatDoorRows
import GoSem.ClaimSeven
namespace Go.Proofs.YtceelfomgcbkiaaGreatDoor
namespace Rows

/-- THE TIED CARD OF 'hoardinglaw11.LexerPlays'. -/
def lexerPlaysCard : Claim7 := { stood := { row := lexerPlaysRow, standIns := [], harness := (true, "145cf1dd9a06a65a6ae5b8477fe92af38dfa65b27213abb00ea9d87333bfaa0b"), looks := false }, kinds := [], alts := [], laidByText := true, laidKinds := [.data], laidTests := true, laidLooks := .later }
def LexerPlaysCardSaid : Prop := Claim7.holds Tryz.pinned (.plain (OpenSpec.ofChange lexerPlaysSpec)) lexerPlaysCard

/-- THE TIED CARD OF 'hoardinglaw11.LexerAll'. -/
def lexerAllCard : Claim7 := { stood := { row := lexerAllRow, standIns := [], harness := (true, "145cf1dd9a06a65a6ae5b8477fe92af38dfa65b27213abb00ea9d87333bfaa0b"), looks := false }, kinds := [], alts := [], laidByText := true, laidKinds := [.data], laidTests := true, laidLooks := .later }
def LexerAllCardSaid : Prop := Claim7.holds Tryz.pinned (.plain (OpenSpec.ofChange lexerAllSpec)) lexerAllCard

/-- THE SECOND FORM's CARD OF 'hoardinglaw11.LexerPlays'. -/
def lexerPlaysUptoCard : Claim7 := { stood := { row := lexerPlaysUptoRow, standIns := [], harness := (true, "145cf1dd9a06a65a6ae5b8477fe92af38dfa65b27213abb00ea9d87333bfaa0b"), looks := false }, kinds := [], alts := [], laidByText := true, laidKinds := [.data], laidTests := true, laidLooks := .later }
def LexerPlaysUptoCardSaid : Prop := Claim7.holds Tryz.pinned (.plain (OpenSpec.upto lexerPlaysSpec)) lexerPlaysUptoCard

/-- THE SECOND FORM's CARD OF 'hoardinglaw11.LexerAll'. -/
def lexerAllUptoCard : Claim7 := { stood := { row := lexerAllUptoRow, standIns := [], harness := (true, "145cf1dd9a06a65a6ae5b8477fe92af38dfa65b27213abb00ea9d87333bfaa0b"), looks := false }, kinds := [], alts := [], laidByText := true, laidKinds := [.data], laidTests := true, laidLooks := .later }
def LexerAllUptoCardSaid : Prop := Claim7.holds Tryz.pinned (.plain (OpenSpec.upto lexerAllSpec)) lexerAllUptoCard
end Rows
end Go.Proofs.YtceelfomgcbkiaaGreatDoor
