/-
  DERIVED. GIVEN WITH THE SEED: THE CARDS: each row of YtphplpkmimckkaaDoorRows.lean that lists a variable, with what it lists TIED to the program's text (the seventh form; the later family's looks); each row that meets fmt, with fmt's text TOLD by the authors' own Lean function (tested against real Go, not proved from fmt's source: count such statements apart). THE CARD IS WHAT COUNTS. Prove the row's statement (the work); the ties are given (YtphplpkmimckkaaDoorTie.lean); close each card by the builder's one call (the guide's Derived/Test/ToyasCard.lean, 'card_holds'). Laid BY PROGRAM, IN A SANDBOX (cutbox-door.mjs). By AI agents, Wed Nov 11 2026. No macro, syntax, notation, axiom, sorry.
-/
import Derived.Test.YtphplpkmimckkaaDoorRows
import GoSem.ClaimSeven
namespace Go.Proofs.YtphplpkmimckkaaDoor
namespace Rows

/-- THE TIED CARD OF 'hoardinglaw04.CharrefTells'. -/
def charrefTellsCard : Claim7 := { stood := { row := charrefTellsRow, standIns := [], harness := (true, "018c605c72b15cf8b4beaaf4be19c95992b77ff4c3a2ecc7c9d82c2fa533ff0f"), looks := false }, kinds := [], alts := [], laidByText := true, laidKinds := [.data], laidTests := true, laidLooks := .later }
def CharrefTellsCardSaid : Prop := Claim7.holds Tryd.pinned (.plain (OpenSpec.ofChange charrefTellsSpec)) charrefTellsCard

/-- THE TIED CARD OF 'hoardinglaw04.CharrefDecodes'. -/
def charrefDecodesCard : Claim7 := { stood := { row := charrefDecodesRow, standIns := [], harness := (true, "018c605c72b15cf8b4beaaf4be19c95992b77ff4c3a2ecc7c9d82c2fa533ff0f"), looks := false }, kinds := [], alts := [], laidByText := true, laidKinds := [.data], laidTests := true, laidLooks := .later }
def CharrefDecodesCardSaid : Prop := Claim7.holds Tryd.pinned (.plain (OpenSpec.ofChange charrefDecodesSpec)) charrefDecodesCard

/-- THE TIED CARD OF 'hoardinglaw04.CharrefStays'. -/
def charrefStaysCard : Claim7 := { stood := { row := charrefStaysRow, standIns := [], harness := (true, "018c605c72b15cf8b4beaaf4be19c95992b77ff4c3a2ecc7c9d82c2fa533ff0f"), looks := false }, kinds := [], alts := [], laidByText := true, laidKinds := [.data, .data, .pinned], laidTests := true, laidLooks := .later }
def CharrefStaysCardSaid : Prop := Claim7.holds Tryd.pinned (.plain (OpenSpec.ofChange charrefStaysSpec)) charrefStaysCard

/-- THE SECOND FORM's CARD OF 'hoardinglaw04.CharrefTells'. -/
def charrefTellsUptoCard : Claim7 := { stood := { row := charrefTellsUptoRow, standIns := [], harness := (true, "018c605c72b15cf8b4beaaf4be19c95992b77ff4c3a2ecc7c9d82c2fa533ff0f"), looks := false }, kinds := [], alts := [], laidByText := true, laidKinds := [.data], laidTests := true, laidLooks := .later }
def CharrefTellsUptoCardSaid : Prop := Claim7.holds Tryd.pinned (.plain (OpenSpec.upto charrefTellsSpec)) charrefTellsUptoCard

/-- THE SECOND FORM's CARD OF 'hoardinglaw04.CharrefDecodes'. -/
def charrefDecodesUptoCard : Claim7 := { stood := { row := charrefDecodesUptoRow, standIns := [], harness := (true, "018c605c72b15cf8b4beaaf4be19c95992b77ff4c3a2ecc7c9d82c2fa533ff0f"), looks := false }, kinds := [], alts := [], laidByText := true, laidKinds := [.data], laidTests := true, laidLooks := .later }
def CharrefDecodesUptoCardSaid : Prop := Claim7.holds Tryd.pinned (.plain (OpenSpec.upto charrefDecodesSpec)) charrefDecodesUptoCard

/-- THE SECOND FORM's CARD OF 'hoardinglaw04.CharrefStays'. -/
def charrefStaysUptoCard : Claim7 := { stood := { row := charrefStaysUptoRow, standIns := [], harness := (true, "018c605c72b15cf8b4beaaf4be19c95992b77ff4c3a2ecc7c9d82c2fa533ff0f"), looks := false }, kinds := [], alts := [], laidByText := true, laidKinds := [.data, .data, .pinned], laidTests := true, laidLooks := .later }
def CharrefStaysUptoCardSaid : Prop := Claim7.holds Tryd.pinned (.plain (OpenSpec.upto charrefStaysSpec)) charrefStaysUptoCard
end Rows
end Go.Proofs.YtphplpkmimckkaaDoor
