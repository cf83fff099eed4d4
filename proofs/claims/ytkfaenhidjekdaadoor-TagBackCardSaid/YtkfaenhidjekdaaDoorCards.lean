/-
  DERIVED. GIVEN WITH THE SEED: THE CARDS: each row of YtkfaenhidjekdaaDoorRows.lean that lists a variable, with what it lists TIED to the program's text (the seventh form; the later family's looks); each row that meets fmt, with fmt's text TOLD by the authors' own Lean function (tested against real Go, not proved from fmt's source: count such statements apart). THE CARD IS WHAT COUNTS. Prove the row's statement (the work); the ties are given (YtkfaenhidjekdaaDoorTie.lean); close each card by the builder's one call (the guide's Derived/Test/ToyasCard.lean, 'card_holds'). Laid BY PROGRAM, IN A SANDBOX (cutbox-door.mjs). By AI agents, Wed Nov 11 2026. No macro, syntax, notation, axiom, sorry.
-/
import Derived.Test.YtkfaenhidjekdaaDoorRows
import GoSem.ClaimSeven
namespace Go.Proofs.YtkfaenhidjekdaaDoor
namespace Rows

/-- THE TIED CARD OF 'hoardinglaw08.TagReads'. -/
def tagReadsCard : Claim7 := { stood := { row := tagReadsRow, standIns := [], harness := (true, "d911028bac91f02d0b73f8d194629e98829e9ed969d6f68fdcbd96d3ed89c564"), looks := false }, kinds := [], alts := [], laidByText := true, laidKinds := [.data], laidTests := true, laidLooks := .later }
def TagReadsCardSaid : Prop := Claim7.holds Tryd.pinned (.plain (OpenSpec.ofChange tagReadsSpec)) tagReadsCard

/-- THE TIED CARD OF 'hoardinglaw08.TagStops'. -/
def tagStopsCard : Claim7 := { stood := { row := tagStopsRow, standIns := [], harness := (true, "d911028bac91f02d0b73f8d194629e98829e9ed969d6f68fdcbd96d3ed89c564"), looks := false }, kinds := [], alts := [], laidByText := true, laidKinds := [.data], laidTests := true, laidLooks := .later }
def TagStopsCardSaid : Prop := Claim7.holds Tryd.pinned (.plain (OpenSpec.ofChange tagStopsSpec)) tagStopsCard

/-- THE TIED CARD OF 'hoardinglaw08.TagBack'. -/
def tagBackCard : Claim7 := { stood := { row := tagBackRow, standIns := [], harness := (true, "d911028bac91f02d0b73f8d194629e98829e9ed969d6f68fdcbd96d3ed89c564"), looks := false }, kinds := [], alts := [], laidByText := true, laidKinds := [.data], laidTests := true, laidLooks := .later }
def TagBackCardSaid : Prop := Claim7.holds Tryd.pinned (.plain (OpenSpec.ofChange tagBackSpec)) tagBackCard

/-- THE SECOND FORM's CARD OF 'hoardinglaw08.TagReads'. -/
def tagReadsUptoCard : Claim7 := { stood := { row := tagReadsUptoRow, standIns := [], harness := (true, "d911028bac91f02d0b73f8d194629e98829e9ed969d6f68fdcbd96d3ed89c564"), looks := false }, kinds := [], alts := [], laidByText := true, laidKinds := [.data], laidTests := true, laidLooks := .later }
def TagReadsUptoCardSaid : Prop := Claim7.holds Tryd.pinned (.plain (OpenSpec.upto tagReadsSpec)) tagReadsUptoCard

/-- THE SECOND FORM's CARD OF 'hoardinglaw08.TagStops'. -/
def tagStopsUptoCard : Claim7 := { stood := { row := tagStopsUptoRow, standIns := [], harness := (true, "d911028bac91f02d0b73f8d194629e98829e9ed969d6f68fdcbd96d3ed89c564"), looks := false }, kinds := [], alts := [], laidByText := true, laidKinds := [.data], laidTests := true, laidLooks := .later }
def TagStopsUptoCardSaid : Prop := Claim7.holds Tryd.pinned (.plain (OpenSpec.upto tagStopsSpec)) tagStopsUptoCard

/-- THE SECOND FORM's CARD OF 'hoardinglaw08.TagBack'. -/
def tagBackUptoCard : Claim7 := { stood := { row := tagBackUptoRow, standIns := [], harness := (true, "d911028bac91f02d0b73f8d194629e98829e9ed969d6f68fdcbd96d3ed89c564"), looks := false }, kinds := [], alts := [], laidByText := true, laidKinds := [.data], laidTests := true, laidLooks := .later }
def TagBackUptoCardSaid : Prop := Claim7.holds Tryd.pinned (.plain (OpenSpec.upto tagBackSpec)) tagBackUptoCard
end Rows
end Go.Proofs.YtkfaenhidjekdaaDoor
