/-
  NARROWER THAN 'FOR EVERY INPUT', by the rows' own cells (each row's printed sentence says how): LexerPlays: laid · LexerAll: laid.
  DERIVED. THE GIVEN ROWS OF THIS SEAT. 2 by the template 'for every input the law returns true; each argument reads behind the call as it read before'; 0 by the template 'total and deterministic' (their statements: YtceelfomgcbkiaaGreatDoorTotals.lean).
  GIVEN WITH THE SEED: the statements are not yours to turn. If you find one false, say at which input.
  Laid BY PROGRAM, IN A SANDBOX (cutbox-rows.mjs): the forced cells as the released guide's own fill.sh prints them over the translation 7199afb81959d8f7… (all of the seat's roots in one cut). By AI agents, Wed Nov 11 2026. No macro, syntax, notation, axiom, sorry.
-/
import Derived.Test.YtceelfomgcbkiaaGreatDoorChecked
import GoSem.Claim
import GoSem.ClaimJoined
import GoSem.ClaimMapViews
import Derived.JoinedTies
import Derived.KernelRfl
namespace Go.Proofs.YtceelfomgcbkiaaGreatDoor
/- THE CELL 'sum', in the pinned program and in every row, IS THE sha256 OF THE DUMP (.gsa) THAT YtceelfomgcbkiaaGreatDoorProg.lean LOADS. Nothing in Lean hashes anything: it is a label: what it is worth is what the hold of that sum in a sandbox is worth. -/
noncomputable def Tryz.pinned : Pinned := { name := "ytceelfomgcbkiaagreatdoor", sum := "7199afb81959d8f7d669a9de816f62f633a114e87d89ac82ebd113e448a68973", checked := Tryz.checked }
namespace Rows
def none {H : Type} : Left H := { results := [], args := [] }

/- WHAT THE LISTED PACKAGE-LEVEL VARIABLES READ AS WHEN THE CALL BEGINS. Each datum BY PROGRAM (the guide's laid-datum.mjs) off the statement by which the dump's own 'gosem.cut.vars' lays the variable. In a bare row this is a premise. The card (YtceelfomgcbkiaaGreatDoorCards.lean) ties it to the program's text. -/
def laid_hoarding_charref_stands {H : Type} : DataW H := .agg [.lit (.int .i64 8364), .lit (.int .i64 129), .lit (.int .i64 8218), .lit (.int .i64 402), .lit (.int .i64 8222), .lit (.int .i64 8230), .lit (.int .i64 8224), .lit (.int .i64 8225), .lit (.int .i64 710), .lit (.int .i64 8240), .lit (.int .i64 352), .lit (.int .i64 8249), .lit (.int .i64 338), .lit (.int .i64 141), .lit (.int .i64 381), .lit (.int .i64 143), .lit (.int .i64 144), .lit (.int .i64 8216), .lit (.int .i64 8217), .lit (.int .i64 8220), .lit (.int .i64 8221), .lit (.int .i64 8226), .lit (.int .i64 8211), .lit (.int .i64 8212), .lit (.int .i64 732), .lit (.int .i64 8482), .lit (.int .i64 353), .lit (.int .i64 8250), .lit (.int .i64 339), .lit (.int .i64 157), .lit (.int .i64 382), .lit (.int .i64 376)]

/-- 'hoardinglaw11.LexerPlays': WHATEVER THE INPUT: true; the input reads as it did. -/
def lexerPlaysSpec : ChangeSpec := { name := "lexerPlays", fn := fun _ => fun
  | [d1, d2] => { results := [.lit (.bool true)], args := [d1, d2] }
  | _ => none }
def lexerPlaysRow : OpenClaim := { program := "ytceelfomgcbkiaagreatdoor", sum := "7199afb81959d8f7d669a9de816f62f633a114e87d89ac82ebd113e448a68973", func := "hoarding/hoardinglaw11.LexerPlays", spec := "lexerPlays", inPlace := ["internal/bytealg.IndexByteString", "internal/abi.NoEscape", "internal/bytealg.IndexString"], unfollowed := true, recurses := true, named := ["hoarding/charref.stands", "internal/bytealg.MaxLen"], apart := false, laid := [("hoarding/charref.stands", laid_hoarding_charref_stands)] }
def LexerPlaysSaid : Prop := lexerPlaysRow.holds Tryz.pinned (OpenSpec.ofChange lexerPlaysSpec)

/-- ITS FALSE NEIGHBOUR: 'it returns false'. Refute it at one input. -/
def lexerPlaysWrong : ChangeSpec := { name := "lexerPlays", fn := fun _ => fun
  | [d1, d2] => { results := [.lit (.bool false)], args := [d1, d2] }
  | _ => none }
def LexerPlaysWrongFalsely : Prop := lexerPlaysRow.holds Tryz.pinned (OpenSpec.ofChange lexerPlaysWrong)

/-- 'hoardinglaw11.LexerAll': WHATEVER THE INPUT: true; the input reads as it did. -/
def lexerAllSpec : ChangeSpec := { name := "lexerAll", fn := fun _ => fun
  | [d] => { results := [.lit (.bool true)], args := [d] }
  | _ => none }
def lexerAllRow : OpenClaim := { program := "ytceelfomgcbkiaagreatdoor", sum := "7199afb81959d8f7d669a9de816f62f633a114e87d89ac82ebd113e448a68973", func := "hoarding/hoardinglaw11.LexerAll", spec := "lexerAll", inPlace := ["internal/bytealg.IndexByteString", "internal/abi.NoEscape", "internal/bytealg.IndexString"], unfollowed := true, recurses := true, named := ["hoarding/charref.stands", "internal/bytealg.MaxLen"], apart := false, laid := [("hoarding/charref.stands", laid_hoarding_charref_stands)] }
def LexerAllSaid : Prop := lexerAllRow.holds Tryz.pinned (OpenSpec.ofChange lexerAllSpec)

/-- ITS FALSE NEIGHBOUR: 'it returns false'. Refute it at one input. -/
def lexerAllWrong : ChangeSpec := { name := "lexerAll", fn := fun _ => fun
  | [d] => { results := [.lit (.bool false)], args := [d] }
  | _ => none }
def LexerAllWrongFalsely : Prop := lexerAllRow.holds Tryz.pinned (OpenSpec.ofChange lexerAllWrong)

/- THE SECOND FORM. 'bulk': how many values and letters a reading holds, each counted each time it is reached (what is shared counts as often as it is met; a slice's spare places count too). A statement '..UptoSaid' is the law's where the arguments, and the package variables that the reading takes, are together of bulk at most 1048576: NARROWER than '..Said'. Prove '..Said' where nothing that the law and all that it calls make is longer than what came in: it says more and counts as full. Else prove '..UptoSaid'. A law counts once. -/
mutual
def uptoBulk {H : Type} : DataW H → Nat
  | .lit (.string bytes) => bytes.length + 1
  | .lit _ => 1
  | .nil => 1
  | .ptr d => uptoBulk d + 1
  | .slice elems spare => uptoBulkAll elems + uptoBulkAll spare + 1
  | .agg parts => uptoBulkAll parts + 1
  | .iface _ d => uptoBulk d + 1
  | .map entries => uptoBulkEntries entries + 1
  | .held _ => 1
def uptoBulkAll {H : Type} : List (DataW H) → Nat
  | [] => 0
  | d :: r => uptoBulk d + uptoBulkAll r
def uptoBulkEntries {H : Type} : List (Lit × DataW H) → Nat
  | [] => 0
  | x :: r => uptoBulkEntry x + uptoBulkEntries r
def uptoBulkEntry {H : Type} : Lit × DataW H → Nat
  | (.string bytes, d) => bytes.length + uptoBulk d + 1
  | (_, d) => uptoBulk d + 1
 end
def uptoSmall : (H : Type) → List (DataW H) → Bool := fun _ ds => decide (uptoBulkAll ds ≤ 1048576)
def OpenSpec.upto (s : _root_.Go.ChangeSpec) : _root_.Go.OpenSpec := { _root_.Go.OpenSpec.ofChange s with cond := some uptoSmall }

/-- 'hoardinglaw11.LexerPlays', WHERE WHAT IT READS IS OF BULK AT MOST 1048576: true; the input reads as it did. -/
def lexerPlaysUptoRow : OpenClaim := { program := "ytceelfomgcbkiaagreatdoor", sum := "7199afb81959d8f7d669a9de816f62f633a114e87d89ac82ebd113e448a68973", func := "hoarding/hoardinglaw11.LexerPlays", spec := "lexerPlays", inPlace := ["internal/bytealg.IndexByteString", "internal/abi.NoEscape", "internal/bytealg.IndexString"], unfollowed := true, recurses := true, named := ["hoarding/charref.stands", "internal/bytealg.MaxLen"], apart := false, laid := [("hoarding/charref.stands", laid_hoarding_charref_stands)], narrowed := true }
def LexerPlaysUptoSaid : Prop := lexerPlaysUptoRow.holds Tryz.pinned (OpenSpec.upto lexerPlaysSpec)

/-- 'hoardinglaw11.LexerAll', WHERE WHAT IT READS IS OF BULK AT MOST 1048576: true; the input reads as it did. -/
def lexerAllUptoRow : OpenClaim := { program := "ytceelfomgcbkiaagreatdoor", sum := "7199afb81959d8f7d669a9de816f62f633a114e87d89ac82ebd113e448a68973", func := "hoarding/hoardinglaw11.LexerAll", spec := "lexerAll", inPlace := ["internal/bytealg.IndexByteString", "internal/abi.NoEscape", "internal/bytealg.IndexString"], unfollowed := true, recurses := true, named := ["hoarding/charref.stands", "internal/bytealg.MaxLen"], apart := false, laid := [("hoarding/charref.stands", laid_hoarding_charref_stands)], narrowed := true }
def LexerAllUptoSaid : Prop := lexerAllUptoRow.holds Tryz.pinned (OpenSpec.upto lexerAllSpec)

end Rows
end Go.Proofs.YtceelfomgcbkiaaGreatDoor
