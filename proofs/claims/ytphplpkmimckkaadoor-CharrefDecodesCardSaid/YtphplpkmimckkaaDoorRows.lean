/-
  NARROWER THAN 'FOR EVERY INPUT', by the rows' own cells (each row's printed sentence says how): CharrefTells: laid · CharrefDecodes: laid · CharrefStays: laid.
  DERIVED. THE GIVEN ROWS OF THIS SEAT. 3 by the template 'for every input the law returns true; each argument reads behind the call as it read before'; 0 by the template 'total and deterministic' (their statements: YtphplpkmimckkaaDoorTotals.lean).
  GIVEN WITH THE SEED: the statements are not yours to turn. If you find one false, say at which input.
  Laid BY PROGRAM, IN A SANDBOX (cutbox-rows.mjs): the forced cells as the released guide's own fill.sh prints them over the translation 699272377093c740… (all of the seat's roots in one cut). By AI agents, Wed Nov 11 2026. No macro, syntax, notation, axiom, sorry.
-/
import Derived.Test.YtphplpkmimckkaaDoorChecked
import GoSem.PinnedTables
import GoSem.Claim
import GoSem.ClaimJoined
import GoSem.ClaimMapViews
import Derived.JoinedTies
import Derived.KernelRfl
namespace Go.Proofs.YtphplpkmimckkaaDoor
/- THE CELL 'sum', in the pinned program and in every row, IS THE sha256 OF THE DUMP (.gsa) THAT YtphplpkmimckkaaDoorProg.lean LOADS. Nothing in Lean hashes anything: it is a label: what it is worth is what the hold of that sum in a sandbox is worth. -/
noncomputable def Tryd.pinned : Pinned := { name := "ytphplpkmimckkaadoor", sum := "699272377093c740451ced1b71afe03e2a8058d1d21b102c9862f72b916ecb9a", checked := Tryd.checked }
namespace Rows
def none {H : Type} : Left H := { results := [], args := [] }

/- WHAT THE LISTED PACKAGE-LEVEL VARIABLES READ AS WHEN THE CALL BEGINS. Each datum BY PROGRAM (the guide's laid-datum.mjs) off the statement by which the dump's own 'gosem.cut.vars' lays the variable. In a bare row this is a premise. The card (YtphplpkmimckkaaDoorCards.lean) ties it to the program's text. -/
def laid_hoarding_charref_stands {H : Type} : DataW H := .agg [.lit (.int .i64 8364), .lit (.int .i64 129), .lit (.int .i64 8218), .lit (.int .i64 402), .lit (.int .i64 8222), .lit (.int .i64 8230), .lit (.int .i64 8224), .lit (.int .i64 8225), .lit (.int .i64 710), .lit (.int .i64 8240), .lit (.int .i64 352), .lit (.int .i64 8249), .lit (.int .i64 338), .lit (.int .i64 141), .lit (.int .i64 381), .lit (.int .i64 143), .lit (.int .i64 144), .lit (.int .i64 8216), .lit (.int .i64 8217), .lit (.int .i64 8220), .lit (.int .i64 8221), .lit (.int .i64 8226), .lit (.int .i64 8211), .lit (.int .i64 8212), .lit (.int .i64 732), .lit (.int .i64 8482), .lit (.int .i64 353), .lit (.int .i64 8250), .lit (.int .i64 339), .lit (.int .i64 157), .lit (.int .i64 382), .lit (.int .i64 376)]
def laid_unicode_utf8_acceptRanges {H : Type} : DataW H := .agg [.agg [.lit (.int .u8 128), .lit (.int .u8 191)], .agg [.lit (.int .u8 160), .lit (.int .u8 191)], .agg [.lit (.int .u8 128), .lit (.int .u8 159)], .agg [.lit (.int .u8 144), .lit (.int .u8 191)], .agg [.lit (.int .u8 128), .lit (.int .u8 143)], .agg [.lit (.int .u8 0), .lit (.int .u8 0)], .agg [.lit (.int .u8 0), .lit (.int .u8 0)], .agg [.lit (.int .u8 0), .lit (.int .u8 0)], .agg [.lit (.int .u8 0), .lit (.int .u8 0)], .agg [.lit (.int .u8 0), .lit (.int .u8 0)], .agg [.lit (.int .u8 0), .lit (.int .u8 0)], .agg [.lit (.int .u8 0), .lit (.int .u8 0)], .agg [.lit (.int .u8 0), .lit (.int .u8 0)], .agg [.lit (.int .u8 0), .lit (.int .u8 0)], .agg [.lit (.int .u8 0), .lit (.int .u8 0)], .agg [.lit (.int .u8 0), .lit (.int .u8 0)]]
/-- One of Go's own tables, pinned by name: the form's constant. -/
def laid_unicode_utf8_first : DataW Unit := Go.Pinned.utf8First

/-- 'hoardinglaw04.CharrefTells': WHATEVER THE INPUT: true; the input reads as it did. -/
def charrefTellsSpec : ChangeSpec := { name := "charrefTells", fn := fun _ => fun
  | [d1, d2, d3, d4] => { results := [.lit (.bool true)], args := [d1, d2, d3, d4] }
  | _ => none }
def charrefTellsRow : OpenClaim := { program := "ytphplpkmimckkaadoor", sum := "699272377093c740451ced1b71afe03e2a8058d1d21b102c9862f72b916ecb9a", func := "hoarding/hoardinglaw04.CharrefTells", spec := "charrefTells", inPlace := ["internal/bytealg.IndexByteString", "internal/abi.NoEscape"], named := ["hoarding/charref.stands"], apart := false, laid := [("hoarding/charref.stands", laid_hoarding_charref_stands)] }
def CharrefTellsSaid : Prop := charrefTellsRow.holds Tryd.pinned (OpenSpec.ofChange charrefTellsSpec)

/-- ITS FALSE NEIGHBOUR: 'it returns false'. Refute it at one input. -/
def charrefTellsWrong : ChangeSpec := { name := "charrefTells", fn := fun _ => fun
  | [d1, d2, d3, d4] => { results := [.lit (.bool false)], args := [d1, d2, d3, d4] }
  | _ => none }
def CharrefTellsWrongFalsely : Prop := charrefTellsRow.holds Tryd.pinned (OpenSpec.ofChange charrefTellsWrong)

/-- 'hoardinglaw04.CharrefDecodes': WHATEVER THE INPUT: true; the input reads as it did. -/
def charrefDecodesSpec : ChangeSpec := { name := "charrefDecodes", fn := fun _ => fun
  | [d1, d2] => { results := [.lit (.bool true)], args := [d1, d2] }
  | _ => none }
def charrefDecodesRow : OpenClaim := { program := "ytphplpkmimckkaadoor", sum := "699272377093c740451ced1b71afe03e2a8058d1d21b102c9862f72b916ecb9a", func := "hoarding/hoardinglaw04.CharrefDecodes", spec := "charrefDecodes", inPlace := ["internal/bytealg.IndexByteString", "internal/abi.NoEscape"], named := ["hoarding/charref.stands"], apart := false, laid := [("hoarding/charref.stands", laid_hoarding_charref_stands)] }
def CharrefDecodesSaid : Prop := charrefDecodesRow.holds Tryd.pinned (OpenSpec.ofChange charrefDecodesSpec)

/-- ITS FALSE NEIGHBOUR: 'it returns false'. Refute it at one input. -/
def charrefDecodesWrong : ChangeSpec := { name := "charrefDecodes", fn := fun _ => fun
  | [d1, d2] => { results := [.lit (.bool false)], args := [d1, d2] }
  | _ => none }
def CharrefDecodesWrongFalsely : Prop := charrefDecodesRow.holds Tryd.pinned (OpenSpec.ofChange charrefDecodesWrong)

/-- 'hoardinglaw04.CharrefStays': WHATEVER THE INPUT: true; the input reads as it did. -/
def charrefStaysSpec : ChangeSpec := { name := "charrefStays", fn := fun _ => fun
  | [d1, d2, d3] => { results := [.lit (.bool true)], args := [d1, d2, d3] }
  | _ => none }
def charrefStaysRow : OpenClaim := { program := "ytphplpkmimckkaadoor", sum := "699272377093c740451ced1b71afe03e2a8058d1d21b102c9862f72b916ecb9a", func := "hoarding/hoardinglaw04.CharrefStays", spec := "charrefStays", inPlace := ["internal/bytealg.IndexByteString", "internal/abi.NoEscape", "internal/bytealg.CountString", "internal/bytealg.IndexString", "internal/bytealg.MakeNoZero"], named := ["hoarding/charref.stands", "internal/bytealg.MaxLen", "unicode/utf8.first", "unicode/utf8.acceptRanges"], apart := false, laid := [("unicode/utf8.acceptRanges", laid_unicode_utf8_acceptRanges), ("hoarding/charref.stands", laid_hoarding_charref_stands), ("unicode/utf8.first", laid_unicode_utf8_first)] }
def CharrefStaysSaid : Prop := charrefStaysRow.holds Tryd.pinned (OpenSpec.ofChange charrefStaysSpec)

/-- ITS FALSE NEIGHBOUR: 'it returns false'. Refute it at one input. -/
def charrefStaysWrong : ChangeSpec := { name := "charrefStays", fn := fun _ => fun
  | [d1, d2, d3] => { results := [.lit (.bool false)], args := [d1, d2, d3] }
  | _ => none }
def CharrefStaysWrongFalsely : Prop := charrefStaysRow.holds Tryd.pinned (OpenSpec.ofChange charrefStaysWrong)

/- THE SECOND FORM. 'bulk': how many values and letters a reading holds, each counted each time it is reached (what is shared counts as often as it is met; a slice's spare places count too). A statement '..UptoSaid' is the law's where the arguments, and the package variables that the reading takes, are together of bulk at most 1048576: NARROWER than '..Said'. Prove '..Said' where nothing that the law and all that it calls make is longer than what came in: it says more and counts as full. Else prove '..UptoSaid'. A law counts once. -/
mutual
def uptoBulk {H : Type} : DataW H → Nat
  | .lit (.string bytes) => bytes.length + 1
  | .lit _ => 1
  | .nil => 1
  | .ptr d => uptoBulk d + 1
  | .slice elems spare => uptoBulkAll elems + uptoBulkAll spare + 1
  | .agg parts => uptoBulkAll parts + 1
  | .iface _ d => uptoBulk d + 1
  | .map entries => uptoBulkEntries entries + 1
  | .held _ => 1
def uptoBulkAll {H : Type} : List (DataW H) → Nat
  | [] => 0
  | d :: r => uptoBulk d + uptoBulkAll r
def uptoBulkEntries {H : Type} : List (Lit × DataW H) → Nat
  | [] => 0
  | x :: r => uptoBulkEntry x + uptoBulkEntries r
def uptoBulkEntry {H : Type} : Lit × DataW H → Nat
  | (.string bytes, d) => bytes.length + uptoBulk d + 1
  | (_, d) => uptoBulk d + 1
 end
def uptoSmall : (H : Type) → List (DataW H) → Bool := fun _ ds => decide (uptoBulkAll ds ≤ 1048576)
def OpenSpec.upto (s : _root_.Go.ChangeSpec) : _root_.Go.OpenSpec := { _root_.Go.OpenSpec.ofChange s with cond := some uptoSmall }

/-- 'hoardinglaw04.CharrefTells', WHERE WHAT IT READS IS OF BULK AT MOST 1048576: true; the input reads as it did. -/
def charrefTellsUptoRow : OpenClaim := { program := "ytphplpkmimckkaadoor", sum := "699272377093c740451ced1b71afe03e2a8058d1d21b102c9862f72b916ecb9a", func := "hoarding/hoardinglaw04.CharrefTells", spec := "charrefTells", inPlace := ["internal/bytealg.IndexByteString", "internal/abi.NoEscape"], named := ["hoarding/charref.stands"], apart := false, laid := [("hoarding/charref.stands", laid_hoarding_charref_stands)], narrowed := true }
def CharrefTellsUptoSaid : Prop := charrefTellsUptoRow.holds Tryd.pinned (OpenSpec.upto charrefTellsSpec)

/-- 'hoardinglaw04.CharrefDecodes', WHERE WHAT IT READS IS OF BULK AT MOST 1048576: true; the input reads as it did. -/
def charrefDecodesUptoRow : OpenClaim := { program := "ytphplpkmimckkaadoor", sum := "699272377093c740451ced1b71afe03e2a8058d1d21b102c9862f72b916ecb9a", func := "hoarding/hoardinglaw04.CharrefDecodes", spec := "charrefDecodes", inPlace := ["internal/bytealg.IndexByteString", "internal/abi.NoEscape"], named := ["hoarding/charref.stands"], apart := false, laid := [("hoarding/charref.stands", laid_hoarding_charref_stands)], narrowed := true }
def CharrefDecodesUptoSaid : Prop := charrefDecodesUptoRow.holds Tryd.pinned (OpenSpec.upto charrefDecodesSpec)

/-- 'hoardinglaw04.CharrefStays', WHERE WHAT IT READS IS OF BULK AT MOST 1048576: true; the input reads as it did. -/
def charrefStaysUptoRow : OpenClaim := { program := "ytphplpkmimckkaadoor", sum := "699272377093c740451ced1b71afe03e2a8058d1d21b102c9862f72b916ecb9a", func := "hoarding/hoardinglaw04.CharrefStays", spec := "charrefStays", inPlace := ["internal/bytealg.IndexByteString", "internal/abi.NoEscape", "internal/bytealg.CountString", "internal/bytealg.IndexString", "internal/bytealg.MakeNoZero"], named := ["hoarding/charref.stands", "internal/bytealg.MaxLen", "unicode/utf8.first", "unicode/utf8.acceptRanges"], apart := false, laid := [("unicode/utf8.acceptRanges", laid_unicode_utf8_acceptRanges), ("hoarding/charref.stands", laid_hoarding_charref_stands), ("unicode/utf8.first", laid_unicode_utf8_first)], narrowed := true }
def CharrefStaysUptoSaid : Prop := charrefStaysUptoRow.holds Tryd.pinned (OpenSpec.upto charrefStaysSpec)

end Rows
end Go.Proofs.YtphplpkmimckkaaDoor
