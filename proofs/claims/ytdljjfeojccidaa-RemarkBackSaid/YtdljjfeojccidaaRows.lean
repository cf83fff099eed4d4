/-
  No cell of these rows narrows 'for every input' (looked for: loops, veiled, ifaces, maps, wideKeys, modest, calm, conditions, laid).
  DERIVED. THE GIVEN ROWS OF THIS SEAT. 5 by the template 'for every input the law returns true; each argument reads behind the call as it read before'; 0 by the template 'total and deterministic' (their statements: YtdljjfeojccidaaTotals.lean).
  GIVEN WITH THE SEED: the statements are not yours to turn. If you find one false, say at which input.
  Laid BY PROGRAM, IN A SANDBOX (cutbox-rows.mjs): the forced cells as the released guide's own fill.sh prints them over the translation 904fda3ee5681390… (all of the seat's roots in one cut). By AI agents, Wed Nov 11 2026. No macro, syntax, notation, axiom, sorry.
-/
import Derived.Test.YtdljjfeojccidaaChecked
import GoSem.Claim
import GoSem.ClaimJoined
import GoSem.ClaimMapViews
import Derived.JoinedTies
import Derived.KernelRfl
namespace Go.Proofs.Ytdljjfeojccidaa
/- THE CELL 'sum', in the pinned program and in every row, IS THE sha256 OF THE DUMP (.gsa) THAT YtdljjfeojccidaaProg.lean LOADS. Nothing in Lean hashes anything: it is a label: what it is worth is what the hold of that sum in a sandbox is worth. -/
noncomputable def Try.pinned : Pinned := { name := "ytdljjfeojccidaa", sum := "904fda3ee5681390eb124dbc6eb6d1657d065dd418ec93bc24c6d062ba9a191e", checked := Try.checked }
namespace Rows
def none {H : Type} : Left H := { results := [], args := [] }

/-- 'hoardinglaw09.RemarkReads': WHATEVER THE INPUT: true; the input reads as it did. -/
def remarkReadsSpec : ChangeSpec := { name := "remarkReads", fn := fun _ => fun
  | [d1, d2] => { results := [.lit (.bool true)], args := [d1, d2] }
  | _ => none }
def remarkReadsRow : OpenClaim := { program := "ytdljjfeojccidaa", sum := "904fda3ee5681390eb124dbc6eb6d1657d065dd418ec93bc24c6d062ba9a191e", func := "hoarding/hoardinglaw09.RemarkReads", spec := "remarkReads", inPlace := ["internal/bytealg.IndexByteString", "internal/bytealg.IndexString"], named := ["internal/bytealg.MaxLen"], apart := false }
def RemarkReadsSaid : Prop := remarkReadsRow.holds Try.pinned (OpenSpec.ofChange remarkReadsSpec)

/-- ITS FALSE NEIGHBOUR: 'it returns false'. Refute it at one input. -/
def remarkReadsWrong : ChangeSpec := { name := "remarkReads", fn := fun _ => fun
  | [d1, d2] => { results := [.lit (.bool false)], args := [d1, d2] }
  | _ => none }
def RemarkReadsWrongFalsely : Prop := remarkReadsRow.holds Try.pinned (OpenSpec.ofChange remarkReadsWrong)

/-- 'hoardinglaw09.RemarkStops': WHATEVER THE INPUT: true; the input reads as it did. -/
def remarkStopsSpec : ChangeSpec := { name := "remarkStops", fn := fun _ => fun
  | [d1, d2, d3] => { results := [.lit (.bool true)], args := [d1, d2, d3] }
  | _ => none }
def remarkStopsRow : OpenClaim := { program := "ytdljjfeojccidaa", sum := "904fda3ee5681390eb124dbc6eb6d1657d065dd418ec93bc24c6d062ba9a191e", func := "hoarding/hoardinglaw09.RemarkStops", spec := "remarkStops", inPlace := ["internal/bytealg.IndexByteString", "internal/bytealg.IndexString"], named := ["internal/bytealg.MaxLen"], apart := false }
def RemarkStopsSaid : Prop := remarkStopsRow.holds Try.pinned (OpenSpec.ofChange remarkStopsSpec)

/-- ITS FALSE NEIGHBOUR: 'it returns false'. Refute it at one input. -/
def remarkStopsWrong : ChangeSpec := { name := "remarkStops", fn := fun _ => fun
  | [d1, d2, d3] => { results := [.lit (.bool false)], args := [d1, d2, d3] }
  | _ => none }
def RemarkStopsWrongFalsely : Prop := remarkStopsRow.holds Try.pinned (OpenSpec.ofChange remarkStopsWrong)

/-- 'hoardinglaw09.RemarkBack': WHATEVER THE INPUT: true; the input reads as it did. -/
def remarkBackSpec : ChangeSpec := { name := "remarkBack", fn := fun _ => fun
  | [d1, d2] => { results := [.lit (.bool true)], args := [d1, d2] }
  | _ => none }
def remarkBackRow : OpenClaim := { program := "ytdljjfeojccidaa", sum := "904fda3ee5681390eb124dbc6eb6d1657d065dd418ec93bc24c6d062ba9a191e", func := "hoarding/hoardinglaw09.RemarkBack", spec := "remarkBack", inPlace := ["internal/bytealg.IndexByteString", "internal/bytealg.IndexString"], named := ["internal/bytealg.MaxLen"], apart := false }
def RemarkBackSaid : Prop := remarkBackRow.holds Try.pinned (OpenSpec.ofChange remarkBackSpec)

/-- ITS FALSE NEIGHBOUR: 'it returns false'. Refute it at one input. -/
def remarkBackWrong : ChangeSpec := { name := "remarkBack", fn := fun _ => fun
  | [d1, d2] => { results := [.lit (.bool false)], args := [d1, d2] }
  | _ => none }
def RemarkBackWrongFalsely : Prop := remarkBackRow.holds Try.pinned (OpenSpec.ofChange remarkBackWrong)

/-- 'hoardinglaw10.RawFinds': WHATEVER THE INPUT: true; the input reads as it did. -/
def rawFindsSpec : ChangeSpec := { name := "rawFinds", fn := fun _ => fun
  | [d1, d2, d3] => { results := [.lit (.bool true)], args := [d1, d2, d3] }
  | _ => none }
def rawFindsRow : OpenClaim := { program := "ytdljjfeojccidaa", sum := "904fda3ee5681390eb124dbc6eb6d1657d065dd418ec93bc24c6d062ba9a191e", func := "hoarding/hoardinglaw10.RawFinds", spec := "rawFinds", apart := false }
def RawFindsSaid : Prop := rawFindsRow.holds Try.pinned (OpenSpec.ofChange rawFindsSpec)

/-- ITS FALSE NEIGHBOUR: 'it returns false'. Refute it at one input. -/
def rawFindsWrong : ChangeSpec := { name := "rawFinds", fn := fun _ => fun
  | [d1, d2, d3] => { results := [.lit (.bool false)], args := [d1, d2, d3] }
  | _ => none }
def RawFindsWrongFalsely : Prop := rawFindsRow.holds Try.pinned (OpenSpec.ofChange rawFindsWrong)

/-- 'hoardinglaw10.RawStands': WHATEVER THE INPUT: true; the input reads as it did. -/
def rawStandsSpec : ChangeSpec := { name := "rawStands", fn := fun _ => fun
  | [d1, d2, d3] => { results := [.lit (.bool true)], args := [d1, d2, d3] }
  | _ => none }
def rawStandsRow : OpenClaim := { program := "ytdljjfeojccidaa", sum := "904fda3ee5681390eb124dbc6eb6d1657d065dd418ec93bc24c6d062ba9a191e", func := "hoarding/hoardinglaw10.RawStands", spec := "rawStands", apart := false }
def RawStandsSaid : Prop := rawStandsRow.holds Try.pinned (OpenSpec.ofChange rawStandsSpec)

/-- ITS FALSE NEIGHBOUR: 'it returns false'. Refute it at one input. -/
def rawStandsWrong : ChangeSpec := { name := "rawStands", fn := fun _ => fun
  | [d1, d2, d3] => { results := [.lit (.bool false)], args := [d1, d2, d3] }
  | _ => none }
def RawStandsWrongFalsely : Prop := rawStandsRow.holds Try.pinned (OpenSpec.ofChange rawStandsWrong)

/- THE SECOND FORM. 'bulk': how many values and letters a reading holds, each counted each time it is reached (what is shared counts as often as it is met; a slice's spare places count too). A statement '..UptoSaid' is the law's where the arguments, and the package variables that the reading takes, are together of bulk at most 1048576: NARROWER than '..Said'. Prove '..Said' where nothing that the law and all that it calls make is longer than what came in: it says more and counts as full. Else prove '..UptoSaid'. A law counts once. -/
mutual
def uptoBulk {H : Type} : DataW H → Nat
  | .lit (.string bytes) => bytes.length + 1
  | .lit _ => 1
  | .nil => 1
  | .ptr d => uptoBulk d + 1
  | .slice elems spare => uptoBulkAll elems + uptoBulkAll spare + 1
  | .agg parts => uptoBulkAll parts + 1
  | .iface _ d => uptoBulk d + 1
  | .map entries => uptoBulkEntries entries + 1
  | .held _ => 1
def uptoBulkAll {H : Type} : List (DataW H) → Nat
  | [] => 0
  | d :: r => uptoBulk d + uptoBulkAll r
def uptoBulkEntries {H : Type} : List (Lit × DataW H) → Nat
  | [] => 0
  | x :: r => uptoBulkEntry x + uptoBulkEntries r
def uptoBulkEntry {H : Type} : Lit × DataW H → Nat
  | (.string bytes, d) => bytes.length + uptoBulk d + 1
  | (_, d) => uptoBulk d + 1
 end
def uptoSmall : (H : Type) → List (DataW H) → Bool := fun _ ds => decide (uptoBulkAll ds ≤ 1048576)
def OpenSpec.upto (s : _root_.Go.ChangeSpec) : _root_.Go.OpenSpec := { _root_.Go.OpenSpec.ofChange s with cond := some uptoSmall }

/-- 'hoardinglaw09.RemarkReads', WHERE WHAT IT READS IS OF BULK AT MOST 1048576: true; the input reads as it did. -/
def remarkReadsUptoRow : OpenClaim := { program := "ytdljjfeojccidaa", sum := "904fda3ee5681390eb124dbc6eb6d1657d065dd418ec93bc24c6d062ba9a191e", func := "hoarding/hoardinglaw09.RemarkReads", spec := "remarkReads", inPlace := ["internal/bytealg.IndexByteString", "internal/bytealg.IndexString"], named := ["internal/bytealg.MaxLen"], apart := false, narrowed := true }
def RemarkReadsUptoSaid : Prop := remarkReadsUptoRow.holds Try.pinned (OpenSpec.upto remarkReadsSpec)

/-- 'hoardinglaw09.RemarkStops', WHERE WHAT IT READS IS OF BULK AT MOST 1048576: true; the input reads as it did. -/
def remarkStopsUptoRow : OpenClaim := { program := "ytdljjfeojccidaa", sum := "904fda3ee5681390eb124dbc6eb6d1657d065dd418ec93bc24c6d062ba9a191e", func := "hoarding/hoardinglaw09.RemarkStops", spec := "remarkStops", inPlace := ["internal/bytealg.IndexByteString", "internal/bytealg.IndexString"], named := ["internal/bytealg.MaxLen"], apart := false, narrowed := true }
def RemarkStopsUptoSaid : Prop := remarkStopsUptoRow.holds Try.pinned (OpenSpec.upto remarkStopsSpec)

/-- 'hoardinglaw09.RemarkBack', WHERE WHAT IT READS IS OF BULK AT MOST 1048576: true; the input reads as it did. -/
def remarkBackUptoRow : OpenClaim := { program := "ytdljjfeojccidaa", sum := "904fda3ee5681390eb124dbc6eb6d1657d065dd418ec93bc24c6d062ba9a191e", func := "hoarding/hoardinglaw09.RemarkBack", spec := "remarkBack", inPlace := ["internal/bytealg.IndexByteString", "internal/bytealg.IndexString"], named := ["internal/bytealg.MaxLen"], apart := false, narrowed := true }
def RemarkBackUptoSaid : Prop := remarkBackUptoRow.holds Try.pinned (OpenSpec.upto remarkBackSpec)

/-- 'hoardinglaw10.RawFinds', WHERE WHAT IT READS IS OF BULK AT MOST 1048576: true; the input reads as it did. -/
def rawFindsUptoRow : OpenClaim := { program := "ytdljjfeojccidaa", sum := "904fda3ee5681390eb124dbc6eb6d1657d065dd418ec93bc24c6d062ba9a191e", func := "hoarding/hoardinglaw10.RawFinds", spec := "rawFinds", apart := false, narrowed := true }
def RawFindsUptoSaid : Prop := rawFindsUptoRow.holds Try.pinned (OpenSpec.upto rawFindsSpec)

/-- 'hoardinglaw10.RawStands', WHERE WHAT IT READS IS OF BULK AT MOST 1048576: true; the input reads as it did. -/
def rawStandsUptoRow : OpenClaim := { program := "ytdljjfeojccidaa", sum := "904fda3ee5681390eb124dbc6eb6d1657d065dd418ec93bc24c6d062ba9a191e", func := "hoarding/hoardinglaw10.RawStands", spec := "rawStands", apart := false, narrowed := true }
def RawStandsUptoSaid : Prop := rawStandsUptoRow.holds Try.pinned (OpenSpec.upto rawStandsSpec)

end Rows
end Go.Proofs.Ytdljjfeojccidaa
