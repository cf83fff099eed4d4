/-
  No cell of these rows narrows 'for every input' (looked for: loops, veiled, ifaces, maps, wideKeys, modest, calm, conditions, laid).
  DERIVED. THE GIVEN ROWS OF THIS SEAT. 12 by the template 'for every input the law returns true; each argument reads behind the call as it read before'; 0 by the template 'total and deterministic' (their statements: YtkkngflpmdcfjaaTotals.lean).
  GIVEN WITH THE SEED: the statements are not yours to turn. If you find one false, say at which input.
  Laid BY PROGRAM, IN A SANDBOX (cutbox-rows.mjs): the forced cells as the released guide's own fill.sh prints them over the translation 54d657c500bc974e… (all of the seat's roots in one cut). By AI agents, Wed Nov 11 2026. No macro, syntax, notation, axiom, sorry.
-/
import Derived.Test.YtkkngflpmdcfjaaChecked
import GoSem.Claim
import GoSem.ClaimJoined
import GoSem.ClaimMapViews
import Derived.JoinedTies
import Derived.KernelRfl
namespace Go.Proofs.Ytkkngflpmdcfjaa
/- THE CELL 'sum', in the pinned program and in every row, IS THE sha256 OF THE DUMP (.gsa) THAT YtkkngflpmdcfjaaProg.lean LOADS. Nothing in Lean hashes anything: it is a label: what it is worth is what the hold of that sum in a sandbox is worth. -/
noncomputable def Try.pinned : Pinned := { name := "ytkkngflpmdcfjaa", sum := "54d657c500bc974ebb1ff427fbd3e18edb37dbdda6bcab922749feae085b039d", checked := Try.checked }
namespace Rows
def none {H : Type} : Left H := { results := [], args := [] }

/-- 'hoardinglaw13.OrderTells': WHATEVER THE INPUT: true; the input reads as it did. -/
def orderTellsSpec : ChangeSpec := { name := "orderTells", fn := fun _ => fun
  | [d1, d2] => { results := [.lit (.bool true)], args := [d1, d2] }
  | _ => none }
def orderTellsRow : OpenClaim := { program := "ytkkngflpmdcfjaa", sum := "54d657c500bc974ebb1ff427fbd3e18edb37dbdda6bcab922749feae085b039d", func := "hoarding/hoardinglaw13.OrderTells", spec := "orderTells", unfollowed := true, recurses := true, plainKeys := false, apart := false }
def OrderTellsSaid : Prop := orderTellsRow.holds Try.pinned (OpenSpec.ofChange orderTellsSpec)

/-- ITS FALSE NEIGHBOUR: 'it returns false'. Refute it at one input. -/
def orderTellsWrong : ChangeSpec := { name := "orderTells", fn := fun _ => fun
  | [d1, d2] => { results := [.lit (.bool false)], args := [d1, d2] }
  | _ => none }
def OrderTellsWrongFalsely : Prop := orderTellsRow.holds Try.pinned (OpenSpec.ofChange orderTellsWrong)

/-- 'hoardinglaw13.OrderNests': WHATEVER THE INPUT: true; the input reads as it did. -/
def orderNestsSpec : ChangeSpec := { name := "orderNests", fn := fun _ => fun
  | [d] => { results := [.lit (.bool true)], args := [d] }
  | _ => none }
def orderNestsRow : OpenClaim := { program := "ytkkngflpmdcfjaa", sum := "54d657c500bc974ebb1ff427fbd3e18edb37dbdda6bcab922749feae085b039d", func := "hoarding/hoardinglaw13.OrderNests", spec := "orderNests", unfollowed := true, recurses := true, plainKeys := false, apart := false }
def OrderNestsSaid : Prop := orderNestsRow.holds Try.pinned (OpenSpec.ofChange orderNestsSpec)

/-- ITS FALSE NEIGHBOUR: 'it returns false'. Refute it at one input. -/
def orderNestsWrong : ChangeSpec := { name := "orderNests", fn := fun _ => fun
  | [d] => { results := [.lit (.bool false)], args := [d] }
  | _ => none }
def OrderNestsWrongFalsely : Prop := orderNestsRow.holds Try.pinned (OpenSpec.ofChange orderNestsWrong)

/-- 'hoardinglaw13.OrderCounts': WHATEVER THE INPUT: true; the input reads as it did. -/
def orderCountsSpec : ChangeSpec := { name := "orderCounts", fn := fun _ => fun
  | [d] => { results := [.lit (.bool true)], args := [d] }
  | _ => none }
def orderCountsRow : OpenClaim := { program := "ytkkngflpmdcfjaa", sum := "54d657c500bc974ebb1ff427fbd3e18edb37dbdda6bcab922749feae085b039d", func := "hoarding/hoardinglaw13.OrderCounts", spec := "orderCounts", unfollowed := true, recurses := true, plainKeys := false, apart := false }
def OrderCountsSaid : Prop := orderCountsRow.holds Try.pinned (OpenSpec.ofChange orderCountsSpec)

/-- ITS FALSE NEIGHBOUR: 'it returns false'. Refute it at one input. -/
def orderCountsWrong : ChangeSpec := { name := "orderCounts", fn := fun _ => fun
  | [d] => { results := [.lit (.bool false)], args := [d] }
  | _ => none }
def OrderCountsWrongFalsely : Prop := orderCountsRow.holds Try.pinned (OpenSpec.ofChange orderCountsWrong)

/-- 'hoardinglaw14.ShapeTells': WHATEVER THE INPUT: true; the input reads as it did. -/
def shapeTellsSpec : ChangeSpec := { name := "shapeTells", fn := fun _ => fun
  | [d1, d2, d3] => { results := [.lit (.bool true)], args := [d1, d2, d3] }
  | _ => none }
def shapeTellsRow : OpenClaim := { program := "ytkkngflpmdcfjaa", sum := "54d657c500bc974ebb1ff427fbd3e18edb37dbdda6bcab922749feae085b039d", func := "hoarding/hoardinglaw14.ShapeTells", spec := "shapeTells", unfollowed := true, recurses := true, plainKeys := false, apart := false }
def ShapeTellsSaid : Prop := shapeTellsRow.holds Try.pinned (OpenSpec.ofChange shapeTellsSpec)

/-- ITS FALSE NEIGHBOUR: 'it returns false'. Refute it at one input. -/
def shapeTellsWrong : ChangeSpec := { name := "shapeTells", fn := fun _ => fun
  | [d1, d2, d3] => { results := [.lit (.bool false)], args := [d1, d2, d3] }
  | _ => none }
def ShapeTellsWrongFalsely : Prop := shapeTellsRow.holds Try.pinned (OpenSpec.ofChange shapeTellsWrong)

/-- 'hoardinglaw14.ShapeTidies': WHATEVER THE INPUT: true; the input reads as it did. -/
def shapeTidiesSpec : ChangeSpec := { name := "shapeTidies", fn := fun _ => fun
  | [d] => { results := [.lit (.bool true)], args := [d] }
  | _ => none }
def shapeTidiesRow : OpenClaim := { program := "ytkkngflpmdcfjaa", sum := "54d657c500bc974ebb1ff427fbd3e18edb37dbdda6bcab922749feae085b039d", func := "hoarding/hoardinglaw14.ShapeTidies", spec := "shapeTidies", unfollowed := true, recurses := true, plainKeys := false, apart := false }
def ShapeTidiesSaid : Prop := shapeTidiesRow.holds Try.pinned (OpenSpec.ofChange shapeTidiesSpec)

/-- ITS FALSE NEIGHBOUR: 'it returns false'. Refute it at one input. -/
def shapeTidiesWrong : ChangeSpec := { name := "shapeTidies", fn := fun _ => fun
  | [d] => { results := [.lit (.bool false)], args := [d] }
  | _ => none }
def ShapeTidiesWrongFalsely : Prop := shapeTidiesRow.holds Try.pinned (OpenSpec.ofChange shapeTidiesWrong)

/-- 'hoardinglaw14.ShapeSubs': WHATEVER THE INPUT: true; the input reads as it did. -/
def shapeSubsSpec : ChangeSpec := { name := "shapeSubs", fn := fun _ => fun
  | [d1, d2] => { results := [.lit (.bool true)], args := [d1, d2] }
  | _ => none }
def shapeSubsRow : OpenClaim := { program := "ytkkngflpmdcfjaa", sum := "54d657c500bc974ebb1ff427fbd3e18edb37dbdda6bcab922749feae085b039d", func := "hoarding/hoardinglaw14.ShapeSubs", spec := "shapeSubs", unfollowed := true, recurses := true, plainKeys := false, apart := false }
def ShapeSubsSaid : Prop := shapeSubsRow.holds Try.pinned (OpenSpec.ofChange shapeSubsSpec)

/-- ITS FALSE NEIGHBOUR: 'it returns false'. Refute it at one input. -/
def shapeSubsWrong : ChangeSpec := { name := "shapeSubs", fn := fun _ => fun
  | [d1, d2] => { results := [.lit (.bool false)], args := [d1, d2] }
  | _ => none }
def ShapeSubsWrongFalsely : Prop := shapeSubsRow.holds Try.pinned (OpenSpec.ofChange shapeSubsWrong)

/-- 'hoardinglaw15.StackTells': WHATEVER THE INPUT: true; the input reads as it did. -/
def stackTellsSpec : ChangeSpec := { name := "stackTells", fn := fun _ => fun
  | [d1, d2, d3, d4, d5] => { results := [.lit (.bool true)], args := [d1, d2, d3, d4, d5] }
  | _ => none }
def stackTellsRow : OpenClaim := { program := "ytkkngflpmdcfjaa", sum := "54d657c500bc974ebb1ff427fbd3e18edb37dbdda6bcab922749feae085b039d", func := "hoarding/hoardinglaw15.StackTells", spec := "stackTells", unfollowed := true, recurses := true, plainKeys := false, apart := false }
def StackTellsSaid : Prop := stackTellsRow.holds Try.pinned (OpenSpec.ofChange stackTellsSpec)

/-- ITS FALSE NEIGHBOUR: 'it returns false'. Refute it at one input. -/
def stackTellsWrong : ChangeSpec := { name := "stackTells", fn := fun _ => fun
  | [d1, d2, d3, d4, d5] => { results := [.lit (.bool false)], args := [d1, d2, d3, d4, d5] }
  | _ => none }
def StackTellsWrongFalsely : Prop := stackTellsRow.holds Try.pinned (OpenSpec.ofChange stackTellsWrong)

/-- 'hoardinglaw15.StackBegins': WHATEVER THE INPUT: true; the input reads as it did. -/
def stackBeginsSpec : ChangeSpec := { name := "stackBegins", fn := fun _ => fun
  | [d1, d2, d3, d4] => { results := [.lit (.bool true)], args := [d1, d2, d3, d4] }
  | _ => none }
def stackBeginsRow : OpenClaim := { program := "ytkkngflpmdcfjaa", sum := "54d657c500bc974ebb1ff427fbd3e18edb37dbdda6bcab922749feae085b039d", func := "hoarding/hoardinglaw15.StackBegins", spec := "stackBegins", unfollowed := true, recurses := true, plainKeys := false, apart := false }
def StackBeginsSaid : Prop := stackBeginsRow.holds Try.pinned (OpenSpec.ofChange stackBeginsSpec)

/-- ITS FALSE NEIGHBOUR: 'it returns false'. Refute it at one input. -/
def stackBeginsWrong : ChangeSpec := { name := "stackBegins", fn := fun _ => fun
  | [d1, d2, d3, d4] => { results := [.lit (.bool false)], args := [d1, d2, d3, d4] }
  | _ => none }
def StackBeginsWrongFalsely : Prop := stackBeginsRow.holds Try.pinned (OpenSpec.ofChange stackBeginsWrong)

/-- 'hoardinglaw15.StackScopes': WHATEVER THE INPUT: true; the input reads as it did. -/
def stackScopesSpec : ChangeSpec := { name := "stackScopes", fn := fun _ => fun
  | [d1, d2, d3] => { results := [.lit (.bool true)], args := [d1, d2, d3] }
  | _ => none }
def stackScopesRow : OpenClaim := { program := "ytkkngflpmdcfjaa", sum := "54d657c500bc974ebb1ff427fbd3e18edb37dbdda6bcab922749feae085b039d", func := "hoarding/hoardinglaw15.StackScopes", spec := "stackScopes", unfollowed := true, recurses := true, plainKeys := false, apart := false }
def StackScopesSaid : Prop := stackScopesRow.holds Try.pinned (OpenSpec.ofChange stackScopesSpec)

/-- ITS FALSE NEIGHBOUR: 'it returns false'. Refute it at one input. -/
def stackScopesWrong : ChangeSpec := { name := "stackScopes", fn := fun _ => fun
  | [d1, d2, d3] => { results := [.lit (.bool false)], args := [d1, d2, d3] }
  | _ => none }
def StackScopesWrongFalsely : Prop := stackScopesRow.holds Try.pinned (OpenSpec.ofChange stackScopesWrong)

/-- 'hoardinglaw16.ActiveTells': WHATEVER THE INPUT: true; the input reads as it did. -/
def activeTellsSpec : ChangeSpec := { name := "activeTells", fn := fun _ => fun
  | [d1, d2, d3, d4, d5] => { results := [.lit (.bool true)], args := [d1, d2, d3, d4, d5] }
  | _ => none }
def activeTellsRow : OpenClaim := { program := "ytkkngflpmdcfjaa", sum := "54d657c500bc974ebb1ff427fbd3e18edb37dbdda6bcab922749feae085b039d", func := "hoarding/hoardinglaw16.ActiveTells", spec := "activeTells", inPlace := ["slices.overlaps[int]"], unfollowed := true, recurses := true, plainKeys := false, apart := false }
def ActiveTellsSaid : Prop := activeTellsRow.holds Try.pinned (OpenSpec.ofChange activeTellsSpec)

/-- ITS FALSE NEIGHBOUR: 'it returns false'. Refute it at one input. -/
def activeTellsWrong : ChangeSpec := { name := "activeTells", fn := fun _ => fun
  | [d1, d2, d3, d4, d5] => { results := [.lit (.bool false)], args := [d1, d2, d3, d4, d5] }
  | _ => none }
def ActiveTellsWrongFalsely : Prop := activeTellsRow.holds Try.pinned (OpenSpec.ofChange activeTellsWrong)

/-- 'hoardinglaw16.ActiveArk': WHATEVER THE INPUT: true; the input reads as it did. -/
def activeArkSpec : ChangeSpec := { name := "activeArk", fn := fun _ => fun
  | [d1, d2] => { results := [.lit (.bool true)], args := [d1, d2] }
  | _ => none }
def activeArkRow : OpenClaim := { program := "ytkkngflpmdcfjaa", sum := "54d657c500bc974ebb1ff427fbd3e18edb37dbdda6bcab922749feae085b039d", func := "hoarding/hoardinglaw16.ActiveArk", spec := "activeArk", inPlace := ["slices.overlaps[int]"], unfollowed := true, recurses := true, plainKeys := false, apart := false }
def ActiveArkSaid : Prop := activeArkRow.holds Try.pinned (OpenSpec.ofChange activeArkSpec)

/-- ITS FALSE NEIGHBOUR: 'it returns false'. Refute it at one input. -/
def activeArkWrong : ChangeSpec := { name := "activeArk", fn := fun _ => fun
  | [d1, d2] => { results := [.lit (.bool false)], args := [d1, d2] }
  | _ => none }
def ActiveArkWrongFalsely : Prop := activeArkRow.holds Try.pinned (OpenSpec.ofChange activeArkWrong)

/-- 'hoardinglaw16.ActiveBack': WHATEVER THE INPUT: true; the input reads as it did. -/
def activeBackSpec : ChangeSpec := { name := "activeBack", fn := fun _ => fun
  | [d1, d2, d3, d4] => { results := [.lit (.bool true)], args := [d1, d2, d3, d4] }
  | _ => none }
def activeBackRow : OpenClaim := { program := "ytkkngflpmdcfjaa", sum := "54d657c500bc974ebb1ff427fbd3e18edb37dbdda6bcab922749feae085b039d", func := "hoarding/hoardinglaw16.ActiveBack", spec := "activeBack", inPlace := ["slices.overlaps[int]"], unfollowed := true, recurses := true, plainKeys := false, apart := false }
def ActiveBackSaid : Prop := activeBackRow.holds Try.pinned (OpenSpec.ofChange activeBackSpec)

/-- ITS FALSE NEIGHBOUR: 'it returns false'. Refute it at one input. -/
def activeBackWrong : ChangeSpec := { name := "activeBack", fn := fun _ => fun
  | [d1, d2, d3, d4] => { results := [.lit (.bool false)], args := [d1, d2, d3, d4] }
  | _ => none }
def ActiveBackWrongFalsely : Prop := activeBackRow.holds Try.pinned (OpenSpec.ofChange activeBackWrong)

/- THE SECOND FORM. 'bulk': how many values and letters a reading holds, each counted each time it is reached (what is shared counts as often as it is met; a slice's spare places count too). A statement '..UptoSaid' is the law's where the arguments, and the package variables that the reading takes, are together of bulk at most 1048576: NARROWER than '..Said'. Prove '..Said' where nothing that the law and all that it calls make is longer than what came in: it says more and counts as full. Else prove '..UptoSaid'. A law counts once. -/
mutual
def uptoBulk {H : Type} : DataW H → Nat
  | .lit (.string bytes) => bytes.length + 1
  | .lit _ => 1
  | .nil => 1
  | .ptr d => uptoBulk d + 1
  | .slice elems spare => uptoBulkAll elems + uptoBulkAll spare + 1
  | .agg parts => uptoBulkAll parts + 1
  | .iface _ d => uptoBulk d + 1
  | .map entries => uptoBulkEntries entries + 1
  | .held _ => 1
def uptoBulkAll {H : Type} : List (DataW H) → Nat
  | [] => 0
  | d :: r => uptoBulk d + uptoBulkAll r
def uptoBulkEntries {H : Type} : List (Lit × DataW H) → Nat
  | [] => 0
  | x :: r => uptoBulkEntry x + uptoBulkEntries r
def uptoBulkEntry {H : Type} : Lit × DataW H → Nat
  | (.string bytes, d) => bytes.length + uptoBulk d + 1
  | (_, d) => uptoBulk d + 1
 end
def uptoSmall : (H : Type) → List (DataW H) → Bool := fun _ ds => decide (uptoBulkAll ds ≤ 1048576)
def OpenSpec.upto (s : _root_.Go.ChangeSpec) : _root_.Go.OpenSpec := { _root_.Go.OpenSpec.ofChange s with cond := some uptoSmall }

/-- 'hoardinglaw13.OrderTells', WHERE WHAT IT READS IS OF BULK AT MOST 1048576: true; the input reads as it did. -/
def orderTellsUptoRow : OpenClaim := { program := "ytkkngflpmdcfjaa", sum := "54d657c500bc974ebb1ff427fbd3e18edb37dbdda6bcab922749feae085b039d", func := "hoarding/hoardinglaw13.OrderTells", spec := "orderTells", unfollowed := true, recurses := true, plainKeys := false, apart := false, narrowed := true }
def OrderTellsUptoSaid : Prop := orderTellsUptoRow.holds Try.pinned (OpenSpec.upto orderTellsSpec)

/-- 'hoardinglaw13.OrderNests', WHERE WHAT IT READS IS OF BULK AT MOST 1048576: true; the input reads as it did. -/
def orderNestsUptoRow : OpenClaim := { program := "ytkkngflpmdcfjaa", sum := "54d657c500bc974ebb1ff427fbd3e18edb37dbdda6bcab922749feae085b039d", func := "hoarding/hoardinglaw13.OrderNests", spec := "orderNests", unfollowed := true, recurses := true, plainKeys := false, apart := false, narrowed := true }
def OrderNestsUptoSaid : Prop := orderNestsUptoRow.holds Try.pinned (OpenSpec.upto orderNestsSpec)

/-- 'hoardinglaw13.OrderCounts', WHERE WHAT IT READS IS OF BULK AT MOST 1048576: true; the input reads as it did. -/
def orderCountsUptoRow : OpenClaim := { program := "ytkkngflpmdcfjaa", sum := "54d657c500bc974ebb1ff427fbd3e18edb37dbdda6bcab922749feae085b039d", func := "hoarding/hoardinglaw13.OrderCounts", spec := "orderCounts", unfollowed := true, recurses := true, plainKeys := false, apart := false, narrowed := true }
def OrderCountsUptoSaid : Prop := orderCountsUptoRow.holds Try.pinned (OpenSpec.upto orderCountsSpec)

/-- 'hoardinglaw14.ShapeTells', WHERE WHAT IT READS IS OF BULK AT MOST 1048576: true; the input reads as it did. -/
def shapeTellsUptoRow : OpenClaim := { program := "ytkkngflpmdcfjaa", sum := "54d657c500bc974ebb1ff427fbd3e18edb37dbdda6bcab922749feae085b039d", func := "hoarding/hoardinglaw14.ShapeTells", spec := "shapeTells", unfollowed := true, recurses := true, plainKeys := false, apart := false, narrowed := true }
def ShapeTellsUptoSaid : Prop := shapeTellsUptoRow.holds Try.pinned (OpenSpec.upto shapeTellsSpec)

/-- 'hoardinglaw14.ShapeTidies', WHERE WHAT IT READS IS OF BULK AT MOST 1048576: true; the input reads as it did. -/
def shapeTidiesUptoRow : OpenClaim := { program := "ytkkngflpmdcfjaa", sum := "54d657c500bc974ebb1ff427fbd3e18edb37dbdda6bcab922749feae085b039d", func := "hoarding/hoardinglaw14.ShapeTidies", spec := "shapeTidies", unfollowed := true, recurses := true, plainKeys := false, apart := false, narrowed := true }
def ShapeTidiesUptoSaid : Prop := shapeTidiesUptoRow.holds Try.pinned (OpenSpec.upto shapeTidiesSpec)

/-- 'hoardinglaw14.ShapeSubs', WHERE WHAT IT READS IS OF BULK AT MOST 1048576: true; the input reads as it did. -/
def shapeSubsUptoRow : OpenClaim := { program := "ytkkngflpmdcfjaa", sum := "54d657c500bc974ebb1ff427fbd3e18edb37dbdda6bcab922749feae085b039d", func := "hoarding/hoardinglaw14.ShapeSubs", spec := "shapeSubs", unfollowed := true, recurses := true, plainKeys := false, apart := false, narrowed := true }
def ShapeSubsUptoSaid : Prop := shapeSubsUptoRow.holds Try.pinned (OpenSpec.upto shapeSubsSpec)

/-- 'hoardinglaw15.StackTells', WHERE WHAT IT READS IS OF BULK AT MOST 1048576: true; the input reads as it did. -/
def stackTellsUptoRow : OpenClaim := { program := "ytkkngflpmdcfjaa", sum := "54d657c500bc974ebb1ff427fbd3e18edb37dbdda6bcab922749feae085b039d", func := "hoarding/hoardinglaw15.StackTells", spec := "stackTells", unfollowed := true, recurses := true, plainKeys := false, apart := false, narrowed := true }
def StackTellsUptoSaid : Prop := stackTellsUptoRow.holds Try.pinned (OpenSpec.upto stackTellsSpec)

/-- 'hoardinglaw15.StackBegins', WHERE WHAT IT READS IS OF BULK AT MOST 1048576: true; the input reads as it did. -/
def stackBeginsUptoRow : OpenClaim := { program := "ytkkngflpmdcfjaa", sum := "54d657c500bc974ebb1ff427fbd3e18edb37dbdda6bcab922749feae085b039d", func := "hoarding/hoardinglaw15.StackBegins", spec := "stackBegins", unfollowed := true, recurses := true, plainKeys := false, apart := false, narrowed := true }
def StackBeginsUptoSaid : Prop := stackBeginsUptoRow.holds Try.pinned (OpenSpec.upto stackBeginsSpec)

/-- 'hoardinglaw15.StackScopes', WHERE WHAT IT READS IS OF BULK AT MOST 1048576: true; the input reads as it did. -/
def stackScopesUptoRow : OpenClaim := { program := "ytkkngflpmdcfjaa", sum := "54d657c500bc974ebb1ff427fbd3e18edb37dbdda6bcab922749feae085b039d", func := "hoarding/hoardinglaw15.StackScopes", spec := "stackScopes", unfollowed := true, recurses := true, plainKeys := false, apart := false, narrowed := true }
def StackScopesUptoSaid : Prop := stackScopesUptoRow.holds Try.pinned (OpenSpec.upto stackScopesSpec)

/-- 'hoardinglaw16.ActiveTells', WHERE WHAT IT READS IS OF BULK AT MOST 1048576: true; the input reads as it did. -/
def activeTellsUptoRow : OpenClaim := { program := "ytkkngflpmdcfjaa", sum := "54d657c500bc974ebb1ff427fbd3e18edb37dbdda6bcab922749feae085b039d", func := "hoarding/hoardinglaw16.ActiveTells", spec := "activeTells", inPlace := ["slices.overlaps[int]"], unfollowed := true, recurses := true, plainKeys := false, apart := false, narrowed := true }
def ActiveTellsUptoSaid : Prop := activeTellsUptoRow.holds Try.pinned (OpenSpec.upto activeTellsSpec)

/-- 'hoardinglaw16.ActiveArk', WHERE WHAT IT READS IS OF BULK AT MOST 1048576: true; the input reads as it did. -/
def activeArkUptoRow : OpenClaim := { program := "ytkkngflpmdcfjaa", sum := "54d657c500bc974ebb1ff427fbd3e18edb37dbdda6bcab922749feae085b039d", func := "hoarding/hoardinglaw16.ActiveArk", spec := "activeArk", inPlace := ["slices.overlaps[int]"], unfollowed := true, recurses := true, plainKeys := false, apart := false, narrowed := true }
def ActiveArkUptoSaid : Prop := activeArkUptoRow.holds Try.pinned (OpenSpec.upto activeArkSpec)

/-- 'hoardinglaw16.ActiveBack', WHERE WHAT IT READS IS OF BULK AT MOST 1048576: true; the input reads as it did. -/
def activeBackUptoRow : OpenClaim := { program := "ytkkngflpmdcfjaa", sum := "54d657c500bc974ebb1ff427fbd3e18edb37dbdda6bcab922749feae085b039d", func := "hoarding/hoardinglaw16.ActiveBack", spec := "activeBack", inPlace := ["slices.overlaps[int]"], unfollowed := true, recurses := true, plainKeys := false, apart := false, narrowed := true }
def ActiveBackUptoSaid : Prop := activeBackUptoRow.holds Try.pinned (OpenSpec.upto activeBackSpec)

end Rows
end Go.Proofs.Ytkkngflpmdcfjaa
