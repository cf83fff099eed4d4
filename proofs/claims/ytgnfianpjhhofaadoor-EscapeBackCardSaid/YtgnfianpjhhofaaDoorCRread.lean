/-
  The walk of the document's Read.
-/
import Derived.Test.YtgnfianpjhhofaaDoorCRead
namespace Go.Proofs.YtgnfianpjhhofaaDoor.C
open Go.RowKit
set_option linter.unusedVariables false

theorem dg_ten (c : UInt8) : decide ((0 : Int) ≤ dg 10 c) = decide (48 ≤ (c.toNat : Int) ∧ (c.toNat : Int) ≤ 57) := by
  rw [decide_eq_decide]
  unfold dg hxI
  split <;> split at * <;> (try split at *) <;> (try split at *) <;> omega
theorem goes_at {s : ByteArray} {k : Nat} (h : k < s.size) : goes (s.data.toList.drop k) = (s[k] == 61 || (leI (s[k].toNat : Int) || decide (48 ≤ (s[k].toNat : Int) ∧ (s[k].toNat : Int) ≤ 57))) := by
  rw [drop_at s k h, ← dg_ten, ← Bool.or_assoc]; rfl

end Go.Proofs.YtgnfianpjhhofaaDoor.C
