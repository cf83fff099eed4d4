/-
  Layer 13 counts in floats: those that stand for small numbers, how they add, and how they compare.
-/
import Derived.WalkKit
namespace Go.Proofs.Ytkkngflpmdcfjaa
open Go.RowKit

/-- A small number as a float. -/
def fb (a : Int) : Nat := FloatKind.f64.nearest a
theorem fb_m1 : fb (-1) = 13830554455654793216 := by kernel_rfl
theorem fb_0 : fb 0 = 0 := by kernel_rfl
theorem fb_1 : fb 1 = 4607182418800017408 := by kernel_rfl
theorem add_tab : (List.range 66).all (fun k => FloatKind.f64.format.add (fb (k : Nat)) 4607182418800017408 == some (fb ((k : Nat) + 1))) = true := by kernel_rfl
theorem fb_add {k : Nat} (h : k < 66) : FloatKind.f64.format.add (fb (k : Nat)) 4607182418800017408 = some (fb ((k : Nat) + 1)) := by
  have := List.all_eq_true.1 add_tab k (List.mem_range.2 h)
  exact eq_of_beq this
def cmpI (a b : Int) : Ordering := if a < b then .lt else if a = b then .eq else .gt
theorem ord_tab : (List.range 66).all (fun i => (List.range 66).all fun j => FloatKind.f64.format.order (fb ((i : Int) - 1)) (fb ((j : Int) - 1)) == some (cmpI ((i : Int) - 1) ((j : Int) - 1))) = true := by kernel_rfl
theorem fb_order {a b : Int} (ha : -1 ≤ a) (ha2 : a < 65) (hb : -1 ≤ b) (hb2 : b < 65) : FloatKind.f64.format.order (fb a) (fb b) = some (cmpI a b) := by
  have h1 := List.all_eq_true.1 ord_tab (a + 1).toNat (List.mem_range.2 (by omega))
  have h2 := List.all_eq_true.1 h1 (b + 1).toNat (List.mem_range.2 (by omega))
  have e1 : (((a + 1).toNat : Nat) : Int) - 1 = a := by omega
  have e2 : (((b + 1).toNat : Nat) : Int) - 1 = b := by omega
  rw [e1, e2] at h2
  exact eq_of_beq h2
theorem toInt_tab : (List.range 66).all (fun k => (FloatKind.f64.decode (fb (k : Nat))).toInt .zero == some (k : Int)) = true := by kernel_rfl
theorem fb_toInt {k : Nat} (h : k < 66) : (FloatKind.f64.decode (fb (k : Nat))).toInt .zero = some (k : Int) := by
  have := List.all_eq_true.1 toInt_tab k (List.mem_range.2 h)
  exact eq_of_beq this
end Go.Proofs.Ytkkngflpmdcfjaa
