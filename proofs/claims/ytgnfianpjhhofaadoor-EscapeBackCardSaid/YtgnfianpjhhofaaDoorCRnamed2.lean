/-
  The walk of the document's Named.
-/
import Derived.Test.YtgnfianpjhhofaaDoorCRnamed
namespace Go.Proofs.YtgnfianpjhhofaaDoor.C
open Go.RowKit

theorem eqS_yes {a b : ByteArray} (h : a = b) : (a.toList == b.toList) = true := by rw [h]; simp
theorem eqS_no {a b : ByteArray} (h : a ≠ b) : (a.toList == b.toList) = false := by
  rw [beq_eq_false_iff_ne]; intro e; apply h; apply eq_of_list; rw [← ByteArray.toList_eq, ← ByteArray.toList_eq]; exact e
theorem nmG_at (k : Nat) (h : k < 61) (l : List UInt8) : nmG (tabR.drop k) l = if mt (tn k) l = true then tv k else nmG (tabR.drop (k + 1)) l := by
  rw [tabR_at k h]; rfl
theorem last_at (X : ByteArray) (h : 1 ≤ X.size) : X.data.toList.getLast? = some X[X.size - 1] := by
  rw [List.getLast?_eq_getElem?, size_list, get_at X (X.size - 1) (by omega)]
/-- What the document's test asks, in the walk's words. -/
theorem mt_same {X s : ByteArray} (h : X = s) : mt X.data.toList s.data.toList = true := by
  subst h; simp [mt]
theorem mt_semi {X s : ByteArray} (h1 : 1 ≤ X.size) (h2 : X[X.size - 1] ≠ 59) (h3 : X ++ ⟨#[59]⟩ = s) : mt X.data.toList s.data.toList = true := by
  subst h3
  unfold mt
  rw [last_at X h1]
  simp [h2]
theorem mt_no1 {X s : ByteArray} (h0 : X ≠ s) (h1 : 1 ≤ X.size) (h2 : X[X.size - 1] = 59) : mt X.data.toList s.data.toList = false := by
  unfold mt
  rw [last_at X h1, h2]
  have : (s.data.toList == X.data.toList) = false := by
    rw [beq_eq_false_iff_ne]; intro e; exact h0 (eq_of_list e.symm)
  rw [this]; rfl
theorem mt_no2 {X s : ByteArray} (h0 : X ≠ s) (h3 : X ++ ⟨#[59]⟩ ≠ s) : mt X.data.toList s.data.toList = false := by
  unfold mt
  have h4 : (s.data.toList == X.data.toList) = false := by
    rw [beq_eq_false_iff_ne]; intro e; exact h0 (eq_of_list e.symm)
  have h5 : (s.data.toList == X.data.toList ++ [59]) = false := by
    rw [beq_eq_false_iff_ne]; intro e; apply h3; apply eq_of_list; rw [e]; simp
  rw [h4, h5, Bool.and_false]; rfl

end Go.Proofs.YtgnfianpjhhofaaDoor.C
