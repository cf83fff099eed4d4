/-
  The walks of the document's table of names, and of its Named.
-/
import Derived.Test.YtgnfianpjhhofaaDoorCNamed
import Derived.Laws.Rows
namespace Go.Proofs.YtgnfianpjhhofaaDoor.C
open Go.RowKit

def nameV : Array Value := (tabR.map fun e => Value.string (mkB e.1)).toArray
def numV : Array Value := (tabR.map fun e => Value.int .i64 e.2).toArray
def tn (k : Nat) : List UInt8 := (tabR.getD k ([], 0)).1
def tv (k : Nat) : Int := (tabR.getD k ([], 0)).2
theorem tabR_len : tabR.length = 61 := by rfl
theorem tabR_at (k : Nat) (h : k < 61) : tabR.drop k = (tn k, tv k) :: tabR.drop (k + 1) := by
  rw [List.drop_eq_getElem_cons (by rw [tabR_len]; exact h)]
  unfold tn tv
  rw [List.getD, List.getElem?_eq_getElem (by rw [tabR_len]; exact h)]; rfl
theorem tn_ok : ∀ k, k < 61 → 1 ≤ (tn k).length ∧ (tn k).length ≤ 8 ∧ tv k ≠ 0 ∧ 0 ≤ tv k ∧ tv k ≤ 8800 := by decide
theorem nameV_at (k : Nat) (h : k < 61) : nameV[k]? = some (.string (mkB (tn k))) := by
  unfold nameV tn
  rw [List.getElem?_toArray, List.getElem?_map, List.getD, List.getElem?_eq_getElem (by rw [tabR_len]; exact h)]; rfl
theorem numV_at (k : Nat) (h : k < 61) : numV[k]? = some (.int .i64 (tv k)) := by
  unfold numV tv
  rw [List.getElem?_toArray, List.getElem?_map, List.getD, List.getElem?_eq_getElem (by rw [tabR_len]; exact h)]; rfl

def TablePost (w : World) (e : Ending) (w' : World) : Prop :=
  ∃ b c : Nat, e = .returned (.tuple #[.slice (some ⟨b, 0, none⟩) 61 61, .slice (some ⟨c, 0, none⟩) 61 61]) ∧ (∀ k, k < 61 → w'.cell? ⟨b, 0 + k, none⟩ = some (.string (mkB (tn k)))) ∧ (∀ k, k < 61 → w'.cell? ⟨c, 0 + k, none⟩ = some (.int .i64 (tv k))) ∧ Below w.heap.size w w'
end Go.Proofs.YtgnfianpjhhofaaDoor.C
