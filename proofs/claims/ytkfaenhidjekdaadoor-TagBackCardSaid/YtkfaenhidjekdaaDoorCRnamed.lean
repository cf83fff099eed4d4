/-
  The walks of the document's table of names, and of its Named.
-/
import Derived.Test.YtkfaenhidjekdaaDoorCNamed
import Derived.Laws.Rows
namespace Go.Proofs.YtkfaenhidjekdaaDoor.C
open Go.RowKit

def nameV : Array Value := (tabR.map fun e => Value.string (mkB e.1)).toArray
def numV : Array Value := (tabR.map fun e => Value.int .i64 e.2).toArray
def tn (k : Nat) : List UInt8 := (tabR.getD k ([], 0)).1
def tv (k : Nat) : Int := (tabR.getD k ([], 0)).2
theorem tabR_len : tabR.length = 61 := by rfl
theorem tabR_at (k : Nat) (h : k < 61) : tabR.drop k = (tn k, tv k) :: tabR.drop (k + 1) := by
  rw [List.drop_eq_getElem_cons (by rw [tabR_len]; exact h)]
  unfold tn tv
  rw [List.getD, List.getElem?_eq_getElem (by rw [tabR_len]; exact h)]; rfl
theorem tn_ok : ∀ k, k < 61 → 1 ≤ (tn k).length ∧ (tn k).length ≤ 8 ∧ tv k ≠ 0 ∧ 0 ≤ tv k ∧ tv k ≤ 8800 := by decide
theorem nameV_at (k : Nat) (h : k < 61) : nameV[k]? = some (.string (mkB (tn k))) := by
  unfold nameV tn
  rw [List.getElem?_toArray, List.getElem?_map, List.getD, List.getElem?_eq_getElem (by rw [tabR_len]; exact h)]; rfl
theorem numV_at (k : Nat) (h : k < 61) : numV[k]? = some (.int .i64 (tv k)) := by
  unfold numV tv
  rw [List.getElem?_toArray, List.getElem?_map, List.getD, List.getElem?_eq_getElem (by rw [tabR_len]; exact h)]; rfl

def TablePost (w : World) (e : Ending) (w' : World) : Prop :=
  ∃ b c : Nat, e = .returned (.tuple #[.slice (some ⟨b, 0, none⟩) 61 61, .slice (some ⟨c, 0, none⟩) 61 61]) ∧ (∀ k, k < 61 → w'.cell? ⟨b, 0 + k, none⟩ = some (.string (mkB (tn k)))) ∧ (∀ k, k < 61 → w'.cell? ⟨c, 0 + k, none⟩ = some (.int .i64 (tv k))) ∧ Below w.heap.size w w'
set_option maxHeartbeats 8000000 in
theorem table_any (w : World) : Calls Tryd.prog 76 #[] w (TablePost w) := by
  go_enter Tryd.func76, Tryd.ntmps76
  go_wp2
  go_ret2
  have key : ∀ W : World, W = (w.alloc (.cells nameV 9)).alloc (.cells numV 3) → TablePost w (.returned (.tuple #[.slice (some ⟨w.heap.size, 0, none⟩) 61 61, .slice (some ⟨w.heap.size + 1, 0, none⟩) 61 61])) W := by
    rintro W rfl
    refine ⟨w.heap.size, w.heap.size + 1, rfl, fun k hk => ?_, fun k hk => ?_, (((Below.refl _ _).alloc (Nat.le_refl _) _).alloc (by simp) _)⟩
    · rw [World.cell?_alloc_lt _ _ _ (by simp), Nat.zero_add]
      rw [cell_of_row (w.alloc (.cells nameV 9)) w.heap.size k nameV 9 (0, 0) (heap_alloc_new w _)]
      exact nameV_at k hk
    · rw [Nat.zero_add]
      have := heap_alloc_new (w.alloc (.cells nameV 9)) (.cells numV 3)
      rw [show (w.alloc (.cells nameV 9)).heap.size = w.heap.size + 1 by simp] at this
      rw [cell_of_row _ (w.heap.size + 1) k numV 3 (0, 0) this]
      exact numV_at k hk
  exact key _ rfl
end Go.Proofs.YtkfaenhidjekdaaDoor.C
