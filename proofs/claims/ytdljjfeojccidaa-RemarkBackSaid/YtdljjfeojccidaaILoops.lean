/-
  The walks of the functions on texts that only read: Trim, Blank, Fold, and the document's own.
-/
import Derived.Test.YtdljjfeojccidaaILeaf2
import Derived.LoopTactic
import Derived.Laws.RangeAny
import Derived.Laws.RangeString
import Derived.WalkSpells
import Derived.Lib.Hide
namespace Go.Proofs.Ytdljjfeojccidaa.I
open Go.RowKit

theorem blS_of_bad {s : ByteArray} {k : Nat} (hlt : k < s.size) (h : spC s[k] = false) : blS s = false := by
  unfold blS
  rw [List.all_eq_false]
  exact ⟨s[k], by rw [List.mem_iff_getElem]; exact ⟨k, by simpa using hlt, rfl⟩, by simpa [spC] using h⟩
theorem blS_of_all {s : ByteArray} (h : ∀ j (h : j < s.size), spC s[j] = true) : blS s = true := by
  unfold blS
  rw [List.all_eq_true]
  intro c hc
  obtain ⟨j, hj, rfl⟩ := List.mem_iff_getElem.1 hc
  exact h j (by simpa using hj)
theorem spI_high {n : Int} (h : 128 ≤ n) : spI n = false := by
  unfold spI; exact decide_eq_false (by omega)

end Go.Proofs.Ytdljjfeojccidaa.I
