/-
  The walks of find (with slices.IndexFunc and its closure), of Get, and of the document's own.
-/
import Derived.Test.YtkkngflpmdcfjaaAMem
import Derived.Deep.QuietTactic
import Derived.BigQuiet
namespace Go.Proofs.Ytkkngflpmdcfjaa.A
open Go.RowKit

theorem posI_hit {n : ByteArray} {l : List At} (h : getB n l = true) : posI n l = (pos n l : Int) ∧ pos n l < l.length := by
  have := getB_iff.1 h
  exact ⟨by unfold posI; rw [if_pos this], this⟩
theorem posI_miss {n : ByteArray} {l : List At} (h : getB n l = false) : posI n l = -1 := by
  have : ¬ pos n l < l.length := fun e => by rw [getB_iff.2 e] at h; cases h
  unfold posI; rw [if_neg this]

end Go.Proofs.Ytkkngflpmdcfjaa.A
