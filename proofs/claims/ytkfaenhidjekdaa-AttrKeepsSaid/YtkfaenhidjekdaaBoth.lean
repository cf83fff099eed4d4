/-
  The two laws on attributes, at every input.
-/
import Derived.Test.YtkfaenhidjekdaaLaws
import Derived.Test.YtkfaenhidjekdaaOpen
namespace Go.Proofs.Ytkfaenhidjekdaa
open Go.RowKit

theorem tells_walk (a a' : Option Addr) (cap cap' : Nat) (l m : List At) (x : At) (w : World) (hl : l.length ≤ maxLen) (hm : m.length ≤ maxLen) (hA : AttrsAt w a l) (hM : AttrsAt w a' m) :
    Calls Try.prog 3 #[.slice a l.length cap, .slice a' m.length cap', atV x] w fun e w' => e = .returned (.bool true) ∧ Below w.heap.size w w' := by
  by_cases h : (fewA l && fewA m && fewA [x]) = true
  · simp only [Bool.and_eq_true] at h
    exact tells_near a a' cap cap' l m x w hl hm hA hM h.1.1 h.1.2 h.2
  · exact tells_far a a' cap cap' l m x w hl hm hA hM (by simpa using h)
theorem keeps_walk (a a' : Option Addr) (cap cap' : Nat) (l m : List At) (x : At) (w : World) (hl : l.length ≤ maxLen) (hm : m.length ≤ maxLen) (hA : AttrsAt w a l) (hM : AttrsAt w a' m) :
    Calls Try.prog 4 #[.slice a l.length cap, .slice a' m.length cap', atV x] w fun e w' => e = .returned (.bool true) ∧ Below w.heap.size w w' := by
  by_cases h : (fewA l && fewA m && fewA [x]) = true
  · simp only [Bool.and_eq_true] at h
    exact keeps_near a a' cap cap' l m x w hl hm hA hM h.1.1 h.1.2 h.2
  · exact keeps_far a a' cap cap' l m x w hl hm hA hM (by simpa using h)
end Go.Proofs.Ytkfaenhidjekdaa
