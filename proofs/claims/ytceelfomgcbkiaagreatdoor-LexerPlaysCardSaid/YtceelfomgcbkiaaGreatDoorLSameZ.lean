/-
  The walk of the document's Same on two tokens that say the same.
-/
import Derived.Test.YtceelfomgcbkiaaGreatDoorLMemZ
namespace Go.Proofs.YtceelfomgcbkiaaGreatDoor
open Go.RowKit
open Go.Proofs.YtceelfomgcbkiaaGreatDoor.A (At AttrsAt rsame_any sameB_self)

set_option maxHeartbeats 1600000 in
theorem lsame_any (t : LTok) (a a' : Option Addr) (cap cap' : Nat) (w : World) (hl : t.attrs.length ≤ 1000000) (hA : AttrsAt w a t.attrs) (hM : AttrsAt w a' t.attrs) :
    Calls Tryz.prog 7 #[tkV t a cap, tkV t a' cap'] w fun e w' => e = .returned (.bool true) ∧ Below w.heap.size w w' := by
  obtain ⟨kind, name, attrs, self, data⟩ := t
  have HS : Hid (∀ W, Below w.heap.size w W → Calls Tryz.prog 14 #[.slice a attrs.length cap, .slice a' attrs.length cap'] W fun e w' => e = .returned (.bool true) ∧ Below W.heap.size W w') := Lib.hid (fun W hW => by
    have := rsame_any a a' cap cap' attrs attrs W hl hl (hA.below hW) (hM.below hW)
    rw [sameB_self] at this; exact this)
  clear hA hM
  unfold tkV
  have HB := Lib.hid (two_below w (.cells #[.int .i64 kind, .string name, .slice a attrs.length cap, .bool self, .string data] 34) (.cells #[.int .i64 kind, .string name, .slice a' attrs.length cap', .bool self, .string data] 34))
  have HX := Lib.hid (HS.out _ HB.out)
  clear HS
  generalize attrs.length = len at *
  clear hl
  go_enter Tryz.func7, Tryz.ntmps7
  go_wp2_with fail
  refine HX.out.mono ?_
  rintro e w1 ⟨rfl, hbl⟩
  have HB2 : Hid (Below w.heap.size w w1) := Lib.hid (HB.out.trans (hbl.mono HB.out.size))
  clear hbl
  go_wp2
  go_ret
  exact ⟨rfl, HB2.out⟩
end Go.Proofs.YtceelfomgcbkiaaGreatDoor
