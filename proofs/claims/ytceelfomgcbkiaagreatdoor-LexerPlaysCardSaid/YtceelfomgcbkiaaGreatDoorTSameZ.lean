/-
  The walk of Same on two tokens that are the same.
-/
import Derived.Test.YtceelfomgcbkiaaGreatDoorTReadZ
import Derived.Test.YtceelfomgcbkiaaGreatDoorGAZ
namespace Go.Proofs.YtceelfomgcbkiaaGreatDoor.T
open Go.RowKit
open Go.Proofs.YtceelfomgcbkiaaGreatDoor.A (At AttrsAt rsame_any sameB_self)

theorem two_below (w : World) (x y : Obj) : Below w.heap.size w ((w.alloc x).alloc y) := ((Below.refl _ _).alloc (Nat.le_refl _) _).alloc (by simp) _
set_option maxHeartbeats 1600000 in
theorem tsame_any (t : Tok) (a a' : Option Addr) (cap cap' : Nat) (w : World) (hl : t.attrs.length ≤ 1000000) (hA : AttrsAt w a t.attrs) (hM : AttrsAt w a' t.attrs) :
    Calls Tryz.prog 7 #[tokV t a cap, tokV t a' cap'] w fun e w' => e = .returned (.bool true) ∧ Below w.heap.size w w' := by
  obtain ⟨kind, name, attrs, self, n, ok⟩ := t
  have HS : Hid (∀ W, Below w.heap.size w W → Calls Tryz.prog 14 #[.slice a attrs.length cap, .slice a' attrs.length cap'] W fun e w' => e = .returned (.bool true) ∧ Below W.heap.size W w') := Lib.hid (fun W hW => by
    have := rsame_any a a' cap cap' attrs attrs W hl hl (hA.below hW) (hM.below hW)
    rw [sameB_self] at this; exact this)
  clear hA hM
  unfold tokV
  have HB := Lib.hid (two_below w (.cells #[.int .i64 kind, .string name, .slice a attrs.length cap, .bool self, .string ⟨#[]⟩] 34) (.cells #[.int .i64 kind, .string name, .slice a' attrs.length cap', .bool self, .string ⟨#[]⟩] 34))
  have HX := Lib.hid (HS.out _ HB.out)
  clear HS
  have eb : ByteArray.empty = ⟨#[]⟩ := rfl
  simp only [eb]
  generalize attrs.length = len at *
  clear eb hl
  go_enter Tryz.func7, Tryz.ntmps7
  go_wp2_with fail
  refine HX.out.mono ?_
  rintro e w1 ⟨rfl, hbl⟩
  have HB2 : Hid (Below w.heap.size w w1) := Lib.hid (HB.out.trans (hbl.mono HB.out.size))
  clear hbl
  go_wp2
  go_ret
  exact ⟨rfl, HB2.out⟩
end Go.Proofs.YtceelfomgcbkiaaGreatDoor.T
