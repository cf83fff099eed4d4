/-
  The walk of 'awake': some answers that the document fixes.
-/
import Derived.Test.YtljpiamlbdknlaaFold
namespace Go.Proofs.Ytljpiamlbdknlaa
open Go.RowKit

theorem c_trim : trS { data := #[32, 97, 9] } = { data := #[97] } := by decide
theorem c_fold1 : foldB { data := #[65, 98] } { data := #[97, 66] } = true := by rw [foldB_eq]; decide
theorem c_fold2 : foldB { data := #[97] } { data := #[98] } = false := by rw [foldB_eq]; decide
theorem c_low : lowS { data := #[81, 91] } = { data := #[113, 91] } := by decide
theorem c_blank : blS { data := #[10] } = true := by decide

set_option maxHeartbeats 1600000 in
theorem awake_any (w : World) :
    Calls Try.prog 5 #[] w fun e w' => e = .returned (.bool true) ∧ Below w.heap.size w w' := by
  have HB := Lib.hid (Below.refl w.heap.size w)
  have ct := c_trim
  have cf1 := c_fold1
  have cf2 := c_fold2
  have cl := c_low
  have cb := c_blank
  have s12 : spI 12 = true := by decide
  have l1 : leI 122 = true := by decide
  have l2 : leI 91 = false := by decide
  have x1 : hxI 70 = 15 := by decide
  have x2 : hxI 103 = -1 := by decide
  go_enter Try.func5, Try.ntmps5
  go_wp2_with (first
    | (go_at_call 18; refine (trim_any _ _ (by decide)).mono ?_; rintro e w' ⟨rfl, rfl⟩)
    | (go_at_call 14; refine (fold_any _ _ _ (by decide)).mono ?_; rintro e w' ⟨rfl, hb⟩; replace HB := Lib.hid (HB.out.trans (hb.mono HB.out.size)); clear hb)
    | (go_at_call 12; refine (lower_any _ _ (by decide)).mono ?_; rintro e w' ⟨rfl, hb⟩; replace HB := Lib.hid (HB.out.trans (hb.mono HB.out.size)); clear hb)
    | (go_at_call 6; refine (space_any _ _ (by omega) (by omega)).mono ?_; rintro e w' ⟨rfl, rfl⟩)
    | (go_at_call 8; refine (letter_any _ _ (by omega) (by omega)).mono ?_; rintro e w' ⟨rfl, rfl⟩)
    | (go_at_call 10; refine (hex_any _ _ (by omega) (by omega)).mono ?_; rintro e w' ⟨rfl, rfl⟩)
    | (go_at_call 16; refine (blank_text _ _).mono ?_; rintro e w' ⟨rfl, hb⟩; replace HB := Lib.hid (HB.out.trans (hb.mono HB.out.size)); clear hb))
  go_ret
  exact ⟨rfl, HB.out⟩
end Go.Proofs.Ytljpiamlbdknlaa
