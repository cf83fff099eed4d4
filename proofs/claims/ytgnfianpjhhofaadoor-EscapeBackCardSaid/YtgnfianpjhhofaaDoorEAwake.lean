/-
  The walk of 'awake' of layer 5: some answers that the document fixes.
-/
import Derived.Test.YtgnfianpjhhofaaDoorETexts
namespace Go.Proofs.YtgnfianpjhhofaaDoor.E
open Go.RowKit Go.Proofs.YtgnfianpjhhofaaDoor.C

theorem a_1 : escS false ⟨#[97, 60, 98, 34]⟩ = ⟨#[97, 38, 108, 116, 59, 98, 34]⟩ := by decide +kernel
theorem a_2 : escS true ⟨#[34, 194, 160, 38]⟩ = ⟨#[38, 113, 117, 111, 116, 59, 38, 110, 98, 115, 112, 59, 38, 97, 109, 112, 59]⟩ := by decide +kernel
theorem a_3 : (escS true ⟨#[60]⟩).size = 4 := by decide +kernel
theorem below_step {w w1 w2 : World} (h : Hid (Below w.heap.size w w1)) (h2 : Below w1.heap.size w1 w2) : Hid (Below w.heap.size w w2) := Lib.hid (h.out.trans (h2.mono h.out.size))

set_option maxHeartbeats 1600000 in
theorem awake_any (w : World) :
    Calls Tryd.prog 4 #[] w fun e w' => e = .returned (.bool true) ∧ Below w.heap.size w w' := by
  go_enter Tryd.func4, Tryd.ntmps4
  go_wp2_with fail
  refine (text_any _ _ (by decide)).mono ?_
  rw [a_1]
  rintro e w1 ⟨rfl, hb⟩
  have HB := Lib.hid hb
  clear hb
  go_wp2_with fail
  refine (value_any _ _ (by decide)).mono ?_
  rw [a_2]
  rintro e w2 ⟨rfl, hb⟩
  replace HB := below_step HB hb
  clear hb
  go_wp2_with fail
  refine (Size_any _ _ (by decide)).mono ?_
  rw [a_3]
  rintro e w3 ⟨rfl, hb⟩
  replace HB := below_step HB hb
  clear hb
  go_wp2
  go_ret
  exact ⟨rfl, HB.out⟩
end Go.Proofs.YtgnfianpjhhofaaDoor.E
