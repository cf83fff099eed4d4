/-
  The walks of Numbered, and of the document's own.
-/
import Derived.Test.YtgnfianpjhhofaaDoorCRnamed2
import Derived.Laws.Rows
namespace Go.Proofs.YtgnfianpjhhofaaDoor.C
open Go.RowKit

/-- The variable 'stands', as its text lays it. -/
def StAt (w : World) : Prop := ∀ j, j < 32 → w.cell? ⟨1, j, none⟩ = some (.int .i64 (stands.getD j 0))
theorem StAt.below {w w' : World} (h : StAt w) (hb : Below w.heap.size w w') : StAt w' := fun j hj =>
  (hb.cell (p := ⟨1, j, none⟩) (World.block_lt_of_cell? w _ (h j hj))).trans (h j hj)

theorem ret_str {a b : ByteArray} (h : a = b) : Ending.returned (.string a) = .returned (.string b) := by rw [h]
set_option maxHeartbeats 1600000 in
theorem numbered_any (n : Int) (w : World) (hT : StAt w) (h1 : -9223372036854775808 ≤ n) (h2 : n ≤ 9223372036854775807) :
    Calls Tryd.prog 41 #[.int .i64 n] w fun e w' => e = .returned (.string (numS n)) ∧ w = w' := by
  by_cases h0 : n = 0
  · subst h0
    have HF : Hid (encS 1114112 = numS 0) := Lib.hid (by rw [enc_beyond]; rfl)
    clear hT
    go_enter Tryd.func41, Tryd.ntmps41
    go_wp2_with (go_at_call 37; refine (encode_any _ _ (by omega) (by omega)).mono ?_; rintro e w' ⟨rfl, rfl⟩)
    go_ret
    exact ⟨ret_str HF.out, rfl⟩
  · have e0 : (n == 0) = false := by simpa using h0
    by_cases ha : 128 ≤ n
    · by_cases hb : n < 160
      · have hst := stands_bd (n - 128).toNat (by omega)
        have hc := hT (n - 128).toNat (by omega)
        have HF : Hid (encS (stands.getD (n - 128).toNat 0) = numS n) := Lib.hid (by unfold numS numI; rw [if_neg h0, if_pos ⟨ha, hb⟩])
        clear hT h0
        obtain ⟨s1, s2⟩ := hst
        generalize stands.getD (n - 128).toNat 0 = v at *
        go_enter Tryd.func41, Tryd.ntmps41
        go_wp2_with (go_at_call 37; refine (encode_any _ _ (by omega) (by omega)).mono ?_; rintro e w' ⟨rfl, rfl⟩)
        go_ret
        exact ⟨ret_str HF.out, rfl⟩
      · have HF : Hid (encS n = numS n) := Lib.hid (by unfold numS numI; rw [if_neg h0, if_neg (by omega)])
        clear hT h0
        go_enter Tryd.func41, Tryd.ntmps41
        go_wp2_with (go_at_call 37; refine (encode_any _ _ (by omega) (by omega)).mono ?_; rintro e w' ⟨rfl, rfl⟩)
        go_ret
        exact ⟨ret_str HF.out, rfl⟩
    · have HF : Hid (encS n = numS n) := Lib.hid (by unfold numS numI; rw [if_neg h0, if_neg (by omega)])
      clear hT h0
      go_enter Tryd.func41, Tryd.ntmps41
      go_wp2_with (go_at_call 37; refine (encode_any _ _ (by omega) (by omega)).mono ?_; rintro e w' ⟨rfl, rfl⟩)
      go_ret
      exact ⟨ret_str HF.out, rfl⟩

def fromV : Array Value := (fromT.map fun z => Value.int .i64 z).toArray
def toV : Array Value := (toT.map fun z => Value.int .i64 z).toArray
theorem fromT_len : fromT.length = 27 := by rfl
theorem toT_len : toT.length = 27 := by rfl
theorem fromV_at (k : Nat) (h : k < 27) : fromV[k]? = some (.int .i64 (fromT.getD k 0)) := by
  unfold fromV
  rw [List.getElem?_toArray, List.getElem?_map, List.getD, List.getElem?_eq_getElem (by rw [fromT_len]; exact h)]; rfl
theorem toV_at (k : Nat) (h : k < 27) : toV[k]? = some (.int .i64 (toT.getD k 0)) := by
  unfold toV
  rw [List.getElem?_toArray, List.getElem?_map, List.getD, List.getElem?_eq_getElem (by rw [toT_len]; exact h)]; rfl
theorem toT_bd : ∀ k, k < 27 → 0 ≤ toT.getD k 0 ∧ toT.getD k 0 ≤ 8482 := by decide
theorem fromT_bd : ∀ k, k < 27 → 128 ≤ fromT.getD k 0 ∧ fromT.getD k 0 ≤ 159 := by decide
def twoW (w : World) : World := (w.alloc (.cells fromV 3)).alloc (.cells toV 3)
theorem two_from (w : World) (k : Nat) (h : k < 27) : (twoW w).cell? ⟨w.heap.size, k, none⟩ = some (.int .i64 (fromT.getD k 0)) := by
  unfold twoW
  rw [World.cell?_alloc_lt _ _ _ (by simp), cell_of_row (w.alloc (.cells fromV 3)) w.heap.size k fromV 3 (0, 0) (heap_alloc_new w _)]
  exact fromV_at k h
theorem two_to (w : World) (k : Nat) (h : k < 27) : (twoW w).cell? ⟨w.heap.size + 1, k, none⟩ = some (.int .i64 (toT.getD k 0)) := by
  unfold twoW
  have := heap_alloc_new (w.alloc (.cells fromV 3)) (.cells toV 3)
  rw [show (w.alloc (.cells fromV 3)).heap.size = w.heap.size + 1 by simp] at this
  rw [cell_of_row _ (w.heap.size + 1) k toV 3 (0, 0) this]
  exact toV_at k h
theorem two_below (w : World) : Below w.heap.size w (twoW w) := ((Below.refl _ _).alloc (Nat.le_refl _) _).alloc (by simp) _

end Go.Proofs.YtgnfianpjhhofaaDoor.C
