/-
  The walks of Numbered, and of the document's own.
-/
import Derived.Test.YtkfaenhidjekdaaDoorCRnamed2
import Derived.Laws.Rows
namespace Go.Proofs.YtkfaenhidjekdaaDoor.C
open Go.RowKit

/-- The variable 'stands', as its text lays it. -/
def StAt (w : World) : Prop := ∀ j, j < 32 → w.cell? ⟨1, j, none⟩ = some (.int .i64 (stands.getD j 0))
theorem StAt.below {w w' : World} (h : StAt w) (hb : Below w.heap.size w w') : StAt w' := fun j hj =>
  (hb.cell (p := ⟨1, j, none⟩) (World.block_lt_of_cell? w _ (h j hj))).trans (h j hj)

theorem ret_str {a b : ByteArray} (h : a = b) : Ending.returned (.string a) = .returned (.string b) := by rw [h]
set_option maxHeartbeats 1600000 in
theorem numbered_any (n : Int) (w : World) (hT : StAt w) (h1 : -9223372036854775808 ≤ n) (h2 : n ≤ 9223372036854775807) :
    Calls Tryd.prog 81 #[.int .i64 n] w fun e w' => e = .returned (.string (numS n)) ∧ w = w' := by
  by_cases h0 : n = 0
  · subst h0
    have HF : Hid (encS 1114112 = numS 0) := Lib.hid (by rw [enc_beyond]; rfl)
    clear hT
    go_enter Tryd.func81, Tryd.ntmps81
    go_wp2_with (go_at_call 71; refine (encode_any _ _ (by omega) (by omega)).mono ?_; rintro e w' ⟨rfl, rfl⟩)
    go_ret
    exact ⟨ret_str HF.out, rfl⟩
  · have e0 : (n == 0) = false := by simpa using h0
    by_cases ha : 128 ≤ n
    · by_cases hb : n < 160
      · have hst := stands_bd (n - 128).toNat (by omega)
        have hc := hT (n - 128).toNat (by omega)
        have HF : Hid (encS (stands.getD (n - 128).toNat 0) = numS n) := Lib.hid (by unfold numS numI; rw [if_neg h0, if_pos ⟨ha, hb⟩])
        clear hT h0
        obtain ⟨s1, s2⟩ := hst
        generalize stands.getD (n - 128).toNat 0 = v at *
        go_enter Tryd.func81, Tryd.ntmps81
        go_wp2_with (go_at_call 71; refine (encode_any _ _ (by omega) (by omega)).mono ?_; rintro e w' ⟨rfl, rfl⟩)
        go_ret
        exact ⟨ret_str HF.out, rfl⟩
      · have HF : Hid (encS n = numS n) := Lib.hid (by unfold numS numI; rw [if_neg h0, if_neg (by omega)])
        clear hT h0
        go_enter Tryd.func81, Tryd.ntmps81
        go_wp2_with (go_at_call 71; refine (encode_any _ _ (by omega) (by omega)).mono ?_; rintro e w' ⟨rfl, rfl⟩)
        go_ret
        exact ⟨ret_str HF.out, rfl⟩
    · have HF : Hid (encS n = numS n) := Lib.hid (by unfold numS numI; rw [if_neg h0, if_neg (by omega)])
      clear hT h0
      go_enter Tryd.func81, Tryd.ntmps81
      go_wp2_with (go_at_call 71; refine (encode_any _ _ (by omega) (by omega)).mono ?_; rintro e w' ⟨rfl, rfl⟩)
      go_ret
      exact ⟨ret_str HF.out, rfl⟩

def fromV : Array Value := (fromT.map fun z => Value.int .i64 z).toArray
def toV : Array Value := (toT.map fun z => Value.int .i64 z).toArray
theorem fromT_len : fromT.length = 27 := by rfl
theorem toT_len : toT.length = 27 := by rfl
theorem fromV_at (k : Nat) (h : k < 27) : fromV[k]? = some (.int .i64 (fromT.getD k 0)) := by
  unfold fromV
  rw [List.getElem?_toArray, List.getElem?_map, List.getD, List.getElem?_eq_getElem (by rw [fromT_len]; exact h)]; rfl
theorem toV_at (k : Nat) (h : k < 27) : toV[k]? = some (.int .i64 (toT.getD k 0)) := by
  unfold toV
  rw [List.getElem?_toArray, List.getElem?_map, List.getD, List.getElem?_eq_getElem (by rw [toT_len]; exact h)]; rfl
theorem toT_bd : ∀ k, k < 27 → 0 ≤ toT.getD k 0 ∧ toT.getD k 0 ≤ 8482 := by decide
theorem fromT_bd : ∀ k, k < 27 → 128 ≤ fromT.getD k 0 ∧ fromT.getD k 0 ≤ 159 := by decide
def twoW (w : World) : World := (w.alloc (.cells fromV 3)).alloc (.cells toV 3)
theorem two_from (w : World) (k : Nat) (h : k < 27) : (twoW w).cell? ⟨w.heap.size, k, none⟩ = some (.int .i64 (fromT.getD k 0)) := by
  unfold twoW
  rw [World.cell?_alloc_lt _ _ _ (by simp), cell_of_row (w.alloc (.cells fromV 3)) w.heap.size k fromV 3 (0, 0) (heap_alloc_new w _)]
  exact fromV_at k h
theorem two_to (w : World) (k : Nat) (h : k < 27) : (twoW w).cell? ⟨w.heap.size + 1, k, none⟩ = some (.int .i64 (toT.getD k 0)) := by
  unfold twoW
  have := heap_alloc_new (w.alloc (.cells fromV 3)) (.cells toV 3)
  rw [show (w.alloc (.cells fromV 3)).heap.size = w.heap.size + 1 by simp] at this
  rw [cell_of_row _ (w.heap.size + 1) k toV 3 (0, 0) this]
  exact toV_at k h
theorem two_below (w : World) : Below w.heap.size w (twoW w) := ((Below.refl _ _).alloc (Nat.le_refl _) _).alloc (by simp) _

set_option maxHeartbeats 8000000 in
theorem rnumbered_any (n : Int) (w : World) (h1 : -9223372036854775808 ≤ n) (h2 : n ≤ 9223372036854775807) :
    Calls Tryd.prog 75 #[.int .i64 n] w fun e w' => e = .returned (.string (numS n)) ∧ Below w.heap.size w w' := by
  go_enter Tryd.func75, Tryd.ntmps75
  go_wp2_with fail
  have hW : ∀ W : World, W = twoW w → (∀ k, k < 27 → W.cell? ⟨w.heap.size, k, none⟩ = some (.int .i64 (fromT.getD k 0))) ∧ (∀ k, k < 27 → W.cell? ⟨w.heap.size + 1, k, none⟩ = some (.int .i64 (toT.getD k 0))) ∧ Below w.heap.size w W := by
    rintro W rfl; exact ⟨two_from w, two_to w, two_below w⟩
  generalize hw1 : (w.alloc _).alloc _ = w1
  have HW := Lib.hid (hW w1 (hw1.symm.trans rfl))
  clear hW hw1
  go_loop [5] (fun i => ∃ k : Nat, k ≤ 27 ∧ i = .int .i64 k ∧ ∀ j, j < k → fromT.getD j 0 ≠ n) (fun i => 27 - (intOf i).toNat)
  case atStart => exact ⟨0, Nat.zero_le _, rfl, fun _ h => absurd h (Nat.not_lt_zero _)⟩
  case round =>
    obtain ⟨k, hk, rfl, hall⟩ := hrel
    have HA := Lib.hid hall
    clear hall
    by_cases hlt : k < 27
    · have hf := HW.out.1 k hlt
      have ht := HW.out.2.1 k hlt
      have hh := numI_hit k hlt
      have hb := toT_bd k hlt
      have hb2 := fromT_bd k hlt
      have HK : Hid (fromT.getD k 0 = n → numI n = toT.getD k 0) := Lib.hid (fun e => by rw [← e]; exact hh)
      have HK2 : Hid (fromT.getD k 0 ≠ n → ∀ j, j < k + 1 → fromT.getD j 0 ≠ n) := Lib.hid (fun e j hj => by
        rcases Nat.lt_or_eq_of_le (Nat.le_of_lt_succ hj) with h | h
        · exact HA.out j h
        · subst h; exact e)
      clear hh
      obtain ⟨b1, b2⟩ := hb
      obtain ⟨b3, b4⟩ := hb2
      generalize fromT.getD k 0 = x at *
      generalize toT.getD k 0 = y at *
      by_cases q : x = n
      · have HF : Hid (encS y = numS n) := Lib.hid (by unfold numS; rw [HK.out q])
        have e1 : (x == n) = true := by simpa using q
        clear q
        go_wp2_with (go_at_call 77; refine (rencode_any _ _ (by omega) (by omega)).mono ?_; rintro e w' ⟨rfl, rfl⟩)
        go_ret
        exact ⟨ret_str HF.out, HW.out.2.2⟩
      · have HF := Lib.hid (HK2.out q)
        have e1 : (x == n) = false := by simpa using q
        clear q
        go_wp2
        go_round
        case rel => exact ⟨k + 1, by omega, by go_num, HF.out⟩
        case measure => simp [intOf]; omega
    · obtain rfl : k = 27 := by omega
      by_cases h0 : n = 0
      · subst h0
        go_wp2_with (go_at_call 77; refine (rencode_any _ _ (by omega) (by omega)).mono ?_; rintro e w' ⟨rfl, rfl⟩)
        go_ret
        exact ⟨rfl, HW.out.2.2⟩
      · have e0 : (n == 0) = false := by simpa using h0
        have HF : Hid (encS n = numS n) := Lib.hid (by unfold numS; rw [numI_miss n HA.out h0])
        clear h0
        go_wp2_with (go_at_call 77; refine (rencode_any _ _ (by omega) (by omega)).mono ?_; rintro e w' ⟨rfl, rfl⟩)
        go_ret
        exact ⟨ret_str HF.out, HW.out.2.2⟩
end Go.Proofs.YtkfaenhidjekdaaDoor.C
