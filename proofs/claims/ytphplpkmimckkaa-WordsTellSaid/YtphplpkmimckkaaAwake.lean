/-
  The walk of 'awake': some answers that the document fixes.
-/
import Derived.Test.YtphplpkmimckkaaOnce
namespace Go.Proofs.Ytphplpkmimckkaa
open Go.RowKit

theorem lit_two (w : World) (x y : ByteArray) : StrsAt (w.alloc (.cells #[.string x, .string y] 9)) (some ⟨w.heap.size, 0, none⟩) [x, y] := fun _ =>
  ⟨w.heap.size, 0, rfl, by simp, fun j hj => by
    match j, hj with
    | 0, _ => simp
    | 1, _ => simp
    | j + 2, hj => simp at hj; omega⟩
theorem lit_three (w : World) (x y z : ByteArray) : StrsAt (w.alloc (.cells #[.string x, .string y, .string z] 9)) (some ⟨w.heap.size, 0, none⟩) [x, y, z] := fun _ =>
  ⟨w.heap.size, 0, rfl, by simp, fun j hj => by
    match j, hj with
    | 0, _ => simp
    | 1, _ => simp
    | 2, _ => simp
    | j + 3, hj => simp at hj; omega⟩
theorem StrsAt.alloc {w : World} {a : Option Addr} {l : List ByteArray} (h : StrsAt w a l) (o : Obj) : StrsAt (w.alloc o) a l := h.below ((Below.refl _ _).alloc (Nat.le_refl _) o)

theorem c_split : spl { data := #[32, 97, 10, 32, 98, 99, 32] } = [{ data := #[97] }, { data := #[98, 99] }] := by rfl
theorem c_join : jnS [{ data := #[97] }, { data := #[98] }] = { data := #[97, 32, 98] } := by rfl
theorem c_in1 : hasW (spl { data := #[97, 32, 98, 99] }) { data := #[98, 99] } = true := by rfl
theorem c_in2 : hasW (spl { data := #[97, 32, 98, 99] }) { data := #[98] } = false := by rfl
theorem c_in3 : hasW (spl { data := #[97] }) { data := #[] } = false := by rfl
theorem c_once : onc [{ data := #[97] }, { data := #[98] }, { data := #[97] }] = [{ data := #[97] }, { data := #[98] }] := by rfl

set_option maxHeartbeats 3000000 in
theorem awake_any (w : World) :
    Calls Try.prog 6 #[] w fun e w' => e = .returned (.bool true) ∧ Below w.heap.size w w' := by
  go_enter Try.func6, Try.ntmps6
  go_wp2_with fail
  refine (split_any _ _ (by decide)).mono ?_
  rw [c_split]
  rintro e w1 ⟨a1, k1, _, rfl, hst, hb⟩
  have HS := Lib.hid hst
  have HB := Lib.hid hb
  clear hst hb
  go_wp2_with fail
  refine (equal_same a1 _ k1 2 _ _ (by decide) (HS.out.alloc _) (lit_two w1 _ _)).mono ?_
  rintro e w2 ⟨rfl, hb⟩
  replace HB : Hid (Below w.heap.size w w2) := Lib.hid (HB.out.trans ((((Below.refl _ _).alloc (Nat.le_refl _) _).trans (hb.mono (by simp))).mono HB.out.size))
  clear hb HS
  go_wp2_with fail
  refine (join_any _ 2 _ _ (by decide) (by decide) (by decide) (lit_two w2 _ _)).mono ?_
  rw [c_join]
  rintro e w3 ⟨rfl, hb⟩
  replace HB : Hid (Below w.heap.size w w3) := Lib.hid (HB.out.trans ((((Below.refl _ _).alloc (Nat.le_refl _) _).trans (hb.mono (by simp))).mono HB.out.size))
  clear hb
  go_wp2_with fail
  refine (in_any _ _ _ (by decide)).mono ?_
  rw [c_in1]
  rintro e w4 ⟨rfl, hb⟩
  replace HB : Hid (Below w.heap.size w w4) := Lib.hid (HB.out.trans (hb.mono HB.out.size))
  clear hb
  go_wp2_with fail
  refine (in_any _ _ _ (by decide)).mono ?_
  rw [c_in2]
  rintro e w5 ⟨rfl, hb⟩
  replace HB : Hid (Below w.heap.size w w5) := Lib.hid (HB.out.trans (hb.mono HB.out.size))
  clear hb
  go_wp2_with fail
  refine (in_any _ _ _ (by decide)).mono ?_
  rw [c_in3]
  rintro e w6 ⟨rfl, hb⟩
  replace HB : Hid (Below w.heap.size w w6) := Lib.hid (HB.out.trans (hb.mono HB.out.size))
  clear hb
  go_wp2_with fail
  refine (once_any _ 3 _ _ (by decide) (by decide) (lit_three w6 _ _ _)).mono ?_
  rw [c_once]
  rintro e w7 ⟨a7, k7, _, rfl, hst, hb⟩
  replace HB : Hid (Below w.heap.size w w7) := Lib.hid (HB.out.trans ((((Below.refl _ _).alloc (Nat.le_refl _) _).trans (hb.mono (by simp))).mono HB.out.size))
  have HS := Lib.hid hst
  clear hb hst
  go_wp2_with fail
  refine (equal_same a7 _ k7 2 _ _ (by decide) (HS.out.alloc _) (lit_two w7 _ _)).mono ?_
  rintro e w8 ⟨rfl, hb⟩
  replace HB : Hid (Below w.heap.size w w8) := Lib.hid (HB.out.trans ((((Below.refl _ _).alloc (Nat.le_refl _) _).trans (hb.mono (by simp))).mono HB.out.size))
  clear hb HS
  go_wp2
  go_ret
  exact ⟨rfl, HB.out⟩
end Go.Proofs.Ytphplpkmimckkaa
