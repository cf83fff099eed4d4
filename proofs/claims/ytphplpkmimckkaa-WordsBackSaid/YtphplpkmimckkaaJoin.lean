/-
  The walks of Join, of the document's own, and of the library's Equal of two lists that are the same.
-/
import Derived.Test.YtphplpkmimckkaaIn
import Derived.Test.YtphplpkmimckkaaShelf
import Derived.Outline
namespace Go.Proofs.Ytphplpkmimckkaa
open Go.RowKit

theorem getD_at {l : List ByteArray} {j : Nat} (h : j < l.length) : l.getD j ByteArray.empty = l[j] := by
  rw [List.getD, List.getElem?_eq_getElem h]; rfl
theorem equal_same (a b : Option Addr) (c d : Nat) (l : List ByteArray) (w : World) (hl : l.length ≤ 1000000) (hA : StrsAt w a l) (hB : StrsAt w b l) :
    Calls Try.prog 7 #[.slice a l.length c, .slice b l.length d] w fun e w' => e = .returned (.bool true) ∧ Below w.heap.size w w' := by
  by_cases hne : l = []
  · subst hne
    refine (Try.slices_Equal_string_empty a b c 0 d w (by omega)).mono ?_
    rintro e w' ⟨rfl, rfl⟩
    exact ⟨rfl, Below.refl _ _⟩
  · obtain ⟨b1, o1, rfl, _, hc1⟩ := hA hne
    obtain ⟨b2, o2, rfl, _, hc2⟩ := hB hne
    refine (Try.slices_Equal_string b1 o1 l.length c b2 o2 l.length d l l w (Nat.le_refl _) (Nat.le_refl _) (by omega) (by omega) (fun j hj => by rw [getD_at hj]; exact hc1 j hj) (fun j hj => by rw [getD_at hj]; exact hc2 j hj)).mono ?_
    rintro e w' ⟨rfl, q, rfl⟩
    exact ⟨by rw [decide_eq_true rfl], below_drewN (Below.refl _ _) q⟩
theorem ret_str {a b : ByteArray} (h : a = b) : Ending.returned (.string a) = .returned (.string b) := by rw [h]
theorem jnS_nil : jnS [] = ⟨#[]⟩ := rfl
theorem join_any (a : Option Addr) (cap : Nat) (l : List ByteArray) (w : World) (hl : l.length ≤ 1000000) (hcap : l.length ≤ cap) (hz : (jnS l).size ≤ 100000000) (hA : StrsAt w a l) :
    Calls Try.prog 12 #[.slice a l.length cap] w fun e w' => e = .returned (.string (jnS l)) ∧ Below w.heap.size w w' := by
  have HJ : Hid (Calls Try.prog 19 #[.slice a l.length cap, .string ⟨#[32]⟩] w fun e w' => e = .returned (.string (jnS l)) ∧ Below w.heap.size w w') := Lib.hid (by
    by_cases hne : l = []
    · subst hne
      refine (Try.strings_Join_none a cap _ w).mono ?_
      rintro e w' ⟨rfl, rfl⟩
      exact ⟨rfl, Below.refl _ _⟩
    · obtain ⟨b, off, rfl, hb, hc⟩ := hA hne
      refine (Try.strings_Join b off cap l ⟨#[32]⟩ w (fun j x hx => by
        obtain ⟨hj, rfl⟩ := List.getElem?_eq_some_iff.1 hx
        exact hc j hj) hb (by omega) hcap (by
        have : (jnS l).size = (Lib.join (l.map (·.data.toList)) [32]).length := mkB_size _
        show (Lib.join (l.map (·.data.toList)) [32]).length ≤ _
        omega)).mono ?_
      rintro e w' ⟨rfl, hbel⟩
      exact ⟨rfl, hbel⟩)
  clear hA hz
  generalize jnS l = J at *
  go_enter Try.func12, Try.ntmps12
  go_wp2_with fail
  refine HJ.out.mono ?_
  rintro e w1 ⟨rfl, hb⟩
  have HB := Lib.hid hb
  clear hb
  go_wp2
  go_ret
  exact ⟨rfl, HB.out⟩

/-! ### the document's own -/
def jnK (l : List ByteArray) (k : Nat) : ByteArray := jnS (l.take k)
theorem join_snoc (l : List (List UInt8)) (x : List UInt8) (h : l ≠ []) : Lib.join (l ++ [x]) [32] = Lib.join l [32] ++ [32] ++ x := by
  induction l with
  | nil => exact absurd rfl h
  | cons y r ih =>
    cases r with
    | nil => simp [Lib.join, List.intercalate]
    | cons z r =>
      have := ih (by simp)
      simp [Lib.join, List.intercalate] at this ⊢
      rw [this]
theorem jnK_zero (l : List ByteArray) : jnK l 0 = ByteArray.empty := rfl
theorem jnK_one (l : List ByteArray) (h : 0 < l.length) : jnK l 1 = l[0] := by
  unfold jnK jnS
  rw [List.take_succ_eq_append_getElem h]
  simp [Lib.join_one, mkB_of]
theorem jnK_succ (l : List ByteArray) (k : Nat) (h0 : 0 < k) (h : k < l.length) : jnK l (k + 1) = jnK l k ++ ⟨#[32]⟩ ++ l[k] := by
  unfold jnK jnS
  rw [List.take_succ_eq_append_getElem h, List.map_append, List.map_cons, List.map_nil, join_snoc]
  · apply eq_of_list; simp [mkB]
  · intro e
    have := congrArg List.length e
    rw [List.length_map, List.length_take, List.length_nil] at this; omega
theorem jnK_first (l : List ByteArray) (h : 0 < l.length) : jnK l (0 + 1) = jnK l 0 ++ l[0] := by
  rw [Nat.zero_add, jnK_one l h, jnK_zero]; simp

set_option maxHeartbeats 1600000 in
theorem rjoin_any (a : Option Addr) (cap : Nat) (l : List ByteArray) (w : World) (_hl : l.length ≤ 1000000) (hz : ∀ s ∈ l, s.size ≤ 1000000) (hA : StrsAt w a l) :
    Calls Try.prog 13 #[.slice a l.length cap] w fun e w' => e = .returned (.string (jnS l)) ∧ w = w' := by
  have HA := Lib.hid hA
  have HZ : Hid ((∀ k, (jnK l k).size ≤ 1000001 * 1000000) ∧ ∀ k (h : k < l.length), l[k].size ≤ 1000000) := Lib.hid ⟨fun k => by
    have h1 := jnS_len (l.take k) 1000000 (fun s hs => hz s (List.mem_of_mem_take hs))
    have h2 := List.length_take_le' k l
    unfold jnK
    have h3 : 1000001 * (l.take k).length ≤ 1000001 * 1000000 := Nat.mul_le_mul_left _ (by omega)
    omega, fun k h => hz _ (List.getElem_mem h)⟩
  clear hA hz
  go_enter Try.func13, Try.ntmps13
  go_wp2
  go_loop [3, 4] (fun s i => ∃ k : Nat, k ≤ l.length ∧ i = .int .i64 k ∧ s = .string (jnK l k)) (fun _ i => l.length - (intOf i).toNat)
  case atStart => exact ⟨0, Nat.zero_le _, rfl, rfl⟩
  case round =>
    obtain ⟨k, hk, rfl, rfl⟩ := hrel
    by_cases hlt : k < l.length
    · obtain ⟨b, off, rfl, hbk, hc⟩ := HA.out (fun e => by rw [e] at hlt; simp at hlt)
      have hck := hc k hlt
      have z1 := HZ.out.1 k
      have z2 := HZ.out.2 k hlt
      clear hc
      by_cases h0 : 0 < k
      · have HE := Lib.hid (jnK_succ l k h0 hlt)
        have h0' : (0 : Int) < k := by omega
        clear h0
        go_wp2
        go_round
        case rel => exact ⟨k + 1, by omega, by go_num, by rw [HE.out]⟩
        case measure => simp [intOf]; omega
      · obtain rfl : k = 0 := by omega
        have HE := Lib.hid (jnK_first l hlt)
        clear h0
        have hck0 : w.cell? ⟨b, off, none⟩ = some (.string l[0]) := hck
        clear hck
        go_wp2
        go_round
        case rel => exact ⟨1, by omega, rfl, by rw [← Nat.zero_add 1, HE.out]⟩
        case measure => simp [intOf]; omega
    · have HF : Hid (jnK l k = jnS l) := Lib.hid (by unfold jnK; rw [List.take_of_length_le (by omega)])
      go_wp2
      go_ret
      exact ⟨ret_str HF.out, rfl⟩
end Go.Proofs.Ytphplpkmimckkaa
