/-
  The walks of Letter and Hex, and of the document's own.
-/
import Derived.Test.YtdljjfeojccidaaILeaf
namespace Go.Proofs.Ytdljjfeojccidaa.I
open Go.RowKit

theorem ret_bool {a b : Bool} (h : a = b) : Ending.returned (.bool a) = .returned (.bool b) := by rw [h]

theorem letter_any (n : Int) (w : World) (h0 : 0 ≤ n) (h1 : n ≤ 255) :
    Calls Try.prog 23 #[.int .u8 n] w fun e w' => e = .returned (.bool (leI n)) ∧ w = w' := by
  have hsm : leI n = decide (97 ≤ smI n ∧ smI n ≤ 122) := by
    unfold leI smI; rw [decide_eq_decide]; split <;> omega
  have hb : 0 ≤ smI n ∧ smI n ≤ 255 := by unfold smI; split <;> omega
  rw [hsm]; clear hsm
  obtain ⟨hb0, hb1⟩ := hb
  by_cases ha : 97 ≤ smI n
  · by_cases hc : smI n ≤ 122
    · rw [decide_eq_true (And.intro ha hc)]
      go_enter Try.func23, Try.ntmps23
      go_wp2_with (go_at_call 39; refine (small_any _ _ h0 h1).mono ?_; rintro e w' ⟨rfl, rfl⟩)
      go_ret
      exact ⟨ret_bool (by first | rfl | (simp; omega)), rfl⟩
    · rw [decide_eq_false (by omega)]
      go_enter Try.func23, Try.ntmps23
      go_wp2_with (go_at_call 39; refine (small_any _ _ h0 h1).mono ?_; rintro e w' ⟨rfl, rfl⟩)
      go_ret
      exact ⟨ret_bool (by first | rfl | (simp; omega)), rfl⟩
  · rw [decide_eq_false (by omega)]
    go_enter Try.func23, Try.ntmps23
    go_wp2_with (go_at_call 39; refine (small_any _ _ h0 h1).mono ?_; rintro e w' ⟨rfl, rfl⟩)
    go_ret
    exact ⟨ret_bool (by first | rfl | (simp; omega)), rfl⟩

/-- Where a byte stands among the letters and digits. -/
theorem where_is (n : Int) (h0 : 0 ≤ n) (h1 : n ≤ 255) : (0 ≤ n ∧ n < 48) ∨ (48 ≤ n ∧ n ≤ 57) ∨ (57 < n ∧ n < 65) ∨ (65 ≤ n ∧ n ≤ 70) ∨ (70 < n ∧ n ≤ 90) ∨ (90 < n ∧ n < 97) ∨ (97 ≤ n ∧ n ≤ 102) ∨ (102 < n ∧ n ≤ 122) ∨ (122 < n ∧ n ≤ 255) := by omega

set_option maxHeartbeats 800000 in
theorem rletter_any (n : Int) (w : World) (h0 : 0 ≤ n) (h1 : n ≤ 255) :
    Calls Try.prog 30 #[.int .u8 n] w fun e w' => e = .returned (.bool (leI n)) ∧ w = w' := by
  rcases where_is n h0 h1 with h | h | h | h | h | h | h | h | h
  all_goals
    obtain ⟨ha, hb⟩ := h
    first
      | rw [show leI n = true from decide_eq_true (by omega)]
      | rw [show leI n = false from decide_eq_false (by omega)]
    go_enter Try.func30, Try.ntmps30
    go_wp2
    go_ret
    exact ⟨ret_bool (by first | rfl | (simp; omega)), rfl⟩

theorem hxI_d (n : Int) (a : 48 ≤ n) (b : n ≤ 57) : hxI n = n - 48 := by unfold hxI; rw [if_pos ⟨a, b⟩]
theorem hxI_a (n : Int) (a : 97 ≤ n) (b : n ≤ 102) : hxI n = n - 87 := by unfold hxI; rw [if_neg (by omega), if_pos ⟨a, b⟩]
theorem hxI_A (n : Int) (a : 65 ≤ n) (b : n ≤ 70) : hxI n = n - 55 := by unfold hxI; rw [if_neg (by omega), if_neg (by omega), if_pos ⟨a, b⟩]
theorem hxI_n (n : Int) (a : ¬ (48 ≤ n ∧ n ≤ 57)) (b : ¬ (97 ≤ n ∧ n ≤ 102)) (c : ¬ (65 ≤ n ∧ n ≤ 70)) : hxI n = -1 := by unfold hxI; rw [if_neg a, if_neg b, if_neg c]
theorem ret_num {k : IntKind} {a b : Int} (h : a = b) : Ending.returned (.int k a) = .returned (.int k b) := by rw [h]

end Go.Proofs.Ytdljjfeojccidaa.I
