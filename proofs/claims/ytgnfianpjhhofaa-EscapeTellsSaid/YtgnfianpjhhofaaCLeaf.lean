/-
  The walks of the functions on one byte, and on one number: small letters, letters, digits, characters.
-/
import Derived.Test.YtgnfianpjhhofaaRows
import Derived.Test.YtgnfianpjhhofaaCPlain
import Derived.Test.YtgnfianpjhhofaaShelf
import Derived.WalkKit
import Derived.IntWalk
import Derived.LoopTactic
import Derived.WalkSpells
import Derived.WalkSmall
import Derived.Lib.Hide
import Derived.Deep.QuietTactic
import Derived.BigQuiet
namespace Go.Proofs.Ytgnfianpjhhofaa.C
open Go.RowKit

theorem ret_bool {a b : Bool} (h : a = b) : Ending.returned (.bool a) = .returned (.bool b) := by rw [h]

/-- Where a byte stands among the letters and digits. -/
theorem where_is (n : Int) (h0 : 0 ≤ n) (h1 : n ≤ 255) : (0 ≤ n ∧ n < 48) ∨ (48 ≤ n ∧ n ≤ 57) ∨ (57 < n ∧ n < 65) ∨ (65 ≤ n ∧ n ≤ 70) ∨ (70 < n ∧ n ≤ 90) ∨ (90 < n ∧ n < 97) ∨ (97 ≤ n ∧ n ≤ 102) ∨ (102 < n ∧ n ≤ 122) ∨ (122 < n ∧ n ≤ 255) := by omega

theorem hxI_d (n : Int) (a : 48 ≤ n) (b : n ≤ 57) : hxI n = n - 48 := by unfold hxI; rw [if_pos ⟨a, b⟩]
theorem hxI_a (n : Int) (a : 97 ≤ n) (b : n ≤ 102) : hxI n = n - 87 := by unfold hxI; rw [if_neg (by omega), if_pos ⟨a, b⟩]
theorem hxI_A (n : Int) (a : 65 ≤ n) (b : n ≤ 70) : hxI n = n - 55 := by unfold hxI; rw [if_neg (by omega), if_neg (by omega), if_pos ⟨a, b⟩]
theorem hxI_n (n : Int) (a : ¬ (48 ≤ n ∧ n ≤ 57)) (b : ¬ (97 ≤ n ∧ n ≤ 102)) (c : ¬ (65 ≤ n ∧ n ≤ 70)) : hxI n = -1 := by unfold hxI; rw [if_neg a, if_neg b, if_neg c]
theorem ret_num {k : IntKind} {a b : Int} (h : a = b) : Ending.returned (.int k a) = .returned (.int k b) := by rw [h]

theorem encode_any (n : Int) (w : World) (h1 : -9223372036854775808 ≤ n) (h2 : n ≤ 9223372036854775807) :
    Calls Try.prog 59 #[.int .i64 n] w fun e w' => e = .returned (.string (encS n)) ∧ w = w' := by
  by_cases hneg : n < 0
  · have e : encS n = ⟨#[239, 191, 189]⟩ := by unfold encS chB; rw [decide_eq_false (by omega)]; rfl
    rw [e]; clear e
    go_enter Try.func59, Try.ntmps59
    go_wp2
    go_ret
    exact ⟨rfl, rfl⟩
  · by_cases hbig : 1114111 < n
    · have e : encS n = ⟨#[239, 191, 189]⟩ := by unfold encS chB; rw [decide_eq_false (by omega)]; rfl
      rw [e]; clear e
      go_enter Try.func59, Try.ntmps59
      go_wp2
      go_ret
      exact ⟨rfl, rfl⟩
    · have hV := Lib.hid (fun W => Try.utf8_ValidRune n W)
      by_cases hch : chB n = true
      · have e : encS n = Utf8.encode n := by unfold encS; rw [if_pos hch]
        have hvr : Lib.validRune n = true := by unfold Lib.validRune; unfold chB at hch; simpa using hch
        rw [e]; clear e hch
        go_enter Try.func59, Try.ntmps59
        go_wp2_with (go_at_call 66; refine (hV.out _).mono ?_; rintro e w1 ⟨rfl, rfl⟩)
        go_ret
        exact ⟨rfl, rfl⟩
      · have e : encS n = ⟨#[239, 191, 189]⟩ := by unfold encS; rw [if_neg hch]
        have hvr : Lib.validRune n = false := by unfold Lib.validRune; unfold chB at hch; simpa using hch
        rw [e]; clear e hch
        go_enter Try.func59, Try.ntmps59
        go_wp2_with (go_at_call 66; refine (hV.out _).mono ?_; rintro e w1 ⟨rfl, rfl⟩)
        go_ret
        exact ⟨rfl, rfl⟩

/-! ### the tables of names -/
set_option maxHeartbeats 4000000 in
theorem loose_any (s : ByteArray) (w : World) :
    Calls Try.prog 56 #[.string s] w fun e w' => e = .returned (.int .i64 (lk tabL s.toList)) ∧ w = w' := by
  go_enter Try.func56, Try.ntmps56
  go_wp2
  all_goals
    go_ret
    refine ⟨ret_num ?_, rfl⟩
    first
      | (simp only [tabL, lk, *]; simp; done)
      | (exfalso; simp_all; done)
set_option maxHeartbeats 4000000 in
theorem sign_any (s : ByteArray) (w : World) :
    Calls Try.prog 57 #[.string s] w fun e w' => e = .returned (.int .i64 (lk tabS s.toList)) ∧ w = w' := by
  go_enter Try.func57, Try.ntmps57
  go_wp2
  all_goals
    go_ret
    refine ⟨ret_num ?_, rfl⟩
    first
      | (simp only [tabS, lk, *]; simp; done)
      | (exfalso; simp_all; done)
set_option maxHeartbeats 4000000 in
theorem special_any (s : ByteArray) (w : World) :
    Calls Try.prog 58 #[.string s] w fun e w' => e = .returned (.int .i64 (lk tabP s.toList)) ∧ w = w' := by
  go_enter Try.func58, Try.ntmps58
  go_wp2
  all_goals
    go_ret
    refine ⟨ret_num ?_, rfl⟩
    first
      | (simp only [tabP, lk, *]; simp; done)
      | (exfalso; simp_all; done)
end Go.Proofs.Ytgnfianpjhhofaa.C
