/-
  The walks of the functions on one byte, and on one number: small letters, letters, digits, characters.
-/
import Derived.Test.YtgnfianpjhhofaaDoorRows
import Derived.Test.YtgnfianpjhhofaaDoorCPlain
import Derived.Test.YtgnfianpjhhofaaDoorShelf2
import Derived.WalkKit
import Derived.IntWalk
import Derived.LoopTactic
import Derived.WalkSpells
import Derived.WalkSmall
import Derived.Lib.Hide
import Derived.Deep.QuietTactic
import Derived.BigQuiet
namespace Go.Proofs.YtgnfianpjhhofaaDoor.C
open Go.RowKit

theorem small_any (n : Int) (w : World) (h0 : 0 ≤ n) (h1 : n ≤ 255) :
    Calls Tryd.prog 52 #[.int .u8 n] w fun e w' => e = .returned (.int .u8 (smI n)) ∧ w = w' := by
  by_cases ha : 65 ≤ n
  · by_cases hb : n ≤ 90
    · have hs : smI n = n + 32 := by unfold smI; rw [if_pos ⟨ha, hb⟩]
      rw [hs]; clear hs
      go_enter Tryd.func52, Tryd.ntmps52
      go_wp2
      go_ret
      exact ⟨rfl, rfl⟩
    · have hs : smI n = n := by unfold smI; rw [if_neg (by omega)]
      rw [hs]; clear hs
      go_enter Tryd.func52, Tryd.ntmps52
      go_wp2
      go_ret
      exact ⟨rfl, rfl⟩
  · have hs : smI n = n := by unfold smI; rw [if_neg (by omega)]
    rw [hs]; clear hs
    go_enter Tryd.func52, Tryd.ntmps52
    go_wp2
    go_ret
    exact ⟨rfl, rfl⟩

theorem ret_bool {a b : Bool} (h : a = b) : Ending.returned (.bool a) = .returned (.bool b) := by rw [h]

theorem letter_any (n : Int) (w : World) (h0 : 0 ≤ n) (h1 : n ≤ 255) :
    Calls Tryd.prog 50 #[.int .u8 n] w fun e w' => e = .returned (.bool (leI n)) ∧ w = w' := by
  have hsm : leI n = decide (97 ≤ smI n ∧ smI n ≤ 122) := by
    unfold leI smI; rw [decide_eq_decide]; split <;> omega
  have hb : 0 ≤ smI n ∧ smI n ≤ 255 := by unfold smI; split <;> omega
  rw [hsm]; clear hsm
  obtain ⟨hb0, hb1⟩ := hb
  by_cases ha : 97 ≤ smI n
  · by_cases hc : smI n ≤ 122
    · rw [decide_eq_true (And.intro ha hc)]
      go_enter Tryd.func50, Tryd.ntmps50
      go_wp2_with (go_at_call 52; refine (small_any _ _ h0 h1).mono ?_; rintro e w' ⟨rfl, rfl⟩)
      go_ret
      exact ⟨ret_bool (by first | rfl | (simp; omega)), rfl⟩
    · rw [decide_eq_false (by omega)]
      go_enter Tryd.func50, Tryd.ntmps50
      go_wp2_with (go_at_call 52; refine (small_any _ _ h0 h1).mono ?_; rintro e w' ⟨rfl, rfl⟩)
      go_ret
      exact ⟨ret_bool (by first | rfl | (simp; omega)), rfl⟩
  · rw [decide_eq_false (by omega)]
    go_enter Tryd.func50, Tryd.ntmps50
    go_wp2_with (go_at_call 52; refine (small_any _ _ h0 h1).mono ?_; rintro e w' ⟨rfl, rfl⟩)
    go_ret
    exact ⟨ret_bool (by first | rfl | (simp; omega)), rfl⟩

/-- Where a byte stands among the letters and digits. -/
theorem where_is (n : Int) (h0 : 0 ≤ n) (h1 : n ≤ 255) : (0 ≤ n ∧ n < 48) ∨ (48 ≤ n ∧ n ≤ 57) ∨ (57 < n ∧ n < 65) ∨ (65 ≤ n ∧ n ≤ 70) ∨ (70 < n ∧ n ≤ 90) ∨ (90 < n ∧ n < 97) ∨ (97 ≤ n ∧ n ≤ 102) ∨ (102 < n ∧ n ≤ 122) ∨ (122 < n ∧ n ≤ 255) := by omega

theorem hxI_d (n : Int) (a : 48 ≤ n) (b : n ≤ 57) : hxI n = n - 48 := by unfold hxI; rw [if_pos ⟨a, b⟩]
theorem hxI_a (n : Int) (a : 97 ≤ n) (b : n ≤ 102) : hxI n = n - 87 := by unfold hxI; rw [if_neg (by omega), if_pos ⟨a, b⟩]
theorem hxI_A (n : Int) (a : 65 ≤ n) (b : n ≤ 70) : hxI n = n - 55 := by unfold hxI; rw [if_neg (by omega), if_neg (by omega), if_pos ⟨a, b⟩]
theorem hxI_n (n : Int) (a : ¬ (48 ≤ n ∧ n ≤ 57)) (b : ¬ (97 ≤ n ∧ n ≤ 102)) (c : ¬ (65 ≤ n ∧ n ≤ 70)) : hxI n = -1 := by unfold hxI; rw [if_neg a, if_neg b, if_neg c]
theorem ret_num {k : IntKind} {a b : Int} (h : a = b) : Ending.returned (.int k a) = .returned (.int k b) := by rw [h]

set_option maxHeartbeats 1600000 in
theorem hex_any (n : Int) (w : World) (h0 : 0 ≤ n) (h1 : n ≤ 255) :
    Calls Tryd.prog 49 #[.int .u8 n] w fun e w' => e = .returned (.int .i64 (hxI n)) ∧ w = w' := by
  rcases where_is n h0 h1 with h | h | h | h | h | h | h | h | h
  all_goals
    obtain ⟨ha, hb⟩ := h
    first
      | rw [hxI_d n (by omega) (by omega)]
      | rw [hxI_a n (by omega) (by omega)]
      | rw [hxI_A n (by omega) (by omega)]
      | rw [hxI_n n (by omega) (by omega) (by omega)]
    go_enter Tryd.func49, Tryd.ntmps49
    go_wp2
    go_ret
    exact ⟨ret_num (by omega), rfl⟩
theorem encode_any (n : Int) (w : World) (h1 : -9223372036854775808 ≤ n) (h2 : n ≤ 9223372036854775807) :
    Calls Tryd.prog 37 #[.int .i64 n] w fun e w' => e = .returned (.string (encS n)) ∧ w = w' := by
  by_cases hneg : n < 0
  · have e : encS n = ⟨#[239, 191, 189]⟩ := by unfold encS chB; rw [decide_eq_false (by omega)]; rfl
    rw [e]; clear e
    go_enter Tryd.func37, Tryd.ntmps37
    go_wp2
    go_ret
    exact ⟨rfl, rfl⟩
  · by_cases hbig : 1114111 < n
    · have e : encS n = ⟨#[239, 191, 189]⟩ := by unfold encS chB; rw [decide_eq_false (by omega)]; rfl
      rw [e]; clear e
      go_enter Tryd.func37, Tryd.ntmps37
      go_wp2
      go_ret
      exact ⟨rfl, rfl⟩
    · have hV := Lib.hid (fun W => Tryd.utf8_ValidRune n W)
      by_cases hch : chB n = true
      · have e : encS n = Utf8.encode n := by unfold encS; rw [if_pos hch]
        have hvr : Lib.validRune n = true := by unfold Lib.validRune; unfold chB at hch; simpa using hch
        rw [e]; clear e hch
        go_enter Tryd.func37, Tryd.ntmps37
        go_wp2_with (go_at_call 44; refine (hV.out _).mono ?_; rintro e w1 ⟨rfl, rfl⟩)
        go_ret
        exact ⟨rfl, rfl⟩
      · have e : encS n = ⟨#[239, 191, 189]⟩ := by unfold encS; rw [if_neg hch]
        have hvr : Lib.validRune n = false := by unfold Lib.validRune; unfold chB at hch; simpa using hch
        rw [e]; clear e hch
        go_enter Tryd.func37, Tryd.ntmps37
        go_wp2_with (go_at_call 44; refine (hV.out _).mono ?_; rintro e w1 ⟨rfl, rfl⟩)
        go_ret
        exact ⟨rfl, rfl⟩

theorem digit_any (n : Int) (base : Int) (w : World) (h0 : 0 ≤ n) (h1 : n ≤ 255) (_hb : 0 ≤ base) (_hb2 : base ≤ 16) :
    Calls Tryd.prog 40 #[.int .u8 n, .int .i64 base] w fun e w' => e = .returned (.int .i64 (if hxI n < base then hxI n else -1)) ∧ w = w' := by
  by_cases h : hxI n < base
  · rw [if_pos h]
    go_enter Tryd.func40, Tryd.ntmps40
    go_wp2_with (go_at_call 49; refine (hex_any _ _ h0 h1).mono ?_; rintro e w' ⟨rfl, rfl⟩)
    go_ret
    exact ⟨rfl, rfl⟩
  · rw [if_neg h]
    go_enter Tryd.func40, Tryd.ntmps40
    go_wp2_with (go_at_call 49; refine (hex_any _ _ h0 h1).mono ?_; rintro e w' ⟨rfl, rfl⟩)
    go_ret
    exact ⟨rfl, rfl⟩
/-- A digit to the base, as the plain text has it. -/
theorem dg_any (base : Int) (c : UInt8) (w : World) (hb : 0 ≤ base) (hb2 : base ≤ 16) :
    Calls Tryd.prog 40 #[.int .u8 (c.toNat : Int), .int .i64 base] w fun e w' => e = .returned (.int .i64 (dg base c)) ∧ w = w' :=
  digit_any _ base w (by omega) (by have := c.toNat_lt; omega) hb hb2
/-! ### the tables of names -/
set_option maxHeartbeats 4000000 in
theorem loose_any (s : ByteArray) (w : World) :
    Calls Tryd.prog 34 #[.string s] w fun e w' => e = .returned (.int .i64 (lk tabL s.toList)) ∧ w = w' := by
  go_enter Tryd.func34, Tryd.ntmps34
  go_wp2
  all_goals
    go_ret
    refine ⟨ret_num ?_, rfl⟩
    first
      | (simp only [tabL, lk, *]; simp; done)
      | (exfalso; simp_all; done)
set_option maxHeartbeats 4000000 in
theorem sign_any (s : ByteArray) (w : World) :
    Calls Tryd.prog 35 #[.string s] w fun e w' => e = .returned (.int .i64 (lk tabS s.toList)) ∧ w = w' := by
  go_enter Tryd.func35, Tryd.ntmps35
  go_wp2
  all_goals
    go_ret
    refine ⟨ret_num ?_, rfl⟩
    first
      | (simp only [tabS, lk, *]; simp; done)
      | (exfalso; simp_all; done)
set_option maxHeartbeats 4000000 in
theorem special_any (s : ByteArray) (w : World) :
    Calls Tryd.prog 36 #[.string s] w fun e w' => e = .returned (.int .i64 (lk tabP s.toList)) ∧ w = w' := by
  go_enter Tryd.func36, Tryd.ntmps36
  go_wp2
  all_goals
    go_ret
    refine ⟨ret_num ?_, rfl⟩
    first
      | (simp only [tabP, lk, *]; simp; done)
      | (exfalso; simp_all; done)
end Go.Proofs.YtgnfianpjhhofaaDoor.C
