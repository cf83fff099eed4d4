/-
  The walks of the functions on one byte, and on one number: small letters, letters, digits, characters.
-/
import Derived.Test.YtkfaenhidjekdaaDoorRows
import Derived.Test.YtkfaenhidjekdaaDoorCPlain
import Derived.Test.YtkfaenhidjekdaaDoorShelf2
import Derived.WalkKit
import Derived.IntWalk
import Derived.LoopTactic
import Derived.WalkSpells
import Derived.WalkSmall
import Derived.Lib.Hide
import Derived.Deep.QuietTactic
import Derived.BigQuiet
namespace Go.Proofs.YtkfaenhidjekdaaDoor.C
open Go.RowKit

theorem small_any (n : Int) (w : World) (h0 : 0 ≤ n) (h1 : n ≤ 255) :
    Calls Tryd.prog 33 #[.int .u8 n] w fun e w' => e = .returned (.int .u8 (smI n)) ∧ w = w' := by
  by_cases ha : 65 ≤ n
  · by_cases hb : n ≤ 90
    · have hs : smI n = n + 32 := by unfold smI; rw [if_pos ⟨ha, hb⟩]
      rw [hs]; clear hs
      go_enter Tryd.func33, Tryd.ntmps33
      go_wp2
      go_ret
      exact ⟨rfl, rfl⟩
    · have hs : smI n = n := by unfold smI; rw [if_neg (by omega)]
      rw [hs]; clear hs
      go_enter Tryd.func33, Tryd.ntmps33
      go_wp2
      go_ret
      exact ⟨rfl, rfl⟩
  · have hs : smI n = n := by unfold smI; rw [if_neg (by omega)]
    rw [hs]; clear hs
    go_enter Tryd.func33, Tryd.ntmps33
    go_wp2
    go_ret
    exact ⟨rfl, rfl⟩

theorem ret_bool {a b : Bool} (h : a = b) : Ending.returned (.bool a) = .returned (.bool b) := by rw [h]

theorem letter_any (n : Int) (w : World) (h0 : 0 ≤ n) (h1 : n ≤ 255) :
    Calls Tryd.prog 32 #[.int .u8 n] w fun e w' => e = .returned (.bool (leI n)) ∧ w = w' := by
  have hsm : leI n = decide (97 ≤ smI n ∧ smI n ≤ 122) := by
    unfold leI smI; rw [decide_eq_decide]; split <;> omega
  have hb : 0 ≤ smI n ∧ smI n ≤ 255 := by unfold smI; split <;> omega
  rw [hsm]; clear hsm
  obtain ⟨hb0, hb1⟩ := hb
  by_cases ha : 97 ≤ smI n
  · by_cases hc : smI n ≤ 122
    · rw [decide_eq_true (And.intro ha hc)]
      go_enter Tryd.func32, Tryd.ntmps32
      go_wp2_with (go_at_call 33; refine (small_any _ _ h0 h1).mono ?_; rintro e w' ⟨rfl, rfl⟩)
      go_ret
      exact ⟨ret_bool (by first | rfl | (simp; omega)), rfl⟩
    · rw [decide_eq_false (by omega)]
      go_enter Tryd.func32, Tryd.ntmps32
      go_wp2_with (go_at_call 33; refine (small_any _ _ h0 h1).mono ?_; rintro e w' ⟨rfl, rfl⟩)
      go_ret
      exact ⟨ret_bool (by first | rfl | (simp; omega)), rfl⟩
  · rw [decide_eq_false (by omega)]
    go_enter Tryd.func32, Tryd.ntmps32
    go_wp2_with (go_at_call 33; refine (small_any _ _ h0 h1).mono ?_; rintro e w' ⟨rfl, rfl⟩)
    go_ret
    exact ⟨ret_bool (by first | rfl | (simp; omega)), rfl⟩

/-- Where a byte stands among the letters and digits. -/
theorem where_is (n : Int) (h0 : 0 ≤ n) (h1 : n ≤ 255) : (0 ≤ n ∧ n < 48) ∨ (48 ≤ n ∧ n ≤ 57) ∨ (57 < n ∧ n < 65) ∨ (65 ≤ n ∧ n ≤ 70) ∨ (70 < n ∧ n ≤ 90) ∨ (90 < n ∧ n < 97) ∨ (97 ≤ n ∧ n ≤ 102) ∨ (102 < n ∧ n ≤ 122) ∨ (122 < n ∧ n ≤ 255) := by omega

set_option maxHeartbeats 800000 in
theorem rletter_any (n : Int) (w : World) (h0 : 0 ≤ n) (h1 : n ≤ 255) :
    Calls Tryd.prog 18 #[.int .u8 n] w fun e w' => e = .returned (.bool (leI n)) ∧ w = w' := by
  rcases where_is n h0 h1 with h | h | h | h | h | h | h | h | h
  all_goals
    obtain ⟨ha, hb⟩ := h
    first
      | rw [show leI n = true from decide_eq_true (by omega)]
      | rw [show leI n = false from decide_eq_false (by omega)]
    go_enter Tryd.func18, Tryd.ntmps18
    go_wp2
    go_ret
    exact ⟨ret_bool (by first | rfl | (simp; omega)), rfl⟩

theorem hxI_d (n : Int) (a : 48 ≤ n) (b : n ≤ 57) : hxI n = n - 48 := by unfold hxI; rw [if_pos ⟨a, b⟩]
theorem hxI_a (n : Int) (a : 97 ≤ n) (b : n ≤ 102) : hxI n = n - 87 := by unfold hxI; rw [if_neg (by omega), if_pos ⟨a, b⟩]
theorem hxI_A (n : Int) (a : 65 ≤ n) (b : n ≤ 70) : hxI n = n - 55 := by unfold hxI; rw [if_neg (by omega), if_neg (by omega), if_pos ⟨a, b⟩]
theorem hxI_n (n : Int) (a : ¬ (48 ≤ n ∧ n ≤ 57)) (b : ¬ (97 ≤ n ∧ n ≤ 102)) (c : ¬ (65 ≤ n ∧ n ≤ 70)) : hxI n = -1 := by unfold hxI; rw [if_neg a, if_neg b, if_neg c]
theorem ret_num {k : IntKind} {a b : Int} (h : a = b) : Ending.returned (.int k a) = .returned (.int k b) := by rw [h]

set_option maxHeartbeats 1600000 in
theorem hex_any (n : Int) (w : World) (h0 : 0 ≤ n) (h1 : n ≤ 255) :
    Calls Tryd.prog 84 #[.int .u8 n] w fun e w' => e = .returned (.int .i64 (hxI n)) ∧ w = w' := by
  rcases where_is n h0 h1 with h | h | h | h | h | h | h | h | h
  all_goals
    obtain ⟨ha, hb⟩ := h
    first
      | rw [hxI_d n (by omega) (by omega)]
      | rw [hxI_a n (by omega) (by omega)]
      | rw [hxI_A n (by omega) (by omega)]
      | rw [hxI_n n (by omega) (by omega) (by omega)]
    go_enter Tryd.func84, Tryd.ntmps84
    go_wp2
    go_ret
    exact ⟨ret_num (by omega), rfl⟩
set_option maxHeartbeats 1600000 in
theorem rhex_any (n : Int) (w : World) (h0 : 0 ≤ n) (h1 : n ≤ 255) :
    Calls Tryd.prog 74 #[.int .u8 n] w fun e w' => e = .returned (.int .i64 (hxI n)) ∧ w = w' := by
  rcases where_is n h0 h1 with h | h | h | h | h | h | h | h | h
  all_goals
    obtain ⟨ha, hb⟩ := h
    first
      | rw [hxI_d n (by omega) (by omega)]
      | rw [hxI_a n (by omega) (by omega)]
      | rw [hxI_A n (by omega) (by omega)]
      | rw [hxI_n n (by omega) (by omega) (by omega)]
    go_enter Tryd.func74, Tryd.ntmps74
    go_wp2
    go_ret
    exact ⟨ret_num (by omega), rfl⟩
theorem encode_any (n : Int) (w : World) (h1 : -9223372036854775808 ≤ n) (h2 : n ≤ 9223372036854775807) :
    Calls Tryd.prog 71 #[.int .i64 n] w fun e w' => e = .returned (.string (encS n)) ∧ w = w' := by
  by_cases hneg : n < 0
  · have e : encS n = ⟨#[239, 191, 189]⟩ := by unfold encS chB; rw [decide_eq_false (by omega)]; rfl
    rw [e]; clear e
    go_enter Tryd.func71, Tryd.ntmps71
    go_wp2
    go_ret
    exact ⟨rfl, rfl⟩
  · by_cases hbig : 1114111 < n
    · have e : encS n = ⟨#[239, 191, 189]⟩ := by unfold encS chB; rw [decide_eq_false (by omega)]; rfl
      rw [e]; clear e
      go_enter Tryd.func71, Tryd.ntmps71
      go_wp2
      go_ret
      exact ⟨rfl, rfl⟩
    · have hV := Lib.hid (fun W => Tryd.utf8_ValidRune n W)
      by_cases hch : chB n = true
      · have e : encS n = Utf8.encode n := by unfold encS; rw [if_pos hch]
        have hvr : Lib.validRune n = true := by unfold Lib.validRune; unfold chB at hch; simpa using hch
        rw [e]; clear e hch
        go_enter Tryd.func71, Tryd.ntmps71
        go_wp2_with (go_at_call 79; refine (hV.out _).mono ?_; rintro e w1 ⟨rfl, rfl⟩)
        go_ret
        exact ⟨rfl, rfl⟩
      · have e : encS n = ⟨#[239, 191, 189]⟩ := by unfold encS; rw [if_neg hch]
        have hvr : Lib.validRune n = false := by unfold Lib.validRune; unfold chB at hch; simpa using hch
        rw [e]; clear e hch
        go_enter Tryd.func71, Tryd.ntmps71
        go_wp2_with (go_at_call 79; refine (hV.out _).mono ?_; rintro e w1 ⟨rfl, rfl⟩)
        go_ret
        exact ⟨rfl, rfl⟩

theorem rencode_any (n : Int) (w : World) (h1 : -9223372036854775808 ≤ n) (h2 : n ≤ 9223372036854775807) :
    Calls Tryd.prog 77 #[.int .i64 n] w fun e w' => e = .returned (.string (encS n)) ∧ w = w' := by
  have e0 : Utf8.encode 65533 = ⟨#[239, 191, 189]⟩ := by decide
  by_cases hneg : n < 0
  · have e : encS n = ⟨#[239, 191, 189]⟩ := by unfold encS chB; rw [decide_eq_false (by omega)]; rfl
    rw [e]; clear e
    go_enter Tryd.func77, Tryd.ntmps77
    go_wp2
    go_ret
    exact ⟨rfl, rfl⟩
  · by_cases hbig : 1114111 < n
    · have e : encS n = ⟨#[239, 191, 189]⟩ := by unfold encS chB; rw [decide_eq_false (by omega)]; rfl
      rw [e]; clear e
      go_enter Tryd.func77, Tryd.ntmps77
      go_wp2
      go_ret
      exact ⟨rfl, rfl⟩
    · by_cases hs : 55296 ≤ n
      · by_cases hs2 : n ≤ 57343
        · have e : encS n = ⟨#[239, 191, 189]⟩ := by unfold encS chB; rw [decide_eq_false (by omega)]; rfl
          rw [e]; clear e
          go_enter Tryd.func77, Tryd.ntmps77
          go_wp2
          go_ret
          exact ⟨rfl, rfl⟩
        · have e : encS n = Utf8.encode n := by unfold encS chB; rw [decide_eq_true (by omega)]; rfl
          rw [e]; clear e e0
          go_enter Tryd.func77, Tryd.ntmps77
          go_wp2
          go_ret
          exact ⟨rfl, rfl⟩
      · have e : encS n = Utf8.encode n := by unfold encS chB; rw [decide_eq_true (by omega)]; rfl
        rw [e]; clear e e0
        go_enter Tryd.func77, Tryd.ntmps77
        go_wp2
        go_ret
        exact ⟨rfl, rfl⟩

theorem digit_any (n : Int) (base : Int) (w : World) (h0 : 0 ≤ n) (h1 : n ≤ 255) (_hb : 0 ≤ base) (_hb2 : base ≤ 16) :
    Calls Tryd.prog 80 #[.int .u8 n, .int .i64 base] w fun e w' => e = .returned (.int .i64 (if hxI n < base then hxI n else -1)) ∧ w = w' := by
  by_cases h : hxI n < base
  · rw [if_pos h]
    go_enter Tryd.func80, Tryd.ntmps80
    go_wp2_with (go_at_call 84; refine (hex_any _ _ h0 h1).mono ?_; rintro e w' ⟨rfl, rfl⟩)
    go_ret
    exact ⟨rfl, rfl⟩
  · rw [if_neg h]
    go_enter Tryd.func80, Tryd.ntmps80
    go_wp2_with (go_at_call 84; refine (hex_any _ _ h0 h1).mono ?_; rintro e w' ⟨rfl, rfl⟩)
    go_ret
    exact ⟨rfl, rfl⟩
/-- A digit to the base, as the plain text has it. -/
theorem dg_any (base : Int) (c : UInt8) (w : World) (hb : 0 ≤ base) (hb2 : base ≤ 16) :
    Calls Tryd.prog 80 #[.int .u8 (c.toNat : Int), .int .i64 base] w fun e w' => e = .returned (.int .i64 (dg base c)) ∧ w = w' :=
  digit_any _ base w (by omega) (by have := c.toNat_lt; omega) hb hb2
theorem alnum_any (n : Int) (w : World) (h0 : 0 ≤ n) (h1 : n ≤ 255) :
    Calls Tryd.prog 64 #[.int .u8 n] w fun e w' => e = .returned (.bool (leI n || decide (48 ≤ n ∧ n ≤ 57))) ∧ w = w' := by
  by_cases hl : leI n = true
  · have hL := Lib.hid (rletter_any n w h0 h1)
    rw [hl] at hL
    rw [hl]; clear hl
    go_enter Tryd.func64, Tryd.ntmps64
    go_wp2_with (go_at_call 18; refine hL.out.mono ?_; rintro e w' ⟨rfl, rfl⟩)
    go_ret
    exact ⟨rfl, rfl⟩
  · have hl1 : leI n = false := by simpa using hl
    have hL := Lib.hid (rletter_any n w h0 h1)
    rw [hl1] at hL
    rw [hl1]; clear hl hl1
    by_cases ha : 48 ≤ n
    · by_cases hb : n ≤ 57
      · rw [decide_eq_true (And.intro ha hb)]
        go_enter Tryd.func64, Tryd.ntmps64
        go_wp2_with (go_at_call 18; refine hL.out.mono ?_; rintro e w' ⟨rfl, rfl⟩)
        go_ret
        exact ⟨rfl, rfl⟩
      · rw [decide_eq_false (fun h => hb h.2)]
        go_enter Tryd.func64, Tryd.ntmps64
        go_wp2_with (go_at_call 18; refine hL.out.mono ?_; rintro e w' ⟨rfl, rfl⟩)
        go_ret
        exact ⟨ret_bool (by first | rfl | (simp; omega)), rfl⟩
    · rw [decide_eq_false (fun h => ha h.1)]
      go_enter Tryd.func64, Tryd.ntmps64
      go_wp2_with (go_at_call 18; refine hL.out.mono ?_; rintro e w' ⟨rfl, rfl⟩)
      go_ret
      exact ⟨ret_bool (by first | rfl | (simp; omega)), rfl⟩

/-! ### the tables of names -/
set_option maxHeartbeats 4000000 in
theorem loose_any (s : ByteArray) (w : World) :
    Calls Tryd.prog 68 #[.string s] w fun e w' => e = .returned (.int .i64 (lk tabL s.toList)) ∧ w = w' := by
  go_enter Tryd.func68, Tryd.ntmps68
  go_wp2
  all_goals
    go_ret
    refine ⟨ret_num ?_, rfl⟩
    first
      | (simp only [tabL, lk, *]; simp; done)
      | (exfalso; simp_all; done)
set_option maxHeartbeats 4000000 in
theorem sign_any (s : ByteArray) (w : World) :
    Calls Tryd.prog 69 #[.string s] w fun e w' => e = .returned (.int .i64 (lk tabS s.toList)) ∧ w = w' := by
  go_enter Tryd.func69, Tryd.ntmps69
  go_wp2
  all_goals
    go_ret
    refine ⟨ret_num ?_, rfl⟩
    first
      | (simp only [tabS, lk, *]; simp; done)
      | (exfalso; simp_all; done)
set_option maxHeartbeats 4000000 in
theorem special_any (s : ByteArray) (w : World) :
    Calls Tryd.prog 70 #[.string s] w fun e w' => e = .returned (.int .i64 (lk tabP s.toList)) ∧ w = w' := by
  go_enter Tryd.func70, Tryd.ntmps70
  go_wp2
  all_goals
    go_ret
    refine ⟨ret_num ?_, rfl⟩
    first
      | (simp only [tabP, lk, *]; simp; done)
      | (exfalso; simp_all; done)
end Go.Proofs.YtkfaenhidjekdaaDoor.C
