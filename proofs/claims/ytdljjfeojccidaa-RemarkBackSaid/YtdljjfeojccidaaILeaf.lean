/-
  The walks of the functions on one byte or one rune: they compute, and leave the world alone.
-/
import Derived.Test.YtdljjfeojccidaaRows
import Derived.Test.YtdljjfeojccidaaIPlain
import Derived.WalkKit
import Derived.IntWalk
namespace Go.Proofs.Ytdljjfeojccidaa.I
open Go.RowKit

set_option maxHeartbeats 400000 in
theorem blank_any (n : Int) (w : World) :
    Calls Try.prog 62 #[.int .i32 n] w fun e w' => e = .returned (.bool (spI n)) ∧ w = w' := by
  by_cases h : n = 9 ∨ n = 10 ∨ n = 12 ∨ n = 13 ∨ n = 32
  · have hs : spI n = true := by simp [spI, h]
    rw [hs]; clear hs
    rcases h with rfl | rfl | rfl | rfl | rfl
    all_goals
      go_enter Try.func62, Try.ntmps62
      go_wp2
      go_ret
      exact ⟨rfl, rfl⟩
  · have hs : spI n = false := by simp [spI, h]
    rw [hs]; clear hs
    have h1 : (n == 9) = false := by simp; omega
    have h2 : (n == 10) = false := by simp; omega
    have h3 : (n == 12) = false := by simp; omega
    have h4 : (n == 13) = false := by simp; omega
    have h5 : (n == 32) = false := by simp; omega
    clear h
    go_enter Try.func62, Try.ntmps62
    go_wp2
    go_ret
    exact ⟨rfl, rfl⟩

theorem space_any (n : Int) (w : World) (h0 : 0 ≤ n) (h1 : n ≤ 255) :
    Calls Try.prog 54 #[.int .u8 n] w fun e w' => e = .returned (.bool (spI n)) ∧ w = w' := by
  go_enter Try.func54, Try.ntmps54
  go_wp2_with (go_at_call 62; refine (blank_any _ _).mono ?_; rintro e w' ⟨rfl, rfl⟩)
  go_ret
  exact ⟨rfl, rfl⟩

theorem rspace_any (n : Int) (w : World) (h0 : 0 ≤ n) (h1 : n ≤ 255) :
    Calls Try.prog 37 #[.int .u8 n] w fun e w' => e = .returned (.bool (spI n)) ∧ w = w' := by
  by_cases h : n = 9 ∨ n = 10 ∨ n = 12 ∨ n = 13 ∨ n = 32
  · have hs : spI n = true := by simp [spI, h]
    rw [hs]; clear hs
    rcases h with rfl | rfl | rfl | rfl | rfl
    all_goals
      go_enter Try.func37, Try.ntmps37
      go_wp2
      go_ret
      exact ⟨rfl, rfl⟩
  · have hs : spI n = false := by simp [spI, h]
    rw [hs]; clear hs
    have h1 : (n == 9) = false := by simp; omega
    have h2 : (n == 10) = false := by simp; omega
    have h3 : (n == 12) = false := by simp; omega
    have h4 : (n == 13) = false := by simp; omega
    have h5 : (n == 32) = false := by simp; omega
    clear h
    go_enter Try.func37, Try.ntmps37
    go_wp2
    go_ret
    exact ⟨rfl, rfl⟩

theorem small_any (n : Int) (w : World) (h0 : 0 ≤ n) (h1 : n ≤ 255) :
    Calls Try.prog 39 #[.int .u8 n] w fun e w' => e = .returned (.int .u8 (smI n)) ∧ w = w' := by
  by_cases ha : 65 ≤ n
  · by_cases hb : n ≤ 90
    · have hs : smI n = n + 32 := by unfold smI; rw [if_pos ⟨ha, hb⟩]
      rw [hs]; clear hs
      go_enter Try.func39, Try.ntmps39
      go_wp2
      go_ret
      exact ⟨rfl, rfl⟩
    · have hs : smI n = n := by unfold smI; rw [if_neg (by omega)]
      rw [hs]; clear hs
      go_enter Try.func39, Try.ntmps39
      go_wp2
      go_ret
      exact ⟨rfl, rfl⟩
  · have hs : smI n = n := by unfold smI; rw [if_neg (by omega)]
    rw [hs]; clear hs
    go_enter Try.func39, Try.ntmps39
    go_wp2
    go_ret
    exact ⟨rfl, rfl⟩
end Go.Proofs.Ytdljjfeojccidaa.I
