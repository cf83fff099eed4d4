/-
  The walks of the blanks, of the closure that asks for one, and of 'next'.
-/
import Derived.Test.YtgnfianpjhhofaaRows
import Derived.Test.YtgnfianpjhhofaaWPlain
import Derived.WalkKit
import Derived.IntWalk
import Derived.LoopTactic
import Derived.WalkSpells
import Derived.Lib.Hide
import Derived.Deep.QuietTactic
import Derived.BigQuiet
namespace Go.Proofs.Ytgnfianpjhhofaa.W
open Go.RowKit

set_option maxHeartbeats 400000 in
theorem blank_any (n : Int) (w : World) :
    Calls Try.prog 67 #[.int .i32 n] w fun e w' => e = .returned (.bool (spI n)) ∧ w = w' := by
  by_cases h : n = 9 ∨ n = 10 ∨ n = 12 ∨ n = 13 ∨ n = 32
  · have hs : spI n = true := by simp [spI, h]
    rw [hs]; clear hs
    rcases h with rfl | rfl | rfl | rfl | rfl
    all_goals
      go_enter Try.func67, Try.ntmps67
      go_wp2
      go_ret
      exact ⟨rfl, rfl⟩
  · have hs : spI n = false := by simp [spI, h]
    rw [hs]; clear hs
    have h1 : (n == 9) = false := by simp; omega
    have h2 : (n == 10) = false := by simp; omega
    have h3 : (n == 12) = false := by simp; omega
    have h4 : (n == 13) = false := by simp; omega
    have h5 : (n == 32) = false := by simp; omega
    clear h
    go_enter Try.func67, Try.ntmps67
    go_wp2
    go_ret
    exact ⟨rfl, rfl⟩

theorem space_any (n : Int) (w : World) (h0 : 0 ≤ n) (h1 : n ≤ 255) :
    Calls Try.prog 61 #[.int .u8 n] w fun e w' => e = .returned (.bool (spI n)) ∧ w = w' := by
  go_enter Try.func61, Try.ntmps61
  go_wp2_with (go_at_call 67; refine (blank_any _ _).mono ?_; rintro e w' ⟨rfl, rfl⟩)
  go_ret
  exact ⟨rfl, rfl⟩

theorem rspace_any (n : Int) (w : World) (h0 : 0 ≤ n) (h1 : n ≤ 255) :
    Calls Try.prog 62 #[.int .u8 n] w fun e w' => e = .returned (.bool (spI n)) ∧ w = w' := by
  by_cases h : n = 9 ∨ n = 10 ∨ n = 12 ∨ n = 13 ∨ n = 32
  · have hs : spI n = true := by simp [spI, h]
    rw [hs]; clear hs
    rcases h with rfl | rfl | rfl | rfl | rfl
    all_goals
      go_enter Try.func62, Try.ntmps62
      go_wp2
      go_ret
      exact ⟨rfl, rfl⟩
  · have hs : spI n = false := by simp [spI, h]
    rw [hs]; clear hs
    have h1 : (n == 9) = false := by simp; omega
    have h2 : (n == 10) = false := by simp; omega
    have h3 : (n == 12) = false := by simp; omega
    have h4 : (n == 13) = false := by simp; omega
    have h5 : (n == 32) = false := by simp; omega
    clear h
    go_enter Try.func62, Try.ntmps62
    go_wp2
    go_ret
    exact ⟨rfl, rfl⟩

/-- The closure: is the byte at k a blank? -/
theorem blankAt_any (B : Nat) (s : ByteArray) (k : Nat) (w : World) (hk : k < s.size) (hc : w.cell? ⟨B, 0, none⟩ = some (.string s)) :
    Calls Try.prog 60 #[.int .i64 k, .pointer (some ⟨B, 0, none⟩)] w fun e w' => e = .returned (.bool (spC s[k])) ∧ w = w' := by
  have hb := s[k].toNat_lt
  go_enter Try.func60, Try.ntmps60
  go_wp2_with (go_at_call 61; refine (space_any _ _ (by omega) (by omega)).mono ?_; rintro e w' ⟨rfl, rfl⟩)
  go_ret
  exact ⟨rfl, rfl⟩
theorem below_drewN {B : Nat} {a w : World} (h : Below B a w) (n : Nat) : Below B a (w.drewN n) := ⟨h.os, h.tape, h.output, h.size, h.block⟩
def NextPost (s : ByteArray) (w : World) (e : Ending) (w' : World) : Prop := e = .returned (.tuple #[.string (nxWs s), .string (nxRs s)]) ∧ Below w.heap.size w w'
theorem ret_two {a b c d : ByteArray} (h : a = b) (h2 : c = d) : Ending.returned (.tuple #[.string a, .string c]) = .returned (.tuple #[.string b, .string d]) := by rw [h, h2]
set_option maxHeartbeats 1600000 in
theorem next_any (s : ByteArray) (w : World) (hs : s.size ≤ 1000000) :
    Calls Try.prog 48 #[.string s] w (NextPost s w) := by
  have hcell : (w.alloc (.cells #[.string s] 9)).cell? ⟨w.heap.size, 0, none⟩ = some (.string s) := by simp
  have HC : Hid (∀ (k : Nat) (hk : k < s.size), Calls Try.prog 60 #[.int .i64 k, .pointer (some ⟨w.heap.size, 0, none⟩)] (w.alloc (.cells #[.string s] 9)) fun e w' => e = .returned (.bool (spC s[k])) ∧ (w.alloc (.cells #[.string s] 9)) = w') :=
    Lib.hid (fun k hk => blankAt_any _ s k _ hk hcell)
  clear hcell
  go_enter Try.func48, Try.ntmps48
  go_wp2
  go_loop [5] (fun i => ∃ k : Nat, k ≤ s.size ∧ i = .int .i64 k ∧ (∀ j (h : j < s.size), j < k → spC s[j] = true)) (fun i => s.size - (intOf i).toNat)
  case atStart => exact ⟨0, Nat.zero_le _, rfl, fun _ _ h => absurd h (Nat.not_lt_zero _)⟩
  case round =>
    obtain ⟨k, hk, rfl, hall⟩ := hrel
    have HA := Lib.hid hall; clear hall
    by_cases hgo : ∃ h : k < s.size, spC s[k] = true
    · obtain ⟨hlt, hb⟩ := hgo
      have HK := HC.out k hlt
      rw [hb] at HK
      have HB := Lib.hid hb; clear hb
      go_wp2_with (go_at_call 60; refine HK.mono ?_; rintro e w' ⟨rfl, rfl⟩)
      go_round
      case rel => exact ⟨k + 1, by omega, by go_num, fun j h hj => by
        rcases Nat.lt_or_eq_of_le (Nat.le_of_lt_succ hj) with h1 | h1
        · exact HA.out j h h1
        · subst h1; exact HB.out⟩
      case measure => simp [intOf]; omega
    · have HS : Hid (∀ h : k < s.size, spC s[k] = false) := Lib.hid (fun h => by
        cases hx : spC s[k] with
        | false => rfl
        | true => exact absurd ⟨h, hx⟩ hgo)
      clear hgo
      by_cases hlt : k < s.size
      · have HK := HC.out k hlt
        rw [HS.out hlt] at HK
        go_wp2_with (go_at_call 60; refine HK.mono ?_; rintro e w' ⟨rfl, rfl⟩)
        clear HK
        go_loop [6] (fun i => ∃ m : Nat, k ≤ m ∧ m ≤ s.size ∧ i = .int .i64 m ∧ (∀ j (h : j < s.size), k ≤ j → j < m → spC s[j] = false)) (fun i => s.size - (intOf i).toNat)
        case atStart => exact ⟨k, Nat.le_refl _, hk, rfl, fun _ _ h1 h2 => by omega⟩
        case round =>
          obtain ⟨m, hkm, hm, rfl, hall⟩ := hrel
          have HM := Lib.hid hall; clear hall
          by_cases hgo : ∃ h : m < s.size, spC s[m] = false
          · obtain ⟨hlt2, hb⟩ := hgo
            have HK := HC.out m hlt2
            rw [hb] at HK
            have HB := Lib.hid hb; clear hb
            go_wp2_with (go_at_call 60; refine HK.mono ?_; rintro e w' ⟨rfl, rfl⟩)
            go_round
            case rel => exact ⟨m + 1, by omega, by omega, by go_num, fun j h hj1 hj2 => by
              rcases Nat.lt_or_eq_of_le (Nat.le_of_lt_succ hj2) with h1 | h1
              · exact HM.out j h hj1 h1
              · subst h1; exact HB.out⟩
            case measure => simp [intOf]; omega
          · have HT : Hid (∀ h : m < s.size, spC s[m] = true) := Lib.hid (fun h => by
              cases hx : spC s[m] with
              | true => rfl
              | false => exact absurd ⟨h, hx⟩ hgo)
            have HE := Lib.hid (nx_of s k m hkm hm HA.out HS.out HM.out HT.out)
            clear hgo
            by_cases hlt2 : m < s.size
            · have HK := HC.out m hlt2
              rw [HT.out hlt2] at HK
              go_wp2_with (go_at_call 60; refine HK.mono ?_; rintro e w' ⟨rfl, rfl⟩)
              clear HK
              go_quiet (fail)
              go_wp2
              go_ret2
              exact ⟨ret_two HE.out.1 HE.out.2, below_drewN ((Below.refl _ _).alloc (Nat.le_refl _) _) _⟩
            · go_wp2
              go_quiet (fail)
              go_wp2
              go_ret2
              exact ⟨ret_two HE.out.1 HE.out.2, below_drewN ((Below.refl _ _).alloc (Nat.le_refl _) _) _⟩
      · have HE := Lib.hid (nx_of s k k (Nat.le_refl _) hk HA.out HS.out (fun _ _ _ _ => by omega) (fun h => absurd h hlt))
        go_wp2
        refine wp_loop_rounds 1 ?_
        rw [rounds_succ]
        go_wp2
        go_quiet (fail)
        go_wp2
        go_ret2
        exact ⟨ret_two (by rw [show nxWs s = s.extract k k from HE.out.1.symm]; simp) HE.out.2, below_drewN ((Below.refl _ _).alloc (Nat.le_refl _) _) _⟩
end Go.Proofs.Ytgnfianpjhhofaa.W
