/-
  The walks of Trim, and of the document's own.
-/
import Derived.Test.YtdljjfeojccidaaILoops
namespace Go.Proofs.Ytdljjfeojccidaa.I
open Go.RowKit

theorem ret_str {a b : ByteArray} (h : a = b) : Ending.returned (.string a) = .returned (.string b) := by rw [h]

set_option maxHeartbeats 1600000 in
theorem trim_any (s : ByteArray) (w : World) (hs : s.size ≤ maxLen) :
    Calls Try.prog 53 #[.string s] w fun e w' => e = .returned (.string (trS s)) ∧ w = w' := by
  unfold maxLen at hs
  go_enter Try.func53, Try.ntmps53
  go_wp2
  go_loop [3] (fun i => ∃ k : Nat, k ≤ s.size ∧ i = .int .i64 k ∧ (∀ j (h : j < s.size), j < k → spC s[j] = true)) (fun i => s.size - (intOf i).toNat)
  case atStart => exact ⟨0, Nat.zero_le _, rfl, fun _ _ h => absurd h (Nat.not_lt_zero _)⟩
  case round =>
    obtain ⟨k, hk, rfl, hall⟩ := hrel
    have HA := Lib.hid hall; clear hall
    by_cases hgo : ∃ h : k < s.size, spC s[k] = true
    · obtain ⟨hlt, hb⟩ := hgo
      have hc := s[k].toNat_lt
      have hb' : spI (s[k].toNat : Int) = true := hb
      go_wp2_with (go_at_call 54; refine (space_any _ _ (by omega) (by omega)).mono ?_; rintro e w' ⟨rfl, rfl⟩)
      go_round
      case rel => exact ⟨k + 1, by omega, by go_num, fun j h hj => by
        rcases Nat.lt_or_eq_of_le (Nat.le_of_lt_succ hj) with h1 | h1
        · exact HA.out j h h1
        · subst h1; exact hb⟩
      case measure => simp [intOf]; omega
    · have HS : Hid (∀ h : k < s.size, spC s[k] = false) := fun h => by
        cases hx : spC s[k] with
        | false => rfl
        | true => exact absurd ⟨h, hx⟩ hgo
      clear hgo
      have hsz : s.size ≤ s.size := Nat.le_refl _
      by_cases hlt : k < s.size
      · have hb' : spI (s[k].toNat : Int) = false := HS.out hlt
        have hc := s[k].toNat_lt
        go_wp2_with (go_at_call 54; refine (space_any _ _ (by omega) (by omega)).mono ?_; rintro e w' ⟨rfl, rfl⟩)
        clear hb'
        go_loop [4] (fun i => ∃ m : Nat, k < m ∧ m ≤ s.size ∧ i = .int .i64 m ∧ (∀ j (h : j < s.size), m ≤ j → spC s[j] = true)) (fun i => (intOf i).toNat)
        case atStart => exact ⟨s.size, hlt, Nat.le_refl _, rfl, fun _ _ h => by omega⟩
        case round =>
          obtain ⟨m, hkm, hm, rfl, hall⟩ := hrel
          have HB := Lib.hid hall; clear hall
          by_cases hb : spC (s[m - 1]'(by omega)) = true
          · have hb' : spI ((s[m - 1]'(by omega)).toNat : Int) = true := hb
            have hkm' : k + 1 < m := by
              rcases Nat.lt_or_ge (k + 1) m with h | h
              · exact h
              · exfalso
                have : m - 1 = k := by omega
                have h2 := HS.out hlt
                have h3 : spC (s[m - 1]'(by omega)) = spC s[k] := by congr 1; simp only [this]
                rw [h3, h2] at hb; cases hb
            have hc := (s[m - 1]'(by omega)).toNat_lt
            go_wp2_with (go_at_call 54; refine (space_any _ _ (by omega) (by omega)).mono ?_; rintro e w' ⟨rfl, rfl⟩)
            go_round
            case rel => exact ⟨m - 1, by omega, by omega, by congr 1; omega, fun j h hj => by
              rcases Nat.lt_or_ge j m with h1 | h1
              · have e : j = m - 1 := by omega
                subst e; exact hb
              · exact HB.out j h h1⟩
            case measure => simp [intOf]; omega
          · have hb1 : spC (s[m - 1]'(by omega)) = false := by simpa using hb
            have hb' : spI ((s[m - 1]'(by omega)).toNat : Int) = false := hb1
            have hc := (s[m - 1]'(by omega)).toNat_lt
            have HE := Lib.hid (trS_of s k m (by omega) hm HA.out HB.out (fun _ => HS.out hlt) (fun _ => hb1))
            clear hb hb1
            go_wp2_with (go_at_call 54; refine (space_any _ _ (by omega) (by omega)).mono ?_; rintro e w' ⟨rfl, rfl⟩)
            go_ret
            exact ⟨ret_str HE.out, rfl⟩
      · have HE := Lib.hid (trS_of s k s.size hk (Nat.le_refl _) HA.out (fun _ _ _ => by omega) (fun h => absurd h hlt) (fun h => absurd h hlt))
        go_wp2
        refine wp_loop_rounds 1 ?_
        rw [rounds_succ]
        go_wp2
        go_ret
        exact ⟨ret_str HE.out, rfl⟩
end Go.Proofs.Ytdljjfeojccidaa.I
