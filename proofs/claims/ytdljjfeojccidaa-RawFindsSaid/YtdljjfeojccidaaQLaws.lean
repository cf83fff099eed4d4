/-
  The laws RawFinds and RawStands.
-/
import Derived.Test.YtdljjfeojccidaaQFind
namespace Go.Proofs.Ytdljjfeojccidaa.Q
open Go.RowKit
open Go.Proofs.Ytdljjfeojccidaa.I (below_step)
open Go.Proofs.Ytdljjfeojccidaa.T (clB rcloses_any)

set_option maxHeartbeats 3200000 in
theorem finds_walk (s name : ByteArray) (state : Int) (w : World) (ws : s.size ≤ maxLen) (wn : name.size ≤ maxLen) :
    Calls Try.prog 6 #[.string s, .string name, .int .i64 state] w fun e w' => e = .returned (.bool true) ∧ Below w.heap.size w w' := by
  unfold maxLen at ws wn
  by_cases h400 : 400 < s.size
  · have h4 : (400 : Int) < s.size := by omega
    clear h400
    go_enter Try.func6, Try.ntmps6
    go_wp2_with fail
    refine (awake_any _).mono ?_
    rintro e w1 ⟨rfl, hb⟩
    have HB := Lib.hid hb
    clear hb
    go_wp2
    go_ret
    exact ⟨rfl, HB.out⟩
  · have h4 : ¬ (400 : Int) < s.size := by omega
    by_cases h40 : 40 < name.size
    · have h4' : (40 : Int) < name.size := by omega
      clear h400 h40
      go_enter Try.func6, Try.ntmps6
      go_wp2_with fail
      refine (awake_any _).mono ?_
      rintro e w1 ⟨rfl, hb⟩
      have HB := Lib.hid hb
      clear hb
      go_wp2
      go_ret
      exact ⟨rfl, HB.out⟩
    · have h4' : ¬ (40 : Int) < name.size := by omega
      have HA := Lib.hid (fun W => find_any s name state W (by omega) (by omega))
      have HB := Lib.hid (fun W => rfind_any s name state W (by omega) (by omega))
      have HC := Lib.hid (fun W => find_any s ⟨#[115, 99, 114, 105, 112, 116]⟩ 3 W (by omega) (by decide))
      have HD := Lib.hid (fun W => rfind_any s ⟨#[115, 99, 114, 105, 112, 116]⟩ 3 W (by omega) (by decide))
      generalize fndR s name state = R at *
      generalize fndR s ⟨#[115, 99, 114, 105, 112, 116]⟩ 3 = R3 at *
      clear h400 h40
      go_enter Try.func6, Try.ntmps6
      go_wp2_with fail
      refine (HA.out _).mono ?_
      rintro e w1 ⟨rfl, hbl⟩
      have HB1 : Hid (Below w.heap.size w w1) := Lib.hid hbl
      clear hbl
      go_wp2_with fail
      refine (HB.out _).mono ?_
      rintro e w2 ⟨rfl, hbl⟩
      have HB2 := below_step HB1 hbl
      clear hbl
      go_wp2_with fail
      refine (HC.out _).mono ?_
      rintro e w3 ⟨rfl, hbl⟩
      have HB3 := below_step HB2 hbl
      clear hbl
      go_wp2_with fail
      refine (HD.out _).mono ?_
      rintro e w4 ⟨rfl, hbl⟩
      have HB4 := below_step HB3 hbl
      clear hbl
      go_wp2_with fail
      refine (awake_any _).mono ?_
      rintro e w5 ⟨rfl, hbl⟩
      have HB5 := below_step HB4 hbl
      clear hbl
      go_wp2
      go_ret
      exact ⟨rfl, HB5.out⟩

set_option maxHeartbeats 3200000 in
theorem stands_walk (s name : ByteArray) (state : Int) (w : World) (ws : s.size ≤ maxLen) (wn : name.size ≤ maxLen) :
    Calls Try.prog 7 #[.string s, .string name, .int .i64 state] w fun e w' => e = .returned (.bool true) ∧ Below w.heap.size w w' := by
  unfold maxLen at ws wn
  have out : (h : (400 : Int) < s.size ∨ (¬ (400 : Int) < s.size ∧ (40 : Int) < name.size) ∨ (¬ (400 : Int) < s.size ∧ ¬ (40 : Int) < name.size ∧ state < 1) ∨ (¬ (400 : Int) < s.size ∧ ¬ (40 : Int) < name.size ∧ ¬ state < 1 ∧ 4 < state)) →
      Calls Try.prog 7 #[.string s, .string name, .int .i64 state] w fun e w' => e = .returned (.bool true) ∧ Below w.heap.size w w' := by
    intro h
    rcases h with h1 | ⟨h1, h2⟩ | ⟨h1, h2, h3⟩ | ⟨h1, h2, h3, h4⟩
    all_goals
      go_enter Try.func7, Try.ntmps7
      go_wp2_with fail
      refine (awake_any _).mono ?_
      rintro e w1 ⟨rfl, hb⟩
      have HB := Lib.hid hb
      clear hb
      go_wp2
      go_ret
      exact ⟨rfl, HB.out⟩
  by_cases hout : (400 : Int) < s.size ∨ (40 : Int) < name.size ∨ state < 1 ∨ 4 < state
  · exact out (by omega)
  · clear out
    have h1 : ¬ (400 : Int) < s.size := by omega
    have h2 : ¬ (40 : Int) < name.size := by omega
    have h3 : ¬ state < 1 := by omega
    have h4 : ¬ 4 < state := by omega
    have HA := Lib.hid (fun W => find_any s name state W (by omega) (by omega))
    obtain ⟨hn, hz⟩ := fndR_is s name state
    have hz2 := hz (by omega)
    generalize fndR s name state = R at *
    have hi0 : (0 : Int) ≤ (R : Int) := by omega
    have hi1 : (R : Int) ≤ (s.size : Int) := by omega
    clear hout hz
    by_cases he : R = s.size
    · subst he
      clear hz2
      go_enter Try.func7, Try.ntmps7
      go_wp2_with fail
      refine (HA.out _).mono ?_
      rintro e w1 ⟨rfl, hbl⟩
      have HB1 : Hid (Below w.heap.size w w1) := Lib.hid hbl
      clear hbl
      go_wp2_with fail
      refine (awake_any _).mono ?_
      rintro e w5 ⟨rfl, hbl⟩
      have HB5 := below_step HB1 hbl
      clear hbl
      go_wp2
      go_ret
      exact ⟨rfl, HB5.out⟩
    · have hcl : clB (s.extract R s.size) name = true := hz2.resolve_left he
      have HC := Lib.hid (fun W => rcloses_any (s.extract R s.size) name W (tl_le (by omega)) (by omega))
      rw [hcl] at HC
      have e1 : ((R : Int) == (s.size : Int)) = false := by rw [beq_eq_false_iff_ne]; omega
      clear hz2 hcl he
      go_enter Try.func7, Try.ntmps7
      go_wp2_with fail
      refine (HA.out _).mono ?_
      rintro e w1 ⟨rfl, hbl⟩
      have HB1 : Hid (Below w.heap.size w w1) := Lib.hid hbl
      clear hbl
      go_wp2_with fail
      refine (HC.out _).mono ?_
      rintro e w2 ⟨rfl, hbl⟩
      have HB2 := below_step HB1 hbl
      clear hbl
      go_wp2_with fail
      refine (awake_any _).mono ?_
      rintro e w5 ⟨rfl, hbl⟩
      have HB5 := below_step HB2 hbl
      clear hbl
      go_wp2
      go_ret
      exact ⟨rfl, HB5.out⟩
end Go.Proofs.Ytdljjfeojccidaa.Q
