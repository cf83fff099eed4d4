/-
  The walk of text.
-/
import Derived.Test.YtdljjfeojccidaaQLeaf
namespace Go.Proofs.Ytdljjfeojccidaa.Q
open Go.RowKit
open Go.Proofs.Ytdljjfeojccidaa.T (clB closes_any rcloses_any)

theorem ret_int {a b : Int} (h : a = b) : Ending.returned (.int .i64 a) = .returned (.int .i64 b) := by rw [h]
theorem tl_le {s : ByteArray} {k n : Nat} (h : s.size ≤ n) : (s.extract k s.size).size ≤ n := by rw [ByteArray.size_extract]; omega
def clN (s name : ByteArray) (k : Nat) : Bool := clB (s.extract k s.size) name
theorem fndR_one (s name : ByteArray) : fndR s name 1 = fst (clN s name) s.size 0 := rfl
theorem fndR_two (s name : ByteArray) : fndR s name 2 = fst (clN s name) s.size 0 := rfl
theorem fndR_three (s name : ByteArray) : fndR s name 3 = scr s name (s.size + 1) 0 0 := rfl
theorem fndR_zero (s name : ByteArray) : fndR s name 0 = 0 := rfl
theorem fndR_else (s name : ByteArray) (state : Int) (h0 : state ≠ 0) (h1 : state ≠ 1) (h2 : state ≠ 2) (h3 : state ≠ 3) : fndR s name state = s.size := by
  unfold fndR
  rw [if_neg h0, if_neg (by omega), if_neg h3]

set_option maxHeartbeats 1600000 in
theorem text_any (s name : ByteArray) (w : World) (hs : s.size ≤ 10000) (hn : name.size ≤ 10000) :
    Calls Try.prog 34 #[.string s, .string name] w fun e w' => e = .returned (.int .i64 (fst (clN s name) s.size 0 : Nat)) ∧ Below w.heap.size w w' := by
  obtain ⟨R, hR⟩ : ∃ R, R = fst (clN s name) s.size 0 := ⟨_, rfl⟩
  rw [← hR]
  have HR := Lib.hid hR
  clear hR
  go_enter Try.func34, Try.ntmps34
  go_wp2
  go_loopw [8] (fun i wr => ∃ k : Nat, k ≤ s.size ∧ i = .int .i64 k ∧ R = fst (clN s name) (s.size - k) k ∧ Below w.heap.size w wr) (fun i _ => s.size - (intOf i).toNat)
  case atStart => exact ⟨0, Nat.zero_le _, rfl, HR.out, Below.refl _ _⟩
  case round =>
    obtain ⟨k, hk, rfl, hh, hbel⟩ := hrel
    have HH := Lib.hid hh
    have HB := Lib.hid hbel
    clear hh hbel
    by_cases hlt : k < s.size
    · have hi0 : (0 : Int) ≤ (k : Int) := by omega
      have hi1 : (k : Int) ≤ (s.size : Int) := by omega
      have HC := Lib.hid (fun W => closes_any (s.extract k s.size) name W (tl_le hs) hn)
      cases hq : clB (s.extract k s.size) name with
      | true =>
        have HF := Lib.hid (HH.out.trans (fst_yes (by omega) hq))
        rw [hq] at HC
        clear hq
        go_wp2_with fail
        refine (HC.out _).mono ?_
        rintro e w1 ⟨rfl, hbl⟩
        have HB1 : Hid (Below w.heap.size w w1) := Lib.hid (HB.out.trans (hbl.mono HB.out.size))
        clear hbl
        go_wp2
        go_ret
        exact ⟨ret_int (by rw [HF.out]), HB1.out⟩
      | false =>
        have HF := Lib.hid (HH.out.trans (fst_no (by omega) hq))
        rw [hq] at HC
        clear hq
        go_wp2_with fail
        refine (HC.out _).mono ?_
        rintro e w1 ⟨rfl, hbl⟩
        have HB1 : Hid (Below w.heap.size w w1) := Lib.hid (HB.out.trans (hbl.mono HB.out.size))
        clear hbl
        go_wp2
        go_roundw
        case rel => exact ⟨k + 1, by omega, by go_num, HF.out, HB1.out⟩
        case measure => simp [intOf]; omega
    · obtain rfl : k = s.size := by omega
      have HF : Hid (R = s.size) := Lib.hid (by rw [HH.out, Nat.sub_self]; rfl)
      go_wp2
      go_ret
      exact ⟨ret_int (by rw [HF.out]), HB.out⟩

set_option maxHeartbeats 1600000 in
theorem rtext_any (s name : ByteArray) (state : Int) (hst : state = 1 ∨ state = 2) (w : World) (hs : s.size ≤ 10000) (hn : name.size ≤ 10000) :
    Calls Try.prog 16 #[.string s, .string name, .int .i64 state] w fun e w' => e = .returned (.int .i64 (fst (clN s name) s.size 0 : Nat)) ∧ Below w.heap.size w w' := by
  obtain ⟨R, hR⟩ : ∃ R, R = fst (clN s name) s.size 0 := ⟨_, rfl⟩
  rw [← hR]
  have HR := Lib.hid hR
  clear hR
  have a0 : (state == 0) = false := by rw [beq_eq_false_iff_ne]; omega
  have a3 : (state == 3) = false := by rw [beq_eq_false_iff_ne]; omega
  have a12 : ((state != 1) = true ∧ (state != 2) = false) ∨ (state != 1) = false := by
    rcases hst with rfl | rfl
    · exact .inr rfl
    · exact .inl ⟨rfl, rfl⟩
  clear hst
  have key : ∀ b : Bool, (b = true → (state != 2) = false) → (state != 1) = b →
      Calls Try.prog 16 #[.string s, .string name, .int .i64 state] w fun e w' => e = .returned (.int .i64 (R : Nat)) ∧ Below w.heap.size w w' := by
    intro b h2 h1
    cases b
    all_goals
      try have h2' := h2 rfl
      clear h2
      go_enter Try.func16, Try.ntmps16
      go_wp2
      go_loopw [7] (fun i wr => ∃ k : Nat, k ≤ s.size ∧ i = .int .i64 k ∧ R = fst (clN s name) (s.size - k) k ∧ Below w.heap.size w wr) (fun i _ => s.size - (intOf i).toNat)
      case atStart => exact ⟨0, Nat.zero_le _, rfl, HR.out, Below.refl _ _⟩
      case round =>
        obtain ⟨k, hk, rfl, hh, hbel⟩ := hrel
        have HH := Lib.hid hh
        have HB := Lib.hid hbel
        clear hh hbel
        by_cases hlt : k < s.size
        · have hi0 : (0 : Int) ≤ (k : Int) := by omega
          have hi1 : (k : Int) ≤ (s.size : Int) := by omega
          have HC := Lib.hid (fun W => rcloses_any (s.extract k s.size) name W (tl_le hs) hn)
          cases hq : clB (s.extract k s.size) name with
          | true =>
            have HF := Lib.hid (HH.out.trans (fst_yes (by omega) hq))
            rw [hq] at HC
            clear hq
            go_wp2_with fail
            refine (HC.out _).mono ?_
            rintro e w1 ⟨rfl, hbl⟩
            have HB1 : Hid (Below w.heap.size w w1) := Lib.hid (HB.out.trans (hbl.mono HB.out.size))
            clear hbl
            go_wp2
            go_ret
            exact ⟨ret_int (by rw [HF.out]), HB1.out⟩
          | false =>
            have HF := Lib.hid (HH.out.trans (fst_no (by omega) hq))
            rw [hq] at HC
            clear hq
            go_wp2_with fail
            refine (HC.out _).mono ?_
            rintro e w1 ⟨rfl, hbl⟩
            have HB1 : Hid (Below w.heap.size w w1) := Lib.hid (HB.out.trans (hbl.mono HB.out.size))
            clear hbl
            go_wp2
            go_roundw
            case rel => exact ⟨k + 1, by omega, by go_num, HF.out, HB1.out⟩
            case measure => simp [intOf]; omega
        · obtain rfl : k = s.size := by omega
          have HF : Hid (R = s.size) := Lib.hid (by rw [HH.out, Nat.sub_self]; rfl)
          go_wp2
          go_ret
          exact ⟨ret_int (by rw [HF.out]), HB.out⟩
  rcases a12 with ⟨h1, h2⟩ | h1
  · exact key true (fun _ => h2) h1
  · exact key false (fun h => by cases h) h1
end Go.Proofs.Ytdljjfeojccidaa.Q
