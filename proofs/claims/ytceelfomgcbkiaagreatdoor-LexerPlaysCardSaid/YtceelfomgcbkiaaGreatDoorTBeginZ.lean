/-
  The walk of begin.
-/
import Derived.Test.YtceelfomgcbkiaaGreatDoorTThroughZ
namespace Go.Proofs.YtceelfomgcbkiaaGreatDoor.T
open Go.RowKit
open Go.Proofs.YtceelfomgcbkiaaGreatDoor.I (leI letter_any)

theorem pre_two (s : ByteArray) : Lib.hasPrefix s.data.toList [60, 47] = (hitB s 0 60 && hitB s 1 47) := by
  unfold hitB Lib.hasPrefix
  generalize s.data.toList = l
  match l with
  | [] => rfl
  | [a] => simp [List.isPrefixOf]
  | a :: b :: r =>
    rw [Bool.eq_iff_iff]
    simp [List.isPrefixOf]
    constructor
    · rintro ⟨h1, h2⟩; exact ⟨h1.symm, h2.symm⟩
    · rintro ⟨h1, h2⟩; exact ⟨h1.symm, h2.symm⟩
def bgN (l : List UInt8) : Nat := if begins l = true then fromB l else 0
theorem ret_pair {a b : Int} (h : a = b) : Ending.returned (.tuple #[.int .i64 a, .int .i64 a]) = .returned (.tuple #[.int .i64 b, .int .i64 b]) := by rw [h]
theorem begins_at {s : ByteArray} {k : Nat} (hf : fromB s.data.toList = k) (h0 : hitB s 0 60 = true) (hk : k < s.size) : begins s.data.toList = leI (s[k].toNat : Int) := by
  unfold begins
  rw [hf, C.get_at s k hk, decide_eq_true (hitB_iff.1 h0)]; rfl
theorem begins_no {s : ByteArray} (h0 : hitB s 0 60 = false) : begins s.data.toList = false := by
  unfold begins
  rw [decide_eq_false (hitB_no.1 h0)]; rfl
theorem begins_short {s : ByteArray} (h : s.size ≤ fromB s.data.toList) : begins s.data.toList = false := by
  unfold begins
  have e : s.data.toList[fromB s.data.toList]? = none := List.getElem?_eq_none (by rw [C.size_list]; exact h)
  rw [e, Bool.and_false]
theorem from_two {s : ByteArray} (h : hitB s 1 47 = true) : fromB s.data.toList = 2 := by unfold fromB; rw [if_pos (hitB_iff.1 h)]
theorem from_one {s : ByteArray} (h : hitB s 1 47 = false) : fromB s.data.toList = 1 := by unfold fromB; rw [if_neg (hitB_no.1 h)]
theorem bgN_no {l : List UInt8} (h : begins l = false) : bgN l = 0 := by unfold bgN; rw [if_neg (by rw [h]; decide)]
theorem bgN_yes {l : List UInt8} (h : begins l = true) : bgN l = fromB l := by unfold bgN; rw [if_pos h]

set_option maxHeartbeats 1600000 in
theorem begin_any (s : ByteArray) (w : World) (hs : s.size ≤ 1000000) : Calls Tryz.prog 40 #[.string s] w fun e w' => e = .returned (.tuple #[.int .i64 (bgN s.data.toList), .int .i64 (bgN s.data.toList)]) ∧ w = w' := by
  have HP := Lib.hid (fun W => Tryz.strings_HasPrefix s ⟨#[60, 47]⟩ W)
  have e2 : ((⟨#[60, 47]⟩ : ByteArray).data.toList) = [60, 47] := rfl
  rw [e2, pre_two] at HP
  clear e2
  by_cases h0 : hitB s 0 60 = true
  · have hl0 := hit_lt h0
    have g0 := hitB_lt (c := 60) hl0
    rw [h0] at g0
    have e60 : ((s[0].toNat : Int) == 60) = true := g0.symm
    have n60 : ((s[0].toNat : Int) != 60) = false := by rw [bne, e60]; rfl
    have b0 := s[0].toNat_lt
    by_cases h1 : hitB s 1 47 = true
    · have hl1 := hit_lt h1
      have hf := from_two h1
      rw [h0, h1, Bool.and_true] at HP
      clear g0
      by_cases h2 : 2 < s.size
      · have hb := begins_at hf h0 h2
        have b2 := s[2].toNat_lt
        have HL := Lib.hid (fun W => letter_any (s[2].toNat : Int) W (by omega) (by omega))
        rw [← hb] at HL
        by_cases hq : begins s.data.toList = true
        · have HF : Hid ((2 : Int) = (bgN s.data.toList : Int)) := Lib.hid (by rw [bgN_yes hq, hf]; rfl)
          rw [hq] at HL
          clear hq hb hf h0 h1
          go_enter Tryz.func40, Tryz.ntmps40
          go_wp2_with (first | (go_at_call 63; refine (HP.out _).mono ?_; rintro e w' ⟨rfl, rfl⟩) | (go_at_call 72; refine (HL.out _).mono ?_; rintro e w' ⟨rfl, rfl⟩))
          go_ret2
          exact ⟨ret_pair HF.out, rfl⟩
        · have hq2 : begins s.data.toList = false := by simpa using hq
          have HF : Hid ((0 : Int) = (bgN s.data.toList : Int)) := Lib.hid (by rw [bgN_no hq2]; rfl)
          rw [hq2] at HL
          clear hq hq2 hb hf h0 h1
          go_enter Tryz.func40, Tryz.ntmps40
          go_wp2_with (first | (go_at_call 63; refine (HP.out _).mono ?_; rintro e w' ⟨rfl, rfl⟩) | (go_at_call 72; refine (HL.out _).mono ?_; rintro e w' ⟨rfl, rfl⟩))
          go_ret2
          exact ⟨ret_pair HF.out, rfl⟩
      · have HF : Hid ((0 : Int) = (bgN s.data.toList : Int)) := Lib.hid (by rw [bgN_no (begins_short (by omega))]; rfl)
        clear hf h0 h1
        go_enter Tryz.func40, Tryz.ntmps40
        go_wp2_with (go_at_call 63; refine (HP.out _).mono ?_; rintro e w' ⟨rfl, rfl⟩)
        go_ret2
        exact ⟨ret_pair HF.out, rfl⟩
    · have h1' : hitB s 1 47 = false := by simpa using h1
      have hf := from_one h1'
      rw [h0, h1', Bool.and_false] at HP
      clear g0
      by_cases h2 : 1 < s.size
      · have hb := begins_at hf h0 h2
        have b2 := s[1].toNat_lt
        have HL := Lib.hid (fun W => letter_any (s[1].toNat : Int) W (by omega) (by omega))
        rw [← hb] at HL
        by_cases hq : begins s.data.toList = true
        · have HF : Hid ((1 : Int) = (bgN s.data.toList : Int)) := Lib.hid (by rw [bgN_yes hq, hf]; rfl)
          rw [hq] at HL
          clear hq hb hf h0 h1 h1'
          go_enter Tryz.func40, Tryz.ntmps40
          go_wp2_with (first | (go_at_call 63; refine (HP.out _).mono ?_; rintro e w' ⟨rfl, rfl⟩) | (go_at_call 72; refine (HL.out _).mono ?_; rintro e w' ⟨rfl, rfl⟩))
          go_ret2
          exact ⟨ret_pair HF.out, rfl⟩
        · have hq2 : begins s.data.toList = false := by simpa using hq
          have HF : Hid ((0 : Int) = (bgN s.data.toList : Int)) := Lib.hid (by rw [bgN_no hq2]; rfl)
          rw [hq2] at HL
          clear hq hq2 hb hf h0 h1 h1'
          go_enter Tryz.func40, Tryz.ntmps40
          go_wp2_with (first | (go_at_call 63; refine (HP.out _).mono ?_; rintro e w' ⟨rfl, rfl⟩) | (go_at_call 72; refine (HL.out _).mono ?_; rintro e w' ⟨rfl, rfl⟩))
          go_ret2
          exact ⟨ret_pair HF.out, rfl⟩
      · have HF : Hid ((0 : Int) = (bgN s.data.toList : Int)) := Lib.hid (by rw [bgN_no (begins_short (by omega))]; rfl)
        clear hf h0 h1 h1'
        go_enter Tryz.func40, Tryz.ntmps40
        go_wp2_with (go_at_call 63; refine (HP.out _).mono ?_; rintro e w' ⟨rfl, rfl⟩)
        go_ret2
        exact ⟨ret_pair HF.out, rfl⟩
  · have h0' : hitB s 0 60 = false := by simpa using h0
    rw [h0', Bool.false_and] at HP
    have HF : Hid ((0 : Int) = (bgN s.data.toList : Int)) := Lib.hid (by rw [bgN_no (begins_no h0')]; rfl)
    by_cases h2 : 1 < s.size
    · have g0 := hitB_lt (s := s) (c := 60) (k := 0) (by omega)
      rw [h0'] at g0
      have e60 : ((s[0].toNat : Int) == 60) = false := g0.symm
      have n60 : ((s[0].toNat : Int) != 60) = true := by rw [bne, e60]; rfl
      have b0 := s[0].toNat_lt
      clear g0 h0 h0'
      go_enter Tryz.func40, Tryz.ntmps40
      go_wp2_with (go_at_call 63; refine (HP.out _).mono ?_; rintro e w' ⟨rfl, rfl⟩)
      go_ret2
      exact ⟨ret_pair HF.out, rfl⟩
    · clear h0 h0'
      go_enter Tryz.func40, Tryz.ntmps40
      go_wp2_with (go_at_call 63; refine (HP.out _).mono ?_; rintro e w' ⟨rfl, rfl⟩)
      go_ret2
      exact ⟨ret_pair HF.out, rfl⟩
end Go.Proofs.YtceelfomgcbkiaaGreatDoor.T
