/-
  The walks of Read, and of the document's own.
-/
import Derived.Test.YtkfaenhidjekdaaDoorCName
namespace Go.Proofs.YtkfaenhidjekdaaDoor.C
open Go.RowKit

theorem beq_swap (a c : UInt8) : (a == c) = decide (c = a) := by rw [Bool.eq_iff_iff, beq_iff_eq, decide_eq_true_iff]; exact ⟨Eq.symm, Eq.symm⟩
theorem pre_one (l : List UInt8) : Lib.hasPrefix l [38] = decide (l[0]? = some 38) := by
  cases l with
  | nil => rfl
  | cons c l => simp [Lib.hasPrefix, List.isPrefixOf, beq_swap]
theorem pre_two (l : List UInt8) : Lib.hasPrefix l [38, 35] = (decide (l[0]? = some 38) && decide (l[1]? = some 35)) := by
  cases l with
  | nil => rfl
  | cons c l =>
    cases l with
    | nil => simp [Lib.hasPrefix, List.isPrefixOf]
    | cons d l => simp [Lib.hasPrefix, List.isPrefixOf, beq_swap]
theorem rd_none {l : List UInt8} {value : Bool} (h : l[0]? ≠ some 38) : rd l value = noRef := by unfold rd; rw [if_neg h]
theorem rd_num {l : List UInt8} {value : Bool} (h : l[0]? = some 38) (h2 : l[1]? = some 35) : rd l value = rdNum l := by unfold rd; rw [if_pos h, if_pos h2]
theorem rd_name {l : List UInt8} {value : Bool} (h : l[0]? = some 38) (h2 : l[1]? ≠ some 35) : rd l value = rdN l value (min l.length 9) := by unfold rd; rw [if_pos h, if_neg h2]

set_option maxHeartbeats 1600000 in
theorem read_any (s : ByteArray) (value : Bool) (w : World) (hT : StAt w) (hs : s.size ≤ 1000000) :
    Calls Tryd.prog 61 #[.string s, .bool value] w (RefPost (rd s.data.toList value) w) := by
  have HP1 := Lib.hid (fun W => Tryd.strings_HasPrefix s ⟨#[38]⟩ W)
  have HP2 := Lib.hid (fun W => Tryd.strings_HasPrefix s ⟨#[38, 35]⟩ W)
  replace HP1 : Hid (∀ W, Calls Tryd.prog 31 #[.string s, .string ⟨#[38]⟩] W fun e w' => e = .returned (.bool (decide (s.data.toList[0]? = some 38))) ∧ w' = W) := Lib.hid (fun W => by
    have := HP1.out W
    rw [show (ByteArray.mk #[38]).data.toList = [38] from rfl, pre_one] at this; exact this)
  replace HP2 : Hid (∀ W, Calls Tryd.prog 31 #[.string s, .string ⟨#[38, 35]⟩] W fun e w' => e = .returned (.bool (decide (s.data.toList[0]? = some 38) && decide (s.data.toList[1]? = some 35))) ∧ w' = W) := Lib.hid (fun W => by
    have := HP2.out W
    rw [show (ByteArray.mk #[38, 35]).data.toList = [38, 35] from rfl, pre_two] at this; exact this)
  by_cases h0 : s.data.toList[0]? = some 38
  · have h1s : 1 ≤ s.size := by
      have := (List.getElem?_eq_some_iff.1 h0).1
      rw [size_list] at this; omega
    rw [decide_eq_true h0] at HP1 HP2
    by_cases h1 : s.data.toList[1]? = some 35
    · have h2s : 2 ≤ s.size := by
        have := (List.getElem?_eq_some_iff.1 h1).1
        rw [size_list] at this; omega
      rw [decide_eq_true h1] at HP2
      rw [rd_num h0 h1]
      have HN := Lib.hid (number_any s w hT h2s hs)
      clear h0 h1 hT
      generalize rdNum s.data.toList = R at *
      go_enter Tryd.func61, Tryd.ntmps61
      go_wp2_with fail
      refine (HP1.out _).mono ?_
      rintro e w' ⟨rfl, rfl⟩
      go_wp2_with fail
      refine (HP2.out _).mono ?_
      rintro e w' ⟨rfl, rfl⟩
      go_wp2_with fail
      refine HN.out.mono ?_
      rintro e w1 ⟨rfl, hb⟩
      have HB := Lib.hid hb
      clear hb
      go_wp2
      go_ret2
      exact ⟨rfl, HB.out⟩
    · rw [decide_eq_false h1] at HP2
      rw [rd_name h0 h1]
      have HN := Lib.hid (readName_any s value w hs)
      clear h0 h1 hT
      generalize rdN s.data.toList value (min s.data.toList.length 9) = R at *
      go_enter Tryd.func61, Tryd.ntmps61
      go_wp2_with fail
      refine (HP1.out _).mono ?_
      rintro e w' ⟨rfl, rfl⟩
      go_wp2_with fail
      refine (HP2.out _).mono ?_
      rintro e w' ⟨rfl, rfl⟩
      go_wp2_with fail
      refine HN.out.mono ?_
      rintro e w1 ⟨rfl, hb⟩
      have HB := Lib.hid hb
      clear hb
      go_wp2
      go_ret2
      exact ⟨rfl, HB.out⟩
  · rw [decide_eq_false h0] at HP1
    have HF := Lib.hid (rd_none (value := value) h0)
    clear h0 hT
    go_enter Tryd.func61, Tryd.ntmps61
    go_wp2_with fail
    refine (HP1.out _).mono ?_
    rintro e w' ⟨rfl, rfl⟩
    go_wp2
    go_ret2
    exact ⟨ret_none HF.out, Below.refl _ _⟩
end Go.Proofs.YtkfaenhidjekdaaDoor.C
