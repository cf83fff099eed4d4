/-
  Bytes of a text at their places, as the walks of both Closes want them (of tag's texts, what raw needs).
-/
import Derived.Test.YtdljjfeojccidaaCPlain
import Derived.Test.YtdljjfeojccidaaIRtrim
import Derived.Test.YtdljjfeojccidaaShelf
import Derived.Lib.Hide
import Derived.Deep.QuietTactic
import Derived.BigQuiet
namespace Go.Proofs.Ytdljjfeojccidaa.C
theorem empty_yes {s : ByteArray} (h : s.size = 0) : s.toList = [] ∧ s.toList.isEmpty = true := by
  have : s.toList = [] := by rw [ByteArray.toList_eq]; exact List.eq_nil_of_length_eq_zero (by simpa using h)
  exact ⟨this, by rw [this]; rfl⟩
theorem empty_no {s : ByteArray} (h : s.size ≠ 0) : s.toList ≠ [] ∧ s.toList.isEmpty = false := by
  have : s.toList ≠ [] := by
    intro e; apply h
    have h1 : s.data.toList = [] := by rw [← ByteArray.toList_eq]; exact e
    rw [← size_list, h1]; rfl
  exact ⟨this, by cases hx : s.toList with
    | nil => exact absurd hx this
    | cons c r => rfl⟩
end Go.Proofs.Ytdljjfeojccidaa.C
namespace Go.Proofs.Ytdljjfeojccidaa.T
open Go.RowKit
def hitB (s : ByteArray) (k : Nat) (c : UInt8) : Bool := s.data.toList[k]? == some c
theorem hitB_lt {s : ByteArray} {k : Nat} {c : UInt8} (h : k < s.size) : hitB s k c = (((s[k].toNat : Nat) : Int) == ((c.toNat : Nat) : Int)) := by
  unfold hitB
  rw [C.get_at s k h, Bool.eq_iff_iff, beq_iff_eq, beq_iff_eq]
  constructor
  · intro e; injection e with e; rw [e]
  · intro e; rw [UInt8.toNat_inj.1 (by omega : s[k].toNat = c.toNat)]
theorem hitB_end {s : ByteArray} {k : Nat} {c : UInt8} (h : s.size ≤ k) : hitB s k c = false := by
  unfold hitB
  rw [List.getElem?_eq_none (by rw [C.size_list]; exact h)]; rfl
theorem hitB_iff {s : ByteArray} {k : Nat} {c : UInt8} : hitB s k c = true ↔ s.data.toList[k]? = some c := by unfold hitB; rw [beq_iff_eq]
theorem hit_lt {s : ByteArray} {k : Nat} {c : UInt8} (h : hitB s k c = true) : k < s.size := by
  have := (List.getElem?_eq_some_iff.1 (hitB_iff.1 h)).1
  rw [C.size_list] at this; exact this
theorem pre_two (s : ByteArray) : Lib.hasPrefix s.data.toList [60, 47] = (hitB s 0 60 && hitB s 1 47) := by
  unfold hitB Lib.hasPrefix
  generalize s.data.toList = l
  match l with
  | [] => rfl
  | [a] => simp [List.isPrefixOf]
  | a :: b :: r =>
    rw [Bool.eq_iff_iff]
    simp [List.isPrefixOf]
    constructor
    · rintro ⟨h1, h2⟩; exact ⟨h1.symm, h2.symm⟩
    · rintro ⟨h1, h2⟩; exact ⟨h1.symm, h2.symm⟩
end Go.Proofs.Ytdljjfeojccidaa.T
