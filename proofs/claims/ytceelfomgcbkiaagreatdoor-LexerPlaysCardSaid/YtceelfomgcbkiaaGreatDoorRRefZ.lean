/-
  The walks of the document's own find, begins, bare and bogus.
-/
import Derived.Test.YtceelfomgcbkiaaGreatDoorGR1Z
import Derived.LoopTactic
namespace Go.Proofs.YtceelfomgcbkiaaGreatDoor.R
open Go.RowKit

theorem pre_take : ∀ (p l : List UInt8), pre p l = (decide (p.length ≤ l.length) && l.take p.length == p)
  | [], l => by simp
  | a :: p, [] => by simp
  | a :: p, b :: l => by
    have ih := pre_take p l
    rw [Bool.eq_iff_iff] at ih ⊢
    simp only [List.isPrefixOf, Bool.and_eq_true, decide_eq_true_eq, beq_iff_eq, List.length_cons, List.take_succ_cons, List.cons.injEq, Nat.add_le_add_iff_right] at ih ⊢
    constructor
    · rintro ⟨h1, h2⟩; have := ih.1 h2; exact ⟨this.1, h1.symm, this.2⟩
    · rintro ⟨h1, h2, h3⟩; exact ⟨h2.symm, ih.2 ⟨h1, h3⟩⟩
theorem pre_short {p l : List UInt8} (h : l.length < p.length) : pre p l = false := by
  rw [pre_take, decide_eq_false (by omega)]; rfl
/-- A piece of a text held against another one. -/
theorem pre_piece {s p : ByteArray} {i : Nat} (h : i + p.size ≤ s.size) : ((s.extract i (i + p.size)).toList == p.toList) = pre p.data.toList (s.data.toList.drop i) := by
  rw [pre_take, C.size_list, List.length_drop, C.size_list, decide_eq_true (by omega), Bool.true_and, ByteArray.toList_eq, ByteArray.toList_eq, C.ext_list, List.drop_take, show i + p.size - i = p.size by omega]

theorem rbegins_any (s p : ByteArray) (w : World) :
    Calls Tryz.prog 52 #[.string s, .string p] w fun e w' => e = .returned (.bool (pre p.data.toList s.data.toList)) ∧ w = w' := by
  by_cases h : p.size ≤ s.size
  · have HF : Hid (((s.extract 0 p.size).toList == p.toList) = pre p.data.toList s.data.toList) := Lib.hid (by
      have := pre_piece (s := s) (p := p) (i := 0) (by omega)
      rw [Nat.zero_add, List.drop_zero] at this; exact this)
    have h1 : (0 : Int) ≤ (p.size : Int) := by omega
    have h2 : (p.size : Int) ≤ (s.size : Int) := by omega
    have hd : decide ((p.size : Int) ≤ (s.size : Int)) = true := by simpa using h
    go_enter Tryz.func52, Tryz.ntmps52
    go_wp2
    go_ret
    exact ⟨ret_bool HF.out, rfl⟩
  · have HF : Hid (false = pre p.data.toList s.data.toList) := Lib.hid (pre_short (by rw [C.size_list, C.size_list]; omega)).symm
    have hd : decide ((p.size : Int) ≤ (s.size : Int)) = false := by simpa using h
    go_enter Tryz.func52, Tryz.ntmps52
    go_wp2
    go_ret
    exact ⟨ret_bool HF.out, rfl⟩

set_option maxHeartbeats 1600000 in
theorem rfind_any (s p : ByteArray) (k : Nat) (w : World) (hk : k ≤ s.size) (hp : 1 ≤ p.size) (hs : s.size ≤ 10000) (hpz : p.size ≤ 10000) :
    Calls Tryz.prog 56 #[.string s, .string p, .int .i64 (k : Nat)] w fun e w' => e = .returned (.int .i64 (fndF p.data.toList s.data.toList k : Nat)) ∧ w = w' := by
  have HYes := Lib.hid (fun i h1 h2 h3 h4 => fndF_is p.data.toList s.data.toList k i h1 h2 h3 h4)
  have HPc := Lib.hid (fun i h => pre_piece (s := s) (p := p) (i := i) h)
  have HSh := Lib.hid (fun i (h : s.size < i + p.size) => pre_short (p := p.data.toList) (l := s.data.toList.drop i) (by rw [List.length_drop, C.size_list, C.size_list]; omega))
  generalize fndF p.data.toList s.data.toList k = R at *
  go_enter Tryz.func56, Tryz.ntmps56
  go_wp2
  go_loop [7] (fun v => ∃ i : Nat, k ≤ i ∧ i ≤ s.size ∧ v = .int .i64 i ∧ ∀ j, k ≤ j → j < i → pre p.data.toList (s.data.toList.drop j) = false) (fun v => s.size - (intOf v).toNat)
  case atStart => exact ⟨k, Nat.le_refl _, hk, rfl, fun j h1 h2 => by omega⟩
  case round =>
    obtain ⟨i, hki, hi, rfl, hno⟩ := hrel
    have HNo := Lib.hid hno
    clear hno
    by_cases hr : i + p.size ≤ s.size
    · have hr1 : (i : Int) + (p.size : Int) ≤ (s.size : Int) := by omega
      have hi0 : (0 : Int) ≤ (i : Int) := by omega
      have hi1 : (i : Int) ≤ (i : Int) + (p.size : Int) := by omega
      obtain ⟨q, hq⟩ : ∃ q, q = i + p.size := ⟨_, rfl⟩
      have eQ : (i : Int) + (p.size : Int) = (q : Int) := by omega
      have hq1 : (q : Int) ≤ (s.size : Int) := by omega
      have hq2 : (i : Int) ≤ (q : Int) := by omega
      have HP := Lib.hid (HPc.out i hr)
      rw [← hq] at HP
      cases hx : pre p.data.toList (s.data.toList.drop i) with
      | true =>
        have HF : Hid ((i : Int) = (R : Int)) := Lib.hid (by rw [HYes.out i hki (by rw [C.size_list]; omega) HNo.out (.inr hx)])
        have ex : ((s.extract i q).toList == p.toList) = true := by rw [HP.out, hx]
        clear hx HP HPc HSh HYes hq hr1 hi1
        go_wp2
        go_ret
        exact ⟨ret_int HF.out, rfl⟩
      | false =>
        have HN : Hid (∀ j, k ≤ j → j < i + 1 → pre p.data.toList (s.data.toList.drop j) = false) := Lib.hid (fun j h1 h2 => by
          rcases Nat.lt_or_eq_of_le (Nat.le_of_lt_succ h2) with h3 | h3
          · exact HNo.out j h1 h3
          · subst h3; exact hx)
        have ex : ((s.extract i q).toList == p.toList) = false := by rw [HP.out, hx]
        clear hx HP HPc HSh HYes hr1 hi1 hq
        go_wp2
        go_round
        case rel => exact ⟨i + 1, by omega, by omega, by go_num, HN.out⟩
        case measure => simp [intOf]; omega
    · have hr1 : ¬ (i : Int) + (p.size : Int) ≤ (s.size : Int) := by omega
      have HF : Hid ((s.size : Int) = (R : Int)) := Lib.hid (by
        rw [HYes.out s.size hk (by rw [C.size_list]; exact Nat.le_refl _) (fun j h1 h2 => by
          rcases Nat.lt_or_ge j i with h3 | h3
          · exact HNo.out j h1 h3
          · exact HSh.out j (by omega)) (.inl (by rw [C.size_list]))])
      clear HPc HSh HYes
      go_wp2
      go_ret
      exact ⟨ret_int HF.out, rfl⟩
end Go.Proofs.YtceelfomgcbkiaaGreatDoor.R
