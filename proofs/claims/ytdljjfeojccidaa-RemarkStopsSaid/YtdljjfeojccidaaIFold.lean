/-
  The walks of Fold, and of the document's own; and of 'awake', some answers that the document fixes.
-/
import Derived.Test.YtdljjfeojccidaaILower
import Derived.Deep.QuietTactic
import Derived.BigQuiet
import Derived.WalkSmall
namespace Go.Proofs.Ytdljjfeojccidaa.I
open Go.RowKit

/-- Have both the same small letters? -/
def foldB (a b : ByteArray) : Bool := (lowS a).toList == (lowS b).toList

theorem foldB_eq (a b : ByteArray) : foldB a b = (lowL a.data.toList == lowL b.data.toList) := by
  unfold foldB; rw [ByteArray.toList_eq, ByteArray.toList_eq, lowS_list, lowS_list]
theorem foldB_comm (a b : ByteArray) : foldB a b = foldB b a := by
  rw [foldB_eq, foldB_eq]; exact Bool.beq_comm
theorem foldB_low (s : ByteArray) : foldB (lowS s) s = true := by
  rw [foldB_eq, lowS_list, lowL_idem]; simp
theorem foldB_len {a b : ByteArray} (h : a.size ≠ b.size) : foldB a b = false := by
  rw [foldB_eq]
  cases hx : lowL a.data.toList == lowL b.data.toList with
  | false => rfl
  | true =>
    exfalso
    have := congrArg List.length (eq_of_beq hx)
    simp [lowL] at this
    exact h this
theorem foldB_bad {a b : ByteArray} {k : Nat} (ha : k < a.size) (hb : k < b.size) (h : smI (a[k].toNat : Int) ≠ smI (b[k].toNat : Int)) : foldB a b = false := by
  rw [foldB_eq]
  cases hx : lowL a.data.toList == lowL b.data.toList with
  | false => rfl
  | true =>
    exfalso
    have e := congrArg (fun l : List UInt8 => l[k]?) (eq_of_beq hx)
    simp only [lowL, List.getElem?_map] at e
    rw [List.getElem?_eq_getElem (by simpa using ha), List.getElem?_eq_getElem (by simpa using hb)] at e
    have e2 := congrArg (fun c : UInt8 => (c.toNat : Int)) (Option.some.inj e)
    simp only [lowB_nat] at e2
    exact h e2
theorem foldB_good {a b : ByteArray} (hs : a.size = b.size) (h : ∀ k (ha : k < a.size) (hb : k < b.size), smI (a[k].toNat : Int) = smI (b[k].toNat : Int)) : foldB a b = true := by
  rw [foldB_eq]
  have : lowL a.data.toList = lowL b.data.toList := by
    apply List.ext_getElem
    · simpa [lowL] using hs
    · intro k h1 h2
      simp only [lowL, List.getElem_map]
      apply byte_inj
      rw [lowB_nat, lowB_nat]
      have h1' : k < a.size := by simpa [lowL] using h1
      exact h k h1' (by omega)
  rw [this]; simp

set_option maxHeartbeats 1600000 in
theorem fold_any (a b : ByteArray) (w : World) (hsa : a.size ≤ maxLen) :
    Calls Try.prog 19 #[.string a, .string b] w fun e w' => e = .returned (.bool (foldB a b)) ∧ Below w.heap.size w w' := by
  unfold maxLen at hsa
  by_cases hne : (a.size : Int) = b.size
  · have hez : a.size = b.size := by omega
    have HZ := Lib.hid hez
    have hne' : ((a.size : Int) != (b.size : Int)) = false := by simp [hez]
    clear hez hne
    go_enter Try.func19, Try.ntmps19
    go_wp2
    go_loopw [5] (fun i wr => ∃ k : Nat, k ≤ a.size ∧ i = .int .i64 k ∧ (∀ j (h : j < a.size) (h2 : j < b.size), j < k → smI (a[j].toNat : Int) = smI (b[j].toNat : Int)) ∧ Below w.heap.size w wr) (fun i _ => a.size - (intOf i).toNat)
    case atStart => exact ⟨0, Nat.zero_le _, rfl, fun _ _ _ h => absurd h (Nat.not_lt_zero _), Below.refl _ _⟩
    case round =>
      obtain ⟨k, hk, rfl, hall, hbel⟩ := hrel
      have HA := Lib.hid hall
      have HB := Lib.hid hbel
      clear hall hbel
      by_cases hlt : k < a.size
      · have hlb : k < b.size := by have := HZ.out; omega
        have c1 := a[k].toNat_lt
        have c2 := b[k].toNat_lt
        by_cases hq : smI (a[k].toNat : Int) = smI (b[k].toNat : Int)
        · have hq' : (smI (a[k].toNat : Int) != smI (b[k].toNat : Int)) = false := by simp [hq]
          have HQ := Lib.hid hq
          clear hq
          go_wp2_with fail
          go_quiet ((go_at_call 39; exact Calls.quiet_of_same ((small_any _ _ (by omega) (by omega)).mono fun _ _ h => ⟨h.1, h.2.symm⟩)))
          go_wp2
          go_roundw
          case rel => exact ⟨k + 1, by omega, by go_num, fun j h h2 hj => by
            rcases Nat.lt_or_eq_of_le (Nat.le_of_lt_succ hj) with h1 | h1
            · exact HA.out j h h2 h1
            · subst h1; exact HQ.out, below_drewN HB.out _⟩
          case measure => simp [intOf]; omega
        · have hq' : (smI (a[k].toNat : Int) != smI (b[k].toNat : Int)) = true := by simpa using hq
          have HQ := Lib.hid (foldB_bad hlt hlb hq)
          clear hq
          go_wp2_with fail
          go_quiet ((go_at_call 39; exact Calls.quiet_of_same ((small_any _ _ (by omega) (by omega)).mono fun _ _ h => ⟨h.1, h.2.symm⟩)))
          go_wp2
          go_ret
          exact ⟨ret_bool HQ.out.symm, below_drewN HB.out _⟩
      · have HQ := Lib.hid (foldB_good HZ.out fun j h h2 => HA.out j h h2 (by omega))
        go_wp2
        go_ret
        exact ⟨ret_bool HQ.out.symm, HB.out⟩
  · have hne' : ((a.size : Int) != (b.size : Int)) = true := by simpa using hne
    have HQ := Lib.hid (foldB_len (a := a) (b := b) (by omega))
    go_enter Try.func19, Try.ntmps19
    go_wp2
    go_ret
    exact ⟨ret_bool HQ.out.symm, Below.refl _ _⟩

theorem rfold_any (a b : ByteArray) (w : World) (hsa : a.size ≤ maxLen) (hsb : b.size ≤ maxLen) :
    Calls Try.prog 26 #[.string a, .string b] w fun e w' => e = .returned (.bool (foldB a b)) ∧ Below w.heap.size w w' := by
  go_enter Try.func26, Try.ntmps26
  go_wp2_with fail
  refine (rlower_any a _ hsa).mono ?_
  rintro e w1 ⟨rfl, hb1⟩
  have HB1 := Lib.hid hb1
  clear hb1
  go_wp2_with fail
  refine (rlower_any b _ hsb).mono ?_
  rintro e w2 ⟨rfl, hb2⟩
  have HB2 := Lib.hid (HB1.out.trans (hb2.mono HB1.out.size))
  clear hb2
  go_wp2
  go_ret
  exact ⟨rfl, HB2.out⟩
end Go.Proofs.Ytdljjfeojccidaa.I
