/-
  The walks of the functions on texts that only read: Trim, Blank, Fold, and the document's own.
-/
import Derived.Test.YtljpiamlbdknlaaLeaf2
import Derived.LoopTactic
import Derived.Laws.RangeAny
import Derived.Laws.RangeString
import Derived.WalkSpells
import Derived.Lib.Hide
namespace Go.Proofs.Ytljpiamlbdknlaa
open Go.RowKit

theorem rblank_any (s : ByteArray) (w : World) (hs : s.size ≤ maxLen) :
    Calls Try.prog 17 #[.string s] w fun e w' => e = .returned (.bool (blS s)) ∧ w = w' := by
  unfold maxLen at hs
  go_enter Try.func17, Try.ntmps17
  go_wp2
  go_loop [3] (fun i => ∃ k : Nat, k ≤ s.size ∧ i = .int .i64 k ∧ (∀ j (h : j < s.size), j < k → spC s[j] = true)) (fun i => s.size - (intOf i).toNat)
  case atStart => exact ⟨0, Nat.zero_le _, rfl, fun _ _ h => absurd h (Nat.not_lt_zero _)⟩
  case round =>
    obtain ⟨k, hk, rfl, hall⟩ := hrel
    have HA := Lib.hid hall; clear hall
    by_cases hlt : k < s.size
    · have hc := s[k].toNat_lt
      by_cases hb : spC s[k] = true
      · have hb' : spI (s[k].toNat : Int) = true := hb
        go_wp2_with (go_at_call 7; refine (rspace_any _ _ (by omega) (by omega)).mono ?_; rintro e w' ⟨rfl, rfl⟩)
        go_round
        case rel => exact ⟨k + 1, by omega, by go_num, fun j h hj => by
          rcases Nat.lt_or_eq_of_le (Nat.le_of_lt_succ hj) with h1 | h1
          · exact HA.out j h h1
          · subst h1; exact hb⟩
        case measure => simp [intOf]; omega
      · have hb' : spI (s[k].toNat : Int) = false := by simpa [spC] using hb
        have hf : blS s = false := by
          unfold blS
          rw [List.all_eq_false]
          exact ⟨s[k], by rw [List.mem_iff_getElem]; exact ⟨k, by simpa using hlt, rfl⟩, by simpa using hb'⟩
        have HF := Lib.hid hf; clear hf
        go_wp2_with (go_at_call 7; refine (rspace_any _ _ (by omega) (by omega)).mono ?_; rintro e w' ⟨rfl, rfl⟩)
        go_ret
        exact ⟨ret_bool HF.out.symm, rfl⟩
    · have hf : blS s = true := by
        unfold blS
        rw [List.all_eq_true]
        intro c hc
        obtain ⟨j, hj, rfl⟩ := List.mem_iff_getElem.1 hc
        have hj' : j < s.size := by simpa using hj
        exact HA.out j hj' (by omega)
      have HF := Lib.hid hf; clear hf
      go_wp2
      go_ret
      exact ⟨ret_bool HF.out.symm, rfl⟩
theorem blS_of_bad {s : ByteArray} {k : Nat} (hlt : k < s.size) (h : spC s[k] = false) : blS s = false := by
  unfold blS
  rw [List.all_eq_false]
  exact ⟨s[k], by rw [List.mem_iff_getElem]; exact ⟨k, by simpa using hlt, rfl⟩, by simpa [spC] using h⟩
theorem blS_of_all {s : ByteArray} (h : ∀ j (h : j < s.size), spC s[j] = true) : blS s = true := by
  unfold blS
  rw [List.all_eq_true]
  intro c hc
  obtain ⟨j, hj, rfl⟩ := List.mem_iff_getElem.1 hc
  exact h j (by simpa using hj)
theorem spI_high {n : Int} (h : 128 ≤ n) : spI n = false := by
  unfold spI; exact decide_eq_false (by omega)

theorem blank_text (s : ByteArray) (w : World) :
    Calls Try.prog 16 #[.string s] w fun e w' => e = .returned (.bool (blS s)) ∧ Below w.heap.size w w' := by
  go_enter Try.func16, Try.ntmps16
  go_wp2
  go_loopw [4] (fun _ wr => ∃ pos : Nat, wr = w.iter s pos ∧ (∀ j (h : j < s.size), j < pos → spC s[j] = true)) (fun _ wr => s.size - wr.iterPos w.heap.size)
  case atStart => exact ⟨0, rfl, fun _ _ h => absurd h (Nat.not_lt_zero _)⟩
  case round =>
    obtain ⟨pos, rfl, hall⟩ := hrel
    have HA := Lib.hid hall; clear hall
    by_cases hp : pos < s.size
    · have hnx : ∀ ty, (Instr.next (.pointer (some ⟨w.heap.size, 0, none⟩)) true ty).run Try.prog (w.iter s pos) = _ := fun ty => run_next_any w s pos ty hp
      by_cases ha : (s[pos]'hp).toNat < 128
      · rw [decode_ascii s pos hp ha] at hnx
        by_cases hb : spC s[pos] = true
        · have hb' : spI ((s[pos].toNat : Nat) : Int) = true := hb
          go_wp2_with (go_at_call 20; refine (blank_any _ _).mono ?_; rintro e w' ⟨rfl, rfl⟩)
          go_roundw
          case rel => exact ⟨pos + 1, rfl, fun j h hj => by
            rcases Nat.lt_or_eq_of_le (Nat.le_of_lt_succ hj) with h1 | h1
            · exact HA.out j h h1
            · subst h1; exact hb⟩
          case measure => simp; omega
        · have hb1 : spC s[pos] = false := by simpa using hb
          have hb' : spI ((s[pos].toNat : Nat) : Int) = false := hb1
          have HF := Lib.hid (blS_of_bad hp hb1); clear hb hb1
          go_wp2_with (go_at_call 20; refine (blank_any _ _).mono ?_; rintro e w' ⟨rfl, rfl⟩)
          go_ret
          exact ⟨ret_bool HF.out.symm, (Below.refl _ _).alloc (Nat.le_refl _) _⟩
      · have hd := (decode_high s pos hp (by omega)).1
        have hb1 : spC s[pos] = false := spI_high (by omega)
        have HF := Lib.hid (blS_of_bad hp hb1); clear hb1
        have hb' : spI ((Utf8.decode s pos).1 : Int) = false := spI_high (by omega)
        go_wp2_with (go_at_call 20; refine (blank_any _ _).mono ?_; rintro e w' ⟨rfl, rfl⟩)
        go_ret
        exact ⟨ret_bool HF.out.symm, (Below.refl _ _).alloc (Nat.le_refl _) _⟩
    · have hnx : ∀ ty, (Instr.next (.pointer (some ⟨w.heap.size, 0, none⟩)) true ty).run Try.prog (w.iter s pos) = _ := fun ty => run_next_end w s pos ty hp
      have HF := Lib.hid (blS_of_all (s := s) fun j h => HA.out j h (by omega))
      go_wp2
      go_ret
      exact ⟨ret_bool HF.out.symm, (Below.refl _ _).alloc (Nat.le_refl _) _⟩
end Go.Proofs.Ytljpiamlbdknlaa
