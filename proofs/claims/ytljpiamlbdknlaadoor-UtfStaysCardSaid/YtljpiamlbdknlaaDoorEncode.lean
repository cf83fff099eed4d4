/-
  The walks of Encode, and of the document's own.
-/
import Derived.Test.YtljpiamlbdknlaaDoorDecode
namespace Go.Proofs.YtljpiamlbdknlaaDoor
open Go.RowKit Go.Lib

/-- The bytes of a character's number; of what is none those of 65533. -/
def chB (n : Int) : Bool := decide ((0 ≤ n ∧ n < 55296) ∨ (57343 < n ∧ n ≤ 1114111))
def encS (n : Int) : ByteArray := if chB n then Utf8.encode n else ⟨#[239, 191, 189]⟩

theorem encode_any (n : Int) (w : World) (h1 : -9223372036854775808 ≤ n) (h2 : n ≤ 9223372036854775807) :
    Calls Tryd.prog 13 #[.int .i64 n] w fun e w' => e = .returned (.string (encS n)) ∧ w = w' := by
  by_cases hneg : n < 0
  · have e : encS n = ⟨#[239, 191, 189]⟩ := by unfold encS chB; rw [decide_eq_false (by omega)]; rfl
    rw [e]; clear e
    go_enter Tryd.func13, Tryd.ntmps13
    go_wp2
    go_ret
    exact ⟨rfl, rfl⟩
  · by_cases hbig : 1114111 < n
    · have e : encS n = ⟨#[239, 191, 189]⟩ := by unfold encS chB; rw [decide_eq_false (by omega)]; rfl
      rw [e]; clear e
      go_enter Tryd.func13, Tryd.ntmps13
      go_wp2
      go_ret
      exact ⟨rfl, rfl⟩
    · have hV := Lib.hid (fun W => Tryd.utf8_ValidRune n W)
      by_cases hch : chB n = true
      · have e : encS n = Utf8.encode n := by unfold encS; rw [if_pos hch]
        have hvr : Lib.validRune n = true := by unfold Lib.validRune; unfold chB at hch; simpa using hch
        rw [e]; clear e hch
        go_enter Tryd.func13, Tryd.ntmps13
        go_wp2_with (go_at_call 24; refine (hV.out _).mono ?_; rintro e w1 ⟨rfl, rfl⟩)
        go_ret
        exact ⟨rfl, rfl⟩
      · have e : encS n = ⟨#[239, 191, 189]⟩ := by unfold encS; rw [if_neg hch]
        have hvr : Lib.validRune n = false := by unfold Lib.validRune; unfold chB at hch; simpa using hch
        rw [e]; clear e hch
        go_enter Tryd.func13, Tryd.ntmps13
        go_wp2_with (go_at_call 24; refine (hV.out _).mono ?_; rintro e w1 ⟨rfl, rfl⟩)
        go_ret
        exact ⟨rfl, rfl⟩

theorem rencode_any (n : Int) (w : World) (h1 : -9223372036854775808 ≤ n) (h2 : n ≤ 9223372036854775807) :
    Calls Tryd.prog 14 #[.int .i64 n] w fun e w' => e = .returned (.string (encS n)) ∧ w = w' := by
  have e0 : Utf8.encode 65533 = ⟨#[239, 191, 189]⟩ := by decide
  by_cases hneg : n < 0
  · have e : encS n = ⟨#[239, 191, 189]⟩ := by unfold encS chB; rw [decide_eq_false (by omega)]; rfl
    rw [e]; clear e
    go_enter Tryd.func14, Tryd.ntmps14
    go_wp2
    go_ret
    exact ⟨rfl, rfl⟩
  · by_cases hbig : 1114111 < n
    · have e : encS n = ⟨#[239, 191, 189]⟩ := by unfold encS chB; rw [decide_eq_false (by omega)]; rfl
      rw [e]; clear e
      go_enter Tryd.func14, Tryd.ntmps14
      go_wp2
      go_ret
      exact ⟨rfl, rfl⟩
    · by_cases hs : 55296 ≤ n
      · by_cases hs2 : n ≤ 57343
        · have e : encS n = ⟨#[239, 191, 189]⟩ := by unfold encS chB; rw [decide_eq_false (by omega)]; rfl
          rw [e]; clear e
          go_enter Tryd.func14, Tryd.ntmps14
          go_wp2
          go_ret
          exact ⟨rfl, rfl⟩
        · have e : encS n = Utf8.encode n := by unfold encS chB; rw [decide_eq_true (by omega)]; rfl
          rw [e]; clear e e0
          go_enter Tryd.func14, Tryd.ntmps14
          go_wp2
          go_ret
          exact ⟨rfl, rfl⟩
      · have e : encS n = Utf8.encode n := by unfold encS chB; rw [decide_eq_true (by omega)]; rfl
        rw [e]; clear e e0
        go_enter Tryd.func14, Tryd.ntmps14
        go_wp2
        go_ret
        exact ⟨rfl, rfl⟩
end Go.Proofs.YtljpiamlbdknlaaDoor
