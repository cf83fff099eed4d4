/-
  The walks of Named, of the document's own, and of its table.
-/
import Derived.Test.YtkfaenhidjekdaaDoorCLeaf
namespace Go.Proofs.YtkfaenhidjekdaaDoor.C
open Go.RowKit

def nmOk (l : List UInt8) : Bool := decide (nm l ≠ 0)
def nmTx (l : List UInt8) : ByteArray := if nm l = 0 then ByteArray.empty else encS (nm l)
def NamedPost (l : List UInt8) (w : World) (e : Ending) (w' : World) : Prop := e = .returned (.tuple #[.string (nmTx l), .bool (nmOk l)]) ∧ Below w.heap.size w w'
theorem named_yes {l : List UInt8} {v : Int} (h : nm l = v) (hv : v ≠ 0) : Ending.returned (.tuple #[.string (encS v), .bool true]) = .returned (.tuple #[.string (nmTx l), .bool (nmOk l)]) := by
  subst h; unfold nmTx nmOk; rw [if_neg hv, decide_eq_true hv]
theorem named_no {l : List UInt8} (h : nm l = 0) : Ending.returned (.tuple #[.string ⟨#[]⟩, .bool false]) = .returned (.tuple #[.string (nmTx l), .bool (nmOk l)]) := by
  unfold nmTx nmOk; rw [if_pos h, decide_eq_false (by simp [h])]; rfl
theorem lk_bd : ∀ (t : Tab) (l : List UInt8), (∀ e ∈ t, 0 ≤ e.2 ∧ e.2 ≤ 8800) → 0 ≤ lk t l ∧ lk t l ≤ 8800
  | [], _, _ => ⟨Int.le_refl 0, by show (0 : Int) ≤ 8800; decide⟩
  | (k, v) :: r, l, h => by
    unfold lk
    split
    · exact h (k, v) (by simp)
    · exact lk_bd r l (fun e he => h e (by simp [he]))
theorem toList_mk (l : List UInt8) : (ByteArray.mk l.toArray).toList = l := by rw [ByteArray.toList_eq]

set_option maxHeartbeats 1600000 in
theorem named_any (s : ByteArray) (w : World) (hs : s.size ≤ 9223372036854775807) :
    Calls Tryd.prog 58 #[.string s] w (NamedPost s.data.toList w) := by
  have HC := Lib.hid (Tryd.strings_CutSuffix s ⟨#[59]⟩ w hs)
  have hyes := cut_yes s.data.toList
  have hno := cut_no s.data.toList
  have HL := Lib.hid (loose_any ⟨(Lib.trimSuffix s.data.toList [59]).toArray⟩)
  have HS := Lib.hid (sign_any ⟨(Lib.trimSuffix s.data.toList [59]).toArray⟩)
  have HP := Lib.hid (special_any ⟨(Lib.trimSuffix s.data.toList [59]).toArray⟩)
  rw [toList_mk] at HL HS HP
  have b1 := lk_bd tabL (Lib.trimSuffix s.data.toList [59]) (by decide)
  have b2 := lk_bd tabS (Lib.trimSuffix s.data.toList [59]) (by decide)
  have b3 := lk_bd tabP (Lib.trimSuffix s.data.toList [59]) (by decide)
  have hn1 := nm_shut (Lib.trimSuffix s.data.toList [59])
  have hn2 := nm_open s.data.toList
  generalize hl : s.data.toList = l at *
  generalize Lib.trimSuffix l [59] = b at *
  generalize hc : Lib.hasSuffix l [59] = c at *
  generalize hB : ByteArray.mk b.toArray = B at *
  clear hB hl
  by_cases h1 : lk tabL b = 0
  · rw [h1] at HL
    cases c with
    | false =>
      have HN : Hid (nm l = 0) := Lib.hid (by
        obtain ⟨e, ho⟩ := hno rfl
        rw [hn2 ho, ← e]; exact h1)
      clear hn1 hn2 hyes hno hc h1 b1 b2 b3
      go_enter Tryd.func58, Tryd.ntmps58
      go_wp2_with (first
        | (go_at_call 67; refine HC.out.mono ?_; rintro e w' ⟨rfl, rfl⟩)
        | (go_at_call 68; refine (HL.out _).mono ?_; rintro e w' ⟨rfl, rfl⟩))
      go_ret2
      exact ⟨named_no HN.out, Below.refl _ _⟩
    | true =>
      have he := hyes rfl
      rw [← he] at hn1
      rw [if_pos h1] at hn1
      by_cases h2 : lk tabS b = 0
      · rw [h2] at HS
        rw [if_pos h2] at hn1
        by_cases h3 : lk tabP b = 0
        · rw [h3] at HP
          rw [h3] at hn1
          have HN := Lib.hid hn1
          clear hn1 hn2 hyes hno hc h1 h2 h3 he b1 b2 b3
          go_enter Tryd.func58, Tryd.ntmps58
          go_wp2_with (first
            | (go_at_call 67; refine HC.out.mono ?_; rintro e w' ⟨rfl, rfl⟩)
            | (go_at_call 68; refine (HL.out _).mono ?_; rintro e w' ⟨rfl, rfl⟩)
            | (go_at_call 69; refine (HS.out _).mono ?_; rintro e w' ⟨rfl, rfl⟩)
            | (go_at_call 70; refine (HP.out _).mono ?_; rintro e w' ⟨rfl, rfl⟩))
          go_ret2
          exact ⟨named_no HN.out, Below.refl _ _⟩
        · have HN := Lib.hid hn1
          have HZ := Lib.hid h3
          have h3' : (lk tabP b == 0) = false := by simpa using h3
          clear hn1 hn2 hyes hno hc h1 h2 h3 he b1 b2
          obtain ⟨b3, b4⟩ := b3
          generalize lk tabP b = v at *
          go_enter Tryd.func58, Tryd.ntmps58
          go_wp2_with (first
            | (go_at_call 67; refine HC.out.mono ?_; rintro e w' ⟨rfl, rfl⟩)
            | (go_at_call 68; refine (HL.out _).mono ?_; rintro e w' ⟨rfl, rfl⟩)
            | (go_at_call 69; refine (HS.out _).mono ?_; rintro e w' ⟨rfl, rfl⟩)
            | (go_at_call 70; refine (HP.out _).mono ?_; rintro e w' ⟨rfl, rfl⟩)
            | (go_at_call 71; refine (encode_any _ _ (by omega) (by omega)).mono ?_; rintro e w' ⟨rfl, rfl⟩))
          go_ret2
          exact ⟨named_yes HN.out HZ.out, Below.refl _ _⟩
      · rw [if_neg h2] at hn1
        have HN := Lib.hid hn1
        have HZ := Lib.hid h2
        have h2' : (lk tabS b == 0) = false := by simpa using h2
        clear hn1 hn2 hyes hno hc h1 h2 he b1 b3
        obtain ⟨b3, b4⟩ := b2
        generalize lk tabS b = v at *
        go_enter Tryd.func58, Tryd.ntmps58
        go_wp2_with (first
          | (go_at_call 67; refine HC.out.mono ?_; rintro e w' ⟨rfl, rfl⟩)
          | (go_at_call 68; refine (HL.out _).mono ?_; rintro e w' ⟨rfl, rfl⟩)
          | (go_at_call 69; refine (HS.out _).mono ?_; rintro e w' ⟨rfl, rfl⟩)
          | (go_at_call 71; refine (encode_any _ _ (by omega) (by omega)).mono ?_; rintro e w' ⟨rfl, rfl⟩))
        go_ret2
        exact ⟨named_yes HN.out HZ.out, Below.refl _ _⟩
  · have HN : Hid (nm l = lk tabL b) := Lib.hid (by
      cases c with
      | false =>
        obtain ⟨e, ho⟩ := hno rfl
        rw [hn2 ho, ← e]
      | true =>
        have he := hyes rfl
        rw [← he] at hn1
        rw [if_neg h1] at hn1
        exact hn1)
    have HZ := Lib.hid h1
    have h1' : (lk tabL b == 0) = false := by simpa using h1
    clear hn1 hn2 hyes hno hc h1 b2 b3
    obtain ⟨b3, b4⟩ := b1
    generalize lk tabL b = v at *
    go_enter Tryd.func58, Tryd.ntmps58
    go_wp2_with (first
      | (go_at_call 67; refine HC.out.mono ?_; rintro e w' ⟨rfl, rfl⟩)
      | (go_at_call 68; refine (HL.out _).mono ?_; rintro e w' ⟨rfl, rfl⟩)
      | (go_at_call 71; refine (encode_any _ _ (by omega) (by omega)).mono ?_; rintro e w' ⟨rfl, rfl⟩))
    go_ret2
    exact ⟨named_yes HN.out HZ.out, Below.refl _ _⟩
end Go.Proofs.YtkfaenhidjekdaaDoor.C
