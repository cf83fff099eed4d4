/-
  The walks of Count and Valid.
-/
import Derived.Test.YtljpiamlbdknlaaDoorFirst
namespace Go.Proofs.YtljpiamlbdknlaaDoor
open Go.RowKit Go.Lib

def textOf : Value → ByteArray | .string s => s | _ => ByteArray.empty
theorem ext_list (s : ByteArray) (k : Nat) (hk : k ≤ s.size) : (s.extract k s.size).data.toList = s.data.toList.drop k ∧ (s.extract k s.size).size = s.size - k := by
  refine ⟨?_, by rw [ByteArray.size_extract]; omega⟩
  rw [ByteArray.data_extract, Array.toList_extract, List.extract_eq_take_drop, List.take_of_length_le (by simp)]

set_option maxHeartbeats 1000000 in
theorem count_any (s : ByteArray) (w : World) (hT : Tabs w) (hs : s.size ≤ maxLen) :
    Calls Tryd.prog 11 #[.string s] w fun e w' => e = .returned (.int .i64 ((stL s.data.toList : Nat))) ∧ Below w.heap.size w w' := by
  have HT := Lib.hid hT
  clear hT
  have HS := Lib.hid hs
  unfold maxLen at hs
  have hstl := stL_le s.data.toList
  rw [size_list] at hstl
  have HL := Lib.hid (rfl : stL s.data.toList = stL s.data.toList)
  obtain ⟨N, hN⟩ : ∃ N, stL s.data.toList = N := ⟨_, rfl⟩
  rw [hN] at hstl ⊢
  have HN := Lib.hid hN
  clear hN HL
  go_enter Tryd.func11, Tryd.ntmps11
  go_wp2
  go_loopw [0, 3] (fun t c wr => ∃ (u : ByteArray) (k : Nat), t = .string u ∧ c = .int .i64 k ∧ u.size ≤ s.size ∧ k + stL u.data.toList = N ∧ Below w.heap.size w wr) (fun t _ _ => (textOf t).size)
  case atStart => exact ⟨s, 0, rfl, rfl, Nat.le_refl _, by rw [HN.out]; omega, Below.refl _ _⟩
  case round =>
    obtain ⟨u, k, rfl, rfl, hus, hk, hbel⟩ := hrel
    have HW : Hid (Tabs wr) := Lib.hid (tabs_below HT.out hbel (tabs_size HT.out))
    have HB := Lib.hid hbel
    clear hbel
    by_cases h0 : 0 < u.size
    · have hne := list_ne u h0
      have h1 := stL_step u.data.toList hne
      have h2 := stepL_pos u.data.toList
      have h3 := stepL_le u.data.toList hne
      rw [size_list] at h3
      obtain ⟨e1, e2⟩ := ext_list u (stepL u.data.toList).2 h3
      rw [← e1] at h1
      have H1 := Lib.hid h1
      have HK := Lib.hid hk
      have hF := first_any u wr HW.out h0 (Nat.le_trans hus HS.out)
      unfold FirstPost at hF
      clear h1 e1 hne hk
      have hkN : k < N := by have := HK.out; rw [H1.out] at this; omega
      generalize (stepL u.data.toList).2 = n at *
      generalize runeOf u.data.toList = r at *
      have E2 := Lib.hid e2
      clear e2
      go_wp2_with (go_at_call 18; refine hF.mono ?_; rintro e w1 ⟨rfl, hb⟩; replace HB := Lib.hid (HB.out.trans (hb.mono HB.out.size)); clear hb)
      go_roundw
      case rel => exact ⟨_, k + 1, rfl, by go_num, by rw [E2.out]; omega, by have := HK.out; rw [H1.out] at this; omega, HB.out⟩
      case measure => show (u.extract n u.size).size < u.size; rw [E2.out]; omega
    · have hl : u.data.toList = [] := by
        apply List.eq_nil_of_length_eq_zero; rw [size_list]; omega
      have hkN : k = N := by rw [hl] at hk; exact hk
      subst hkN
      clear hl hk
      go_wp2
      go_ret
      exact ⟨rfl, HB.out⟩

theorem index_neg : ∀ (l : List UInt8) (c : UInt8), decide (Lib.indexByte l c < 0) = !l.contains c
  | [], c => by simp [Lib.indexByte]
  | b :: l, c => by
    have ih := index_neg l c
    have hge := Lib.indexByte_ge l c
    unfold Lib.indexByte
    by_cases hb : b = c
    · subst hb; simp
    · rw [if_neg (by simpa using hb)]
      have hcb : ¬ c = b := fun e => hb e.symm
      by_cases hm : Lib.indexByte l c = -1
      · rw [hm] at ih ⊢
        simp at ih ⊢
        exact ⟨hcb, ih⟩
      · rw [if_neg (by simpa using hm)]
        rw [decide_eq_false (by omega)] at ih ⊢
        simp at ih ⊢
        exact fun _ => ih

set_option maxHeartbeats 1000000 in
theorem valid_any (s : ByteArray) (w : World) (hT : Tabs w) (hs : s.size ≤ maxLen) :
    Calls Tryd.prog 9 #[.string s] w fun e w' => e = .returned (.bool (okU s.data.toList)) ∧ Below w.heap.size w w' := by
  have hV := Tryd.utf8_ValidString s w (by unfold maxLen at hs; omega) hT
  have hI0 := Lib.hid (fun W => Tryd.strings_IndexByte s 0 W)
  have hI13 := Lib.hid (fun W => Tryd.strings_IndexByte s 13 W)
  have c0 := index_neg s.data.toList ((0 : Int).toNat.toUInt8)
  have c13 := index_neg s.data.toList ((13 : Int).toNat.toUInt8)
  unfold okU
  rw [show s.data.toList.contains 0 = s.data.toList.contains ((0 : Int).toNat.toUInt8) from rfl, show s.data.toList.contains 13 = s.data.toList.contains ((13 : Int).toNat.toUInt8) from rfl, ← c0, ← c13]
  clear c0 c13 hT hs
  generalize Lib.validD s.data.toList = V at *
  generalize Lib.indexByte s.data.toList ((0 : Int).toNat.toUInt8) = A at *
  generalize Lib.indexByte s.data.toList ((13 : Int).toNat.toUInt8) = B at *
  cases V with
  | false =>
    rw [Bool.false_and]
    go_enter Tryd.func9, Tryd.ntmps9
    go_wp2_with (go_at_call 22; refine hV.mono ?_; rintro e w1 ⟨rfl, hb⟩; have HB := Lib.hid hb; clear hb)
    go_ret
    exact ⟨rfl, HB.out⟩
  | true =>
    rw [Bool.true_and]
    by_cases hA : A < 0
    · have hA' : decide (A < 0) = true := decide_eq_true hA
      rw [hA', Bool.true_and]
      clear hA
      go_enter Tryd.func9, Tryd.ntmps9
      go_wp2_with (first | (go_at_call 22; refine hV.mono ?_; rintro e w1 ⟨rfl, hb⟩; have HB := Lib.hid hb; clear hb) | (go_at_call 23; refine (hI0.out _).mono ?_; rintro e w2 ⟨rfl, rfl⟩) | (go_at_call 23; refine (hI13.out _).mono ?_; rintro e w2 ⟨rfl, rfl⟩))
      go_ret
      exact ⟨rfl, HB.out⟩
    · have hA' : decide (A < 0) = false := decide_eq_false hA
      rw [hA', Bool.false_and]
      clear hA
      go_enter Tryd.func9, Tryd.ntmps9
      go_wp2_with (first | (go_at_call 22; refine hV.mono ?_; rintro e w1 ⟨rfl, hb⟩; have HB := Lib.hid hb; clear hb) | (go_at_call 23; refine (hI0.out _).mono ?_; rintro e w2 ⟨rfl, rfl⟩))
      go_ret
      exact ⟨rfl, HB.out⟩
end Go.Proofs.YtljpiamlbdknlaaDoor
