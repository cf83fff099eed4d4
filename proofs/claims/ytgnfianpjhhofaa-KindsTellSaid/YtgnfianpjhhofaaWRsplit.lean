/-
  The walk of the document's Split.
-/
import Derived.Test.YtgnfianpjhhofaaWStrs
namespace Go.Proofs.Ytgnfianpjhhofaa.W
open Go.RowKit

theorem drop_at (s : ByteArray) (k : Nat) (h : k < s.size) : s.data.toList.drop k = s[k] :: s.data.toList.drop (k + 1) := by
  rw [List.drop_eq_getElem_cons (by simpa using h)]; rfl
theorem word_snoc (s word : ByteArray) (k : Nat) (h : k < s.size) : (word ++ s.extract k (k + 1)).data.toList = word.data.toList ++ [s[k]] := by
  have : (s.extract k (k + 1)).data.toList = [s[k]] := by
    rw [ext_list, List.drop_take, drop_at s k h]; simp
  rw [ByteArray.data_append, Array.toList_append, this]
theorem list_empty {s : ByteArray} (h : s.size = 0) : s.data.toList = [] := List.eq_nil_of_length_eq_zero (by rw [size_list]; exact h)
theorem list_nonempty {s : ByteArray} (h : s.size ≠ 0) : s.data.toList ≠ [] := fun e => h (by rw [← size_list, e]; rfl)

set_option maxHeartbeats 1600000 in
theorem rsplit_any (s : ByteArray) (w : World) (hs : s.size ≤ 1000000) :
    Calls Try.prog 50 #[.string s] w (RetStrs (spl s) w) := by
  obtain ⟨i0, hi, hz0, hz1, hz2⟩ := info_parts str_info
  have HI := Lib.hid (And.intro hi (And.intro hz0 (And.intro hz1 hz2)))
  clear hi hz0 hz1 hz2
  go_enter Try.func50, Try.ntmps50
  go_wp2_with fail
  go_loopw [3, 4, 5] (fun v a i wr => ∃ (k : Nat) (word : ByteArray) (out : List ByteArray), k ≤ s.size ∧ i = .int .i64 k ∧ a = .string word ∧ word.size + out.length ≤ k ∧ spl s = out ++ (splG word.data.toList (s.data.toList.drop k)).map mkB ∧ wr.ownsRow w.heap.size 9 1 v out.length (out.map Value.string) ∧ Below w.heap.size w wr)
    (fun _ _ i _ => s.size - (intOf i).toNat)
  case atStart => exact ⟨0, ByteArray.empty, [], Nat.zero_le _, rfl, rfl, by simp, rfl, World.ownsRow_nil _ _ _ _, Below.refl _ _⟩
  case round =>
    obtain ⟨k, word, out, hk, rfl, rfl, hlen, hspl, hown, hbel⟩ := hrel
    have HS := Lib.hid hspl
    have HB := Lib.hid hbel
    have HO := Lib.hid hown
    clear hspl hbel hown
    by_cases hlt : k < s.size
    · have hc := s[k].toNat_lt
      have HD := Lib.hid (drop_at s k hlt)
      by_cases hb : spC s[k] = true
      · have hb' : spI (s[k].toNat : Int) = true := hb
        by_cases hw : word.size = 0
        · have HF : Hid (spl s = out ++ (splG [] (s.data.toList.drop (k + 1))).map mkB) := Lib.hid (by rw [HS.out, HD.out, list_empty hw]; simp [splG, hb])
          have he := (empty_yes hw).2
          have he2 := (empty_yes hw).1
          clear hb hw
          go_wp2_with (go_at_call 62; refine (rspace_any _ _ (by omega) (by omega)).mono ?_; rintro e w' ⟨rfl, rfl⟩)
          go_roundw
          case rel => exact ⟨k + 1, ByteArray.empty, out, by omega, by go_num, rfl, by have : ByteArray.empty.size = 0 := rfl; omega, HF.out, HO.out, HB.out⟩
          case measure => simp [intOf]; omega
        · have HF : Hid (spl s = (out ++ [word]) ++ (splG [] (s.data.toList.drop (k + 1))).map mkB) := Lib.hid (by rw [HS.out, HD.out]; simp [splG, hb, list_nonempty hw, mkB_of])
          have he := (empty_no hw).2
          have he2 := (empty_no hw).1
          have hw' : 1 ≤ word.size := by omega
          clear hb hw
          obtain ⟨hi, hz0, hz1, hz2⟩ := HI.out
          go_wp2_with (first
            | (go_at_call 62; refine (rspace_any _ _ (by omega) (by omega)).mono ?_; rintro e w' ⟨rfl, rfl⟩)
            | (at_builtin; refine wpList_append_own _ rfl _ _ 45 rfl w.heap.size 9 i0 (.string ⟨#[]⟩) 1 16 Try.underlying45 hi hz0 hz1 hz2 rfl (by decide) _ _ _ rfl (HO.out.alloc _) ⟨wr.heap.size, 0, none⟩ 1 1 [.string word] rfl rfl (cell_one_new _ _ _) (str_one word) (by unfold maxLen; omega) (by omega) (by have := HB.out.size; simp; omega) ?_; intro v' w2 hown' hgrow2 hnil2; clear hi hz0 hz1 hz2 hnil2; have HO2 := Lib.hid (own_snoc hown'); have HB2 : Hid (Below w.heap.size w w2) := Lib.hid ((HB.out.alloc HB.out.size _).grown hgrow2 (by have := HB.out.size; simp; omega) (fun k hk => (HO.out.lt k hk).1)); clear hown' hgrow2))
          go_roundw
          case rel => exact ⟨k + 1, ByteArray.empty, out ++ [word], by omega, by go_num, rfl, by have : ByteArray.empty.size = 0 := rfl; rw [List.length_append, List.length_singleton]; omega, HF.out, HO2.out, HB2.out⟩
          case measure => simp [intOf]; omega
      · have hb1 : spC s[k] = false := by simpa using hb
        have hb' : spI (s[k].toNat : Int) = false := hb1
        have HW := Lib.hid (word_snoc s word k hlt)
        have HF : Hid (spl s = out ++ (splG (word ++ s.extract k (k + 1)).data.toList (s.data.toList.drop (k + 1))).map mkB) := Lib.hid (by rw [HS.out, HD.out, HW.out]; simp [splG, hb1])
        have HZ : Hid ((word ++ s.extract k (k + 1)).size = word.size + 1) := Lib.hid (by rw [← size_list, HW.out, List.length_append, size_list]; rfl)
        clear hb hb1
        go_wp2_with (go_at_call 62; refine (rspace_any _ _ (by omega) (by omega)).mono ?_; rintro e w' ⟨rfl, rfl⟩)
        go_roundw
        case rel => exact ⟨k + 1, word ++ s.extract k (k + 1), out, by omega, by go_num, rfl, by rw [HZ.out]; omega, HF.out, HO.out, HB.out⟩
        case measure => simp [intOf]; omega
    · have hnil : s.data.toList.drop k = [] := List.drop_eq_nil_of_le (by rw [size_list]; omega)
      by_cases hw : word.size = 0
      · have HF : Hid (out = spl s) := Lib.hid (by rw [HS.out, hnil, list_empty hw]; simp [splG])
        have he := (empty_yes hw).2
        have he2 := (empty_yes hw).1
        clear hnil hw
        go_wp2_with fail
        go_ret
        exact ret_strs HO.out HB.out HF.out
      · have HF : Hid (out ++ [word] = spl s) := Lib.hid (by rw [HS.out, hnil]; simp [splG, list_nonempty hw, mkB_of])
        have he := (empty_no hw).2
        have he2 := (empty_no hw).1
        clear hnil hw
        obtain ⟨hi, hz0, hz1, hz2⟩ := HI.out
        go_wp2_with (at_builtin; refine wpList_append_own _ rfl _ _ 45 rfl w.heap.size 9 i0 (.string ⟨#[]⟩) 1 16 Try.underlying45 hi hz0 hz1 hz2 rfl (by decide) _ _ _ rfl (HO.out.alloc _) ⟨wr.heap.size, 0, none⟩ 1 1 [.string word] rfl rfl (cell_one_new _ _ _) (str_one word) (by unfold maxLen; omega) (by omega) (by have := HB.out.size; simp; omega) ?_; intro v' w2 hown' hgrow2 hnil2; clear hi hz0 hz1 hz2 hnil2; have HO2 := Lib.hid (own_snoc hown'); have HB2 : Hid (Below w.heap.size w w2) := Lib.hid ((HB.out.alloc HB.out.size _).grown hgrow2 (by have := HB.out.size; simp; omega) (fun k hk => (HO.out.lt k hk).1)); clear hown' hgrow2)
        go_ret
        exact ret_strs HO2.out HB2.out HF.out
end Go.Proofs.Ytgnfianpjhhofaa.W
