/-
  Plain facts for the laws; the laws' walks.
-/
import Derived.Test.YtljpiamlbdknlaaDoorAwake
namespace Go.Proofs.YtljpiamlbdknlaaDoor
open Go.RowKit Go.Lib

theorem byteNat {z : Int} (h0 : 0 ≤ z) (h1 : z < 256) : ((z.toNat.toUInt8).toNat : Int) = z := by
  have e : (z.toNat.toUInt8).toNat = z.toNat % 256 := rfl
  rw [e]; omega
theorem at0_0 (c : UInt8) (r : List UInt8) : at0 (c :: r) 0 = c.toNat := rfl
theorem at0_1 (c d : UInt8) (r : List UInt8) : at0 (c :: d :: r) 1 = d.toNat := rfl
theorem at0_2 (c d e : UInt8) (r : List UInt8) : at0 (c :: d :: e :: r) 2 = e.toNat := rfl

theorem encRune_char (n : Int) (h : chB n = true) (h0 : n ≠ 0) (h13 : n ≠ 13) : IsChar (encodeRune n) := by
  have hr : (0 ≤ n ∧ n < 55296) ∨ (57343 < n ∧ n ≤ 1114111) := by unfold chB at h; simpa using h
  clear h
  unfold encodeRune
  by_cases c1 : n ≤ 127
  · rw [encodeRuneZ_one (by omega) c1]
    have e := byteNat (z := n) (by omega) (by omega)
    simp only [List.map_cons, List.map_nil]
    generalize n.toNat.toUInt8 = x at *
    refine ⟨by simp, ?_, ?_, ?_⟩
    · rw [oneL_cons, if_pos (by omega)]; rfl
    · intro q; simp at q; subst q; apply h0; rw [← e]; rfl
    · intro q; simp at q; subst q; apply h13; rw [← e]; rfl
  · by_cases c2 : n ≤ 2047
    · rw [encodeRuneZ_two (by omega) c2]
      have e := byteNat (z := 192 + n / 64) (by omega) (by omega)
      have e2 := byteNat (z := 128 + n % 64) (by omega) (by omega)
      simp only [List.map_cons, List.map_nil]
      generalize (192 + n / 64).toNat.toUInt8 = x at *
      generalize (128 + n % 64).toNat.toUInt8 = y at *
      refine ⟨by simp, ?_, ?_, ?_⟩
      · rw [oneL_N, at0_0]
        unfold oneN
        have hm : moreOf x.toNat = 1 := by unfold moreOf; rw [if_pos (by omega)]
        have hl : loOf x.toNat = 128 := by unfold loOf; rw [if_neg (by omega), if_neg (by omega)]
        have hh : hiOf x.toNat = 191 := by unfold hiOf; rw [if_neg (by omega), if_neg (by omega)]
        rw [hl, hh, hm, if_neg (by omega), if_neg (by omega), if_pos (by simp; omega), if_pos rfl]; rfl
      · intro q; simp at q; subst q; simp at e; omega
      · intro q; simp at q; subst q; simp at e; omega
    · by_cases c3 : n ≤ 65535
      · rw [encodeRuneZ_three (by omega)]
        have e := byteNat (z := 224 + n / 4096) (by omega) (by omega)
        have e2 := byteNat (z := 128 + n / 64 % 64) (by omega) (by omega)
        have e3 := byteNat (z := 128 + n % 64) (by omega) (by omega)
        simp only [List.map_cons, List.map_nil]
        generalize (224 + n / 4096).toNat.toUInt8 = x at *
        generalize (128 + n / 64 % 64).toNat.toUInt8 = y at *
        generalize (128 + n % 64).toNat.toUInt8 = z at *
        refine ⟨by simp, ?_, ?_, ?_⟩
        · rw [oneL_N, at0_0, at0_1]
          unfold oneN
          have hm : moreOf x.toNat = 2 := by unfold moreOf; rw [if_neg (by omega), if_pos (by omega)]
          have hl : loOf x.toNat ≤ y.toNat := by unfold loOf; split <;> (try split) <;> omega
          have hh : y.toNat ≤ hiOf x.toNat := by unfold hiOf; split <;> (try split) <;> omega
          rw [hm, if_neg (by omega), if_neg (by omega), if_pos ⟨by simp, hl, hh⟩, if_neg (by omega), if_pos (by simp; omega), if_pos rfl]; rfl
        · intro q; simp at q; subst q; simp at e; omega
        · intro q; simp at q; subst q; simp at e; omega
      · rw [encodeRuneZ_four (by omega) (by omega)]
        have e := byteNat (z := 240 + n / 262144) (by omega) (by omega)
        have e2 := byteNat (z := 128 + n / 4096 % 64) (by omega) (by omega)
        have e3 := byteNat (z := 128 + n / 64 % 64) (by omega) (by omega)
        have e4 := byteNat (z := 128 + n % 64) (by omega) (by omega)
        simp only [List.map_cons, List.map_nil]
        generalize (240 + n / 262144).toNat.toUInt8 = x at *
        generalize (128 + n / 4096 % 64).toNat.toUInt8 = y at *
        generalize (128 + n / 64 % 64).toNat.toUInt8 = z at *
        generalize (128 + n % 64).toNat.toUInt8 = u at *
        refine ⟨by simp, ?_, ?_, ?_⟩
        · rw [oneL_N, at0_0, at0_1, at0_2]
          unfold oneN
          have hm : moreOf x.toNat = 3 := by unfold moreOf; rw [if_neg (by omega), if_neg (by omega), if_pos (by omega)]
          have hl : loOf x.toNat ≤ y.toNat := by unfold loOf; split <;> (try split) <;> omega
          have hh : y.toNat ≤ hiOf x.toNat := by unfold hiOf; split <;> (try split) <;> omega
          rw [hm, if_neg (by omega), if_neg (by omega), if_pos ⟨by simp, hl, hh⟩, if_neg (by omega), if_pos (by simp; omega), if_neg (by omega), if_pos (by simp; omega)]; rfl
        · intro q; simp at q; subst q; simp at e; omega
        · intro q; simp at q; subst q; simp at e; omega

theorem ofNat_toUInt8 (k : Nat) : UInt8.ofNat k = k.toUInt8 := rfl
theorem encS_list (n : Int) : (encS n).data.toList = encodeRune n := by
  unfold encS
  by_cases h : chB n = true
  · have hr : (0 ≤ n ∧ n < 55296) ∨ (57343 < n ∧ n ≤ 1114111) := by unfold chB at h; simpa using h
    rw [if_pos h]
    have hv : Utf8.valid n = true := by unfold Utf8.valid; simp; omega
    unfold Utf8.encode encodeRune
    simp only [hv, if_true]
    by_cases c1 : n ≤ 127
    · rw [encodeRuneZ_one (by omega) c1, if_pos (by omega)]; rfl
    · by_cases c2 : n ≤ 2047
      · rw [encodeRuneZ_two (by omega) c2, if_neg (by omega), if_pos (by omega)]
        simp only [List.map_cons, List.map_nil, ofNat_toUInt8]
        congr 1
        · congr 1; omega
        · congr 2; omega
      · by_cases c3 : n ≤ 65535
        · rw [encodeRuneZ_three (by omega), if_neg (by omega), if_neg (by omega), if_pos (by omega)]
          simp only [List.map_cons, List.map_nil, ofNat_toUInt8]
          congr 1
          · congr 1; omega
          · congr 1
            · congr 1; omega
            · congr 2; omega
        · rw [encodeRuneZ_four (by omega) (by omega), if_neg (by omega), if_neg (by omega), if_neg (by omega)]
          simp only [List.map_cons, List.map_nil, ofNat_toUInt8]
          congr 1
          · congr 1; omega
          · congr 1
            · congr 1; omega
            · congr 1
              · congr 1; omega
              · congr 2; omega
  · have hr : ¬ ((0 ≤ n ∧ n < 55296) ∨ (57343 < n ∧ n ≤ 1114111)) := by unfold chB at h; simpa using h
    rw [if_neg h]
    unfold encodeRune
    rw [encodeRuneZ_bad (by omega)]; rfl
theorem encS_char (n : Int) (h0 : n ≠ 0) (h13 : n ≠ 13) : IsChar (encS n).data.toList := by
  by_cases h : chB n = true
  · rw [encS_list]; exact encRune_char n h h0 h13
  · unfold encS; rw [if_neg h]; exact isChar_other
theorem char_ok {p : List UInt8} (h : IsChar p) : okU p = true ∧ stL p = 1 := by
  have h1 := decL_app h []
  have h2 := stL_app h []
  rw [List.append_nil] at h1 h2
  rw [decL_nil, List.append_nil] at h1
  exact ⟨(decL_eq p).1 h1, h2⟩
theorem encS_count (n : Int) : stL (encS n).data.toList = 1 := by
  by_cases h0 : n = 0
  · subst h0; rw [encS_list]; decide
  · by_cases h13 : n = 13
    · subst h13; rw [encS_list]; decide
    · exact (char_ok (encS_char n h0 h13)).2
theorem encS_size (n : Int) : (encS n).size ≤ 4 := by
  rw [← size_list, encS_list]
  unfold encodeRune
  rw [List.length_map]
  exact (encodeRuneZ_length n).2
/-- Text of bytes from 32 to 126 stays. -/
theorem plain_stays : ∀ l : List UInt8, (∀ c ∈ l, 32 ≤ c.toNat ∧ c.toNat ≤ 126) → decL l = l
  | [], _ => rfl
  | c :: l, h => by
    have hc := h c (by simp)
    have : IsChar [c] := ⟨by simp, by rw [oneL_cons, if_pos (by omega)]; rfl, by intro q; simp at q; subst q; simp at hc, by intro q; simp at q; subst q; simp at hc⟩
    have e : c :: l = [c] ++ l := rfl
    rw [e, decL_app this, plain_stays l (fun d hd => h d (by simp [hd]))]
theorem mapD_plain (f : Int → Int) (hf : ∀ x : Int, 0 ≤ x → 32 ≤ f x ∧ f x ≤ 126) : ∀ (n : Nat) (l : List UInt8), ∀ c ∈ Lib.mapGoD f n l, 32 ≤ c.toNat ∧ c.toNat ≤ 126
  | 0, l, c, hc => by simp [Lib.mapGoD] at hc
  | n + 1, l, c, hc => by
    unfold Lib.mapGoD at hc
    split at hc
    · simp at hc
    · have hx := hf (decodeL l).1 (by omega)
      rw [if_pos (by omega)] at hc
      rcases List.mem_append.1 hc with h | h
      · unfold encodeRune at h
        rw [encodeRuneZ_one (by omega) (by omega)] at h
        simp at h
        have := byteNat (z := f (decodeL l).1) (by omega) (by omega)
        rw [h]
        have e : (f (decodeL l).1).toNat.toUInt8 = UInt8.ofNat (f (decodeL l).1).toNat := rfl
        rw [e] at this
        omega
      · exact mapD_plain f hf n _ c h
theorem mapD_len (f : Int → Int) (hf : ∀ x : Int, 0 ≤ x → 32 ≤ f x ∧ f x ≤ 126) : ∀ (n : Nat) (l : List UInt8), (Lib.mapGoD f n l).length ≤ n
  | 0, l => by simp [Lib.mapGoD]
  | n + 1, l => by
    unfold Lib.mapGoD
    split
    · simp
    · have hx := hf (decodeL l).1 (by omega)
      rw [if_pos (by omega), List.length_append]
      have := mapD_len f hf n (l.drop (decodeL l).2)
      have e : (encodeRune (f (decodeL l).1)).length = 1 := by unfold encodeRune; rw [encodeRuneZ_one (by omega) (by omega)]; rfl
      omega
end Go.Proofs.YtljpiamlbdknlaaDoor
