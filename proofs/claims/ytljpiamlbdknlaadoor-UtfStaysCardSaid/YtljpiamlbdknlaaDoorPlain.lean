/-
  Plain functions on lists of bytes for layer 2 (utf): the first character of bytes, their text, how many characters it has; and what follows of these. No program stands here.
-/
import Derived.WalkKit
import Derived.Lib.ValidLaws
namespace Go.Proofs.YtljpiamlbdknlaaDoor
open Go.RowKit Go.Lib

def moreOf (c : Nat) : Nat := if 194 ≤ c ∧ c ≤ 223 then 1 else if 224 ≤ c ∧ c ≤ 239 then 2 else if 240 ≤ c ∧ c ≤ 244 then 3 else 0
def loOf (c : Nat) : Nat := if c = 224 then 160 else if c = 240 then 144 else 128
def hiOf (c : Nat) : Nat := if c = 237 then 159 else if c = 244 then 143 else 191
/-- The further bytes of a character: how many are taken, and whether all are there. -/
def runL : Nat → Nat → Nat → Nat → List UInt8 → Nat × Bool
  | _, _, 0, i, _ => (i, true)
  | _, _, _ + 1, i, [] => (i, false)
  | lo, hi, m + 1, i, x :: r => if lo ≤ x.toNat ∧ x.toNat ≤ hi then runL 128 191 m (i + 1) r else (i, false)
/-- How many bytes the first character takes, and whether it is one. -/
def oneL : List UInt8 → Nat × Bool
  | [] => (1, false)
  | c :: r => if c.toNat < 128 then (1, true) else if moreOf c.toNat = 0 then (1, false) else runL (loOf c.toNat) (hiOf c.toNat) (moreOf c.toNat) 1 r

theorem runL_true : ∀ (m lo hi i : Nat) (l : List UInt8) (j : Nat), runL lo hi m i l = (j, true) → j = i + m ∧ m ≤ l.length
  | 0, lo, hi, i, l, j, h => by simp [runL] at h; omega
  | m + 1, lo, hi, i, [], j, h => by simp [runL] at h
  | m + 1, lo, hi, i, x :: r, j, h => by
    unfold runL at h
    split at h
    · have := runL_true m _ _ _ _ _ h
      simp; omega
    · simp at h
theorem runL_app : ∀ (m lo hi i : Nat) (l : List UInt8) (j : Nat) (y : List UInt8), runL lo hi m i l = (j, true) → runL lo hi m i (l.take m ++ y) = (j, true)
  | 0, lo, hi, i, l, j, y, h => by simp [runL] at h ⊢; exact h
  | m + 1, lo, hi, i, [], j, y, h => by simp [runL] at h
  | m + 1, lo, hi, i, x :: r, j, y, h => by
    unfold runL at h
    split at h
    · rename_i hc
      rw [List.take_succ_cons, List.cons_append]
      unfold runL
      rw [if_pos hc]
      exact runL_app m _ _ _ _ _ y h
    · simp at h
theorem oneL_cons (c : UInt8) (r : List UInt8) : oneL (c :: r) = if c.toNat < 128 then (1, true) else if moreOf c.toNat = 0 then (1, false) else runL (loOf c.toNat) (hiOf c.toNat) (moreOf c.toNat) 1 r := rfl
theorem oneL_true {l : List UInt8} {n : Nat} (h : oneL l = (n, true)) : 1 ≤ n ∧ n ≤ l.length := by
  cases l with
  | nil => simp [oneL] at h
  | cons c r =>
    rw [oneL_cons] at h
    split at h
    · simp at h; simp; omega
    · split at h
      · simp at h
      · have := runL_true _ _ _ _ _ _ h
        simp; omega
theorem oneL_app {l : List UInt8} {n : Nat} (h : oneL l = (n, true)) (y : List UInt8) : oneL (l.take n ++ y) = (n, true) := by
  cases l with
  | nil => simp [oneL] at h
  | cons c r =>
    have hn := oneL_true h
    obtain ⟨k, rfl⟩ : ∃ k, n = k + 1 := ⟨n - 1, by omega⟩
    rw [List.take_succ_cons, List.cons_append]
    rw [oneL_cons] at h ⊢
    split at h
    · rename_i hc; rw [if_pos hc]; exact h
    · rename_i hc
      rw [if_neg hc]
      split at h
      · simp at h
      · rename_i hm
        rw [if_neg hm]
        have e := runL_true _ _ _ _ _ _ h
        have : k = moreOf c.toNat := by omega
        subst this
        exact runL_app _ _ _ _ _ _ y h

/-- The byte at j; 0 behind the end. -/
def at0 (l : List UInt8) (j : Nat) : Nat := (l.getD j 0).toNat
theorem at0_lt (l : List UInt8) (j : Nat) : at0 l j < 256 := (l.getD j 0).toNat_lt
theorem runL_one (lo hi i : Nat) (r : List UInt8) : runL lo hi 1 i r = if 0 < r.length ∧ lo ≤ at0 r 0 ∧ at0 r 0 ≤ hi then (i + 1, true) else (i, false) := by
  cases r with
  | nil => simp [runL]
  | cons x r => simp [runL, at0]
theorem runL_more (lo hi m i : Nat) (r : List UInt8) : runL lo hi (m + 1) i r = if 0 < r.length ∧ lo ≤ at0 r 0 ∧ at0 r 0 ≤ hi then runL 128 191 m (i + 1) (r.drop 1) else (i, false) := by
  cases r with
  | nil => simp [runL]
  | cons x r => simp [runL, at0]
theorem at0_drop (l : List UInt8) (k j : Nat) : at0 (l.drop k) j = at0 l (k + j) := by
  unfold at0; rw [List.getD_eq_getElem?_getD, List.getD_eq_getElem?_getD, List.getElem?_drop]
theorem runL_two (lo hi i : Nat) (r : List UInt8) : runL lo hi 2 i r = if 0 < r.length ∧ lo ≤ at0 r 0 ∧ at0 r 0 ≤ hi then (if 1 < r.length ∧ 128 ≤ at0 r 1 ∧ at0 r 1 ≤ 191 then (i + 2, true) else (i + 1, false)) else (i, false) := by
  rw [runL_more, runL_one, at0_drop, List.length_drop]
  by_cases h : 1 < r.length
  · simp only [show 0 < r.length - 1 from by omega, h, true_and]
  · simp only [show ¬ 0 < r.length - 1 from by omega, h, false_and, if_false]
theorem runL_three (lo hi i : Nat) (r : List UInt8) : runL lo hi 3 i r = if 0 < r.length ∧ lo ≤ at0 r 0 ∧ at0 r 0 ≤ hi then (if 1 < r.length ∧ 128 ≤ at0 r 1 ∧ at0 r 1 ≤ 191 then (if 2 < r.length ∧ 128 ≤ at0 r 2 ∧ at0 r 2 ≤ 191 then (i + 3, true) else (i + 2, false)) else (i + 1, false)) else (i, false) := by
  rw [runL_more, runL_two, at0_drop, at0_drop, List.length_drop]
  by_cases h : 1 < r.length
  · by_cases h2 : 2 < r.length
    · simp only [show 0 < r.length - 1 from by omega, show 1 < r.length - 1 from by omega, h, h2, true_and]
    · simp only [show 0 < r.length - 1 from by omega, show ¬ 1 < r.length - 1 from by omega, h, h2, true_and, false_and, if_false]
  · simp only [show ¬ 0 < r.length - 1 from by omega, h, false_and, if_false]

/-- The first character, class by class of its first byte. -/
inductive Lead (c : Nat) : Prop
  | low (h : c < 128)
  | none (h : 128 ≤ c) (hm : moreOf c = 0) (hs : firstT c = 241) (hc : c < 194 ∨ 244 < c)
  | two (h : 194 ≤ c) (h2 : c ≤ 223) (hm : moreOf c = 1) (hl : loOf c = 128) (hh : hiOf c = 191) (hs : firstT c = 2)
  | three (h : 224 ≤ c) (h2 : c ≤ 239) (hm : moreOf c = 2) (hl : (c = 224 ∧ loOf c = 160 ∧ hiOf c = 191 ∧ firstT c = 19) ∨ (c = 237 ∧ loOf c = 128 ∧ hiOf c = 159 ∧ firstT c = 35) ∨ (c ≠ 224 ∧ c ≠ 237 ∧ loOf c = 128 ∧ hiOf c = 191 ∧ firstT c = 3))
  | four (h : 240 ≤ c) (h2 : c ≤ 244) (hm : moreOf c = 3) (hl : (c = 240 ∧ loOf c = 144 ∧ hiOf c = 191 ∧ firstT c = 52) ∨ (c = 244 ∧ loOf c = 128 ∧ hiOf c = 143 ∧ firstT c = 68) ∨ (c ≠ 240 ∧ c ≠ 244 ∧ loOf c = 128 ∧ hiOf c = 191 ∧ firstT c = 4))
theorem lead (c : Nat) : Lead c := by
  by_cases h1 : c < 128
  · exact .low h1
  · by_cases h2 : c < 194
    · exact .none (by omega) (by unfold moreOf; (repeat' split) <;> omega) (by unfold firstT; (repeat' split) <;> omega) (.inl h2)
    · by_cases h3 : c ≤ 223
      · exact .two (by omega) h3 (by unfold moreOf; (repeat' split) <;> omega) (by unfold loOf; (repeat' split) <;> omega) (by unfold hiOf; (repeat' split) <;> omega) (by unfold firstT; (repeat' split) <;> omega)
      · by_cases h4 : c ≤ 239
        · refine .three (by omega) h4 (by unfold moreOf; (repeat' split) <;> omega) ?_
          unfold loOf hiOf firstT
          repeat' split
          all_goals omega
        · by_cases h5 : c ≤ 244
          · refine .four (by omega) h5 (by unfold moreOf; (repeat' split) <;> omega) ?_
            unfold loOf hiOf firstT
            repeat' split
            all_goals omega
          · exact .none (by omega) (by unfold moreOf; (repeat' split) <;> omega) (by unfold firstT; (repeat' split) <;> omega) (.inr (by omega))

theorem getD_cons_at (c : UInt8) (r : List UInt8) (j : Nat) : ((c :: r).getD (j + 1) 0).toNat = at0 r j := by simp [at0]
/-- The class of the first byte, and of those behind it, told of numbers. -/
def oneN (n c b1 b2 b3 : Nat) : Nat × Bool :=
  if c < 128 then (1, true) else if moreOf c = 0 then (1, false)
  else if 1 < n ∧ loOf c ≤ b1 ∧ b1 ≤ hiOf c then
    (if moreOf c = 1 then (2, true) else if 2 < n ∧ 128 ≤ b2 ∧ b2 ≤ 191 then (if moreOf c = 2 then (3, true) else if 3 < n ∧ 128 ≤ b3 ∧ b3 ≤ 191 then (4, true) else (3, false)) else (2, false))
  else (1, false)
theorem oneL_N (c : UInt8) (r : List UInt8) : oneL (c :: r) = oneN (r.length + 1) c.toNat (at0 r 0) (at0 r 1) (at0 r 2) := by
  rw [oneL_cons]
  unfold oneN
  have e1 : (0 < r.length) = (1 < r.length + 1) := by rw [eq_iff_iff]; omega
  have e2 : (1 < r.length) = (2 < r.length + 1) := by rw [eq_iff_iff]; omega
  have e3 : (2 < r.length) = (3 < r.length + 1) := by rw [eq_iff_iff]; omega
  rcases lead c.toNat with h | ⟨h, hm, hs, hc⟩ | ⟨h, h2, hm, hl, hh, hs⟩ | ⟨h, h2, hm, hl⟩ | ⟨h, h2, hm, hl⟩
  · rw [if_pos h, if_pos h]
  · have n1 : ¬ c.toNat < 128 := by omega
    rw [if_neg n1, if_pos hm, if_neg n1, if_pos hm]
  all_goals
    have n1 : ¬ c.toNat < 128 := by omega
    have n2 : ¬ moreOf c.toNat = 0 := by omega
    rw [if_neg n1, if_neg n2, if_neg n1, if_neg n2]
  · rw [hm, runL_one]; simp only [e1]; simp
  · rw [hm, runL_two]; simp only [e1, e2]; simp
  · rw [hm, runL_three]; simp only [e1, e2, e3]; simp
theorem oneN_shape (n c b1 b2 b3 : Nat) (k1 : b1 < 256) (k2 : b2 < 256) (k3 : b3 < 256) :
    (oneN n c b1 b2 b3 = ((decodeN n c b1 b2 b3).2, true) ∧ ¬ ((decodeN n c b1 b2 b3).1 = 65533 ∧ (decodeN n c b1 b2 b3).2 = 1)) ∨ ((oneN n c b1 b2 b3).2 = false ∧ decodeN n c b1 b2 b3 = (65533, 1)) := by
  have sh := decodeN_shape n c b1 b2 b3
  unfold oneN
  rcases lead c with h | ⟨h, hm, hs, hc⟩ | ⟨h, h2, hm, hl, hh, hs⟩ | ⟨h, h2, hm, hl⟩ | ⟨h, h2, hm, hl⟩
  · rw [if_pos h]
    have e : decodeN n c b1 b2 b3 = (c, 1) := by unfold decodeN; rw [if_pos h]
    rw [e]; left; refine ⟨rfl, ?_⟩; simp; omega
  · rw [if_neg (by omega), if_pos hm]
    right; refine ⟨rfl, ?_⟩
    rcases sh with s | s | s | s | s
    · omega
    · omega
    · omega
    · omega
    · exact s
  · rw [if_neg (by omega), if_neg (by omega), hl, hh, hm]
    by_cases hq : 1 < n ∧ 128 ≤ b1 ∧ b1 ≤ 191
    · rw [if_pos hq, if_pos rfl]
      have e : decodeN n c b1 b2 b3 = (c % 32 * 64 + b1 % 64, 2) := by unfold decodeN; rw [if_neg (by omega), if_pos (by omega), if_pos (by omega)]
      rw [e]; left; exact ⟨rfl, by simp⟩
    · rw [if_neg hq]
      right; refine ⟨rfl, ?_⟩
      rcases sh with s | s | s | s | s
      · omega
      · omega
      · omega
      · omega
      · exact s
  · rw [if_neg (by omega), if_neg (by omega), hm]
    by_cases hq : 1 < n ∧ loOf c ≤ b1 ∧ b1 ≤ hiOf c
    · rw [if_pos hq, if_neg (by omega)]
      by_cases hq2 : 2 < n ∧ 128 ≤ b2 ∧ b2 ≤ 191
      · rw [if_pos hq2, if_pos rfl]
        have e : decodeN n c b1 b2 b3 = (c % 16 * 4096 + b1 % 64 * 64 + b2 % 64, 3) := by
          unfold decodeN; rw [if_neg (by omega), if_neg (by omega), if_pos (by omega), if_pos (by omega)]
        rw [e]; left; exact ⟨rfl, by simp⟩
      · rw [if_neg hq2]
        right; refine ⟨rfl, ?_⟩
        rcases sh with s | s | s | s | s
        · omega
        · omega
        · omega
        · omega
        · exact s
    · rw [if_neg hq]
      right; refine ⟨rfl, ?_⟩
      rcases sh with s | s | s | s | s
      · omega
      · omega
      · omega
      · omega
      · exact s
  · rw [if_neg (by omega), if_neg (by omega), hm]
    by_cases hq : 1 < n ∧ loOf c ≤ b1 ∧ b1 ≤ hiOf c
    · rw [if_pos hq, if_neg (by omega)]
      by_cases hq2 : 2 < n ∧ 128 ≤ b2 ∧ b2 ≤ 191
      · rw [if_pos hq2, if_neg (by omega)]
        by_cases hq3 : 3 < n ∧ 128 ≤ b3 ∧ b3 ≤ 191
        · rw [if_pos hq3]
          have e : decodeN n c b1 b2 b3 = (c % 8 * 262144 + b1 % 64 * 4096 + b2 % 64 * 64 + b3 % 64, 4) := by
            unfold decodeN; rw [if_neg (by omega), if_neg (by omega), if_neg (by omega), if_pos (by omega), if_pos (by omega)]
          rw [e]; left; exact ⟨rfl, by simp⟩
        · rw [if_neg hq3]
          right; refine ⟨rfl, ?_⟩
          rcases sh with s | s | s | s | s
          · omega
          · omega
          · omega
          · omega
          · exact s
      · rw [if_neg hq2]
        right; refine ⟨rfl, ?_⟩
        rcases sh with s | s | s | s | s
        · omega
        · omega
        · omega
        · omega
        · exact s
    · rw [if_neg hq]
      right; refine ⟨rfl, ?_⟩
      rcases sh with s | s | s | s | s
      · omega
      · omega
      · omega
      · omega
      · exact s
theorem oneL_shape (l : List UInt8) (hne : l ≠ []) :
    (oneL l = ((decodeL l).2, true) ∧ ¬ ((decodeL l).1 = 65533 ∧ (decodeL l).2 = 1)) ∨ ((oneL l).2 = false ∧ decodeL l = (65533, 1)) := by
  cases l with
  | nil => exact absurd rfl hne
  | cons c r =>
    rw [decodeL_N, show ((c :: r).getD 0 0) = c from rfl, getD_cons_at c r 0, getD_cons_at c r 1, getD_cons_at c r 2, List.length_cons, oneL_N]
    exact oneN_shape _ _ _ _ _ (at0_lt r 0) (at0_lt r 1) (at0_lt r 2)
end Go.Proofs.YtljpiamlbdknlaaDoor
