/-
  Layer 9 (remark) in plain functions on lists of bytes: comments, doctypes, and what counts as such. No program stands here.
-/
import Derived.Test.YtdljjfeojccidaaIPlain
import Derived.Test.YtdljjfeojccidaaCPlain
import Derived.Lib.IndexMore
namespace Go.Proofs.Ytdljjfeojccidaa.R
open Go.RowKit
open Go.Proofs.Ytdljjfeojccidaa.I (spI spC leI lowS lowL lowB trL trS)

abbrev pre (p l : List UInt8) : Bool := p.isPrefixOf l
/-- The first place at which p begins in l; where l ends, if nowhere. -/
def fnd (p : List UInt8) : List UInt8 → Nat
  | [] => 0
  | b :: l => if pre p (b :: l) = true then 0 else fnd p l + 1
theorem fnd_le (p : List UInt8) : ∀ l, fnd p l ≤ l.length
  | [] => Nat.le_refl _
  | b :: l => by
    have := fnd_le p l
    unfold fnd; split <;> simp <;> omega
theorem fnd_at (p : List UInt8) : ∀ l, fnd p l < l.length → pre p (l.drop (fnd p l)) = true
  | [], h => absurd h (Nat.not_lt_zero _)
  | b :: l, h => by
    unfold fnd at h ⊢
    split
    · rename_i h2; exact h2
    · rename_i h2
      rw [if_neg h2] at h
      exact fnd_at p l (by simpa using h)
theorem fnd_no (p : List UInt8) : ∀ l j, j < fnd p l → pre p (l.drop j) = false
  | [], j, h => absurd h (Nat.not_lt_zero _)
  | b :: l, j, h => by
    unfold fnd at h
    split at h
    · exact absurd h (Nat.not_lt_zero _)
    · rename_i h2
      cases j with
      | zero => exact (Bool.not_eq_true _).mp h2
      | succ j => exact fnd_no p l j (by omega)
theorem fnd_is (p : List UInt8) : ∀ l i, i ≤ l.length → (∀ j, j < i → pre p (l.drop j) = false) → (i = l.length ∨ pre p (l.drop i) = true) → fnd p l = i
  | [], i, h, _, _ => by have : i = 0 := by simpa using h
                         rw [this]; rfl
  | b :: l, 0, _, _, h => by
    unfold fnd
    rcases h with h | h
    · simp at h
    · rw [if_pos (show pre p (b :: l) = true from h)]
  | b :: l, i + 1, hi, hn, h => by
    have h0 : pre p (b :: l) = false := hn 0 (Nat.succ_pos _)
    have ih := fnd_is p l i (by simpa using hi) (fun j hj => hn (j + 1) (Nat.succ_lt_succ hj)) (by simpa using h)
    unfold fnd
    rw [if_neg (by rw [h0]; decide), ih]
theorem fnd_skip (p l : List UInt8) (k : Nat) (hk : k ≤ l.length) (hn : ∀ j, j < k → pre p (l.drop j) = false) : fnd p l = k + fnd p (l.drop k) := by
  have hle := fnd_le p (l.drop k)
  rw [List.length_drop] at hle
  refine fnd_is p l _ (by omega) (fun j hj => ?_) ?_
  · rcases Nat.lt_or_ge j k with h | h
    · exact hn j h
    · have := fnd_no p (l.drop k) (j - k) (by omega)
      rw [List.drop_drop, show k + (j - k) = j by omega] at this; exact this
  · rcases Nat.lt_or_ge (fnd p (l.drop k)) (l.drop k).length with h | h
    · have := fnd_at p (l.drop k) h
      rw [List.drop_drop] at this; exact .inr this
    · rw [List.length_drop] at h; exact .inl (by omega)
theorem pre_len {p l : List UInt8} (h : pre p l = true) : p.length ≤ l.length := (List.isPrefixOf_iff_prefix.1 h).length_le
theorem fnd_room (p l : List UInt8) (h : fnd p l < l.length) : fnd p l + p.length ≤ l.length := by
  have := pre_len (fnd_at p l h)
  rw [List.length_drop] at this; omega
theorem occ_eq (s p : List UInt8) (i : Nat) : Lib.occAt s p i = pre p (s.drop i) := rfl
theorem fnd_index (p l : List UInt8) (hp : p ≠ []) : Lib.index l p = if fnd p l < l.length then (fnd p l : Int) else -1 := by
  rcases Lib.index_spec l p with ⟨h1, h2⟩ | ⟨i, h1, h2, h3, h4⟩
  · have : fnd p l = l.length := fnd_is p l _ (Nat.le_refl _) (fun j hj => h2 j (by omega)) (.inl rfl)
    rw [h1, if_neg (by omega)]
  · have e : fnd p l = i := fnd_is p l i h2 h4 (.inr h3)
    have : i < l.length := by
      have := pre_len (p := p) (l := l.drop i) h3
      rw [List.length_drop] at this
      have : 0 < p.length := List.length_pos_iff.2 hp
      omega
    rw [h1, e, if_pos this]
theorem cut_fnd (p l : List UInt8) (hp : p ≠ []) : (Lib.cut l p).1 = l.take (fnd p l) ∧ (Lib.cut l p).2.2 = decide (fnd p l < l.length) := by
  have e := fnd_index p l hp
  have hle := fnd_le p l
  unfold Lib.cut
  by_cases h : fnd p l < l.length
  · rw [if_pos h] at e
    rw [e, if_pos (by omega), decide_eq_true h]
    exact ⟨by simp, rfl⟩
  · rw [if_neg h] at e
    rw [e, if_neg (by decide), decide_eq_false h]
    exact ⟨by simp only; rw [List.take_of_length_le (by omega)], rfl⟩

/-- From a place on. -/
def fndF (p l : List UInt8) (k : Nat) : Nat := k + fnd p (l.drop k)
theorem fndF_bd (p l : List UInt8) (k : Nat) (hk : k ≤ l.length) : k ≤ fndF p l k ∧ fndF p l k ≤ l.length := by
  have := fnd_le p (l.drop k)
  rw [List.length_drop] at this
  unfold fndF; omega
theorem fndF_at (p l : List UInt8) (k : Nat) (h : fndF p l k < l.length) : pre p (l.drop (fndF p l k)) = true := by
  unfold fndF at h ⊢
  rw [← List.drop_drop]
  exact fnd_at p _ (by rw [List.length_drop]; omega)
theorem fndF_room (p l : List UInt8) (k : Nat) (h : fndF p l k < l.length) : fndF p l k + p.length ≤ l.length := by
  have := pre_len (fndF_at p l k h)
  rw [List.length_drop] at this; omega
theorem fndF_no (p l : List UInt8) (k j : Nat) (h1 : k ≤ j) (h2 : j < fndF p l k) : pre p (l.drop j) = false := by
  have := fnd_no p (l.drop k) (j - k) (by unfold fndF at h2; omega)
  rw [List.drop_drop, show k + (j - k) = j by omega] at this; exact this
theorem fndF_is (p l : List UInt8) (k i : Nat) (hk : k ≤ i) (hi : i ≤ l.length) (hn : ∀ j, k ≤ j → j < i → pre p (l.drop j) = false) (h : i = l.length ∨ pre p (l.drop i) = true) : fndF p l k = i := by
  have e : fnd p (l.drop k) = i - k := by
    refine fnd_is p _ _ (by rw [List.length_drop]; omega) (fun j hj => ?_) ?_
    · rw [List.drop_drop]; exact hn _ (by omega) (by omega)
    · rw [List.drop_drop, List.length_drop, show k + (i - k) = i by omega]
      rcases h with h | h
      · exact .inl (by omega)
      · exact .inr h
  unfold fndF; omega

def cut (l : List UInt8) (i j : Nat) : ByteArray := C.mkB ((l.take j).drop i)
theorem cut_of (s : ByteArray) (i j : Nat) : cut s.data.toList i j = s.extract i j := by
  apply C.eq_of_list
  unfold cut
  rw [C.mkB_list, C.ext_list]
/-- A token, how many bytes it takes, and whether there is one. -/
structure Rem where
  kind : Int
  name : ByteArray
  data : ByteArray
  n : Nat
  ok : Bool
def rem0 (n : Nat) : Rem := ⟨0, ByteArray.empty, ByteArray.empty, n, false⟩
/-- The first word. -/
def wrd (l : List UInt8) : List UInt8 := (l.dropWhile spC).takeWhile fun c => !spC c
/-- A comment that does not end. -/
def bare (m : List UInt8) : List UInt8 :=
  if Lib.hasSuffix m [45, 45, 33] = true then m.take (m.length - 3)
  else if Lib.hasSuffix m [45, 45] = true then m.take (m.length - 2)
  else if Lib.hasSuffix m [45] = true then m.take (m.length - 1)
  else m
def pA : List UInt8 := [45, 45, 62]
def pB : List UInt8 := [45, 45, 33, 62]
def comP (m : List UInt8) : ByteArray × Nat :=
  if pre [62] m = true then (ByteArray.empty, 1)
  else if pre [45, 62] m = true then (ByteArray.empty, 2)
  else if fnd pA m = m.length ∧ fnd pB m = m.length then (C.mkB (bare m), m.length)
  else if fnd pA m < fnd pB m then (C.mkB (m.take (fnd pA m)), fnd pA m + 3)
  else (C.mkB (m.take (fnd pB m)), fnd pB m + 4)
def com (m : List UInt8) : Rem := ⟨4, ByteArray.empty, (comP m).1, 4 + (comP m).2, true⟩
def bog (l : List UInt8) (k : Nat) : Rem := ⟨4, ByteArray.empty, cut l k (fndF [62] l k), min (fndF [62] l k + 1) l.length, true⟩
def dty (l : List UInt8) : Rem := ⟨5, lowS (C.mkB (wrd ((l.take (fndF [62] l 9)).drop 9))), ByteArray.empty, min (fndF [62] l 9 + 1) l.length, true⟩
def pS : List UInt8 := [93, 93, 62]
def sec (l : List UInt8) : Rem := if fndF pS l 9 = 9 then rem0 (min 12 l.length) else ⟨3, ByteArray.empty, cut l 9 (fndF pS l 9), min (fndF pS l 9 + 3) l.length, true⟩
def pDoc : List UInt8 := [60, 33, 100, 111, 99, 116, 121, 112, 101]
def dtB (l : List UInt8) : Bool := decide (9 ≤ l.length) && lowL (l.take 9) == pDoc
def pCd : List UInt8 := [60, 33, 91, 67, 68, 65, 84, 65, 91]
def ntL (l : List UInt8) : Bool := match l[2]? with | some c => !leI (c.toNat : Int) | none => false
def rem (l : List UInt8) (f : Bool) : Rem :=
  if pre [60, 33, 45, 45] l = true then com (l.drop 4)
  else if dtB l = true then dty l
  else if (f && pre pCd l) = true then sec l
  else if pre [60, 33] l = true then bog l 2
  else if pre [60, 63] l = true then bog l 1
  else if pre [60, 47, 62] l = true then rem0 3
  else if (pre [60, 47] l && ntL l) = true then bog l 2
  else rem0 0

/-! ### how far -/
theorem comP_bd {m : List UInt8} : 4 + (comP m).2 ≤ 4 + m.length ∧ (m ≠ [] → 1 ≤ (comP m).2) := by
  unfold comP
  split
  · rename_i h; have h1 : 1 ≤ m.length := pre_len h; exact ⟨by show 4 + 1 ≤ _; omega, fun _ => Nat.le_refl _⟩
  · split
    · rename_i h; have h1 : 2 ≤ m.length := pre_len h; exact ⟨by show 4 + 2 ≤ _; omega, fun _ => by show 1 ≤ 2; decide⟩
    · have hA := fnd_le pA m
      have hB := fnd_le pB m
      split
      · refine ⟨Nat.le_refl _, fun h => ?_⟩
        have := List.length_pos_iff.2 h
        simp only; omega
      · rename_i h
        split
        · have := fnd_room pA m (by omega)
          have e : pA.length = 3 := rfl
          simp only; omega
        · have := fnd_room pB m (by omega)
          have e : pB.length = 4 := rfl
          simp only; omega
theorem rem_le (l : List UInt8) (f : Bool) : (rem l f).n ≤ l.length := by
  unfold rem
  split
  · rename_i h
    have h1 := pre_len h
    have h2 := (comP_bd (m := l.drop 4)).1
    rw [List.length_drop] at h2
    simp at h1
    show 4 + (comP (l.drop 4)).2 ≤ _
    omega
  · split
    · exact Nat.min_le_right _ _
    · split
      · unfold sec; split <;> exact Nat.min_le_right _ _
      · split
        · exact Nat.min_le_right _ _
        · split
          · exact Nat.min_le_right _ _
          · split
            · rename_i h; exact pre_len h
            · split
              · exact Nat.min_le_right _ _
              · exact Nat.zero_le _
/-- None is read without a byte. -/
theorem rem_zero {l : List UInt8} {f : Bool} (h : (rem l f).n = 0) : (rem l f).ok = false := by
  unfold rem at h ⊢
  split
  · rename_i h1; rw [if_pos h1] at h
    have : 4 + (comP (l.drop 4)).2 = 0 := h
    omega
  · rename_i h1; rw [if_neg h1] at h
    split
    · rename_i h2; rw [if_pos h2] at h
      have h3 : min (fndF [62] l 9 + 1) l.length = 0 := h
      unfold dtB at h2
      rw [Bool.and_eq_true, decide_eq_true_eq] at h2
      omega
    · rename_i h2; rw [if_neg h2] at h
      split
      · rename_i h3; rw [if_pos h3] at h
        rw [Bool.and_eq_true] at h3
        have h4 := pre_len h3.2
        have e : pCd.length = 9 := rfl
        unfold sec at h ⊢
        split
        · rfl
        · rename_i h5; rw [if_neg h5] at h
          have : min (fndF pS l 9 + 3) l.length = 0 := h
          omega
      · rename_i h3; rw [if_neg h3] at h
        split
        · rename_i h4; rw [if_pos h4] at h
          have := pre_len h4
          have h5 : min (fndF [62] l 2 + 1) l.length = 0 := h
          simp at this; omega
        · rename_i h4; rw [if_neg h4] at h
          split
          · rename_i h5; rw [if_pos h5] at h
            have := pre_len h5
            have h6 : min (fndF [62] l 1 + 1) l.length = 0 := h
            simp at this; omega
          · rename_i h5; rw [if_neg h5] at h
            split
            · rfl
            · rename_i h6; rw [if_neg h6] at h
              split
              · rename_i h7; rw [if_pos h7] at h
                rw [Bool.and_eq_true] at h7
                have := pre_len h7.1
                have h8 : min (fndF [62] l 2 + 1) l.length = 0 := h
                simp at this; omega
              · rfl
end Go.Proofs.Ytdljjfeojccidaa.R
