/-
  Plain: the text of bytes, step by step; how many characters it has; what follows of these.
-/
import Derived.Test.YtljpiamlbdknlaaDoorPlain
namespace Go.Proofs.YtljpiamlbdknlaaDoor
open Go.RowKit Go.Lib

/-- The first character of the text, as its bytes, and how many bytes are taken for it. -/
def stepL (l : List UInt8) : List UInt8 × Nat :=
  if (oneL l).2 = false ∨ l.head? = some 0 then ([239, 191, 189], (oneL l).1)
  else if l.head? = some 13 then ([10], if l[1]? = some 10 then 2 else (oneL l).1)
  else (l.take (oneL l).1, (oneL l).1)
/-- Its number, as Go's decoder has it. -/
def runeOf (l : List UInt8) : Int :=
  if (oneL l).2 = false ∨ l.head? = some 0 then 65533 else if l.head? = some 13 then 10 else ((decodeL l).1 : Int)
def decF : Nat → List UInt8 → List UInt8
  | 0, _ => []
  | f + 1, l => if l = [] then [] else (stepL l).1 ++ decF f (l.drop (stepL l).2)
/-- The text of bytes. -/
def decL (l : List UInt8) : List UInt8 := decF l.length l
def stF : Nat → List UInt8 → Nat
  | 0, _ => 0
  | f + 1, l => if l = [] then 0 else 1 + stF f (l.drop (stepL l).2)
/-- How many characters the text has, counted where it is made. -/
def stL (l : List UInt8) : Nat := stF l.length l
def cntF : Nat → List UInt8 → Nat
  | 0, _ => 0
  | f + 1, l => if l = [] then 0 else 1 + cntF f (l.drop (oneL l).1)
/-- How many characters bytes have, counted one by one. -/
def cntL (l : List UInt8) : Nat := cntF l.length l

theorem run_ge : ∀ (m lo hi i : Nat) (l : List UInt8), i ≤ (runL lo hi m i l).1
  | 0, _, _, _, _ => by simp [runL]
  | m + 1, _, _, _, [] => by simp [runL]
  | m + 1, lo, hi, i, x :: r => by
    unfold runL
    split
    · have := run_ge m 128 191 (i + 1) r; omega
    · simp
theorem runL_high : ∀ (m lo hi i : Nat) (l : List UInt8) (j : Nat), runL lo hi m i l = (j, true) → 128 ≤ lo → ∀ y ∈ l.take m, 128 ≤ y.toNat
  | 0, _, _, _, _, _, _, _, y, hy => by simp at hy
  | m + 1, _, _, _, [], _, h, _, _, _ => by simp [runL] at h
  | m + 1, lo, hi, i, x :: r, j, h, hlo, y, hy => by
    unfold runL at h
    split at h
    · rename_i hc
      rw [List.take_succ_cons] at hy
      rcases List.mem_cons.1 hy with e | e
      · rw [e]; omega
      · exact runL_high m _ _ _ _ _ h (Nat.le_refl _) y e
    · simp at h
theorem loOf_ge (c : Nat) : 128 ≤ loOf c := by unfold loOf; (repeat' split) <;> omega
theorem run_high {c : UInt8} {r : List UInt8} {n : Nat} (hlow : ¬ c.toNat < 128) (h : oneL (c :: r) = (n, true)) : ∀ y ∈ (c :: r).take n, 128 ≤ y.toNat := by
  have hn := oneL_true h
  obtain ⟨k, rfl⟩ : ∃ k, n = k + 1 := ⟨n - 1, by omega⟩
  rw [oneL_cons, if_neg hlow] at h
  split at h
  · simp at h
  · have e := runL_true _ _ _ _ _ _ h
    have : k = moreOf c.toNat := by omega
    subst this
    intro y hy
    rw [List.take_succ_cons] at hy
    rcases List.mem_cons.1 hy with e | e
    · rw [e]; omega
    · exact runL_high _ _ _ _ _ _ h (loOf_ge _) y e
theorem run_le2 : ∀ (m lo hi i : Nat) (l : List UInt8), (runL lo hi m i l).1 ≤ i + l.length
  | 0, _, _, _, _ => by simp [runL]
  | m + 1, _, _, _, [] => by simp [runL]
  | m + 1, lo, hi, i, x :: r => by
    unfold runL
    split
    · have := run_le2 m 128 191 (i + 1) r; simp; omega
    · simp
theorem oneL_pos (l : List UInt8) : 1 ≤ (oneL l).1 := by
  cases l with
  | nil => simp [oneL]
  | cons c r =>
    rw [oneL_cons]
    split
    · simp
    · split
      · simp
      · exact run_ge _ _ _ _ _
theorem oneL_le (l : List UInt8) (hne : l ≠ []) : (oneL l).1 ≤ l.length := by
  cases l with
  | nil => exact absurd rfl hne
  | cons c r =>
    rw [oneL_cons]
    split
    · simp
    · split
      · simp
      · have := run_le2 (moreOf c.toNat) (loOf c.toNat) (hiOf c.toNat) 1 r; simp; omega
theorem stepL_pos (l : List UInt8) : 1 ≤ (stepL l).2 := by
  have := oneL_pos l
  unfold stepL
  split
  · exact this
  · split
    · simp only; split <;> omega
    · exact this
theorem stepL_le (l : List UInt8) (hne : l ≠ []) : (stepL l).2 ≤ l.length := by
  have := oneL_le l hne
  unfold stepL
  split
  · exact this
  · split
    · simp only
      split
      · rename_i h
        have := (List.getElem?_eq_some_iff.1 h).1
        omega
      · exact this
    · exact this

theorem decF_nil : ∀ n, decF n [] = []
  | 0 => rfl
  | _ + 1 => by simp [decF]
theorem decF_fuel : ∀ (n m : Nat) (l : List UInt8), l.length ≤ n → l.length ≤ m → decF n l = decF m l
  | 0, m, l, hn, _ => by
    have : l = [] := List.eq_nil_of_length_eq_zero (by omega)
    subst this; rw [decF_nil, decF_nil]
  | n + 1, 0, l, _, hm => by
    have : l = [] := List.eq_nil_of_length_eq_zero (by omega)
    subst this; rw [decF_nil, decF_nil]
  | n + 1, m + 1, l, hn, hm => by
    unfold decF
    by_cases hne : l = []
    · simp [hne]
    · have hw := stepL_pos l
      have hl : 0 < l.length := List.length_pos_iff.2 hne
      rw [if_neg hne, if_neg hne, decF_fuel n m (l.drop (stepL l).2) (by rw [List.length_drop]; omega) (by rw [List.length_drop]; omega)]
theorem decL_nil : decL [] = [] := rfl
theorem decL_step (l : List UInt8) (hne : l ≠ []) : decL l = (stepL l).1 ++ decL (l.drop (stepL l).2) := by
  have hw := stepL_pos l
  have hl : 0 < l.length := List.length_pos_iff.2 hne
  obtain ⟨n, hn⟩ : ∃ n, l.length = n + 1 := ⟨l.length - 1, by omega⟩
  unfold decL
  rw [hn]
  conv => lhs; unfold decF
  rw [if_neg hne, decF_fuel n (l.drop (stepL l).2).length _ (by rw [List.length_drop]; omega) (Nat.le_refl _)]
theorem stF_nil : ∀ n, stF n [] = 0
  | 0 => rfl
  | _ + 1 => by simp [stF]
theorem stF_fuel : ∀ (n m : Nat) (l : List UInt8), l.length ≤ n → l.length ≤ m → stF n l = stF m l
  | 0, m, l, hn, _ => by
    have : l = [] := List.eq_nil_of_length_eq_zero (by omega)
    subst this; rw [stF_nil, stF_nil]
  | n + 1, 0, l, _, hm => by
    have : l = [] := List.eq_nil_of_length_eq_zero (by omega)
    subst this; rw [stF_nil, stF_nil]
  | n + 1, m + 1, l, hn, hm => by
    unfold stF
    by_cases hne : l = []
    · simp [hne]
    · have hw := stepL_pos l
      have hl : 0 < l.length := List.length_pos_iff.2 hne
      rw [if_neg hne, if_neg hne, stF_fuel n m (l.drop (stepL l).2) (by rw [List.length_drop]; omega) (by rw [List.length_drop]; omega)]
theorem stL_step (l : List UInt8) (hne : l ≠ []) : stL l = 1 + stL (l.drop (stepL l).2) := by
  have hw := stepL_pos l
  have hl : 0 < l.length := List.length_pos_iff.2 hne
  obtain ⟨n, hn⟩ : ∃ n, l.length = n + 1 := ⟨l.length - 1, by omega⟩
  unfold stL
  rw [hn]
  conv => lhs; unfold stF
  rw [if_neg hne, stF_fuel n (l.drop (stepL l).2).length _ (by rw [List.length_drop]; omega) (Nat.le_refl _)]
theorem cntF_nil : ∀ n, cntF n [] = 0
  | 0 => rfl
  | _ + 1 => by simp [cntF]
theorem cntF_fuel : ∀ (n m : Nat) (l : List UInt8), l.length ≤ n → l.length ≤ m → cntF n l = cntF m l
  | 0, m, l, hn, _ => by
    have : l = [] := List.eq_nil_of_length_eq_zero (by omega)
    subst this; rw [cntF_nil, cntF_nil]
  | n + 1, 0, l, _, hm => by
    have : l = [] := List.eq_nil_of_length_eq_zero (by omega)
    subst this; rw [cntF_nil, cntF_nil]
  | n + 1, m + 1, l, hn, hm => by
    unfold cntF
    by_cases hne : l = []
    · simp [hne]
    · have hw := oneL_pos l
      have hl : 0 < l.length := List.length_pos_iff.2 hne
      rw [if_neg hne, if_neg hne, cntF_fuel n m (l.drop (oneL l).1) (by rw [List.length_drop]; omega) (by rw [List.length_drop]; omega)]
theorem cntL_step (l : List UInt8) (hne : l ≠ []) : cntL l = 1 + cntL (l.drop (oneL l).1) := by
  have hw := oneL_pos l
  have hl : 0 < l.length := List.length_pos_iff.2 hne
  obtain ⟨n, hn⟩ : ∃ n, l.length = n + 1 := ⟨l.length - 1, by omega⟩
  unfold cntL
  rw [hn]
  conv => lhs; unfold cntF
  rw [if_neg hne, cntF_fuel n (l.drop (oneL l).1).length _ (by rw [List.length_drop]; omega) (Nat.le_refl _)]

/-- The bytes of one character that may stand in a text. -/
def IsChar (p : List UInt8) : Prop := p ≠ [] ∧ oneL p = (p.length, true) ∧ p.head? ≠ some 0 ∧ p.head? ≠ some 13
theorem isChar_app {p : List UInt8} (h : IsChar p) (y : List UInt8) : oneL (p ++ y) = (p.length, true) ∧ (p ++ y).head? = p.head? := by
  obtain ⟨hne, h1, _, _⟩ := h
  refine ⟨?_, by cases p with | nil => exact absurd rfl hne | cons _ _ => rfl⟩
  have := oneL_app h1 y
  rwa [List.take_length] at this
theorem isChar_step {p : List UInt8} (h : IsChar p) (y : List UInt8) : stepL (p ++ y) = (p, p.length) := by
  obtain ⟨h1, h2⟩ := isChar_app h y
  unfold stepL
  rw [h1, h2, if_neg (by simp; exact h.2.2.1), if_neg h.2.2.2, List.take_left]
theorem isChar_ne {p : List UInt8} (h : IsChar p) (y : List UInt8) : p ++ y ≠ [] := by
  intro e; exact h.1 (List.append_eq_nil_iff.1 e).1
theorem decL_app {p : List UInt8} (h : IsChar p) (y : List UInt8) : decL (p ++ y) = p ++ decL y := by
  rw [decL_step _ (isChar_ne h y), isChar_step h y, List.drop_left]
theorem cntL_app {p : List UInt8} (h : IsChar p) (y : List UInt8) : cntL (p ++ y) = 1 + cntL y := by
  rw [cntL_step _ (isChar_ne h y), (isChar_app h y).1, List.drop_left]
theorem stL_app {p : List UInt8} (h : IsChar p) (y : List UInt8) : stL (p ++ y) = 1 + stL y := by
  rw [stL_step _ (isChar_ne h y), isChar_step h y, List.drop_left]
theorem isChar_other : IsChar [239, 191, 189] := ⟨by decide, by decide, by decide, by decide⟩
theorem isChar_line : IsChar [10] := ⟨by decide, by decide, by decide, by decide⟩
/-- What a step gives is one character. -/
theorem stepL_char (l : List UInt8) (hne : l ≠ []) : IsChar (stepL l).1 := by
  unfold stepL
  split
  · exact isChar_other
  · rename_i h0
    split
    · exact isChar_line
    · rename_i h13
      have h1 : oneL l = ((oneL l).1, true) := by
        cases hx : (oneL l).2 with
        | true => rw [← hx]
        | false => exact absurd (.inl hx) h0
      have hp := oneL_true h1
      have hh : (l.take (oneL l).1).head? = l.head? := by
        cases l with
        | nil => exact absurd rfl hne
        | cons c r =>
          obtain ⟨k, hk⟩ : ∃ k, (oneL (c :: r)).1 = k + 1 := ⟨(oneL (c :: r)).1 - 1, by omega⟩
          rw [hk]; rfl
      refine ⟨?_, ?_, by rw [hh]; exact fun e => h0 (.inr e), by rw [hh]; exact h13⟩
      · intro e
        have := congrArg List.length e
        simp only [List.length_take, List.length_nil] at this
        omega
      · have := oneL_app h1 []
        rw [List.append_nil] at this
        rw [this, List.length_take]
        congr 1
        omega
/-- Induction over the steps. -/
theorem step_ind {P : List UInt8 → Prop} (h0 : P []) (hs : ∀ l, l ≠ [] → P (l.drop (stepL l).2) → P l) : ∀ l, P l := by
  have : ∀ n (l : List UInt8), l.length ≤ n → P l := by
    intro n
    induction n with
    | zero =>
      intro l hl
      have : l = [] := List.eq_nil_of_length_eq_zero (by omega)
      rw [this]; exact h0
    | succ n ih =>
      intro l hl
      by_cases hne : l = []
      · rw [hne]; exact h0
      · exact hs l hne (ih _ (by have := stepL_pos l; have : 0 < l.length := List.length_pos_iff.2 hne; rw [List.length_drop]; omega))
  exact fun l => this _ l (Nat.le_refl _)
theorem decL_idem (l : List UInt8) : decL (decL l) = decL l := by
  refine step_ind (P := fun l => decL (decL l) = decL l) rfl ?_ l
  intro l hne ih
  rw [decL_step l hne, decL_app (stepL_char l hne), ih]
theorem cntL_decL (l : List UInt8) : cntL (decL l) = stL l := by
  refine step_ind (P := fun l => cntL (decL l) = stL l) rfl ?_ l
  intro l hne ih
  rw [decL_step l hne, cntL_app (stepL_char l hne), ih, stL_step l hne]
theorem stL_decL (l : List UInt8) : stL (decL l) = stL l := by
  refine step_ind (P := fun l => stL (decL l) = stL l) rfl ?_ l
  intro l hne ih
  rw [decL_step l hne, stL_app (stepL_char l hne), ih, stL_step l hne]
theorem stL_le (l : List UInt8) : stL l ≤ l.length := by
  refine step_ind (P := fun l => stL l ≤ l.length) (Nat.le_refl _) ?_ l
  intro l hne ih
  have := stepL_pos l
  have hl : 0 < l.length := List.length_pos_iff.2 hne
  rw [List.length_drop] at ih
  rw [stL_step l hne]; omega
theorem decL_len (l : List UInt8) : (decL l).length ≤ 3 * l.length := by
  refine step_ind (P := fun l => (decL l).length ≤ 3 * l.length) (Nat.le_refl _) ?_ l
  intro l hne ih
  have h1 := stepL_pos l
  have h2 := stepL_le l hne
  rw [List.length_drop] at ih
  rw [decL_step l hne, List.length_append]
  have : (stepL l).1.length ≤ 3 * (stepL l).2 := by
    have := oneL_pos l
    unfold stepL
    split
    · simp; omega
    · split
      · simp only [List.length_cons, List.length_nil]; split <;> omega
      · simp only [List.length_take]; omega
  omega

/-- Valid, as Go's library and two searches tell it. -/
def okU (l : List UInt8) : Bool := validD l && (!l.contains 0 && !l.contains 13)
theorem oneL_bad {l : List UInt8} (hne : l ≠ []) : ((oneL l).2 = false) ↔ ((decodeL l).1 = 65533 ∧ (decodeL l).2 = 1) := by
  rcases oneL_shape l hne with ⟨h1, h2⟩ | ⟨h1, h2⟩
  · rw [h1]; simp; simpa using h2
  · rw [h1, h2]; simp
theorem decL_eq (l : List UInt8) : (decL l = l) ↔ okU l = true := by
  refine step_ind (P := fun l => (decL l = l) ↔ okU l = true) (by simp [decL_nil, okU, validD_nil]) ?_ l
  intro l hne ih
  have hd : l = l.take (stepL l).2 ++ l.drop (stepL l).2 := (List.take_append_drop _ _).symm
  by_cases hbad : (oneL l).2 = false
  · have hb := (oneL_bad hne).1 hbad
    constructor
    · intro e
      exfalso
      have h := decL_step l hne
      rw [e] at h
      have h3 : (stepL l).1 = [239, 191, 189] := by unfold stepL; rw [if_pos (.inl hbad)]
      have := (isChar_app (stepL_char l hne) (decL (l.drop (stepL l).2))).1
      rw [← h] at this
      rw [this] at hbad
      cases hbad
    · intro e
      exfalso
      unfold okU at e
      rw [validD_step l hne, if_pos hb] at e
      simp at e
  · have hg : (oneL l).2 = true := by simpa using hbad
    have hbd : ¬ ((decodeL l).1 = 65533 ∧ (decodeL l).2 = 1) := fun h => hbad ((oneL_bad hne).2 h)
    by_cases h0 : l.head? = some 0
    · constructor
      · intro e
        exfalso
        have h := decL_step l hne
        rw [e] at h
        have h3 : (stepL l).1 = [239, 191, 189] := by unfold stepL; rw [if_pos (.inr h0)]
        rw [h3] at h
        rw [h] at h0
        simp at h0
      · intro e
        exfalso
        have : l.contains 0 = true := by
          cases l with
          | nil => exact absurd rfl hne
          | cons c r => simp at h0; simp [h0]
        unfold okU at e
        rw [this] at e
        simp at e
    · by_cases h13 : l.head? = some 13
      · constructor
        · intro e
          exfalso
          have h := decL_step l hne
          rw [e] at h
          have h3 : (stepL l).1 = [10] := by unfold stepL; rw [if_neg (by rw [hg]; simp; exact h0), if_pos h13]
          rw [h3] at h
          rw [h] at h13
          simp at h13
        · intro e
          exfalso
          have : l.contains 13 = true := by
            cases l with
            | nil => exact absurd rfl hne
            | cons c r => simp at h13; simp [h13]
          unfold okU at e
          rw [this] at e
          simp at e
      · have hs : stepL l = (l.take (oneL l).1, (oneL l).1) := by
          unfold stepL; rw [if_neg (by rw [hg]; simp; exact h0), if_neg h13]
        have hw : (oneL l).1 = (decodeL l).2 := by
          rcases oneL_shape l hne with ⟨h1, _⟩ | ⟨h1, _⟩
          · rw [h1]
          · exact absurd h1 hbad
        have hsame : (decL l = l) ↔ decL (l.drop (oneL l).1) = l.drop (oneL l).1 := by
          rw [decL_step l hne, hs]
          constructor
          · intro e
            have e2 := e.trans (List.take_append_drop (oneL l).1 l).symm
            exact List.append_cancel_left e2
          · intro e
            simp only
            rw [e, List.take_append_drop]
        rw [hsame]
        rw [hs] at ih
        simp only at ih
        rw [ih]
        have hv : validD l = validD (l.drop (oneL l).1) := by
          rw [validD_step l hne, if_neg hbd, hw]
        have hno : ∀ x : UInt8, x.toNat < 128 → l.head? ≠ some x → l.contains x = (l.drop (oneL l).1).contains x := by
          intro x hx hh
          have hc : ∀ y ∈ l.take (oneL l).1, y ≠ x := by
            have hen := encode_decode l hne hbd
            rw [← hw] at hen
            cases l with
            | nil => exact absurd rfl hne
            | cons c r =>
              have hone : oneL (c :: r) = ((oneL (c :: r)).1, true) := by rw [← hg]
              intro y hy
              have hcx : c ≠ x := by intro e; exact hh (by rw [e]; rfl)
              by_cases hlow : c.toNat < 128
              · have : (oneL (c :: r)).1 = 1 := by rw [oneL_cons, if_pos hlow]
                rw [this] at hy
                simp at hy
                rw [hy]; exact hcx
              · -- each further byte is above 127
                have := run_high (c := c) (r := r) hlow hone y hy
                intro e; rw [e] at this; omega
          conv => lhs; rw [← List.take_append_drop (oneL l).1 l]
          rw [List.contains_append]
          have : (l.take (oneL l).1).contains x = false := by
            cases hq : (l.take (oneL l).1).contains x with
            | false => rfl
            | true => exact absurd rfl (hc x (by simpa using hq))
          rw [this, Bool.false_or]
        unfold okU
        rw [hv, hno 0 (by decide) h0, hno 13 (by decide) h13]
end Go.Proofs.YtljpiamlbdknlaaDoor
