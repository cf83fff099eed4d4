/-
  Layer 5 (escape) in plain functions on lists of bytes: text as it is written; how long it is; that it is read again as it was. No program stands here.
-/
import Derived.Test.YtkfaenhidjekdaaDoorCPlain
import GoSem.Core.Utf8
namespace Go.Proofs.YtkfaenhidjekdaaDoor.E
open Go.RowKit Go.Proofs.YtkfaenhidjekdaaDoor.C

/-- What is written instead of a byte. -/
def sgn (q : Bool) (c : UInt8) : Option (List UInt8) :=
  if c = 38 then some [38, 97, 109, 112, 59] else if c = 60 then some [38, 108, 116, 59] else if c = 62 then some [38, 103, 116, 59]
  else if c = 34 ∧ q = true then some [38, 113, 117, 111, 116, 59] else none
def nbsp : List UInt8 := [38, 110, 98, 115, 112, 59]
def esc (q : Bool) : List UInt8 → List UInt8
  | [] => []
  | c :: l => match sgn q c with
    | some t => t ++ esc q l
    | none => if c = 194 then (match l with
        | [] => [c]
        | d :: m => if d = 160 then nbsp ++ esc q m else c :: esc q (d :: m))
      else c :: esc q l
theorem esc_nil (q : Bool) : esc q [] = [] := by unfold esc; rfl
theorem esc_sgn {q : Bool} {c : UInt8} {t : List UInt8} (h : sgn q c = some t) (l : List UInt8) : esc q (c :: l) = t ++ esc q l := by
  conv => lhs; unfold esc
  rw [h]
theorem esc_nbsp (q : Bool) (l : List UInt8) : esc q (194 :: 160 :: l) = nbsp ++ esc q l := by
  conv => lhs; unfold esc
  have : sgn q 194 = none := by cases q <;> decide
  rw [this]; simp
theorem esc_keep {q : Bool} {c : UInt8} {l : List UInt8} (h : sgn q c = none) (hn : c ≠ 194 ∨ l.head? ≠ some 160) : esc q (c :: l) = c :: esc q l := by
  conv => lhs; unfold esc
  rw [h]
  by_cases h1 : c = 194
  · subst h1
    cases l with
    | nil => simp [esc_nil]
    | cons d m =>
      have hd : d ≠ 160 := by
        rcases hn with h2 | h2
        · exact absurd rfl h2
        · intro e; apply h2; rw [e]; rfl
      simp [hd]
  · simp [h1]
theorem sgn_len {q : Bool} {c : UInt8} {t : List UInt8} (h : sgn q c = some t) : t.length ≤ 6 := by
  unfold sgn at h
  repeat' split at h
  all_goals first
    | (cases h; decide)
    | cases h
theorem esc_len (q : Bool) : ∀ l : List UInt8, (esc q l).length ≤ 6 * l.length
  | [] => by rw [esc_nil]; exact Nat.zero_le _
  | c :: l => by
    cases h : sgn q c with
    | some t => rw [esc_sgn h, List.length_append, List.length_cons]; have := sgn_len h; have := esc_len q l; omega
    | none =>
      by_cases hn : c ≠ 194 ∨ l.head? ≠ some 160
      · rw [esc_keep h hn, List.length_cons, List.length_cons]; have := esc_len q l; omega
      · have h1 : c = 194 := by by_cases e : c = 194; exact e; exact absurd (.inl e) hn
        have h2 : l.head? = some 160 := by by_cases e : l.head? = some 160; exact e; exact absurd (.inr e) hn
        cases l with
        | nil => cases h2
        | cons d m =>
          have hd : d = 160 := by simpa using h2
          subst h1 hd
          rw [esc_nbsp, List.length_append, List.length_cons, List.length_cons]; have := esc_len q m
          have : nbsp.length = 6 := rfl
          omega
/-- Bytes that stay. -/
def stays (q : Bool) (c : UInt8) : Bool := (sgn q c).isNone
theorem stays_iff {q : Bool} {c : UInt8} : stays q c = true ↔ sgn q c = none := by unfold stays; simp
theorem sgn_high {q : Bool} {c : UInt8} (h : 128 ≤ c.toNat) : sgn q c = none := by
  unfold sgn
  have h1 : c ≠ 38 := by intro e; rw [e] at h; revert h; decide
  have h2 : c ≠ 60 := by intro e; rw [e] at h; revert h; decide
  have h3 : c ≠ 62 := by intro e; rw [e] at h; revert h; decide
  have h4 : c ≠ 34 := by intro e; rw [e] at h; revert h; decide
  simp [h1, h2, h3, h4]
/-- High bytes, none of which is 194 followed by 160 among them or at their end, stay. -/
theorem esc_high (q : Bool) : ∀ (p t : List UInt8), (∀ c ∈ p, 128 ≤ c.toNat ∧ c ≠ 194) → esc q (p ++ t) = p ++ esc q t
  | [], _, _ => rfl
  | c :: p, t, h => by
    have h1 := h c (by simp)
    rw [List.cons_append, esc_keep (sgn_high h1.1) (.inl h1.2), esc_high q p t (fun d hd => h d (by simp [hd]))]; rfl

/-! ### no sign is left -/
theorem esc_none (q : Bool) (x : UInt8) (hx : x = 60 ∨ x = 62 ∨ (x = 34 ∧ q = true)) : ∀ l : List UInt8, x ∉ esc q l
  | [] => by rw [esc_nil]; simp
  | c :: l => by
    cases h : sgn q c with
    | some t =>
      rw [esc_sgn h, List.mem_append]
      rintro (h1 | h1)
      · unfold sgn at h
        repeat' split at h
        all_goals first
          | (cases h; rcases hx with rfl | rfl | ⟨rfl, _⟩ <;> revert h1 <;> decide)
          | cases h
      · exact esc_none q x hx l h1
    | none =>
      by_cases hn : c ≠ 194 ∨ l.head? ≠ some 160
      · rw [esc_keep h hn, List.mem_cons]
        rintro (h1 | h1)
        · subst h1
          rcases hx with rfl | rfl | ⟨rfl, rfl⟩
          · revert h; cases q <;> decide
          · revert h; cases q <;> decide
          · revert h; decide
        · exact esc_none q x hx l h1
      · have h1 : c = 194 := by by_cases e : c = 194; exact e; exact absurd (.inl e) hn
        have h2 : l.head? = some 160 := by by_cases e : l.head? = some 160; exact e; exact absurd (.inr e) hn
        cases l with
        | nil => cases h2
        | cons d m =>
          have hd : d = 160 := by simpa using h2
          subst h1 hd
          rw [esc_nbsp, List.mem_append]
          rintro (h3 | h3)
          · rcases hx with rfl | rfl | ⟨rfl, _⟩ <;> revert h3 <;> decide
          · exact esc_none q x hx m h3

/-! ### it is read again as it was -/
theorem tab_mid : ∀ e ∈ tabR, (59 : UInt8) ∉ e.1.dropLast := by decide +kernel
theorem mt_mid (k a b : List UInt8) (hb : b ≠ []) (hk : (59 : UInt8) ∉ k.dropLast) : C.mt k (a ++ 59 :: b) = false := by
  unfold C.mt
  have hmem : (59 : UInt8) ∈ (a ++ 59 :: b).dropLast := by
    rw [List.dropLast_append_of_ne_nil (by simp), List.dropLast_cons_of_ne_nil hb]; simp
  have h1 : (a ++ 59 :: b == k) = false := by
    rw [beq_eq_false_iff_ne]; intro e; rw [← e] at hk; exact hk hmem
  rw [h1, Bool.false_or]
  by_cases hl : k.getLast? = some 59
  · simp [hl]
  · have h2 : (a ++ 59 :: b == k ++ [59]) = false := by
      rw [beq_eq_false_iff_ne]; intro e
      rw [e, List.dropLast_concat] at hmem
      rcases List.eq_nil_or_concat k with rfl | ⟨k', x, rfl⟩
      · cases hmem
      · rw [List.concat_eq_append] at *
        rw [List.dropLast_concat] at hk
        rw [List.getLast?_concat] at hl
        rcases List.mem_append.1 hmem with h | h
        · exact hk h
        · simp at h; exact hl (by rw [h])
    rw [h2, Bool.and_false]
theorem nmG_mid (a b : List UInt8) (hb : b ≠ []) : ∀ t : Tab, (∀ e ∈ t, (59 : UInt8) ∉ e.1.dropLast) → nmG t (a ++ 59 :: b) = 0
  | [], _ => rfl
  | (k, v) :: r, h => by
    unfold nmG
    rw [if_neg (by rw [mt_mid k a b hb (h (k, v) (by simp))]; decide), nmG_mid a b hb r (fun e he => h e (by simp [he]))]
theorem nm_mid (a b : List UInt8) (hb : b ≠ []) : nm (a ++ 59 :: b) = 0 := nmG_mid a b hb tabR tab_mid
/-- A name with its semicolon is found, whatever stands behind. -/
theorem rdN_name (n rest : List UInt8) (value : Bool) (hn : nm (n ++ [59]) ≠ 0) : ∀ d, n.length + 2 + d ≤ (38 :: n ++ 59 :: rest).length →
    rdN (38 :: n ++ 59 :: rest) value (n.length + 2 + d) = (encS (nm (n ++ [59])), n.length + 2)
  | 0, _ => by
    have ht : ((38 :: n ++ 59 :: rest).take (n.length + 2)).drop 1 = n ++ [59] := by
      rw [List.cons_append, List.take_succ_cons, List.drop_succ_cons, List.drop_zero, List.take_append]
      have : n.length + 1 - n.length = 1 := by omega
      rw [List.take_of_length_le (by omega), this]; rfl
    have hl : (38 :: n ++ 59 :: rest)[n.length + 1]? = some 59 := by
      rw [List.cons_append, List.getElem?_cons_succ, List.getElem?_append_right (Nat.le_refl _), Nat.sub_self]; rfl
    show rdN _ value (n.length + 2) = _
    unfold rdN
    rw [ht, if_neg hn, if_neg (by rw [hl]; simp)]
  | d + 1, h => by
    have ih := rdN_name n rest value hn d (by omega)
    rw [show n.length + 2 + (d + 1) = (n.length + 1 + d) + 2 by omega]
    unfold rdN
    have hr : rest ≠ [] := by
      intro e; subst e
      simp at h; omega
    have ht : ((38 :: n ++ 59 :: rest).take (n.length + 1 + d + 2)).drop 1 = n ++ 59 :: rest.take (d + 1) := by
      rw [List.cons_append, List.take_succ_cons, List.drop_succ_cons, List.drop_zero, List.take_append]
      have : n.length + 1 + d + 1 - n.length = (d + 1) + 1 := by omega
      rw [List.take_of_length_le (by omega), this, List.take_succ_cons]
    have hb : rest.take (d + 1) ≠ [] := by
      cases rest with
      | nil => exact absurd rfl hr
      | cons x y => simp
    rw [ht, if_pos (nm_mid n _ hb)]
    have e1 : n.length + 1 + d + 1 = n.length + 2 + d := by omega
    rw [e1]; exact ih
theorem rd_name (n rest : List UInt8) (value : Bool) (hn : nm (n ++ [59]) ≠ 0) (h9 : n.length ≤ 7) (h35 : (n ++ [59]).head? ≠ some 35) :
    rd (38 :: n ++ 59 :: rest) value = (encS (nm (n ++ [59])), n.length + 2) := by
  unfold rd
  have h0 : (38 :: n ++ 59 :: rest)[0]? = some 38 := rfl
  have h1 : (38 :: n ++ 59 :: rest)[1]? ≠ some 35 := by
    intro e; apply h35
    cases n with
    | nil => simp at e
    | cons x y => simpa using e
  rw [if_pos h0, if_neg h1]
  have hl : (38 :: n ++ 59 :: rest).length = n.length + 2 + rest.length := by simp; omega
  have e1 : min (38 :: n ++ 59 :: rest).length 9 = n.length + 2 + min rest.length (7 - n.length) := by rw [hl]; omega
  rw [e1]
  exact rdN_name n rest value hn _ (by rw [hl]; omega)
theorem dec_name (n rest : List UInt8) (value : Bool) (hn : nm (n ++ [59]) ≠ 0) (h9 : n.length ≤ 7) (h35 : (n ++ [59]).head? ≠ some 35) :
    dec value (38 :: n ++ 59 :: rest) = (encS (nm (n ++ [59]))).data.toList ++ dec value rest := by
  have h := rd_name n rest value hn h9 h35
  rw [dec_ref value _ (by rw [h]; simp), h]
  congr 2
  show (38 :: n ++ 59 :: rest).drop (n.length + 2) = rest
  rw [List.cons_append, List.drop_succ_cons, List.drop_append]
  have : n.length + 1 - n.length = 1 := by omega
  rw [List.drop_eq_nil_of_le (by omega), this]; rfl
theorem dec_amp (value : Bool) (l : List UInt8) : dec value ([38, 97, 109, 112, 59] ++ l) = 38 :: dec value l := dec_name [97, 109, 112] l value (by decide) (by decide) (by decide)
theorem dec_lt (value : Bool) (l : List UInt8) : dec value ([38, 108, 116, 59] ++ l) = 60 :: dec value l := dec_name [108, 116] l value (by decide) (by decide) (by decide)
theorem dec_gt (value : Bool) (l : List UInt8) : dec value ([38, 103, 116, 59] ++ l) = 62 :: dec value l := dec_name [103, 116] l value (by decide) (by decide) (by decide)
theorem dec_quot (value : Bool) (l : List UInt8) : dec value ([38, 113, 117, 111, 116, 59] ++ l) = 34 :: dec value l := dec_name [113, 117, 111, 116] l value (by decide) (by decide) (by decide)
theorem dec_nbsp (value : Bool) (l : List UInt8) : dec value (nbsp ++ l) = 194 :: 160 :: dec value l := dec_name [110, 98, 115, 112] l value (by decide) (by decide) (by decide)
theorem dec_sgn {q : Bool} {c : UInt8} {t : List UInt8} (h : sgn q c = some t) (value : Bool) (l : List UInt8) : dec value (t ++ l) = c :: dec value l := by
  unfold sgn at h
  repeat' split at h
  · rename_i e; cases h; rw [e]; exact dec_amp value l
  · rename_i _ e; cases h; rw [e]; exact dec_lt value l
  · rename_i _ _ e; cases h; rw [e]; exact dec_gt value l
  · rename_i _ _ _ e; cases h; rw [e.1]; exact dec_quot value l
  · cases h
theorem dec_esc (q value : Bool) : ∀ l : List UInt8, dec value (esc q l) = l
  | [] => by rw [esc_nil]; rfl
  | c :: l => by
    cases h : sgn q c with
    | some t => rw [esc_sgn h, dec_sgn h, dec_esc q value l]
    | none =>
      by_cases hn : c ≠ 194 ∨ l.head? ≠ some 160
      · have hc : c ≠ 38 := by intro e; subst e; revert h; cases q <;> decide
        rw [esc_keep h hn, dec_keep value c _ (rd_other c _ value hc), dec_esc q value l]
      · have h1 : c = 194 := by by_cases e : c = 194; exact e; exact absurd (.inl e) hn
        have h2 : l.head? = some 160 := by by_cases e : l.head? = some 160; exact e; exact absurd (.inr e) hn
        cases l with
        | nil => cases h2
        | cons d m =>
          have hd : d = 160 := by simpa using h2
          subst h1 hd
          rw [esc_nbsp, dec_nbsp, dec_esc q value m]

/-! ### by characters -/
def rpl (q : Bool) (r : Nat) : Option (List UInt8) :=
  if r = 38 then some [38, 97, 109, 112, 59] else if r = 160 then some nbsp else if r = 60 then some [38, 108, 116, 59] else if r = 62 then some [38, 103, 116, 59]
  else if r = 34 ∧ q = true then some [38, 113, 117, 111, 116, 59] else none
theorem rpl_low (q : Bool) (c : UInt8) (h : c.toNat < 128) : rpl q c.toNat = sgn q c := by
  have key : ∀ n : Fin 128, rpl q n.val = sgn q (UInt8.ofNat n.val) := by cases q <;> decide
  have := key ⟨c.toNat, h⟩
  simpa using this
theorem get_bang (s : ByteArray) (k : Nat) (h : k < s.size) : s.get! k = s[k] := by
  simp [ByteArray.get!, getElem!_pos, h]; rfl
/-- What the iterator's step tells: the character's bytes are one to four, within the text; it is written as they are, or as its reference. -/
structure Step (q : Bool) (s : ByteArray) (p : Nat) : Prop where
  pos : 1 ≤ (Utf8.decode s p).2
  fits : p + (Utf8.decode s p).2 ≤ s.size
  yes : ∀ t, rpl q (Utf8.decode s p).1 = some t → esc q (s.data.toList.drop p) = t ++ esc q (s.data.toList.drop (p + (Utf8.decode s p).2)) ∧ (Utf8.decode s p).2 = if (Utf8.decode s p).1 = 160 then 2 else 1
  no : rpl q (Utf8.decode s p).1 = none → esc q (s.data.toList.drop p) = (s.data.toList.drop p).take (Utf8.decode s p).2 ++ esc q (s.data.toList.drop (p + (Utf8.decode s p).2))
theorem rpl_far (q : Bool) {r : Nat} (h : 128 ≤ r) (h' : r ≠ 160) : rpl q r = none := by
  unfold rpl
  rw [if_neg (by omega), if_neg h', if_neg (by omega), if_neg (by omega), if_neg (by omega)]
theorem esc_cut (q : Bool) (s : ByteArray) (p k : Nat) (h1 : 1 ≤ k) (hk : p + k ≤ s.size) (h0 : 128 ≤ (s.get! p).toNat) (hn : (s.get! p).toNat ≠ 194 ∨ ¬ p + 1 < s.size ∨ (s.get! (p + 1)).toNat ≠ 160)
    (h : ∀ j, 1 ≤ j → j < k → 128 ≤ (s.get! (p + j)).toNat ∧ (s.get! (p + j)).toNat < 192) :
    esc q (s.data.toList.drop p) = (s.data.toList.drop p).take k ++ esc q (s.data.toList.drop (p + k)) := by
  obtain ⟨k, rfl⟩ : ∃ m, k = m + 1 := ⟨k - 1, by omega⟩
  rw [get_bang s p (by omega)] at h0 hn
  have hne : s[p] ≠ 194 ∨ (s.data.toList.drop (p + 1)).head? ≠ some 160 := by
    rcases hn with hn | hn | hn
    · exact .inl fun e => hn (by rw [e]; rfl)
    · right; rw [List.drop_eq_nil_of_le (by rw [size_list]; omega)]; simp
    · by_cases hp : p + 1 < s.size
      · rw [get_bang s (p + 1) hp] at hn
        right; rw [drop_at s (p + 1) hp]
        intro e; apply hn
        have : s[p + 1] = 160 := by simpa using e
        rw [this]; rfl
      · right; rw [List.drop_eq_nil_of_le (by rw [size_list]; omega)]; simp
  rw [drop_at s p (by omega), List.take_succ_cons, List.cons_append, esc_keep (sgn_high h0) hne]
  congr 1
  conv => lhs; rw [← List.take_append_drop k (s.data.toList.drop (p + 1))]
  rw [List.drop_drop, show p + 1 + k = p + (k + 1) by omega]
  refine esc_high q _ _ ?_
  intro c hc
  obtain ⟨j, hj, rfl⟩ := List.mem_iff_getElem.1 hc
  rw [List.length_take, List.length_drop, size_list] at hj
  have := h (j + 1) (by omega) (by omega)
  rw [get_bang s (p + (j + 1)) (by omega)] at this
  rw [List.getElem_take, List.getElem_drop]
  have e : s.data.toList[p + 1 + j]'(by rw [size_list]; omega) = s[p + (j + 1)]'(by omega) := by
    simp only [show p + 1 + j = p + (j + 1) by omega]; rfl
  rw [e]
  refine ⟨this.1, fun e2 => ?_⟩
  rw [e2] at this; revert this; decide
theorem decode_cases (s : ByteArray) (p : Nat) (hp : p < s.size) (hn : ¬ (s.get! p).toNat < 128) :
    ((Utf8.decode s p).1 = 160 ∧ (Utf8.decode s p).2 = 2 ∧ (s.get! p).toNat = 194 ∧ (s.get! (p + 1)).toNat = 160 ∧ p + 1 < s.size) ∨
    ((Utf8.decode s p).1 ≠ 160 ∧ 128 ≤ (Utf8.decode s p).1 ∧ 1 ≤ (Utf8.decode s p).2 ∧ p + (Utf8.decode s p).2 ≤ s.size ∧ ((s.get! p).toNat ≠ 194 ∨ ¬ p + 1 < s.size ∨ (s.get! (p + 1)).toNat ≠ 160) ∧
      ∀ j, 1 ≤ j → j < (Utf8.decode s p).2 → 128 ≤ (s.get! (p + j)).toNat ∧ (s.get! (p + j)).toNat < 192) := by
  have hb : ∀ k, (s.get! (p + k)).toNat < 256 := fun k => (s.get! (p + k)).toNat_lt
  have h0 := (s.get! p).toNat_lt; have h1 := hb 1; have h2 := hb 2; have h3 := hb 3
  have e0 : s.get! (p + 0) = s.get! p := rfl
  clear hb
  have key : ∀ (b0 b1 b2 b3 : Nat) (a1 a2 a3 : Prop) [Decidable a1] [Decidable a2] [Decidable a3] (r k : Nat), ¬ b0 < 128 → b0 < 256 → b1 < 256 → b2 < 256 → b3 < 256 →
      (r, k) = (if b0 < 128 then (b0, 1)
        else if (b0 / 32 == 6 && (decide a1 && b1 / 64 == 2)) = true then (if (b0 % 32) * 64 + b1 % 64 ≥ 128 then ((b0 % 32) * 64 + b1 % 64, 2) else (Utf8.runeError, 1))
        else if (b0 / 16 == 14 && (decide a1 && b1 / 64 == 2) && (decide a2 && b2 / 64 == 2)) = true then (if ((b0 % 16) * 4096 + (b1 % 64) * 64 + b2 % 64 ≥ 2048 && Utf8.valid ((b0 % 16) * 4096 + (b1 % 64) * 64 + b2 % 64)) = true then ((b0 % 16) * 4096 + (b1 % 64) * 64 + b2 % 64, 3) else (Utf8.runeError, 1))
        else if (b0 / 8 == 30 && (decide a1 && b1 / 64 == 2) && (decide a2 && b2 / 64 == 2) && (decide a3 && b3 / 64 == 2)) = true then (if ((b0 % 8) * 262144 + (b1 % 64) * 4096 + (b2 % 64) * 64 + b3 % 64 ≥ 65536 && Utf8.valid ((b0 % 8) * 262144 + (b1 % 64) * 4096 + (b2 % 64) * 64 + b3 % 64)) = true then ((b0 % 8) * 262144 + (b1 % 64) * 4096 + (b2 % 64) * 64 + b3 % 64, 4) else (Utf8.runeError, 1))
        else (Utf8.runeError, 1)) →
      (r = 160 ∧ k = 2 ∧ b0 = 194 ∧ b1 = 160 ∧ a1) ∨
      (r ≠ 160 ∧ 128 ≤ r ∧ 1 ≤ k ∧ k ≤ 4 ∧ (2 ≤ k → a1 ∧ 128 ≤ b1 ∧ b1 < 192) ∧ (3 ≤ k → a2 ∧ 128 ≤ b2 ∧ b2 < 192) ∧ (4 ≤ k → a3 ∧ 128 ≤ b3 ∧ b3 < 192) ∧ (b0 ≠ 194 ∨ ¬ a1 ∨ b1 ≠ 160)) := by
    intro b0 b1 b2 b3 a1 a2 a3 _ _ _ r k n0 m0 m1 m2 m3 h
    rw [if_neg n0] at h
    have hre : Utf8.runeError = 65533 := rfl
    rw [hre] at h
    by_cases x1 : (b0 / 32 == 6 && (decide a1 && b1 / 64 == 2)) = true
    · rw [if_pos x1] at h
      simp only [Bool.and_eq_true, beq_iff_eq, decide_eq_true_eq] at x1
      obtain ⟨y0, y1, y2⟩ := x1
      by_cases x2 : (b0 % 32) * 64 + b1 % 64 ≥ 128
      · rw [if_pos x2, Prod.mk.injEq] at h
        by_cases x3 : r = 160
        · exact .inl ⟨x3, h.2, by omega, by omega, y1⟩
        · exact .inr ⟨x3, by omega, by omega, by omega, fun _ => ⟨y1, by omega, by omega⟩, fun _ => by omega, fun _ => by omega, by
            by_cases z : b0 = 194
            · exact .inr (.inr (by omega))
            · exact .inl z⟩
      · rw [if_neg x2, Prod.mk.injEq] at h
        exact .inr ⟨by omega, by omega, by omega, by omega, fun _ => by omega, fun _ => by omega, fun _ => by omega, .inl (by omega)⟩
    · rw [if_neg x1] at h
      have hno : b0 ≠ 194 ∨ ¬ a1 ∨ b1 ≠ 160 := by
        simp only [Bool.and_eq_true, beq_iff_eq, decide_eq_true_eq, not_and] at x1
        by_cases z : b0 = 194
        · by_cases z1 : a1
          · have := x1 (by omega) z1; exact .inr (.inr (by omega))
          · exact .inr (.inl z1)
        · exact .inl z
      clear x1
      have herr : (r, k) = (65533, 1) → (r ≠ 160 ∧ 128 ≤ r ∧ 1 ≤ k ∧ k ≤ 4 ∧ (2 ≤ k → a1 ∧ 128 ≤ b1 ∧ b1 < 192) ∧ (3 ≤ k → a2 ∧ 128 ≤ b2 ∧ b2 < 192) ∧ (4 ≤ k → a3 ∧ 128 ≤ b3 ∧ b3 < 192) ∧ (b0 ≠ 194 ∨ ¬ a1 ∨ b1 ≠ 160)) := fun h => by
        rw [Prod.mk.injEq] at h
        exact ⟨by omega, by omega, by omega, by omega, fun _ => by omega, fun _ => by omega, fun _ => by omega, hno⟩
      right
      by_cases x2 : (b0 / 16 == 14 && (decide a1 && b1 / 64 == 2) && (decide a2 && b2 / 64 == 2)) = true
      · rw [if_pos x2] at h
        simp only [Bool.and_eq_true, beq_iff_eq, decide_eq_true_eq] at x2
        obtain ⟨⟨_, y1, y2⟩, y3, y4⟩ := x2
        split at h
        · rename_i z
          simp only [Bool.and_eq_true, decide_eq_true_eq] at z
          rw [Prod.mk.injEq] at h
          exact ⟨by omega, by omega, by omega, by omega, fun _ => ⟨y1, by omega, by omega⟩, fun _ => ⟨y3, by omega, by omega⟩, fun _ => by omega, hno⟩
        · exact herr h
      · rw [if_neg x2] at h
        by_cases x3 : (b0 / 8 == 30 && (decide a1 && b1 / 64 == 2) && (decide a2 && b2 / 64 == 2) && (decide a3 && b3 / 64 == 2)) = true
        · rw [if_pos x3] at h
          simp only [Bool.and_eq_true, beq_iff_eq, decide_eq_true_eq] at x3
          obtain ⟨⟨⟨_, y1, y2⟩, y3, y4⟩, y5, y6⟩ := x3
          split at h
          · rename_i z
            simp only [Bool.and_eq_true, decide_eq_true_eq] at z
            rw [Prod.mk.injEq] at h
            exact ⟨by omega, by omega, by omega, by omega, fun _ => ⟨y1, by omega, by omega⟩, fun _ => ⟨y3, by omega, by omega⟩, fun _ => ⟨y5, by omega, by omega⟩, hno⟩
          · exact herr h
        · rw [if_neg x3] at h; exact herr h
  have := key (s.get! p).toNat (s.get! (p + 1)).toNat (s.get! (p + 2)).toNat (s.get! (p + 3)).toNat (p + 1 < s.size) (p + 2 < s.size) (p + 3 < s.size) (Utf8.decode s p).1 (Utf8.decode s p).2 hn h0 h1 h2 h3 rfl
  rcases this with h | ⟨a, b, c, d, f1, f2, f3, g⟩
  · exact .inl h
  · refine .inr ⟨a, b, c, ?_, g, ?_⟩
    · rcases Nat.lt_or_ge (Utf8.decode s p).2 2 with z | z
      · omega
      · have := (f1 z).1
        rcases Nat.lt_or_ge (Utf8.decode s p).2 3 with z | z
        · omega
        · have := (f2 z).1
          rcases Nat.lt_or_ge (Utf8.decode s p).2 4 with z | z
          · omega
          · have := (f3 z).1; omega
    · intro j j1 j2
      have hj : j = 1 ∨ j = 2 ∨ j = 3 := by omega
      rcases hj with rfl | rfl | rfl
      · exact (f1 (by omega)).2
      · exact (f2 (by omega)).2
      · exact (f3 (by omega)).2
theorem step_ok (q : Bool) (s : ByteArray) (p : Nat) (h : p < s.size) : Step q s p := by
  by_cases hlow : (s.get! p).toNat < 128
  · have hg := get_bang s p h
    rw [hg] at hlow
    have e : Utf8.decode s p = (s[p].toNat, 1) := decode_ascii s p h hlow
    have hd := drop_at s p h
    have hr := rpl_low q s[p] hlow
    refine ⟨by rw [e]; exact Nat.le_refl _, by rw [e]; exact h, ?_, ?_⟩
    · intro t ht
      rw [e] at ht ⊢
      rw [hr] at ht
      rw [hd]
      exact ⟨esc_sgn ht _, by rw [if_neg (by show s[p].toNat ≠ 160; omega)]⟩
    · intro ht
      rw [e] at ht ⊢
      rw [hr] at ht
      rw [hd, List.take_succ_cons, List.take_zero]
      refine esc_keep ht (.inl fun e2 => ?_)
      rw [e2] at hlow; revert hlow; decide
  · have hc := decode_cases s p h hlow
    have e1 : ∀ k, rpl q (Utf8.decode s p).1 = k → True := fun _ _ => trivial
    rcases hc with ⟨a, b, c, d, f⟩ | ⟨a, b, c, d, f, g⟩
    · refine ⟨by omega, by omega, ?_, ?_⟩
      · intro t ht
        rw [a] at ht ⊢
        obtain rfl : nbsp = t := by unfold rpl at ht; simpa using ht
        have g0 := get_bang s p h
        have g1 := get_bang s (p + 1) f
        rw [g0] at c; rw [g1] at d
        have i0 : s[p] = 194 := UInt8.toNat_inj.1 c
        have i1 : s[p + 1] = 160 := UInt8.toNat_inj.1 d
        rw [b, drop_at s p h, drop_at s (p + 1) f, i0, i1]
        exact ⟨esc_nbsp q _, rfl⟩
      · intro ht
        rw [a] at ht
        unfold rpl at ht; simp at ht
    · refine ⟨c, d, ?_, ?_⟩
      · intro t ht
        rw [rpl_far q b a] at ht; cases ht
      · intro _
        exact esc_cut q s p _ c d (by omega) f g
end Go.Proofs.YtkfaenhidjekdaaDoor.E
