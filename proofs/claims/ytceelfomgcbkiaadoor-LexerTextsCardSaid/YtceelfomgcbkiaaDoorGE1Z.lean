/-
  Several texts in one: EPlain EMap EEmb.
-/
import Derived.Test.YtceelfomgcbkiaaDoorGCZ
import GoSem.Core.Utf8
import Derived.Maps.OwnSet
import Derived.Maps.OwnOps
import Derived.WalkArith
import Derived.Test.YtceelfomgcbkiaaDoorRows
import Derived.WalkKit
import Derived.IntWalk
import Derived.Lib.Hide
import Derived.Lib.OthersKept
import Derived.Shelf.Strings.BuilderX
import Derived.Shelf.RegionOpenPlain
import Derived.Deep.QuietTactic
import Derived.BigQuiet
import Derived.Lib.Builder
import Derived.Lib.UnsafeStr
/-
  Layer 5 (escape) in plain functions on lists of bytes: text as it is written; how long it is; that it is read again as it was. No program stands here.
-/
namespace Go.Proofs.YtceelfomgcbkiaaDoor.E
open Go.RowKit Go.Proofs.YtceelfomgcbkiaaDoor.C

/-- What is written instead of a byte. -/
def sgn (q : Bool) (c : UInt8) : Option (List UInt8) :=
  if c = 38 then some [38, 97, 109, 112, 59] else if c = 60 then some [38, 108, 116, 59] else if c = 62 then some [38, 103, 116, 59]
  else if c = 34 ∧ q = true then some [38, 113, 117, 111, 116, 59] else none
def nbsp : List UInt8 := [38, 110, 98, 115, 112, 59]
def esc (q : Bool) : List UInt8 → List UInt8
  | [] => []
  | c :: l => match sgn q c with
    | some t => t ++ esc q l
    | none => if c = 194 then (match l with
        | [] => [c]
        | d :: m => if d = 160 then nbsp ++ esc q m else c :: esc q (d :: m))
      else c :: esc q l
theorem esc_nil (q : Bool) : esc q [] = [] := by unfold esc; rfl
theorem esc_sgn {q : Bool} {c : UInt8} {t : List UInt8} (h : sgn q c = some t) (l : List UInt8) : esc q (c :: l) = t ++ esc q l := by
  conv => lhs; unfold esc
  rw [h]
theorem esc_nbsp (q : Bool) (l : List UInt8) : esc q (194 :: 160 :: l) = nbsp ++ esc q l := by
  conv => lhs; unfold esc
  have : sgn q 194 = none := by cases q <;> decide
  rw [this]; simp
theorem esc_keep {q : Bool} {c : UInt8} {l : List UInt8} (h : sgn q c = none) (hn : c ≠ 194 ∨ l.head? ≠ some 160) : esc q (c :: l) = c :: esc q l := by
  conv => lhs; unfold esc
  rw [h]
  by_cases h1 : c = 194
  · subst h1
    cases l with
    | nil => simp [esc_nil]
    | cons d m =>
      have hd : d ≠ 160 := by
        rcases hn with h2 | h2
        · exact absurd rfl h2
        · intro e; apply h2; rw [e]; rfl
      simp [hd]
  · simp [h1]
theorem sgn_len {q : Bool} {c : UInt8} {t : List UInt8} (h : sgn q c = some t) : t.length ≤ 6 := by
  unfold sgn at h
  repeat' split at h
  all_goals first
    | (cases h; decide)
    | cases h
theorem esc_len (q : Bool) : ∀ l : List UInt8, (esc q l).length ≤ 6 * l.length
  | [] => by rw [esc_nil]; exact Nat.zero_le _
  | c :: l => by
    cases h : sgn q c with
    | some t => rw [esc_sgn h, List.length_append, List.length_cons]; have := sgn_len h; have := esc_len q l; omega
    | none =>
      by_cases hn : c ≠ 194 ∨ l.head? ≠ some 160
      · rw [esc_keep h hn, List.length_cons, List.length_cons]; have := esc_len q l; omega
      · have h1 : c = 194 := by by_cases e : c = 194; exact e; exact absurd (.inl e) hn
        have h2 : l.head? = some 160 := by by_cases e : l.head? = some 160; exact e; exact absurd (.inr e) hn
        cases l with
        | nil => cases h2
        | cons d m =>
          have hd : d = 160 := by simpa using h2
          subst h1 hd
          rw [esc_nbsp, List.length_append, List.length_cons, List.length_cons]; have := esc_len q m
          have : nbsp.length = 6 := rfl
          omega
/-- Bytes that stay. -/
def stays (q : Bool) (c : UInt8) : Bool := (sgn q c).isNone
theorem stays_iff {q : Bool} {c : UInt8} : stays q c = true ↔ sgn q c = none := by unfold stays; simp
theorem sgn_high {q : Bool} {c : UInt8} (h : 128 ≤ c.toNat) : sgn q c = none := by
  unfold sgn
  have h1 : c ≠ 38 := by intro e; rw [e] at h; revert h; decide
  have h2 : c ≠ 60 := by intro e; rw [e] at h; revert h; decide
  have h3 : c ≠ 62 := by intro e; rw [e] at h; revert h; decide
  have h4 : c ≠ 34 := by intro e; rw [e] at h; revert h; decide
  simp [h1, h2, h3, h4]
/-- High bytes, none of which is 194 followed by 160 among them or at their end, stay. -/
theorem esc_high (q : Bool) : ∀ (p t : List UInt8), (∀ c ∈ p, 128 ≤ c.toNat ∧ c ≠ 194) → esc q (p ++ t) = p ++ esc q t
  | [], _, _ => rfl
  | c :: p, t, h => by
    have h1 := h c (by simp)
    rw [List.cons_append, esc_keep (sgn_high h1.1) (.inl h1.2), esc_high q p t (fun d hd => h d (by simp [hd]))]; rfl

/-! ### no sign is left -/
theorem esc_none (q : Bool) (x : UInt8) (hx : x = 60 ∨ x = 62 ∨ (x = 34 ∧ q = true)) : ∀ l : List UInt8, x ∉ esc q l
  | [] => by rw [esc_nil]; simp
  | c :: l => by
    cases h : sgn q c with
    | some t =>
      rw [esc_sgn h, List.mem_append]
      rintro (h1 | h1)
      · unfold sgn at h
        repeat' split at h
        all_goals first
          | (cases h; rcases hx with rfl | rfl | ⟨rfl, _⟩ <;> revert h1 <;> decide)
          | cases h
      · exact esc_none q x hx l h1
    | none =>
      by_cases hn : c ≠ 194 ∨ l.head? ≠ some 160
      · rw [esc_keep h hn, List.mem_cons]
        rintro (h1 | h1)
        · subst h1
          rcases hx with rfl | rfl | ⟨rfl, rfl⟩
          · revert h; cases q <;> decide
          · revert h; cases q <;> decide
          · revert h; decide
        · exact esc_none q x hx l h1
      · have h1 : c = 194 := by by_cases e : c = 194; exact e; exact absurd (.inl e) hn
        have h2 : l.head? = some 160 := by by_cases e : l.head? = some 160; exact e; exact absurd (.inr e) hn
        cases l with
        | nil => cases h2
        | cons d m =>
          have hd : d = 160 := by simpa using h2
          subst h1 hd
          rw [esc_nbsp, List.mem_append]
          rintro (h3 | h3)
          · rcases hx with rfl | rfl | ⟨rfl, _⟩ <;> revert h3 <;> decide
          · exact esc_none q x hx m h3

/-! ### it is read again as it was -/
theorem tab_mid : ∀ e ∈ tabR, (59 : UInt8) ∉ e.1.dropLast := by decide +kernel
theorem mt_mid (k a b : List UInt8) (hb : b ≠ []) (hk : (59 : UInt8) ∉ k.dropLast) : C.mt k (a ++ 59 :: b) = false := by
  unfold C.mt
  have hmem : (59 : UInt8) ∈ (a ++ 59 :: b).dropLast := by
    rw [List.dropLast_append_of_ne_nil (by simp), List.dropLast_cons_of_ne_nil hb]; simp
  have h1 : (a ++ 59 :: b == k) = false := by
    rw [beq_eq_false_iff_ne]; intro e; rw [← e] at hk; exact hk hmem
  rw [h1, Bool.false_or]
  by_cases hl : k.getLast? = some 59
  · simp [hl]
  · have h2 : (a ++ 59 :: b == k ++ [59]) = false := by
      rw [beq_eq_false_iff_ne]; intro e
      rw [e, List.dropLast_concat] at hmem
      rcases List.eq_nil_or_concat k with rfl | ⟨k', x, rfl⟩
      · cases hmem
      · rw [List.concat_eq_append] at *
        rw [List.dropLast_concat] at hk
        rw [List.getLast?_concat] at hl
        rcases List.mem_append.1 hmem with h | h
        · exact hk h
        · simp at h; exact hl (by rw [h])
    rw [h2, Bool.and_false]
theorem nmG_mid (a b : List UInt8) (hb : b ≠ []) : ∀ t : Tab, (∀ e ∈ t, (59 : UInt8) ∉ e.1.dropLast) → nmG t (a ++ 59 :: b) = 0
  | [], _ => rfl
  | (k, v) :: r, h => by
    unfold nmG
    rw [if_neg (by rw [mt_mid k a b hb (h (k, v) (by simp))]; decide), nmG_mid a b hb r (fun e he => h e (by simp [he]))]
theorem nm_mid (a b : List UInt8) (hb : b ≠ []) : nm (a ++ 59 :: b) = 0 := nmG_mid a b hb tabR tab_mid
/-- A name with its semicolon is found, whatever stands behind. -/
theorem rdN_name (n rest : List UInt8) (value : Bool) (hn : nm (n ++ [59]) ≠ 0) : ∀ d, n.length + 2 + d ≤ (38 :: n ++ 59 :: rest).length →
    rdN (38 :: n ++ 59 :: rest) value (n.length + 2 + d) = (encS (nm (n ++ [59])), n.length + 2)
  | 0, _ => by
    have ht : ((38 :: n ++ 59 :: rest).take (n.length + 2)).drop 1 = n ++ [59] := by
      rw [List.cons_append, List.take_succ_cons, List.drop_succ_cons, List.drop_zero, List.take_append]
      have : n.length + 1 - n.length = 1 := by omega
      rw [List.take_of_length_le (by omega), this]; rfl
    have hl : (38 :: n ++ 59 :: rest)[n.length + 1]? = some 59 := by
      rw [List.cons_append, List.getElem?_cons_succ, List.getElem?_append_right (Nat.le_refl _), Nat.sub_self]; rfl
    show rdN _ value (n.length + 2) = _
    unfold rdN
    rw [ht, if_neg hn, if_neg (by rw [hl]; simp)]
  | d + 1, h => by
    have ih := rdN_name n rest value hn d (by omega)
    rw [show n.length + 2 + (d + 1) = (n.length + 1 + d) + 2 by omega]
    unfold rdN
    have hr : rest ≠ [] := by
      intro e; subst e
      simp at h; omega
    have ht : ((38 :: n ++ 59 :: rest).take (n.length + 1 + d + 2)).drop 1 = n ++ 59 :: rest.take (d + 1) := by
      rw [List.cons_append, List.take_succ_cons, List.drop_succ_cons, List.drop_zero, List.take_append]
      have : n.length + 1 + d + 1 - n.length = (d + 1) + 1 := by omega
      rw [List.take_of_length_le (by omega), this, List.take_succ_cons]
    have hb : rest.take (d + 1) ≠ [] := by
      cases rest with
      | nil => exact absurd rfl hr
      | cons x y => simp
    rw [ht, if_pos (nm_mid n _ hb)]
    have e1 : n.length + 1 + d + 1 = n.length + 2 + d := by omega
    rw [e1]; exact ih
theorem rd_name (n rest : List UInt8) (value : Bool) (hn : nm (n ++ [59]) ≠ 0) (h9 : n.length ≤ 7) (h35 : (n ++ [59]).head? ≠ some 35) :
    rd (38 :: n ++ 59 :: rest) value = (encS (nm (n ++ [59])), n.length + 2) := by
  unfold rd
  have h0 : (38 :: n ++ 59 :: rest)[0]? = some 38 := rfl
  have h1 : (38 :: n ++ 59 :: rest)[1]? ≠ some 35 := by
    intro e; apply h35
    cases n with
    | nil => simp at e
    | cons x y => simpa using e
  rw [if_pos h0, if_neg h1]
  have hl : (38 :: n ++ 59 :: rest).length = n.length + 2 + rest.length := by simp; omega
  have e1 : min (38 :: n ++ 59 :: rest).length 9 = n.length + 2 + min rest.length (7 - n.length) := by rw [hl]; omega
  rw [e1]
  exact rdN_name n rest value hn _ (by rw [hl]; omega)
theorem dec_name (n rest : List UInt8) (value : Bool) (hn : nm (n ++ [59]) ≠ 0) (h9 : n.length ≤ 7) (h35 : (n ++ [59]).head? ≠ some 35) :
    dec value (38 :: n ++ 59 :: rest) = (encS (nm (n ++ [59]))).data.toList ++ dec value rest := by
  have h := rd_name n rest value hn h9 h35
  rw [dec_ref value _ (by rw [h]; simp), h]
  congr 2
  show (38 :: n ++ 59 :: rest).drop (n.length + 2) = rest
  rw [List.cons_append, List.drop_succ_cons, List.drop_append]
  have : n.length + 1 - n.length = 1 := by omega
  rw [List.drop_eq_nil_of_le (by omega), this]; rfl
theorem dec_amp (value : Bool) (l : List UInt8) : dec value ([38, 97, 109, 112, 59] ++ l) = 38 :: dec value l := dec_name [97, 109, 112] l value (by decide) (by decide) (by decide)
theorem dec_lt (value : Bool) (l : List UInt8) : dec value ([38, 108, 116, 59] ++ l) = 60 :: dec value l := dec_name [108, 116] l value (by decide) (by decide) (by decide)
theorem dec_gt (value : Bool) (l : List UInt8) : dec value ([38, 103, 116, 59] ++ l) = 62 :: dec value l := dec_name [103, 116] l value (by decide) (by decide) (by decide)
theorem dec_quot (value : Bool) (l : List UInt8) : dec value ([38, 113, 117, 111, 116, 59] ++ l) = 34 :: dec value l := dec_name [113, 117, 111, 116] l value (by decide) (by decide) (by decide)
theorem dec_nbsp (value : Bool) (l : List UInt8) : dec value (nbsp ++ l) = 194 :: 160 :: dec value l := dec_name [110, 98, 115, 112] l value (by decide) (by decide) (by decide)
theorem dec_sgn {q : Bool} {c : UInt8} {t : List UInt8} (h : sgn q c = some t) (value : Bool) (l : List UInt8) : dec value (t ++ l) = c :: dec value l := by
  unfold sgn at h
  repeat' split at h
  · rename_i e; cases h; rw [e]; exact dec_amp value l
  · rename_i _ e; cases h; rw [e]; exact dec_lt value l
  · rename_i _ _ e; cases h; rw [e]; exact dec_gt value l
  · rename_i _ _ _ e; cases h; rw [e.1]; exact dec_quot value l
  · cases h
theorem dec_esc (q value : Bool) : ∀ l : List UInt8, dec value (esc q l) = l
  | [] => by rw [esc_nil]; rfl
  | c :: l => by
    cases h : sgn q c with
    | some t => rw [esc_sgn h, dec_sgn h, dec_esc q value l]
    | none =>
      by_cases hn : c ≠ 194 ∨ l.head? ≠ some 160
      · have hc : c ≠ 38 := by intro e; subst e; revert h; cases q <;> decide
        rw [esc_keep h hn, dec_keep value c _ (rd_other c _ value hc), dec_esc q value l]
      · have h1 : c = 194 := by by_cases e : c = 194; exact e; exact absurd (.inl e) hn
        have h2 : l.head? = some 160 := by by_cases e : l.head? = some 160; exact e; exact absurd (.inr e) hn
        cases l with
        | nil => cases h2
        | cons d m =>
          have hd : d = 160 := by simpa using h2
          subst h1 hd
          rw [esc_nbsp, dec_nbsp, dec_esc q value m]

/-! ### by characters -/
def rpl (q : Bool) (r : Nat) : Option (List UInt8) :=
  if r = 38 then some [38, 97, 109, 112, 59] else if r = 160 then some nbsp else if r = 60 then some [38, 108, 116, 59] else if r = 62 then some [38, 103, 116, 59]
  else if r = 34 ∧ q = true then some [38, 113, 117, 111, 116, 59] else none
theorem rpl_low (q : Bool) (c : UInt8) (h : c.toNat < 128) : rpl q c.toNat = sgn q c := by
  have key : ∀ n : Fin 128, rpl q n.val = sgn q (UInt8.ofNat n.val) := by cases q <;> decide
  have := key ⟨c.toNat, h⟩
  simpa using this
theorem get_bang (s : ByteArray) (k : Nat) (h : k < s.size) : s.get! k = s[k] := by
  simp [ByteArray.get!, getElem!_pos, h]; rfl
/-- What the iterator's step tells: the character's bytes are one to four, within the text; it is written as they are, or as its reference. -/
structure Step (q : Bool) (s : ByteArray) (p : Nat) : Prop where
  pos : 1 ≤ (Utf8.decode s p).2
  fits : p + (Utf8.decode s p).2 ≤ s.size
  yes : ∀ t, rpl q (Utf8.decode s p).1 = some t → esc q (s.data.toList.drop p) = t ++ esc q (s.data.toList.drop (p + (Utf8.decode s p).2)) ∧ (Utf8.decode s p).2 = if (Utf8.decode s p).1 = 160 then 2 else 1
  no : rpl q (Utf8.decode s p).1 = none → esc q (s.data.toList.drop p) = (s.data.toList.drop p).take (Utf8.decode s p).2 ++ esc q (s.data.toList.drop (p + (Utf8.decode s p).2))
theorem rpl_far (q : Bool) {r : Nat} (h : 128 ≤ r) (h' : r ≠ 160) : rpl q r = none := by
  unfold rpl
  rw [if_neg (by omega), if_neg h', if_neg (by omega), if_neg (by omega), if_neg (by omega)]
theorem esc_cut (q : Bool) (s : ByteArray) (p k : Nat) (h1 : 1 ≤ k) (hk : p + k ≤ s.size) (h0 : 128 ≤ (s.get! p).toNat) (hn : (s.get! p).toNat ≠ 194 ∨ ¬ p + 1 < s.size ∨ (s.get! (p + 1)).toNat ≠ 160)
    (h : ∀ j, 1 ≤ j → j < k → 128 ≤ (s.get! (p + j)).toNat ∧ (s.get! (p + j)).toNat < 192) :
    esc q (s.data.toList.drop p) = (s.data.toList.drop p).take k ++ esc q (s.data.toList.drop (p + k)) := by
  obtain ⟨k, rfl⟩ : ∃ m, k = m + 1 := ⟨k - 1, by omega⟩
  rw [get_bang s p (by omega)] at h0 hn
  have hne : s[p] ≠ 194 ∨ (s.data.toList.drop (p + 1)).head? ≠ some 160 := by
    rcases hn with hn | hn | hn
    · exact .inl fun e => hn (by rw [e]; rfl)
    · right; rw [List.drop_eq_nil_of_le (by rw [size_list]; omega)]; simp
    · by_cases hp : p + 1 < s.size
      · rw [get_bang s (p + 1) hp] at hn
        right; rw [drop_at s (p + 1) hp]
        intro e; apply hn
        have : s[p + 1] = 160 := by simpa using e
        rw [this]; rfl
      · right; rw [List.drop_eq_nil_of_le (by rw [size_list]; omega)]; simp
  rw [drop_at s p (by omega), List.take_succ_cons, List.cons_append, esc_keep (sgn_high h0) hne]
  congr 1
  conv => lhs; rw [← List.take_append_drop k (s.data.toList.drop (p + 1))]
  rw [List.drop_drop, show p + 1 + k = p + (k + 1) by omega]
  refine esc_high q _ _ ?_
  intro c hc
  obtain ⟨j, hj, rfl⟩ := List.mem_iff_getElem.1 hc
  rw [List.length_take, List.length_drop, size_list] at hj
  have := h (j + 1) (by omega) (by omega)
  rw [get_bang s (p + (j + 1)) (by omega)] at this
  rw [List.getElem_take, List.getElem_drop]
  have e : s.data.toList[p + 1 + j]'(by rw [size_list]; omega) = s[p + (j + 1)]'(by omega) := by
    simp only [show p + 1 + j = p + (j + 1) by omega]; rfl
  rw [e]
  refine ⟨this.1, fun e2 => ?_⟩
  rw [e2] at this; revert this; decide
theorem decode_cases (s : ByteArray) (p : Nat) (hp : p < s.size) (hn : ¬ (s.get! p).toNat < 128) :
    ((Utf8.decode s p).1 = 160 ∧ (Utf8.decode s p).2 = 2 ∧ (s.get! p).toNat = 194 ∧ (s.get! (p + 1)).toNat = 160 ∧ p + 1 < s.size) ∨
    ((Utf8.decode s p).1 ≠ 160 ∧ 128 ≤ (Utf8.decode s p).1 ∧ 1 ≤ (Utf8.decode s p).2 ∧ p + (Utf8.decode s p).2 ≤ s.size ∧ ((s.get! p).toNat ≠ 194 ∨ ¬ p + 1 < s.size ∨ (s.get! (p + 1)).toNat ≠ 160) ∧
      ∀ j, 1 ≤ j → j < (Utf8.decode s p).2 → 128 ≤ (s.get! (p + j)).toNat ∧ (s.get! (p + j)).toNat < 192) := by
  have hb : ∀ k, (s.get! (p + k)).toNat < 256 := fun k => (s.get! (p + k)).toNat_lt
  have h0 := (s.get! p).toNat_lt; have h1 := hb 1; have h2 := hb 2; have h3 := hb 3
  have e0 : s.get! (p + 0) = s.get! p := rfl
  clear hb
  have key : ∀ (b0 b1 b2 b3 : Nat) (a1 a2 a3 : Prop) [Decidable a1] [Decidable a2] [Decidable a3] (r k : Nat), ¬ b0 < 128 → b0 < 256 → b1 < 256 → b2 < 256 → b3 < 256 →
      (r, k) = (if b0 < 128 then (b0, 1)
        else if (b0 / 32 == 6 && (decide a1 && b1 / 64 == 2)) = true then (if (b0 % 32) * 64 + b1 % 64 ≥ 128 then ((b0 % 32) * 64 + b1 % 64, 2) else (Utf8.runeError, 1))
        else if (b0 / 16 == 14 && (decide a1 && b1 / 64 == 2) && (decide a2 && b2 / 64 == 2)) = true then (if ((b0 % 16) * 4096 + (b1 % 64) * 64 + b2 % 64 ≥ 2048 && Utf8.valid ((b0 % 16) * 4096 + (b1 % 64) * 64 + b2 % 64)) = true then ((b0 % 16) * 4096 + (b1 % 64) * 64 + b2 % 64, 3) else (Utf8.runeError, 1))
        else if (b0 / 8 == 30 && (decide a1 && b1 / 64 == 2) && (decide a2 && b2 / 64 == 2) && (decide a3 && b3 / 64 == 2)) = true then (if ((b0 % 8) * 262144 + (b1 % 64) * 4096 + (b2 % 64) * 64 + b3 % 64 ≥ 65536 && Utf8.valid ((b0 % 8) * 262144 + (b1 % 64) * 4096 + (b2 % 64) * 64 + b3 % 64)) = true then ((b0 % 8) * 262144 + (b1 % 64) * 4096 + (b2 % 64) * 64 + b3 % 64, 4) else (Utf8.runeError, 1))
        else (Utf8.runeError, 1)) →
      (r = 160 ∧ k = 2 ∧ b0 = 194 ∧ b1 = 160 ∧ a1) ∨
      (r ≠ 160 ∧ 128 ≤ r ∧ 1 ≤ k ∧ k ≤ 4 ∧ (2 ≤ k → a1 ∧ 128 ≤ b1 ∧ b1 < 192) ∧ (3 ≤ k → a2 ∧ 128 ≤ b2 ∧ b2 < 192) ∧ (4 ≤ k → a3 ∧ 128 ≤ b3 ∧ b3 < 192) ∧ (b0 ≠ 194 ∨ ¬ a1 ∨ b1 ≠ 160)) := by
    intro b0 b1 b2 b3 a1 a2 a3 _ _ _ r k n0 m0 m1 m2 m3 h
    rw [if_neg n0] at h
    have hre : Utf8.runeError = 65533 := rfl
    rw [hre] at h
    by_cases x1 : (b0 / 32 == 6 && (decide a1 && b1 / 64 == 2)) = true
    · rw [if_pos x1] at h
      simp only [Bool.and_eq_true, beq_iff_eq, decide_eq_true_eq] at x1
      obtain ⟨y0, y1, y2⟩ := x1
      by_cases x2 : (b0 % 32) * 64 + b1 % 64 ≥ 128
      · rw [if_pos x2, Prod.mk.injEq] at h
        by_cases x3 : r = 160
        · exact .inl ⟨x3, h.2, by omega, by omega, y1⟩
        · exact .inr ⟨x3, by omega, by omega, by omega, fun _ => ⟨y1, by omega, by omega⟩, fun _ => by omega, fun _ => by omega, by
            by_cases z : b0 = 194
            · exact .inr (.inr (by omega))
            · exact .inl z⟩
      · rw [if_neg x2, Prod.mk.injEq] at h
        exact .inr ⟨by omega, by omega, by omega, by omega, fun _ => by omega, fun _ => by omega, fun _ => by omega, .inl (by omega)⟩
    · rw [if_neg x1] at h
      have hno : b0 ≠ 194 ∨ ¬ a1 ∨ b1 ≠ 160 := by
        simp only [Bool.and_eq_true, beq_iff_eq, decide_eq_true_eq, not_and] at x1
        by_cases z : b0 = 194
        · by_cases z1 : a1
          · have := x1 (by omega) z1; exact .inr (.inr (by omega))
          · exact .inr (.inl z1)
        · exact .inl z
      clear x1
      have herr : (r, k) = (65533, 1) → (r ≠ 160 ∧ 128 ≤ r ∧ 1 ≤ k ∧ k ≤ 4 ∧ (2 ≤ k → a1 ∧ 128 ≤ b1 ∧ b1 < 192) ∧ (3 ≤ k → a2 ∧ 128 ≤ b2 ∧ b2 < 192) ∧ (4 ≤ k → a3 ∧ 128 ≤ b3 ∧ b3 < 192) ∧ (b0 ≠ 194 ∨ ¬ a1 ∨ b1 ≠ 160)) := fun h => by
        rw [Prod.mk.injEq] at h
        exact ⟨by omega, by omega, by omega, by omega, fun _ => by omega, fun _ => by omega, fun _ => by omega, hno⟩
      right
      by_cases x2 : (b0 / 16 == 14 && (decide a1 && b1 / 64 == 2) && (decide a2 && b2 / 64 == 2)) = true
      · rw [if_pos x2] at h
        simp only [Bool.and_eq_true, beq_iff_eq, decide_eq_true_eq] at x2
        obtain ⟨⟨_, y1, y2⟩, y3, y4⟩ := x2
        split at h
        · rename_i z
          simp only [Bool.and_eq_true, decide_eq_true_eq] at z
          rw [Prod.mk.injEq] at h
          exact ⟨by omega, by omega, by omega, by omega, fun _ => ⟨y1, by omega, by omega⟩, fun _ => ⟨y3, by omega, by omega⟩, fun _ => by omega, hno⟩
        · exact herr h
      · rw [if_neg x2] at h
        by_cases x3 : (b0 / 8 == 30 && (decide a1 && b1 / 64 == 2) && (decide a2 && b2 / 64 == 2) && (decide a3 && b3 / 64 == 2)) = true
        · rw [if_pos x3] at h
          simp only [Bool.and_eq_true, beq_iff_eq, decide_eq_true_eq] at x3
          obtain ⟨⟨⟨_, y1, y2⟩, y3, y4⟩, y5, y6⟩ := x3
          split at h
          · rename_i z
            simp only [Bool.and_eq_true, decide_eq_true_eq] at z
            rw [Prod.mk.injEq] at h
            exact ⟨by omega, by omega, by omega, by omega, fun _ => ⟨y1, by omega, by omega⟩, fun _ => ⟨y3, by omega, by omega⟩, fun _ => ⟨y5, by omega, by omega⟩, hno⟩
          · exact herr h
        · rw [if_neg x3] at h; exact herr h
  have := key (s.get! p).toNat (s.get! (p + 1)).toNat (s.get! (p + 2)).toNat (s.get! (p + 3)).toNat (p + 1 < s.size) (p + 2 < s.size) (p + 3 < s.size) (Utf8.decode s p).1 (Utf8.decode s p).2 hn h0 h1 h2 h3 rfl
  rcases this with h | ⟨a, b, c, d, f1, f2, f3, g⟩
  · exact .inl h
  · refine .inr ⟨a, b, c, ?_, g, ?_⟩
    · rcases Nat.lt_or_ge (Utf8.decode s p).2 2 with z | z
      · omega
      · have := (f1 z).1
        rcases Nat.lt_or_ge (Utf8.decode s p).2 3 with z | z
        · omega
        · have := (f2 z).1
          rcases Nat.lt_or_ge (Utf8.decode s p).2 4 with z | z
          · omega
          · have := (f3 z).1; omega
    · intro j j1 j2
      have hj : j = 1 ∨ j = 2 ∨ j = 3 := by omega
      rcases hj with rfl | rfl | rfl
      · exact (f1 (by omega)).2
      · exact (f2 (by omega)).2
      · exact (f3 (by omega)).2
theorem step_ok (q : Bool) (s : ByteArray) (p : Nat) (h : p < s.size) : Step q s p := by
  by_cases hlow : (s.get! p).toNat < 128
  · have hg := get_bang s p h
    rw [hg] at hlow
    have e : Utf8.decode s p = (s[p].toNat, 1) := decode_ascii s p h hlow
    have hd := drop_at s p h
    have hr := rpl_low q s[p] hlow
    refine ⟨by rw [e]; exact Nat.le_refl _, by rw [e]; exact h, ?_, ?_⟩
    · intro t ht
      rw [e] at ht ⊢
      rw [hr] at ht
      rw [hd]
      exact ⟨esc_sgn ht _, by rw [if_neg (by show s[p].toNat ≠ 160; omega)]⟩
    · intro ht
      rw [e] at ht ⊢
      rw [hr] at ht
      rw [hd, List.take_succ_cons, List.take_zero]
      refine esc_keep ht (.inl fun e2 => ?_)
      rw [e2] at hlow; revert hlow; decide
  · have hc := decode_cases s p h hlow
    have e1 : ∀ k, rpl q (Utf8.decode s p).1 = k → True := fun _ _ => trivial
    rcases hc with ⟨a, b, c, d, f⟩ | ⟨a, b, c, d, f, g⟩
    · refine ⟨by omega, by omega, ?_, ?_⟩
      · intro t ht
        rw [a] at ht ⊢
        obtain rfl : nbsp = t := by unfold rpl at ht; simpa using ht
        have g0 := get_bang s p h
        have g1 := get_bang s (p + 1) f
        rw [g0] at c; rw [g1] at d
        have i0 : s[p] = 194 := UInt8.toNat_inj.1 c
        have i1 : s[p + 1] = 160 := UInt8.toNat_inj.1 d
        rw [b, drop_at s p h, drop_at s (p + 1) f, i0, i1]
        exact ⟨esc_nbsp q _, rfl⟩
      · intro ht
        rw [a] at ht
        unfold rpl at ht; simp at ht
    · refine ⟨c, d, ?_, ?_⟩
      · intro t ht
        rw [rpl_far q b a] at ht; cases ht
      · intro _
        exact esc_cut q s p _ c d (by omega) f g
end Go.Proofs.YtceelfomgcbkiaaDoor.E

/-
  Maps keyed by int32 in a block of which the entries are known, whatever their elements: the look-up, the store at a new key, at the operation. No function of the program stands here.
-/
namespace Go.Proofs.YtceelfomgcbkiaaDoor.E
open Go.RowKit Go.Maps Go.MapKept Go.ChangeMaps

/-- Block b is a map; its entries, in the order in which they came in. -/
def RMap (w : World) (b : Nat) (es : List (Int × Value)) : Prop :=
  ∃ arr clock, w.heap[b]? = some (.map arr clock) ∧ arr.toList.map (fun e => (e.key, e.val)) = es.map fun p => (Value.int .i32 p.1, p.2)
def fnd (es : List (Int × Value)) (r : Int) : Option Value := (es.find? fun p => p.1 == r).map (·.2)
def i32 (r : Int) : Prop := -2147483648 ≤ r ∧ r ≤ 2147483647

theorem RMap.kept {w w' : World} {b : Nat} {es : List (Int × Value)} (h : RMap w b es) (hk : w'.heap[b]? = w.heap[b]?) : RMap w' b es := by
  obtain ⟨arr, clock, hb, he⟩ := h
  exact ⟨arr, clock, hk.trans hb, he⟩
theorem RMap.lt {w : World} {b : Nat} {es : List (Int × Value)} (h : RMap w b es) : b < w.heap.size := by
  obtain ⟨arr, clock, hb, _⟩ := h
  exact (Array.getElem?_eq_some_iff.1 hb).1
theorem RMap.below {w w' : World} {B b : Nat} {es : List (Int × Value)} (h : RMap w b es) (hb : Below B w w') (hl : b < B) : RMap w' b es := h.kept (hb.block b hl)
theorem RMap.alloc {w : World} {b : Nat} {es : List (Int × Value)} (h : RMap w b es) (o : Obj) : RMap (w.alloc o) b es := h.kept (Below.heap_alloc w o b h.lt)
theorem RMap.made (w : World) : RMap (w.alloc (.map #[] 0)) w.heap.size [] := ⟨#[], 0, (MapKept.heap_alloc w _).1, rfl⟩
theorem RMap.drew {w : World} {b : Nat} {es : List (Int × Value)} (h : RMap w b es) : RMap w.drew b es := h

theorem fnd_mem : ∀ (es : List (Int × Value)) (p : Int × Value), p ∈ es → (es.map (·.1)).Nodup → fnd es p.1 = some p.2
  | [], p, h, _ => by cases h
  | q :: es, p, h, hd => by
    rw [List.map_cons, List.nodup_cons] at hd
    unfold fnd
    rw [List.find?_cons]
    by_cases e : q.1 = p.1
    · have : (q.1 == p.1) = true := by simpa using e
      rw [this]
      rcases List.mem_cons.1 h with rfl | h
      · rfl
      · exact absurd (e ▸ List.mem_map.2 ⟨p, h, rfl⟩) hd.1
    · have : (q.1 == p.1) = false := by simpa using e
      rw [this]
      rcases List.mem_cons.1 h with rfl | h
      · exact absurd rfl e
      · exact fnd_mem es p h hd.2
theorem fnd_none (es : List (Int × Value)) (r : Int) (h : ∀ p ∈ es, p.1 ≠ r) : fnd es r = none := by
  unfold fnd
  rw [List.find?_eq_none.2 (by intro p hp; simpa using h p hp)]; rfl

section
variable {P : Program} {t k e : TypeId}

/-- What is found of a key in such a block. -/
theorem find_rmap (hk : P.underlying k = some (.int .i32)) {w : World} {es : List (Int × Value)} (hw : ∀ p ∈ es, i32 p.1) (hd : (es.map (·.1)).Nodup) {r : Int} (hr : i32 r) {arr : Array MapEntry}
    (he : arr.toList.map (fun e => (e.key, e.val)) = es.map fun p => (Value.int .i32 p.1, p.2)) :
    ((Instr.findKey k (.int .i32 r) arr.toList).run P w = .ok none w ∧ fnd es r = none) ∨ ∃ j v, (Instr.findKey k (.int .i32 r) arr.toList).run P w = .ok (some (j, v)) w ∧ fnd es r = some v := by
  have hks : ∀ x ∈ arr.toList, ∃ p ∈ es, x.key = .int .i32 p.1 ∧ x.val = p.2 := fun x hx => by
    have : (x.key, x.val) ∈ es.map fun p => (Value.int .i32 p.1, p.2) := by rw [← he]; exact List.mem_map.2 ⟨x, hx, rfl⟩
    obtain ⟨p, hp, e⟩ := List.mem_map.1 this
    rw [Prod.mk.injEq] at e
    exact ⟨p, hp, e.1.symm, e.2.symm⟩
  have hkey : keyOf P k (.int .i32 r) = some (.int .i32 r) := keyOf_int_mk hk (WalkArith.wf_i32 hr)
  rcases (int_keyed hk).find w hkey arr.toList (fun x hx => by
    obtain ⟨p, hp, e1, _⟩ := hks x hx
    exact ⟨_, by rw [e1]; exact keyOf_int_mk hk (WalkArith.wf_i32 (hw p hp))⟩) with ⟨h1, h2⟩ | ⟨j, x, h1, h2, h3⟩
  · refine .inl ⟨h1, fnd_none es r fun p hp e => ?_⟩
    have : (Value.int .i32 p.1, p.2) ∈ arr.toList.map (fun e => (e.key, e.val)) := by rw [he]; exact List.mem_map.2 ⟨p, hp, rfl⟩
    obtain ⟨x, hx, e2⟩ := List.mem_map.1 this
    rw [Prod.mk.injEq] at e2
    exact h2 x hx (by rw [e2.1, e])
  · obtain ⟨p, hp, e1, e2⟩ := hks x (List.mem_of_getElem? h2)
    rw [h3] at e1
    have e3 : r = p.1 := by injection e1
    exact .inr ⟨j, _, h1, by rw [e3, e2]; exact fnd_mem es p hp hd⟩

theorem run_lookup_rmap (ht : P.underlying t = some (.map k e)) (hk : P.underlying k = some (.int .i32)) {w : World} {z : Value} (hz : (zeroValue e).run P w = .ok z w) {b : Nat} {es : List (Int × Value)} (hM : RMap w b es)
    (hw : ∀ p ∈ es, i32 p.1) (hd : (es.map (·.1)).Nodup) {r : Int} (hr : i32 r) (ok : Bool) :
    (Instr.lookup t (.map (some b)) (.int .i32 r) ok).run P w = .ok (if ok then .tuple #[(fnd es r).getD z, .bool (fnd es r).isSome] else (fnd es r).getD z) w := by
  obtain ⟨arr, clock, hb, he⟩ := hM
  have hkey : keyOf P k (.int .i32 r) = some (.int .i32 r) := keyOf_int_mk hk (WalkArith.wf_i32 hr)
  have hc := (int_keyed hk).check w arr.isEmpty hkey
  rcases find_rmap hk (w := w) hw hd hr he with ⟨h1, h2⟩ | ⟨j, v, h1, h2⟩
  · simp [Instr.lookup, run_underlying ht, MapKept.run_getObj_map hb, hc, h1, h2, hz, Result.andThen]
  · simp [Instr.lookup, run_underlying ht, MapKept.run_getObj_map hb, hc, h1, h2, Result.andThen]

/-- 'm[k]', 'v, ok := m[k]' at the operation. -/
theorem wpList_lookup_rmap (w : World) {ops : Array Oper} {rest : List Oper} {o : Oper} {a : Act} {Q : Exit → Act → World → Prop} (hg : o.guard = none) (m x : Operand) (ok : Bool) (hop : o.op = Op.lookup t m x ok)
    (ht : P.underlying t = some (.map k e)) (hk : P.underlying k = some (.int .i32)) (z : Value) (hz : (zeroValue e).run P w = .ok z w) (b : Nat) (es : List (Int × Value)) (hm : a.eval m = .map (some b)) (hM : RMap w b es)
    (hw : ∀ p ∈ es, i32 p.1) (hd : (es.map (·.1)).Nodup) (r : Int) (hx : a.eval x = .int .i32 r) (hr : i32 r)
    (hK : wpList P ops Q rest (a.put o.dst (if ok then .tuple #[(fnd es r).getD z, .bool (fnd es r).isSome] else (fnd es r).getD z)) w) :
    wpList P ops Q (o :: rest) a w := by
  refine wpList_plain hg fun K' hK' => ?_
  have hrun := run_lookup_rmap ht hk hz hM hw hd hr ok
  unfold Oper.wp
  simp [execOp, hop, hm, hx, hrun, Result.andThen]
  exact hK' _ _ hK

/-- 'm[k] = v' at a key that is not there. -/
theorem wpList_store_rmap (w : World) {ops : Array Oper} {rest : List Oper} {o : Oper} {a : Act} {Q : Exit → Act → World → Prop} (hg : o.guard = none) (m x v : Operand) (hop : o.op = Op.mapUpdate t m x v)
    (ht : P.underlying t = some (.map k e)) (hk : P.underlying k = some (.int .i32)) (b : Nat) (es : List (Int × Value)) (hm : a.eval m = .map (some b)) (hM : RMap w b es)
    (hw : ∀ p ∈ es, i32 p.1) (hd : (es.map (·.1)).Nodup) (r : Int) (val : Value) (hx : a.eval x = .int .i32 r) (hv : a.eval v = val) (hr : i32 r) (hn : fnd es r = none)
    (hK : ∀ w', RMap w' b (es ++ [(r, val)]) → w.grownBy w' (some b) → wpList P ops Q rest (a.put o.dst undef) w') :
    wpList P ops Q (o :: rest) a w := by
  refine wpList_plain hg fun K' hK' => ?_
  obtain ⟨arr, clock, hb, he⟩ := hM
  have hkey : keyOf P k (.int .i32 r) = some (.int .i32 r) := keyOf_int_mk hk (WalkArith.wf_i32 hr)
  have hc := (int_keyed hk).check w false hkey
  have h1 : (Instr.findKey k (.int .i32 r) arr.toList).run P w = .ok none w := by
    rcases find_rmap hk (w := w) hw hd hr he with ⟨h1, _⟩ | ⟨j, v, _, h2⟩
    · exact h1
    · rw [hn] at h2; cases h2
  have hrun : (Instr.mapUpdate t (.map (some b)) (.int .i32 r) val).run P w = .ok () (setBlock w b (.map (arr.push ⟨.int .i32 r, val, clock⟩) (clock + 1))) := by
    simp [Instr.mapUpdate, run_underlying ht, MapKept.run_getObj_map hb, hc, h1, MapKept.run_setObj_map _ hb, Result.andThen, setBlock]
  unfold Oper.wp
  simp [execOp, hop, hm, hx, hv, hrun, Result.andThen]
  refine hK' _ _ (hK _ ⟨_, _, heap_setBlock_same hb _, ?_⟩ ⟨rfl, rfl, rfl, by simp [setBlock], fun i _ hi => heap_setBlock_other hb _ (fun e => hi (by rw [e]))⟩)
  simp [he]
end
end Go.Proofs.YtceelfomgcbkiaaDoor.E

/-
  A strings.Builder that lies at the head of a struct of the call's own (hoarding/escape.writer: the builder, and a map): what its methods do there.
-/
namespace Go.Proofs.YtceelfomgcbkiaaDoor.E
open Go.RowKit

/-- Block b is a writer: a builder that holds the bytes bs, and the value m behind it. -/
def EmbAt (B b : Nat) (m p : Value) (bs : List Value) (w : World) : Prop :=
  B ≤ b ∧ ∃ v, w.heap[b]? = some (.cells #[p, v, m] 61 (0, 0)) ∧ w.ownsRowF B 5 1 v bs.length bs ∧ v.ownBlock ≠ some b
def IsEmb (B b : Nat) (m : Value) (bs : List Value) (w : World) : Prop := EmbAt B b m (.pointer none) bs w ∨ EmbAt B b m (.pointer (some ⟨b, 0, none⟩)) bs w

theorem heap_lt {w : World} {b : Nat} {o : Obj} (h : w.heap[b]? = some o) : b < w.heap.size := (Array.getElem?_eq_some_iff.1 h).1
theorem EmbAt.kept {B b : Nat} {m p : Value} {bs : List Value} {w w' : World} (h : EmbAt B b m p bs w) (hg : w.grownBy w' none) : EmbAt B b m p bs w' := by
  obtain ⟨hB, v, hb, hown, hne⟩ := h
  exact ⟨hB, v, (hg.block b (heap_lt hb) (by simp)).trans hb, hown.kept hg (by rcases hv : v.ownBlock with _ | _ <;> simp), hne⟩
theorem IsEmb.kept {B b : Nat} {m : Value} {bs : List Value} {w w' : World} (h : IsEmb B b m bs w) (hg : w.grownBy w' none) : IsEmb B b m bs w' := h.imp (·.kept hg) (·.kept hg)
theorem IsEmb.alloc {B b : Nat} {m : Value} {bs : List Value} {w : World} (h : IsEmb B b m bs w) (o : Obj) : IsEmb B b m bs (w.alloc o) := h.kept (World.grownBy_alloc w o none)
theorem IsEmb.drew {B b : Nat} {m : Value} {bs : List Value} {w : World} (h : IsEmb B b m bs w) : IsEmb B b m bs w.drew := h
theorem EmbAt.iterAt {B b : Nat} {m p : Value} {bs : List Value} {w : World} (h : EmbAt B b m p bs w) {k : Nat} {s : ByteArray} {pos : Nat} (hk : w.heap[k]? = some (.stringIter s pos)) (pos' : Nat) : EmbAt B b m p bs (w.iterAt k s pos') := by
  obtain ⟨hB, v, hb, hown, hne⟩ := h
  have hkb : b ≠ k := fun e => by subst e; rw [hk] at hb; cases hb
  refine ⟨hB, v, (Lib.iterAt_other w k b s pos' hkb).trans hb, ⟨hown.1, ?_⟩, hne⟩
  rcases hown.2 with hn | ⟨g, cap, cur, fz, hv, h1, h2, h3⟩
  · exact .inl hn
  · have hgk : g ≠ k := fun e => by subst e; rw [hk] at h2; cases h2
    exact .inr ⟨g, cap, cur, fz, hv, h1, (Lib.iterAt_other w k g s pos' hgk).trans h2, h3⟩
theorem IsEmb.iterAt {B b : Nat} {m : Value} {bs : List Value} {w : World} (h : IsEmb B b m bs w) {k : Nat} {s : ByteArray} {pos : Nat} (hk : w.heap[k]? = some (.stringIter s pos)) (pos' : Nat) : IsEmb B b m bs (w.iterAt k s pos') :=
  h.imp (·.iterAt hk pos') (·.iterAt hk pos')
theorem IsEmb.block {B b : Nat} {m : Value} {bs : List Value} {w : World} (h : IsEmb B b m bs w) : ∃ p v, w.heap[b]? = some (.cells #[p, v, m] 61 (0, 0)) := by
  rcases h with ⟨_, v, hb, _⟩ | ⟨_, v, hb, _⟩ <;> exact ⟨_, v, hb⟩
theorem IsEmb.lt {B b : Nat} {m : Value} {bs : List Value} {w : World} (h : IsEmb B b m bs w) : b < w.heap.size := by
  obtain ⟨p, v, hb⟩ := h.block; exact heap_lt hb
theorem IsEmb.cell2 {B b : Nat} {m : Value} {bs : List Value} {w : World} (h : IsEmb B b m bs w) : w.cell? ⟨b, 2, none⟩ = some m := by
  obtain ⟨p, v, hb⟩ := h.block
  rw [Lib.cell_of_heap hb]; rfl

theorem sizeB : (Tryd.prog.info? 59).map (·.size) = some 2 := by kernel_rfl
theorem liesB : liesAt Tryd.prog Tryd.prog.depth 61 (3 / Tryd.prog.cellsOf 61) 0 59 1 = true := by kernel_rfl
theorem infoByte : (Tryd.prog.info? 5).map (fun i => (i.zero, i.size, i.bytes)) = some (some (.int .u8 0), 1, 1) := by kernel_rfl

set_option maxHeartbeats 1000000 in
set_option maxRecDepth 100000 in
theorem check_used (b : Nat) (w : World) (h0 : w.cell? ⟨b, 0, none⟩ = some (.pointer (some ⟨b, 0, none⟩))) :
    Calls Tryd.prog 43 #[.pointer (some ⟨b, 0, none⟩)] w fun e w' => e = .returned (.tuple #[]) ∧ w' = w := by
  obtain ⟨j, hj, _⟩ := Option.map_eq_some_iff.1 sizeB
  go_enter Tryd.func43, Tryd.ntmps43
  go_wp2
  rw [Lib.run_neq_ptr_same w _ Tryd.underlying56 hj]
  go_wp2
  go_end0
  exact ⟨rfl, rfl⟩

set_option maxHeartbeats 1000000 in
set_option maxRecDepth 100000 in
theorem check_fresh (b : Nat) (w : World) (h0 : w.cell? ⟨b, 0, none⟩ = some (.pointer none)) (hsh : w.shape? b = some (61, 3)) (hfz : w.frozen? ⟨b, 0, none⟩ = false) :
    Calls Tryd.prog 43 #[.pointer (some ⟨b, 0, none⟩)] w fun e w' => e = .returned (.tuple #[]) ∧ w' = w.setCell ⟨b, 0, none⟩ (.pointer (some ⟨b, 0, none⟩)) := by
  obtain ⟨j, hj, hjs⟩ := Option.map_eq_some_iff.1 sizeB
  go_enter Tryd.func43, Tryd.ntmps43
  go_wp2
  rw [Lib.run_to_unsafe w ⟨b, 0, none⟩ Tryd.underlying56 Tryd.underlying99 hj (by rw [hjs]; decide) hsh (Nat.zero_lt_succ 2)]
  simp only [Result.andThen]
  rw [Oper.upon_value]
  go_wp2
  rw [run_callFunc_extern Tryd.func71 (by kernel_rfl) (by kernel_rfl) (by kernel_rfl) (e := Extern.AbiNoEscape.same) (by kernel_rfl)]
  rw [Lib.run_noEscape]
  simp only [Result.andThen]
  rw [Oper.upon_value]
  go_wp2
  rw [Lib.run_from_unsafe w ⟨b, 0, none⟩ Tryd.underlying99 Tryd.underlying56 hj hsh liesB]
  simp only [Result.andThen]
  rw [Oper.upon_value]
  go_wp2
  go_end0
  exact ⟨rfl, rfl⟩

theorem EmbAt.used {B b : Nat} {m p : Value} {bs : List Value} {w : World} (h : EmbAt B b m p bs w) (q : Value) : EmbAt B b m q bs (w.setCell ⟨b, 0, none⟩ q) := by
  obtain ⟨hB, v, hb, hown, hne⟩ := h
  refine ⟨hB, v, by simp [World.setCell, Array.getElem?_modify, hb], ?_, hne⟩
  refine hown.kept (row := some b) ⟨rfl, rfl, rfl, by simp [World.setCell], fun k _ hk => Below.heap_setCell _ _ _ _ (fun e => hk (by simp [e]))⟩ ?_
  exact Or.inr hne
theorem EmbAt.put {B b : Nat} {m p v v' : Value} {bs' : List Value} {w : World} (hB : B ≤ b) (hb : w.heap[b]? = some (.cells #[p, v, m] 61 (0, 0))) (hown : w.ownsRowF B 5 1 v' bs'.length bs') :
    EmbAt B b m p bs' (w.setCell ⟨b, 1, none⟩ v') := by
  have hne := Lib.ownBlock_neF hown hb (by decide)
  refine ⟨hB, v', by simp [World.setCell, Array.getElem?_modify, hb], ?_, hne⟩
  exact hown.kept (row := some b) ⟨rfl, rfl, rfl, by simp [World.setCell], fun k _ hk => Below.heap_setCell _ _ _ _ (fun e => hk (by simp [e]))⟩ (Or.inr hne)

theorem check_any (B b : Nat) (m : Value) (bs : List Value) (w : World) (h : IsEmb B b m bs w) :
    Calls Tryd.prog 43 #[.pointer (some ⟨b, 0, none⟩)] w fun e w' => e = .returned (.tuple #[]) ∧ EmbAt B b m (.pointer (some ⟨b, 0, none⟩)) bs w' ∧ Below B w w' ∧ Lib.OthersKept 5 (some b) w w' := by
  rcases h with h | h
  · have h' := h
    obtain ⟨hB, v, hb, _⟩ := h'
    refine (check_fresh b w (by rw [Lib.cell_of_heap hb]; rfl) (by simp [World.shape?, hb]) (Lib.frozen_of_heap hb 0)).mono ?_
    rintro e w' ⟨rfl, rfl⟩
    exact ⟨rfl, h.used _, (Below.refl B w).setCell (p := ⟨b, 0, none⟩) hB _, (Lib.OthersKept.refl _ _ w).setCell ⟨b, 0, none⟩ rfl _⟩
  · have h' := h
    obtain ⟨hB, v, hb, _⟩ := h'
    refine (check_used b w (by rw [Lib.cell_of_heap hb]; rfl)).mono ?_
    rintro e w' ⟨rfl, rfl⟩
    exact ⟨rfl, h, Below.refl B _, Lib.OthersKept.refl _ _ _⟩

set_option maxHeartbeats 2000000 in
set_option maxRecDepth 100000 in
theorem writeString_any (B b : Nat) (m : Value) (bs : List Value) (s : ByteArray) (w : World) (h : IsEmb B b m bs w) (hlen : bs.length + s.size ≤ 140737488355328) (hBw : B ≤ w.heap.size) :
    Calls Tryd.prog 35 #[.pointer (some ⟨b, 0, none⟩), .string s] w fun e w' => e = .returned (.tuple #[.int .i64 s.size, .nilIface]) ∧ EmbAt B b m (.pointer (some ⟨b, 0, none⟩)) (bs ++ Lib.strCells s) w' ∧ Below B w w' ∧ Lib.OthersKept 5 (some b) w w' := by
  obtain ⟨i0, hi, hz0, hz1, hz2⟩ := info_parts infoByte
  go_enter Tryd.func35, Tryd.ntmps35
  go_wp2_with (go_at_call 43; refine (check_any B b m bs _ h).mono ?_)
  rintro e w1 ⟨rfl, h1, hb1, hk1⟩
  obtain ⟨hB, v, hbk, hown, hne⟩ := h1
  have c0 : w1.cell? ⟨b, 0, none⟩ = some (.pointer (some ⟨b, 0, none⟩)) := by rw [Lib.cell_of_heap hbk]; rfl
  have c1 : w1.cell? ⟨b, 1, none⟩ = some v := by rw [Lib.cell_of_heap hbk]; rfl
  go_wp2_with (at_builtin; refine Lib.wpList_append_own_stringF _ rfl _ _ 57 9 rfl B 5 i0 Tryd.underlying57 Tryd.underlying9 hi hz0 hz1 hz2 _ _ _ rfl hown s rfl ?c3 ?c4 ?c5 ?_)
  case c3 => unfold maxLen; omega
  case c4 => omega
  case c5 => have := hb1.size; omega
  intro v' w2 hown' hgrow _
  have hlt : b < w1.heap.size := heap_lt hbk
  have hb2 : w2.heap[b]? = some (.cells #[.pointer (some ⟨b, 0, none⟩), v, m] 61 (0, 0)) := by
    rw [hgrow.block b hlt (fun e => hne e.symm)]
    exact hbk
  have d0 : w2.cell? ⟨b, 0, none⟩ = some (.pointer (some ⟨b, 0, none⟩)) := by rw [Lib.cell_of_heap hb2]; rfl
  have d1 : w2.cell? ⟨b, 1, none⟩ = some v := by rw [Lib.cell_of_heap hb2]; rfl
  have f1 : w2.frozen? ⟨b, 1, none⟩ = false := Lib.frozen_of_heap hb2 1
  obtain ⟨ao, n', cap, rfl⟩ : ∃ ao n' cap, v' = .slice ao n' cap := by
    rcases hown'.2 with ⟨hv, _⟩ | ⟨g, cap, cur, fz, hv, _⟩
    · exact ⟨_, _, _, hv⟩
    · exact ⟨_, _, _, hv⟩
  go_wp2
  go_ret2
  refine ⟨rfl, ?_, ?_, (hk1.grown hgrow (Lib.ownsRowF_kind hown)).setCell ⟨b, 1, none⟩ rfl _⟩
  · exact EmbAt.put hB hb2 (bs' := bs ++ Lib.strCells s) (by simpa [Lib.strCells_length] using hown')
  · exact (hb1.grown hgrow (by have := hb1.size; omega) (fun k hk => (hown.lt k hk).1)).setCell (p := ⟨b, 1, none⟩) hB _
end Go.Proofs.YtceelfomgcbkiaaDoor.E
