/-
  Layer 10 (raw) in plain functions: where text ends within which tags do not count. No walk stands here.
-/
import Derived.Test.YtdljjfeojccidaaTCloses
namespace Go.Proofs.Ytdljjfeojccidaa.Q
open Go.RowKit
open Go.Proofs.Ytdljjfeojccidaa.I (spI foldB foldB_eq lowL lowB)
open Go.Proofs.Ytdljjfeojccidaa.T (clB hitB endI)

/-- The first one of f places from k on at which p holds; the place behind them, if there is none. -/
def fst (p : Nat → Bool) : Nat → Nat → Nat
  | 0, k => k
  | f + 1, k => if p k = true then k else fst p f (k + 1)
theorem fst_yes {p : Nat → Bool} {f k : Nat} (hf : 0 < f) (h : p k = true) : fst p f k = k := by
  obtain ⟨g, rfl⟩ : ∃ g, f = g + 1 := ⟨f - 1, by omega⟩
  unfold fst; rw [if_pos h]
theorem fst_no {p : Nat → Bool} {f k : Nat} (hf : 0 < f) (h : p k = false) : fst p f k = fst p (f - 1) (k + 1) := by
  obtain ⟨g, rfl⟩ : ∃ g, f = g + 1 := ⟨f - 1, by omega⟩
  conv => lhs; unfold fst
  rw [if_neg (by rw [h]; decide)]; rfl
theorem fst_is (p : Nat → Bool) : ∀ (f k : Nat), k ≤ fst p f k ∧ fst p f k ≤ k + f ∧ (fst p f k = k + f ∨ p (fst p f k) = true)
  | 0, k => ⟨Nat.le_refl _, Nat.le_refl _, .inl rfl⟩
  | f + 1, k => by
    unfold fst
    split
    · rename_i h; exact ⟨Nat.le_refl _, by omega, .inr h⟩
    · obtain ⟨h1, h2, h3⟩ := fst_is p f (k + 1)
      exact ⟨by omega, by omega, by rcases h3 with h | h; exact .inl (by omega); exact .inr h⟩

/-- What is left from a place on. -/
abbrev tl (s : ByteArray) (k : Nat) : ByteArray := s.extract k s.size
/-- Does s begin so? -/
def preB (s p : ByteArray) : Bool := p.data.toList.isPrefixOf s.data.toList
theorem preB_has (s p : ByteArray) : Lib.hasPrefix s.data.toList p.data.toList = preB s p := rfl
theorem pre_take : ∀ (p l : List UInt8), p.isPrefixOf l = (decide (p.length ≤ l.length) && l.take p.length == p)
  | [], l => by simp [List.isPrefixOf]
  | a :: p, [] => by simp [List.isPrefixOf]
  | a :: p, b :: l => by
    have ih := pre_take p l
    rw [Bool.eq_iff_iff] at ih ⊢
    simp only [List.isPrefixOf, Bool.and_eq_true, decide_eq_true_eq, beq_iff_eq, List.length_cons, List.take_succ_cons, List.cons.injEq, Nat.add_le_add_iff_right] at ih ⊢
    constructor
    · rintro ⟨h1, h2⟩; have := ih.1 h2; exact ⟨this.1, h1.symm, this.2⟩
    · rintro ⟨h1, h2, h3⟩; exact ⟨h2.symm, ih.2 ⟨h1, h3⟩⟩
theorem preB_short {s p : ByteArray} (h : s.size < p.size) : preB s p = false := by
  unfold preB
  rw [pre_take, C.size_list, C.size_list, decide_eq_false (by omega)]; rfl
theorem preB_long {s p : ByteArray} (h : p.size ≤ s.size) : preB s p = ((s.extract 0 p.size).toList == p.toList) := by
  unfold preB
  rw [pre_take, C.size_list, C.size_list, decide_eq_true (by omega), ByteArray.toList_eq, ByteArray.toList_eq, C.ext_list]
  rfl
theorem preB_size {s p : ByteArray} (h : preB s p = true) : p.size ≤ s.size := by
  rcases Nat.lt_or_ge s.size p.size with h2 | h2
  · rw [preB_short h2] at h; cases h
  · exact h2
theorem preB_head {s p : ByteArray} {c : UInt8} {r : List UInt8} (e : p.data.toList = c :: r) (h : preB s p = true) : s.data.toList.head? = some c := by
  unfold preB at h
  rw [e] at h
  cases hs : s.data.toList with
  | nil => rw [hs] at h; simp [List.isPrefixOf] at h
  | cons b l => rw [hs] at h; simp [List.isPrefixOf] at h; rw [h.1]; rfl

/-- A script begins within: <script, and what ends a name. -/
def opB (s : ByteArray) : Bool := if h : 7 < s.size then foldB (s.extract 0 7) ⟨#[60, 115, 99, 114, 105, 112, 116]⟩ && endI (s[7].toNat : Int) else false
/-- Nothing is left, or the end tag comes next. -/
def ovB (s name : ByteArray) : Bool := s.size == 0 || clB s name
def pEnd : ByteArray := ⟨#[45, 45, 62]⟩
def pBeg : ByteArray := ⟨#[60, 33, 45, 45]⟩
def pScr : ByteArray := ⟨#[115, 99, 114, 105, 112, 116]⟩
/-- A script, from place k on, open (0), hidden (1) or deep (2): where it ends. -/
def scr (s name : ByteArray) : Nat → Nat → Nat → Nat
  | 0, _, k => k
  | f + 1, 0, k => if ovB (tl s k) name = true then k else if preB (tl s k) pBeg = true then scr s name f 1 (k + 2) else scr s name f 0 (k + 1)
  | f + 1, 1, k => if ovB (tl s k) name = true then k else if preB (tl s k) pEnd = true then scr s name f 0 (k + 1) else if opB (tl s k) = true then scr s name f 2 (k + 1) else scr s name f 1 (k + 1)
  | f + 1, _ + 2, k => if (tl s k).size = 0 then k else if preB (tl s k) pEnd = true then scr s name f 0 (k + 1) else if clB (tl s k) pScr = true then scr s name f 1 (k + 1) else scr s name f 2 (k + 1)
theorem tl_size (s : ByteArray) (k : Nat) : (tl s k).size = s.size - k := by rw [ByteArray.size_extract]; omega
theorem ov_end {s name : ByteArray} {k : Nat} (h : s.size ≤ k) : ovB (tl s k) name = true := by
  unfold ovB
  rw [tl_size, show s.size - k = 0 by omega]; rfl
theorem ov_in {s name : ByteArray} {k : Nat} (h : k < s.size) : ovB (tl s k) name = clB (tl s k) name := by
  unfold ovB
  rw [show ((tl s k).size == 0) = false by rw [tl_size]; simp; omega]; rfl
theorem beg_room {s : ByteArray} {k : Nat} (h : preB (tl s k) pBeg = true) : k + 4 ≤ s.size := by
  have := preB_size h
  rw [tl_size] at this
  have e : pBeg.size = 4 := rfl
  omega
theorem end_room {s : ByteArray} {k : Nat} (h : preB (tl s k) pEnd = true) : k + 3 ≤ s.size := by
  have := preB_size h
  rw [tl_size] at this
  have e : pEnd.size = 3 := rfl
  omega
/-- What was found: within the text; nothing is behind it, or the end tag. -/
theorem scr_is (s name : ByteArray) : ∀ (f m k : Nat), k ≤ s.size → s.size - k < f → scr s name f m k ≤ s.size ∧ (scr s name f m k = s.size ∨ clB (tl s (scr s name f m k)) name = true)
  | 0, _, _, _, h => absurd h (Nat.not_lt_zero _)
  | f + 1, 0, k, hk, hf => by
    unfold scr
    split
    · rename_i h
      refine ⟨hk, ?_⟩
      rcases Nat.lt_or_ge k s.size with h2 | h2
      · rw [ov_in h2] at h; exact .inr h
      · exact .inl (by omega)
    · rename_i h
      have hlt : k < s.size := by
        rcases Nat.lt_or_ge k s.size with h2 | h2
        · exact h2
        · exact absurd (ov_end h2) h
      split
      · rename_i h2
        have := beg_room h2
        exact scr_is s name f _ _ (by omega) (by omega)
      · exact scr_is s name f _ _ (by omega) (by omega)
  | f + 1, 1, k, hk, hf => by
    unfold scr
    split
    · rename_i h
      refine ⟨hk, ?_⟩
      rcases Nat.lt_or_ge k s.size with h2 | h2
      · rw [ov_in h2] at h; exact .inr h
      · exact .inl (by omega)
    · rename_i h
      have hlt : k < s.size := by
        rcases Nat.lt_or_ge k s.size with h2 | h2
        · exact h2
        · exact absurd (ov_end h2) h
      split
      · exact scr_is s name f _ _ (by omega) (by omega)
      · split
        · exact scr_is s name f _ _ (by omega) (by omega)
        · exact scr_is s name f _ _ (by omega) (by omega)
  | f + 1, m + 2, k, hk, hf => by
    unfold scr
    split
    · rename_i h
      rw [tl_size] at h
      exact ⟨hk, .inl (by omega)⟩
    · rename_i h
      rw [tl_size] at h
      split
      · exact scr_is s name f _ _ (by omega) (by omega)
      · split
        · exact scr_is s name f _ _ (by omega) (by omega)
        · exact scr_is s name f _ _ (by omega) (by omega)
/-- Where an element of that name ends, in that state. -/
def fndR (s name : ByteArray) (state : Int) : Nat :=
  if state = 0 then 0
  else if state = 1 ∨ state = 2 then fst (fun k => clB (tl s k) name) s.size 0
  else if state = 3 then scr s name (s.size + 1) 0 0
  else s.size
theorem fndR_is (s name : ByteArray) (state : Int) : fndR s name state ≤ s.size ∧ (state ≠ 0 → (fndR s name state = s.size ∨ clB (tl s (fndR s name state)) name = true)) := by
  unfold fndR
  split
  · rename_i h; exact ⟨Nat.zero_le _, fun h2 => absurd h h2⟩
  · split
    · have h := fst_is (fun k => clB (tl s k) name) s.size 0
      rw [Nat.zero_add] at h
      exact ⟨h.2.1, fun _ => h.2.2⟩
    · split
      · have h := scr_is s name (s.size + 1) 0 0 (Nat.zero_le _) (by omega)
        exact ⟨h.1, fun _ => h.2⟩
      · exact ⟨Nat.le_refl _, fun _ => .inl rfl⟩
/-! ### what begins with < does not begin with - -/
theorem cl_head {s name : ByteArray} (h : clB s name = true) : s.data.toList.head? = some 60 := by
  unfold clB at h
  split at h
  · simp only [Bool.and_eq_true] at h
    have := T.hitB_iff.1 h.1.1.2.1
    rw [List.head?_eq_getElem?]; exact this
  · cases h
theorem end_head {s : ByteArray} (h : preB s pEnd = true) : s.data.toList.head? = some 45 := preB_head (c := 45) (r := [45, 62]) rfl h
theorem cl_end {s name : ByteArray} (h : clB s name = true) : preB s pEnd = false := by
  cases hp : preB s pEnd with
  | false => rfl
  | true => have h1 := cl_head h; rw [end_head hp] at h1; cases h1
theorem lowB_60 {c : UInt8} (h : lowB c = 60) : c = 60 := by
  have h1 := I.lowB_nat c
  rw [h] at h1
  have h2 : ((60 : UInt8).toNat : Int) = 60 := rfl
  unfold I.smI at h1
  have hc := c.toNat_lt
  apply I.byte_inj
  rw [h2] at h1 ⊢
  split at h1 <;> omega
theorem op_head {s : ByteArray} (h : opB s = true) : s.data.toList.head? = some 60 := by
  unfold opB at h
  split at h
  · rename_i hl
    rw [Bool.and_eq_true, foldB_eq, C.ext_list] at h
    have h1 := eq_of_beq h.1
    cases hs : s.data.toList with
    | nil => rw [← C.size_list, hs] at hl; simp at hl
    | cons c r =>
      rw [hs] at h1
      have h2 : lowB c = 60 := by
        have h3 := congrArg List.head? h1
        have h4 : lowB c = lowB 60 := by simpa [lowL] using h3
        exact h4.trans (by decide)
      rw [lowB_60 h2]; rfl
  · cases h
theorem op_end {s : ByteArray} (h : opB s = true) : preB s pEnd = false := by
  cases hp : preB s pEnd with
  | false => rfl
  | true => have h1 := op_head h; rw [end_head hp] at h1; cases h1
end Go.Proofs.Ytdljjfeojccidaa.Q
