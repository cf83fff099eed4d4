/-
  Plain functions on bytes and lists for layer 1 (ascii): blanks, letters, digits, small letters, trimming. No program stands here.
-/
import Derived.WalkKit
namespace Go.Proofs.Ytdljjfeojccidaa.I
open Go.RowKit

/-- Is the number one of the five blanks? -/
def spI (n : Int) : Bool := decide (n = 9 ∨ n = 10 ∨ n = 12 ∨ n = 13 ∨ n = 32)
/-- Is the number a letter? -/
def leI (n : Int) : Bool := decide ((65 ≤ n ∧ n ≤ 90) ∨ (97 ≤ n ∧ n ≤ 122))
/-- What the number is as a digit to the base 16. -/
def hxI (n : Int) : Int := if 48 ≤ n ∧ n ≤ 57 then n - 48 else if 97 ≤ n ∧ n ≤ 102 then n - 87 else if 65 ≤ n ∧ n ≤ 70 then n - 55 else -1
/-- The small letter. -/
def smI (n : Int) : Int := if 65 ≤ n ∧ n ≤ 90 then n + 32 else n

def lowB (c : UInt8) : UInt8 := if 65 ≤ c.toNat ∧ c.toNat ≤ 90 then c + 32 else c
def lowL (l : List UInt8) : List UInt8 := l.map lowB
def lowS (s : ByteArray) : ByteArray := ⟨(lowL s.data.toList).toArray⟩

theorem lowB_nat (c : UInt8) : ((lowB c).toNat : Int) = smI (c.toNat : Int) := by
  unfold lowB smI
  have hc := c.toNat_lt
  by_cases h : 65 ≤ c.toNat ∧ c.toNat ≤ 90
  · rw [if_pos h, if_pos (by omega), UInt8.toNat_add]
    have : (32 : UInt8).toNat = 32 := rfl
    rw [this]; omega
  · rw [if_neg h, if_neg (by omega)]
theorem lowB_idem (c : UInt8) : lowB (lowB c) = lowB c := by
  have h := lowB_nat c
  apply UInt8.toNat_inj.1
  have h2 := lowB_nat (lowB c)
  unfold smI at h h2
  have hc := c.toNat_lt
  split at h <;> split at h2 <;> omega
theorem lowL_idem (l : List UInt8) : lowL (lowL l) = lowL l := by
  unfold lowL; rw [List.map_map]; apply List.map_congr_left; intro c _; exact lowB_idem c
theorem lowS_list (s : ByteArray) : (lowS s).data.toList = lowL s.data.toList := by simp [lowS]
theorem lowS_idem (s : ByteArray) : lowS (lowS s) = lowS s := by
  unfold lowS; simp [lowL_idem]
theorem lowS_size (s : ByteArray) : (lowS s).size = s.size := by
  show (lowS s).data.size = s.data.size
  simp [lowS, lowL]
theorem byte_inj {a b : UInt8} (h : (a.toNat : Int) = (b.toNat : Int)) : a = b := UInt8.toNat_inj.1 (by omega)

/-- Blank: all its bytes are blanks. -/
def blS (s : ByteArray) : Bool := s.data.toList.all fun c => spI (c.toNat : Int)

def spC (c : UInt8) : Bool := spI (c.toNat : Int)
def trL (l : List UInt8) : List UInt8 := ((l.dropWhile spC).reverse.dropWhile spC).reverse
def trS (s : ByteArray) : ByteArray := ⟨(trL s.data.toList).toArray⟩

theorem dw_all {p : UInt8 → Bool} : ∀ (l m : List UInt8), (∀ c ∈ l, p c = true) → (∀ c, m.head? = some c → p c = false) → (l ++ m).dropWhile p = m
  | [], m, _, h => by
    cases m with
    | nil => rfl
    | cons c m => simp [h c (by simp)]
  | c :: l, m, h, h2 => by
    simp [h c (by simp)]
    exact dw_all l m (fun c hc => h c (by simp [hc])) h2

/-- What stands between blanks, and neither begins nor ends with one, is what trimming leaves. -/
theorem trL_mid (a m b : List UInt8) (ha : ∀ c ∈ a, spC c = true) (hb : ∀ c ∈ b, spC c = true) (h1 : ∀ c, m.head? = some c → spC c = false) (h2 : ∀ c, m.getLast? = some c → spC c = false) :
    trL (a ++ (m ++ b)) = m := by
  unfold trL
  cases m with
  | nil =>
    have : (a ++ ([] ++ b)).dropWhile spC = [] := by
      have := dw_all (p := spC) (a ++ b) [] (by intro c hc; rcases List.mem_append.1 hc with h | h; exact ha c h; exact hb c h) (by simp)
      simpa using this
    rw [this]; rfl
  | cons x m =>
    rw [dw_all a ((x :: m) ++ b) ha (by intro c hc; exact h1 c (by simpa using hc))]
    rw [List.reverse_append, dw_all b.reverse (x :: m).reverse (by intro c hc; exact hb c (by simpa using hc)) (by intro c hc; exact h2 c (by rw [List.head?_reverse] at hc; exact hc))]
    simp
theorem dw_suffix {p : UInt8 → Bool} : ∀ (l : List UInt8), ∃ a, l = a ++ l.dropWhile p ∧ ∀ c ∈ a, p c = true
  | [] => ⟨[], rfl, by simp⟩
  | x :: l => by
    by_cases hx : p x = true
    · obtain ⟨a, h1, h2⟩ := dw_suffix (p := p) l
      refine ⟨x :: a, ?_, ?_⟩
      · rw [List.dropWhile_cons_of_pos hx, List.cons_append, ← h1]
      · intro c hc
        rcases List.mem_cons.1 hc with h | h
        · rw [h]; exact hx
        · exact h2 c h
    · exact ⟨[], by rw [List.dropWhile_cons_of_neg hx]; rfl, by simp⟩
theorem dw_len {p : UInt8 → Bool} (l : List UInt8) : (l.dropWhile p).length ≤ l.length := by
  obtain ⟨a, h, _⟩ := dw_suffix (p := p) l
  have := congrArg List.length h
  simp at this; omega
theorem dw_head {p : UInt8 → Bool} : ∀ (l : List UInt8) c, (l.dropWhile p).head? = some c → p c = false
  | [], c, h => by simp at h
  | x :: l, c, h => by
    by_cases hx : p x = true
    · rw [List.dropWhile_cons_of_pos hx] at h; exact dw_head l c h
    · rw [List.dropWhile_cons_of_neg hx] at h; simp at h; subst h; simpa using hx
theorem trL_idem (l : List UInt8) : trL (trL l) = trL l := by
  obtain ⟨a, ha, ha'⟩ := dw_suffix (p := spC) l
  obtain ⟨b, hb, hb'⟩ := dw_suffix (p := spC) (l.dropWhile spC).reverse
  have e : trL l = ((l.dropWhile spC).reverse.dropWhile spC).reverse := rfl
  have h1 : ∀ c, (trL l).head? = some c → spC c = false := by
    intro c hc
    apply dw_head l c
    have hb2 : l.dropWhile spC = trL l ++ b.reverse := by
      rw [e]
      have := congrArg List.reverse hb
      simpa using this
    rw [hb2]
    cases hx : trL l with
    | nil => rw [hx] at hc; simp at hc
    | cons y ys => rw [hx] at hc; simpa using hc
  have h2 : ∀ c, (trL l).getLast? = some c → spC c = false := by
    intro c hc
    rw [e, List.getLast?_reverse] at hc
    exact dw_head _ c hc
  have := trL_mid [] (trL l) [] (by simp) (by simp) h1 h2
  simpa using this
theorem trL_len (l : List UInt8) : (trL l).length ≤ l.length := by
  unfold trL
  have h1 := dw_len (p := spC) l
  have h2 := dw_len (p := spC) (l.dropWhile spC).reverse
  simp at h2 ⊢; omega
theorem trS_idem (s : ByteArray) : trS (trS s) = trS s := by
  unfold trS; simp [trL_idem]
theorem trS_size (s : ByteArray) : (trS s).size ≤ s.size := by
  show (trS s).data.size ≤ s.data.size
  have := trL_len s.data.toList
  simpa [trS] using this
/-- A piece between blanks. -/
theorem trS_of (s : ByteArray) (i j : Nat) (hij : i ≤ j) (hj : j ≤ s.size) (ha : ∀ k (h : k < s.size), k < i → spC s[k] = true) (hb : ∀ k (h : k < s.size), j ≤ k → spC s[k] = true)
    (h1 : ∀ h : i < j, spC (s[i]'(by omega)) = false) (h2 : ∀ h : i < j, spC (s[j - 1]'(by omega)) = false) : s.extract i j = trS s := by
  have hsz : s.data.toList.length = s.size := by simp
  have hx : (s.extract i j).data.toList = (s.data.toList.take j).drop i := by
    rw [ByteArray.data_extract, Array.toList_extract, List.extract_eq_take_drop, List.drop_take]
  have hl : s.data.toList = s.data.toList.take i ++ ((s.data.toList.take j).drop i ++ s.data.toList.drop j) := by
    have e1 : (s.data.toList.take j).take i = s.data.toList.take i := by rw [List.take_take]; congr 1; omega
    rw [← List.append_assoc, ← e1, List.take_append_drop, List.take_append_drop]
  have key : trL s.data.toList = (s.data.toList.take j).drop i := by
    refine (congrArg trL hl).trans ?_
    refine trL_mid _ _ _ ?_ ?_ ?_ ?_
    · intro c hc
      obtain ⟨k, hk, rfl⟩ := List.mem_iff_getElem.1 hc
      simp at hk
      rw [List.getElem_take]
      exact ha k (by omega) (by omega)
    · intro c hc
      obtain ⟨k, hk, rfl⟩ := List.mem_iff_getElem.1 hc
      simp at hk
      rw [List.getElem_drop]
      exact hb (j + k) (by omega) (by omega)
    · intro c hc
      rw [List.head?_eq_getElem?] at hc
      obtain ⟨hk, rfl⟩ := List.getElem?_eq_some_iff.1 hc
      simp at hk
      simp only [List.getElem_drop, List.getElem_take]
      exact h1 (by omega)
    · intro c hc
      rw [List.getLast?_eq_getElem?] at hc
      obtain ⟨hk, rfl⟩ := List.getElem?_eq_some_iff.1 hc
      simp at hk
      simp only [List.getElem_drop, List.getElem_take]
      have := h2 (by omega)
      have e : i + (((s.data.toList.take j).drop i).length - 1) = j - 1 := by simp; omega
      have e2 : s.data.toList[i + (((s.data.toList.take j).drop i).length - 1)]'(by rw [e]; omega) = s[j - 1]'(by omega) := by
        simp only [e]; rfl
      rw [e2]; exact this
  unfold trS
  rw [key, ← hx]
end Go.Proofs.Ytdljjfeojccidaa.I
