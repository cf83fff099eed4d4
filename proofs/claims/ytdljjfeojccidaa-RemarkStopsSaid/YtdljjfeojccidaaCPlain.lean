/-
  Plain functions on lists of bytes for layer 4 (charref): names, numbers, references, texts with references replaced. No program stands here.
-/
import Derived.WalkKit
import Derived.Lib.Strings
import Derived.Lib.IndexLaws
namespace Go.Proofs.Ytdljjfeojccidaa.C
open Go.RowKit

/-! ### bytes -/
def leI (n : Int) : Bool := decide ((65 ≤ n ∧ n ≤ 90) ∨ (97 ≤ n ∧ n ≤ 122))
def hxI (n : Int) : Int := if 48 ≤ n ∧ n ≤ 57 then n - 48 else if 97 ≤ n ∧ n ≤ 102 then n - 87 else if 65 ≤ n ∧ n ≤ 70 then n - 55 else -1
def smI (n : Int) : Int := if 65 ≤ n ∧ n ≤ 90 then n + 32 else n
def mkB (l : List UInt8) : ByteArray := ⟨l.toArray⟩
theorem mkB_list (l : List UInt8) : (mkB l).data.toList = l := by simp [mkB]
theorem mkB_of (s : ByteArray) : mkB s.data.toList = s := by cases s; simp [mkB]
theorem mkB_size (l : List UInt8) : (mkB l).size = l.length := by show l.toArray.size = _; simp
theorem size_list (s : ByteArray) : s.data.toList.length = s.size := by simp
theorem eq_of_list {a b : ByteArray} (h : a.data.toList = b.data.toList) : a = b := by rw [← mkB_of a, h, mkB_of b]
theorem ext_list (s : ByteArray) (i j : Nat) : (s.extract i j).data.toList = (s.data.toList.take j).drop i := by
  rw [ByteArray.data_extract, Array.toList_extract, List.extract_eq_take_drop, List.drop_take]
theorem ext_tail (s : ByteArray) (i : Nat) : (s.extract i s.size).data.toList = s.data.toList.drop i := by
  rw [ext_list, ← size_list, List.take_length]
theorem drop_at (s : ByteArray) (k : Nat) (h : k < s.size) : s.data.toList.drop k = s[k] :: s.data.toList.drop (k + 1) := by
  rw [List.drop_eq_getElem_cons (by simpa using h)]; rfl
theorem get_at (s : ByteArray) (k : Nat) (h : k < s.size) : s.data.toList[k]? = some s[k] := by
  rw [List.getElem?_eq_getElem (by simpa using h)]; rfl

/-! ### names -/
abbrev Tab := List (List UInt8 × Int)
def tabL : Tab := [([97, 109, 112], 38), ([65, 77, 80], 38), ([108, 116], 60), ([76, 84], 60), ([103, 116], 62), ([71, 84], 62), ([113, 117, 111, 116], 34), ([81, 85, 79, 84], 34), ([110, 98, 115, 112], 160), ([99, 111, 112, 121], 169), ([114, 101, 103], 174), ([115, 104, 121], 173), ([112, 97, 114, 97], 182), ([115, 101, 99, 116], 167), ([116, 105, 109, 101, 115], 215), ([100, 105, 118, 105, 100, 101], 247), ([109, 105, 99, 114, 111], 181), ([109, 105, 100, 100, 111, 116], 183), ([110, 111, 116], 172), ([100, 101, 103], 176), ([121, 101, 110], 165), ([99, 101, 110, 116], 162), ([112, 111, 117, 110, 100], 163), ([108, 97, 113, 117, 111], 171), ([114, 97, 113, 117, 111], 187)]
def tabS : Tab := [([97, 112, 111, 115], 39), ([99, 111, 108, 111, 110], 58), ([84, 97, 98], 9), ([78, 101, 119, 76, 105, 110, 101], 10), ([108, 112, 97, 114], 40), ([114, 112, 97, 114], 41), ([115, 111, 108], 47), ([110, 117, 109], 35), ([115, 101, 109, 105], 59), ([101, 113, 117, 97, 108, 115], 61), ([101, 120, 99, 108], 33), ([99, 111, 109, 109, 97, 116], 64), ([113, 117, 101, 115, 116], 63), ([99, 111, 109, 109, 97], 44), ([112, 101, 114, 105, 111, 100], 46), ([108, 98, 114, 97, 99, 101], 123), ([114, 98, 114, 97, 99, 101], 125), ([108, 115, 113, 98], 91), ([114, 115, 113, 98], 93), ([103, 114, 97, 118, 101], 96)]
def tabP : Tab := [([104, 101, 108, 108, 105, 112], 8230), ([109, 100, 97, 115, 104], 8212), ([110, 100, 97, 115, 104], 8211), ([108, 115, 113, 117, 111], 8216), ([114, 115, 113, 117, 111], 8217), ([108, 100, 113, 117, 111], 8220), ([114, 100, 113, 117, 111], 8221), ([98, 117, 108, 108], 8226), ([101, 117, 114, 111], 8364), ([116, 114, 97, 100, 101], 8482), ([108, 97, 114, 114], 8592), ([114, 97, 114, 114], 8594), ([122, 119, 106], 8205), ([122, 119, 110, 106], 8204), ([110, 111, 116, 105, 110], 8713), ([110, 101], 8800)]
/-- As the document has them: with a semicolon where it must be there. -/
def tabR : Tab := [([97, 109, 112], 38), ([65, 77, 80], 38), ([108, 116], 60), ([76, 84], 60), ([103, 116], 62), ([71, 84], 62), ([113, 117, 111, 116], 34), ([81, 85, 79, 84], 34), ([110, 98, 115, 112], 160), ([99, 111, 112, 121], 169), ([114, 101, 103], 174), ([115, 104, 121], 173), ([112, 97, 114, 97], 182), ([115, 101, 99, 116], 167), ([116, 105, 109, 101, 115], 215), ([100, 105, 118, 105, 100, 101], 247), ([109, 105, 99, 114, 111], 181), ([109, 105, 100, 100, 111, 116], 183), ([110, 111, 116], 172), ([100, 101, 103], 176), ([121, 101, 110], 165), ([99, 101, 110, 116], 162), ([112, 111, 117, 110, 100], 163), ([108, 97, 113, 117, 111], 171), ([114, 97, 113, 117, 111], 187), ([97, 112, 111, 115, 59], 39), ([99, 111, 108, 111, 110, 59], 58), ([84, 97, 98, 59], 9), ([78, 101, 119, 76, 105, 110, 101, 59], 10), ([108, 112, 97, 114, 59], 40), ([114, 112, 97, 114, 59], 41), ([115, 111, 108, 59], 47), ([110, 117, 109, 59], 35), ([115, 101, 109, 105, 59], 59), ([101, 113, 117, 97, 108, 115, 59], 61), ([101, 120, 99, 108, 59], 33), ([99, 111, 109, 109, 97, 116, 59], 64), ([113, 117, 101, 115, 116, 59], 63), ([99, 111, 109, 109, 97, 59], 44), ([112, 101, 114, 105, 111, 100, 59], 46), ([108, 98, 114, 97, 99, 101, 59], 123), ([114, 98, 114, 97, 99, 101, 59], 125), ([108, 115, 113, 98, 59], 91), ([114, 115, 113, 98, 59], 93), ([103, 114, 97, 118, 101, 59], 96), ([104, 101, 108, 108, 105, 112, 59], 8230), ([109, 100, 97, 115, 104, 59], 8212), ([110, 100, 97, 115, 104, 59], 8211), ([108, 115, 113, 117, 111, 59], 8216), ([114, 115, 113, 117, 111, 59], 8217), ([108, 100, 113, 117, 111, 59], 8220), ([114, 100, 113, 117, 111, 59], 8221), ([98, 117, 108, 108, 59], 8226), ([101, 117, 114, 111, 59], 8364), ([116, 114, 97, 100, 101, 59], 8482), ([108, 97, 114, 114, 59], 8592), ([114, 97, 114, 114, 59], 8594), ([122, 119, 106, 59], 8205), ([122, 119, 110, 106, 59], 8204), ([110, 111, 116, 105, 110, 59], 8713), ([110, 101, 59], 8800)]
def lk : Tab → List UInt8 → Int
  | [], _ => 0
  | (k, v) :: r, l => if (l == k) = true then v else lk r l
def mt (x l : List UInt8) : Bool := l == x || (x.getLast? != some 59 && l == x ++ [59])
def nmG : Tab → List UInt8 → Int
  | [], _ => 0
  | (k, v) :: r, l => if mt k l = true then v else nmG r l
def nm (l : List UInt8) : Int := nmG tabR l

theorem lk_app : ∀ (a b : Tab) (l : List UInt8), (∀ e ∈ a, e.2 ≠ 0) → lk (a ++ b) l = if lk a l = 0 then lk b l else lk a l
  | [], b, l, _ => by simp [lk]
  | (k, v) :: a, b, l, h => by
    have hv : v ≠ 0 := h (k, v) (by simp)
    have ih := lk_app a b l (fun e he => h e (by simp [he]))
    by_cases hk : (l == k) = true
    · have h1 : lk ((k, v) :: a ++ b) l = v := if_pos hk
      have h2 : lk ((k, v) :: a) l = v := if_pos hk
      rw [h1, h2, if_neg hv]
    · have h1 : lk ((k, v) :: a ++ b) l = lk (a ++ b) l := if_neg hk
      have h2 : lk ((k, v) :: a) l = lk a l := if_neg hk
      rw [h1, h2, ih]
theorem nmG_app : ∀ (a b : Tab) (l : List UInt8), (∀ e ∈ a, e.2 ≠ 0) → nmG (a ++ b) l = if nmG a l = 0 then nmG b l else nmG a l
  | [], b, l, _ => by simp [nmG]
  | (k, v) :: a, b, l, h => by
    have hv : v ≠ 0 := h (k, v) (by simp)
    have ih := nmG_app a b l (fun e he => h e (by simp [he]))
    by_cases hk : mt k l = true
    · have h1 : nmG ((k, v) :: a ++ b) l = v := if_pos hk
      have h2 : nmG ((k, v) :: a) l = v := if_pos hk
      rw [h1, h2, if_neg hv]
    · have h1 : nmG ((k, v) :: a ++ b) l = nmG (a ++ b) l := if_neg hk
      have h2 : nmG ((k, v) :: a) l = nmG a l := if_neg hk
      rw [h1, h2, ih]
def shut (t : Tab) : Tab := t.map fun e => (e.1 ++ [59], e.2)
theorem last_59 (b : List UInt8) : (b ++ [59]).getLast? = some 59 := by simp
theorem mt_shut_open (x b : List UInt8) (hx : x.getLast? ≠ some 59) : mt x (b ++ [59]) = (b == x) := by
  unfold mt
  have h1 : ((b ++ [59]) == x) = false := by
    rw [beq_eq_false_iff_ne]; intro e; apply hx; rw [← e]; exact last_59 b
  have h2 : (x.getLast? != some 59) = true := by simpa using hx
  rw [h1, h2, Bool.false_or, Bool.true_and, Bool.eq_iff_iff]
  simp
theorem mt_shut_shut (y b : List UInt8) : mt (y ++ [59]) (b ++ [59]) = (b == y) := by
  unfold mt
  rw [last_59, Bool.eq_iff_iff]; simp
theorem mt_open_open (x l : List UInt8) (hl : l.getLast? ≠ some 59) : mt x l = (l == x) := by
  unfold mt
  have h1 : (l == x ++ [59]) = false := by
    rw [beq_eq_false_iff_ne]; intro e; apply hl; rw [e]; exact last_59 x
  rw [h1, Bool.and_false, Bool.or_false]
theorem mt_open_shut (y l : List UInt8) (hl : l.getLast? ≠ some 59) : mt (y ++ [59]) l = false := by
  unfold mt
  have h1 : (l == y ++ [59]) = false := by
    rw [beq_eq_false_iff_ne]; intro e; apply hl; rw [e]; exact last_59 y
  rw [h1, last_59]; rfl
theorem nmG_shut_open : ∀ (t : Tab) (b : List UInt8), (∀ e ∈ t, e.1.getLast? ≠ some 59) → nmG t (b ++ [59]) = lk t b
  | [], _, _ => rfl
  | (k, v) :: r, b, h => by
    unfold nmG lk
    rw [mt_shut_open k b (h (k, v) (by simp)), nmG_shut_open r b (fun e he => h e (by simp [he]))]
theorem nmG_shut_shut : ∀ (t : Tab) (b : List UInt8), nmG (shut t) (b ++ [59]) = lk t b
  | [], _ => rfl
  | (k, v) :: r, b => by
    show nmG ((k ++ [59], v) :: shut r) (b ++ [59]) = _
    unfold nmG lk
    rw [mt_shut_shut, nmG_shut_shut r b]
theorem nmG_open_open : ∀ (t : Tab) (l : List UInt8), l.getLast? ≠ some 59 → nmG t l = lk t l
  | [], _, _ => rfl
  | (k, v) :: r, l, h => by
    unfold nmG lk
    rw [mt_open_open k l h, nmG_open_open r l h]
theorem nmG_open_shut : ∀ (t : Tab) (l : List UInt8), l.getLast? ≠ some 59 → nmG (shut t) l = 0
  | [], _, _ => rfl
  | (k, v) :: r, l, h => by
    show nmG ((k ++ [59], v) :: shut r) l = _
    unfold nmG
    rw [mt_open_shut k l h, nmG_open_shut r l h]; rfl
theorem tabR_eq : tabR = tabL ++ shut (tabS ++ tabP) := by rfl
theorem tabL_ne : ∀ e ∈ tabL, e.2 ≠ 0 := by decide
theorem tabS_ne : ∀ e ∈ tabS, e.2 ≠ 0 := by decide
theorem tabL_open : ∀ e ∈ tabL, e.1.getLast? ≠ some 59 := by decide
/-- What a name with its semicolon is, as the program asks. -/
theorem nm_shut (b : List UInt8) : nm (b ++ [59]) = if lk tabL b = 0 then (if lk tabS b = 0 then lk tabP b else lk tabS b) else lk tabL b := by
  unfold nm
  rw [tabR_eq, nmG_app _ _ _ tabL_ne, nmG_shut_open _ _ tabL_open, nmG_shut_shut, lk_app _ _ _ tabS_ne]
theorem nm_open (l : List UInt8) (h : l.getLast? ≠ some 59) : nm l = lk tabL l := by
  unfold nm
  rw [tabR_eq, nmG_app _ _ _ tabL_ne, nmG_open_open _ _ h, nmG_open_shut _ _ h]
  split
  · rename_i e; rw [e]
  · rfl
/-- The cut of a semicolon. -/
theorem cut_yes (l : List UInt8) (h : Lib.hasSuffix l [59] = true) : l = Lib.trimSuffix l [59] ++ [59] := by
  unfold Lib.trimSuffix
  rw [if_pos h]
  obtain ⟨t, ht⟩ := List.isSuffixOf_iff_suffix.1 h
  rw [← ht]; simp
theorem cut_no (l : List UInt8) (h : Lib.hasSuffix l [59] = false) : Lib.trimSuffix l [59] = l ∧ l.getLast? ≠ some 59 := by
  refine ⟨by unfold Lib.trimSuffix; rw [if_neg (by rw [h]; exact Bool.false_ne_true)], fun e => ?_⟩
  have : Lib.hasSuffix l [59] = true := by
    apply List.isSuffixOf_iff_suffix.2
    obtain ⟨t, rfl⟩ := List.getLast?_eq_some_iff.1 e
    exact ⟨t, rfl⟩
  rw [h] at this; cases this
theorem mt_len (x l : List UInt8) (h : mt x l = true) (h8 : x.length ≤ 8) (h7 : x.getLast? ≠ some 59 → x.length ≤ 7) : l.length ≤ 8 := by
  unfold mt at h
  rw [Bool.or_eq_true, Bool.and_eq_true] at h
  rcases h with h | ⟨h1, h2⟩
  · rw [beq_iff_eq] at h; rw [h]; exact h8
  · rw [beq_iff_eq] at h2; rw [h2, List.length_append]
    have := h7 (by simpa using h1)
    simp; omega
theorem nmG_long : ∀ (t : Tab) (l : List UInt8), (∀ e ∈ t, e.1.length ≤ 8 ∧ (e.1.getLast? ≠ some 59 → e.1.length ≤ 7)) → 8 < l.length → nmG t l = 0
  | [], _, _, _ => rfl
  | (k, v) :: r, l, h, hl => by
    unfold nmG
    have h1 := h (k, v) (by simp)
    rw [if_neg (fun e => by have := mt_len k l e h1.1 h1.2; omega), nmG_long r l (fun e he => h e (by simp [he])) hl]
theorem tabR_short : ∀ e ∈ tabR, e.1.length ≤ 8 ∧ (e.1.getLast? ≠ some 59 → e.1.length ≤ 7) := by decide
theorem nm_long (l : List UInt8) (h : 8 < l.length) : nm l = 0 := nmG_long _ _ tabR_short h
theorem nmG_bd : ∀ (t : Tab) (l : List UInt8), (∀ e ∈ t, 0 ≤ e.2 ∧ e.2 ≤ 8800) → 0 ≤ nmG t l ∧ nmG t l ≤ 8800
  | [], _, _ => ⟨Int.le_refl 0, by show (0 : Int) ≤ 8800; decide⟩
  | (k, v) :: r, l, h => by
    unfold nmG
    split
    · exact h (k, v) (by simp)
    · exact nmG_bd r l (fun e he => h e (by simp [he]))
theorem nm_bd (l : List UInt8) : 0 ≤ nm l ∧ nm l ≤ 8800 := nmG_bd _ _ (by decide)

/-! ### characters -/
def chB (n : Int) : Bool := decide ((0 ≤ n ∧ n < 55296) ∨ (57343 < n ∧ n ≤ 1114111))
def encS (n : Int) : ByteArray := if chB n then Utf8.encode n else ⟨#[239, 191, 189]⟩
theorem encS_size (n : Int) : (encS n).size ≤ 4 := by
  unfold encS
  split
  · unfold Utf8.encode
    dsimp only
    repeat' split
    all_goals simp [ByteArray.size]
  · decide
def stands : List Int := [8364, 129, 8218, 402, 8222, 8230, 8224, 8225, 710, 8240, 352, 8249, 338, 141, 381, 143, 144, 8216, 8217, 8220, 8221, 8226, 8211, 8212, 732, 8482, 353, 8250, 339, 157, 382, 376]
def fromT : List Int := [128, 130, 131, 132, 133, 134, 135, 136, 137, 138, 139, 140, 142, 145, 146, 147, 148, 149, 150, 151, 152, 153, 154, 155, 156, 158, 159]
def toT : List Int := [8364, 8218, 402, 8222, 8230, 8224, 8225, 710, 8240, 352, 8249, 338, 381, 8216, 8217, 8220, 8221, 8226, 8211, 8212, 732, 8482, 353, 8250, 339, 382, 376]
/-- The number of the character that a reference tells. -/
def numI (n : Int) : Int := if n = 0 then 65533 else if 128 ≤ n ∧ n < 160 then stands.getD (n - 128).toNat 0 else n
def numS (n : Int) : ByteArray := encS (numI n)
theorem enc_beyond : encS 1114112 = encS 65533 := by
  have e0 : Utf8.encode 65533 = ⟨#[239, 191, 189]⟩ := by decide
  unfold encS chB
  rw [decide_eq_false (by omega), decide_eq_true (by omega)]
  simp [e0]
theorem numI_hit : ∀ k, k < 27 → numI (fromT.getD k 0) = toT.getD k 0 := by decide
theorem numI_miss (n : Int) (h : ∀ k, k < 27 → fromT.getD k 0 ≠ n) (h0 : n ≠ 0) : numI n = n := by
  unfold numI
  rw [if_neg h0]
  split
  · rename_i hr
    have key : ∀ j : Nat, j < 32 → (∀ k, k < 27 → fromT.getD k 0 ≠ (128 + j : Int)) → stands.getD j 0 = 128 + j := by decide
    have := key (n - 128).toNat (by omega) (by
      have e : (128 + ((n - 128).toNat : Nat) : Int) = n := by omega
      rw [e]; exact h)
    rw [this]; omega
  · rfl
theorem stands_bd : ∀ j, j < 32 → 0 ≤ stands.getD j 0 ∧ stands.getD j 0 ≤ 8482 := by decide

/-! ### numbers -/
def dg (base : Int) (c : UInt8) : Int := if hxI (c.toNat : Int) < base then hxI (c.toNat : Int) else -1
theorem dg_bd (base : Int) (c : UInt8) : -1 ≤ dg base c ∧ dg base c ≤ 15 := by
  unfold dg hxI; split <;> split <;> (try split) <;> (try split) <;> omega
def numG (base : Int) : Int → List UInt8 → Int × Nat
  | n, [] => (n, 0)
  | n, c :: l => if dg base c < 0 then (n, 0) else ((numG base (min (n * base + dg base c) 1114112) l).1, (numG base (min (n * base + dg base c) 1114112) l).2 + 1)
theorem numG_len (base : Int) : ∀ (l : List UInt8) (n : Int), (numG base n l).2 ≤ l.length
  | [], _ => Nat.le_refl _
  | c :: l, n => by
    unfold numG; split
    · exact Nat.zero_le _
    · have := numG_len base l (min (n * base + dg base c) 1114112)
      simp only [List.length_cons]; omega
theorem numG_no (base n : Int) (c : UInt8) (l : List UInt8) (h : dg base c < 0) : numG base n (c :: l) = (n, 0) := by unfold numG; rw [if_pos h]
theorem numG_yes (base n : Int) (c : UInt8) (l : List UInt8) (h : ¬ dg base c < 0) : numG base n (c :: l) = ((numG base (min (n * base + dg base c) 1114112) l).1, (numG base (min (n * base + dg base c) 1114112) l).2 + 1) := by
  conv => lhs; unfold numG
  rw [if_neg h]
/-- The text of a reference, and how many bytes it takes. -/
abbrev Ref := ByteArray × Nat
def noRef : Ref := (ByteArray.empty, 0)
def rdNumB (base : Int) (f : Nat) (l : List UInt8) : Ref :=
  let r := numG base 0 (l.drop f)
  if r.2 = 0 then noRef else (numS r.1, f + r.2 + (if l[f + r.2]? = some 59 then 1 else 0))
def rdNum (l : List UInt8) : Ref := if l[2]? = some 120 ∨ l[2]? = some 88 then rdNumB 16 3 l else rdNumB 10 2 l

/-! ### names in a text -/
def goes : List UInt8 → Bool
  | [] => false
  | c :: _ => c == 61 || leI (c.toNat : Int) || decide ((0 : Int) ≤ dg 10 c)
def rdN (l : List UInt8) (value : Bool) : Nat → Ref
  | 0 => noRef
  | 1 => noRef
  | e + 2 => if nm ((l.take (e + 2)).drop 1) = 0 then rdN l value (e + 1)
    else if value = true ∧ l[e + 1]? ≠ some 59 ∧ goes (l.drop (e + 2)) = true then noRef
    else (encS (nm ((l.take (e + 2)).drop 1)), e + 2)
theorem rdN_skip (l : List UInt8) (value : Bool) : ∀ k, 9 + k ≤ l.length → rdN l value (9 + k) = rdN l value 9
  | 0, _ => rfl
  | k + 1, h => by
    have ih := rdN_skip l value k (by omega)
    rw [show 9 + (k + 1) = (7 + k + 1) + 2 by omega]
    conv => lhs; unfold rdN
    rw [if_pos (nm_long _ (by rw [List.length_drop, List.length_take]; omega)), ← ih]
    congr 1; omega
/-- Names are short: it does not matter whether one looks for longer ones. -/
theorem rdN_min (l : List UInt8) (value : Bool) : rdN l value (min l.length 13) = rdN l value (min l.length 9) := by
  by_cases h : l.length ≤ 9
  · congr 1; omega
  · have := rdN_skip l value (min l.length 13 - 9) (by omega)
    rw [show 9 + (min l.length 13 - 9) = min l.length 13 by omega] at this
    rw [this]; congr 1; omega
def rd (l : List UInt8) (value : Bool) : Ref :=
  if l[0]? = some 38 then (if l[1]? = some 35 then rdNum l else rdN l value (min l.length 9)) else noRef

/-! ### how long: four bytes of text at most for each reference, which takes two bytes or more -/
def okR (r : Ref) (n : Nat) : Prop := (r.2 = 0 ∧ r.1 = ByteArray.empty) ∨ (2 ≤ r.2 ∧ r.2 ≤ n ∧ r.1.size ≤ 4)
theorem okR_num (base : Int) (f : Nat) (hf : 2 ≤ f) (l : List UInt8) : okR (rdNumB base f l) l.length := by
  unfold rdNumB okR
  have h := numG_len base (l.drop f) 0
  rw [List.length_drop] at h
  by_cases h0 : (numG base 0 (l.drop f)).2 = 0
  · left; simp only [h0, if_true]; exact ⟨rfl, rfl⟩
  · right
    simp only [h0, if_false]
    refine ⟨by omega, ?_, encS_size _⟩
    split
    · rename_i e
      have := (List.getElem?_eq_some_iff.1 e).1
      omega
    · omega
theorem okR_name (l : List UInt8) (value : Bool) : ∀ e, e ≤ l.length → okR (rdN l value e) l.length
  | 0, _ => .inl ⟨rfl, rfl⟩
  | 1, _ => .inl ⟨rfl, rfl⟩
  | e + 2, h => by
    unfold rdN
    split
    · exact okR_name l value (e + 1) (by omega)
    · split
      · exact .inl ⟨rfl, rfl⟩
      · exact .inr ⟨by simp, h, encS_size _⟩
theorem okR_rd (l : List UInt8) (value : Bool) : okR (rd l value) l.length := by
  unfold rd
  split
  · split
    · unfold rdNum; split
      · exact okR_num _ _ (by omega) _
      · exact okR_num _ _ (by omega) _
    · exact okR_name _ _ _ (by omega)
  · exact .inl ⟨rfl, rfl⟩

/-! ### a whole text -/
def decG (value : Bool) : Nat → List UInt8 → List UInt8
  | 0, _ => []
  | _ + 1, [] => []
  | k + 1, c :: l => if (rd (c :: l) value).2 = 0 then c :: decG value k l else (rd (c :: l) value).1.data.toList ++ decG value k ((c :: l).drop (rd (c :: l) value).2)
theorem decG_more (value : Bool) : ∀ (k : Nat) (l : List UInt8), l.length ≤ k → decG value (k + 1) l = decG value k l
  | 0, [], _ => rfl
  | 0, c :: l, h => by simp at h
  | k + 1, [], _ => rfl
  | k + 1, c :: l, h => by
    simp only [List.length_cons] at h
    conv => lhs; unfold decG
    conv => rhs; unfold decG
    have hr := okR_rd (c :: l) value
    split
    · rw [decG_more value k l (by omega)]
    · rename_i hn
      rw [decG_more value k ((c :: l).drop (rd (c :: l) value).2) (by rw [List.length_drop, List.length_cons]; omega)]
theorem decG_fuel (value : Bool) (l : List UInt8) : ∀ d, decG value (l.length + d) l = decG value l.length l
  | 0 => rfl
  | d + 1 => by rw [show l.length + (d + 1) = (l.length + d) + 1 by omega, decG_more value _ l (by omega), decG_fuel value l d]
def dec (value : Bool) (l : List UInt8) : List UInt8 := decG value l.length l
theorem dec_nil (value : Bool) : dec value [] = [] := rfl
theorem dec_keep (value : Bool) (c : UInt8) (l : List UInt8) (h : (rd (c :: l) value).2 = 0) : dec value (c :: l) = c :: dec value l := by
  unfold dec
  rw [List.length_cons]
  conv => lhs; unfold decG
  rw [if_pos h]
theorem dec_ref (value : Bool) (l : List UInt8) (h : (rd l value).2 ≠ 0) : dec value l = (rd l value).1.data.toList ++ dec value (l.drop (rd l value).2) := by
  have hr := okR_rd l value
  cases l with
  | nil => exact absurd rfl h
  | cons c l =>
    unfold dec
    have h2 : 2 ≤ (rd (c :: l) value).2 ∧ (rd (c :: l) value).2 ≤ (c :: l).length := by
      rcases hr with ⟨h0, _⟩ | ⟨h1, h2, _⟩
      · exact absurd h0 h
      · exact ⟨h1, h2⟩
    rw [List.length_cons]
    conv => lhs; unfold decG
    rw [if_neg h]
    congr 1
    have e : l.length = ((c :: l).drop (rd (c :: l) value).2).length + (l.length - ((c :: l).drop (rd (c :: l) value).2).length) := by
      rw [List.length_drop, List.length_cons]; omega
    conv => lhs; rw [e]
    exact decG_fuel value _ _
theorem rd_other (c : UInt8) (l : List UInt8) (value : Bool) (h : c ≠ 38) : (rd (c :: l) value).2 = 0 := by
  unfold rd
  rw [if_neg (by simpa using h)]; rfl
/-- What has no & in it stays as it is, whatever stands behind it. -/
theorem dec_plain (value : Bool) : ∀ (p t : List UInt8), (∀ c ∈ p, c ≠ 38) → dec value (p ++ t) = p ++ dec value t
  | [], _, _ => rfl
  | c :: p, t, h => by
    rw [List.cons_append, dec_keep value c (p ++ t) (rd_other c _ value (h c (by simp))), dec_plain value p t (fun d hd => h d (by simp [hd]))]; rfl
theorem dec_same (value : Bool) (p : List UInt8) (h : ∀ c ∈ p, c ≠ 38) : dec value p = p := by
  have := dec_plain value p [] h
  simpa [dec_nil] using this
theorem decG_len (value : Bool) : ∀ (k : Nat) (l : List UInt8), (decG value k l).length ≤ 4 * l.length
  | 0, _ => by simp [decG]
  | k + 1, [] => by simp [decG]
  | k + 1, c :: l => by
    unfold decG
    have hr := okR_rd (c :: l) value
    split
    · have := decG_len value k l; simp only [List.length_cons]; omega
    · rename_i hn
      have := decG_len value k ((c :: l).drop (rd (c :: l) value).2)
      rw [List.length_append, size_list]
      rw [List.length_drop] at this
      rcases hr with ⟨h0, _⟩ | ⟨h1, h2, h3⟩
      · exact absurd h0 hn
      · omega
theorem dec_len (value : Bool) (l : List UInt8) : (dec value l).length ≤ 4 * l.length := decG_len value _ l
end Go.Proofs.Ytdljjfeojccidaa.C
