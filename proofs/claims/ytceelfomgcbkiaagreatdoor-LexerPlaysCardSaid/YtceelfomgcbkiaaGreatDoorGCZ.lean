/-
  Several texts in one: CPlain CLeaf CNamed CRnamed CRnamed2 CNums CNumber CRnumber CName CRead CRread CDecode CRdecode.
-/
import Derived.WalkKit
import Derived.Lib.Strings
import Derived.Lib.IndexLaws
import Derived.Test.YtceelfomgcbkiaaGreatDoorRows
import Derived.Test.YtceelfomgcbkiaaGreatDoorShelf2Z
import Derived.IntWalk
import Derived.LoopTactic
import Derived.WalkSpells
import Derived.WalkSmall
import Derived.Lib.Hide
import Derived.Deep.QuietTactic
import Derived.BigQuiet
import Derived.Laws.Rows
/-
  Plain functions on lists of bytes for layer 4 (charref): names, numbers, references, texts with references replaced. No program stands here.
-/
namespace Go.Proofs.YtceelfomgcbkiaaGreatDoor.C
open Go.RowKit

/-! ### bytes -/
def leI (n : Int) : Bool := decide ((65 ≤ n ∧ n ≤ 90) ∨ (97 ≤ n ∧ n ≤ 122))
def hxI (n : Int) : Int := if 48 ≤ n ∧ n ≤ 57 then n - 48 else if 97 ≤ n ∧ n ≤ 102 then n - 87 else if 65 ≤ n ∧ n ≤ 70 then n - 55 else -1
def smI (n : Int) : Int := if 65 ≤ n ∧ n ≤ 90 then n + 32 else n
def mkB (l : List UInt8) : ByteArray := ⟨l.toArray⟩
theorem mkB_list (l : List UInt8) : (mkB l).data.toList = l := by simp [mkB]
theorem mkB_of (s : ByteArray) : mkB s.data.toList = s := by cases s; simp [mkB]
theorem mkB_size (l : List UInt8) : (mkB l).size = l.length := by show l.toArray.size = _; simp
theorem size_list (s : ByteArray) : s.data.toList.length = s.size := by simp
theorem eq_of_list {a b : ByteArray} (h : a.data.toList = b.data.toList) : a = b := by rw [← mkB_of a, h, mkB_of b]
theorem ext_list (s : ByteArray) (i j : Nat) : (s.extract i j).data.toList = (s.data.toList.take j).drop i := by
  rw [ByteArray.data_extract, Array.toList_extract, List.extract_eq_take_drop, List.drop_take]
theorem ext_tail (s : ByteArray) (i : Nat) : (s.extract i s.size).data.toList = s.data.toList.drop i := by
  rw [ext_list, ← size_list, List.take_length]
theorem drop_at (s : ByteArray) (k : Nat) (h : k < s.size) : s.data.toList.drop k = s[k] :: s.data.toList.drop (k + 1) := by
  rw [List.drop_eq_getElem_cons (by simpa using h)]; rfl
theorem get_at (s : ByteArray) (k : Nat) (h : k < s.size) : s.data.toList[k]? = some s[k] := by
  rw [List.getElem?_eq_getElem (by simpa using h)]; rfl

/-! ### names -/
abbrev Tab := List (List UInt8 × Int)
def tabL : Tab := [([97, 109, 112], 38), ([65, 77, 80], 38), ([108, 116], 60), ([76, 84], 60), ([103, 116], 62), ([71, 84], 62), ([113, 117, 111, 116], 34), ([81, 85, 79, 84], 34), ([110, 98, 115, 112], 160), ([99, 111, 112, 121], 169), ([114, 101, 103], 174), ([115, 104, 121], 173), ([112, 97, 114, 97], 182), ([115, 101, 99, 116], 167), ([116, 105, 109, 101, 115], 215), ([100, 105, 118, 105, 100, 101], 247), ([109, 105, 99, 114, 111], 181), ([109, 105, 100, 100, 111, 116], 183), ([110, 111, 116], 172), ([100, 101, 103], 176), ([121, 101, 110], 165), ([99, 101, 110, 116], 162), ([112, 111, 117, 110, 100], 163), ([108, 97, 113, 117, 111], 171), ([114, 97, 113, 117, 111], 187)]
def tabS : Tab := [([97, 112, 111, 115], 39), ([99, 111, 108, 111, 110], 58), ([84, 97, 98], 9), ([78, 101, 119, 76, 105, 110, 101], 10), ([108, 112, 97, 114], 40), ([114, 112, 97, 114], 41), ([115, 111, 108], 47), ([110, 117, 109], 35), ([115, 101, 109, 105], 59), ([101, 113, 117, 97, 108, 115], 61), ([101, 120, 99, 108], 33), ([99, 111, 109, 109, 97, 116], 64), ([113, 117, 101, 115, 116], 63), ([99, 111, 109, 109, 97], 44), ([112, 101, 114, 105, 111, 100], 46), ([108, 98, 114, 97, 99, 101], 123), ([114, 98, 114, 97, 99, 101], 125), ([108, 115, 113, 98], 91), ([114, 115, 113, 98], 93), ([103, 114, 97, 118, 101], 96)]
def tabP : Tab := [([104, 101, 108, 108, 105, 112], 8230), ([109, 100, 97, 115, 104], 8212), ([110, 100, 97, 115, 104], 8211), ([108, 115, 113, 117, 111], 8216), ([114, 115, 113, 117, 111], 8217), ([108, 100, 113, 117, 111], 8220), ([114, 100, 113, 117, 111], 8221), ([98, 117, 108, 108], 8226), ([101, 117, 114, 111], 8364), ([116, 114, 97, 100, 101], 8482), ([108, 97, 114, 114], 8592), ([114, 97, 114, 114], 8594), ([122, 119, 106], 8205), ([122, 119, 110, 106], 8204), ([110, 111, 116, 105, 110], 8713), ([110, 101], 8800)]
/-- As the document has them: with a semicolon where it must be there. -/
def tabR : Tab := [([97, 109, 112], 38), ([65, 77, 80], 38), ([108, 116], 60), ([76, 84], 60), ([103, 116], 62), ([71, 84], 62), ([113, 117, 111, 116], 34), ([81, 85, 79, 84], 34), ([110, 98, 115, 112], 160), ([99, 111, 112, 121], 169), ([114, 101, 103], 174), ([115, 104, 121], 173), ([112, 97, 114, 97], 182), ([115, 101, 99, 116], 167), ([116, 105, 109, 101, 115], 215), ([100, 105, 118, 105, 100, 101], 247), ([109, 105, 99, 114, 111], 181), ([109, 105, 100, 100, 111, 116], 183), ([110, 111, 116], 172), ([100, 101, 103], 176), ([121, 101, 110], 165), ([99, 101, 110, 116], 162), ([112, 111, 117, 110, 100], 163), ([108, 97, 113, 117, 111], 171), ([114, 97, 113, 117, 111], 187), ([97, 112, 111, 115, 59], 39), ([99, 111, 108, 111, 110, 59], 58), ([84, 97, 98, 59], 9), ([78, 101, 119, 76, 105, 110, 101, 59], 10), ([108, 112, 97, 114, 59], 40), ([114, 112, 97, 114, 59], 41), ([115, 111, 108, 59], 47), ([110, 117, 109, 59], 35), ([115, 101, 109, 105, 59], 59), ([101, 113, 117, 97, 108, 115, 59], 61), ([101, 120, 99, 108, 59], 33), ([99, 111, 109, 109, 97, 116, 59], 64), ([113, 117, 101, 115, 116, 59], 63), ([99, 111, 109, 109, 97, 59], 44), ([112, 101, 114, 105, 111, 100, 59], 46), ([108, 98, 114, 97, 99, 101, 59], 123), ([114, 98, 114, 97, 99, 101, 59], 125), ([108, 115, 113, 98, 59], 91), ([114, 115, 113, 98, 59], 93), ([103, 114, 97, 118, 101, 59], 96), ([104, 101, 108, 108, 105, 112, 59], 8230), ([109, 100, 97, 115, 104, 59], 8212), ([110, 100, 97, 115, 104, 59], 8211), ([108, 115, 113, 117, 111, 59], 8216), ([114, 115, 113, 117, 111, 59], 8217), ([108, 100, 113, 117, 111, 59], 8220), ([114, 100, 113, 117, 111, 59], 8221), ([98, 117, 108, 108, 59], 8226), ([101, 117, 114, 111, 59], 8364), ([116, 114, 97, 100, 101, 59], 8482), ([108, 97, 114, 114, 59], 8592), ([114, 97, 114, 114, 59], 8594), ([122, 119, 106, 59], 8205), ([122, 119, 110, 106, 59], 8204), ([110, 111, 116, 105, 110, 59], 8713), ([110, 101, 59], 8800)]
def lk : Tab → List UInt8 → Int
  | [], _ => 0
  | (k, v) :: r, l => if (l == k) = true then v else lk r l
def mt (x l : List UInt8) : Bool := l == x || (x.getLast? != some 59 && l == x ++ [59])
def nmG : Tab → List UInt8 → Int
  | [], _ => 0
  | (k, v) :: r, l => if mt k l = true then v else nmG r l
def nm (l : List UInt8) : Int := nmG tabR l

theorem lk_app : ∀ (a b : Tab) (l : List UInt8), (∀ e ∈ a, e.2 ≠ 0) → lk (a ++ b) l = if lk a l = 0 then lk b l else lk a l
  | [], b, l, _ => by simp [lk]
  | (k, v) :: a, b, l, h => by
    have hv : v ≠ 0 := h (k, v) (by simp)
    have ih := lk_app a b l (fun e he => h e (by simp [he]))
    by_cases hk : (l == k) = true
    · have h1 : lk ((k, v) :: a ++ b) l = v := if_pos hk
      have h2 : lk ((k, v) :: a) l = v := if_pos hk
      rw [h1, h2, if_neg hv]
    · have h1 : lk ((k, v) :: a ++ b) l = lk (a ++ b) l := if_neg hk
      have h2 : lk ((k, v) :: a) l = lk a l := if_neg hk
      rw [h1, h2, ih]
theorem nmG_app : ∀ (a b : Tab) (l : List UInt8), (∀ e ∈ a, e.2 ≠ 0) → nmG (a ++ b) l = if nmG a l = 0 then nmG b l else nmG a l
  | [], b, l, _ => by simp [nmG]
  | (k, v) :: a, b, l, h => by
    have hv : v ≠ 0 := h (k, v) (by simp)
    have ih := nmG_app a b l (fun e he => h e (by simp [he]))
    by_cases hk : mt k l = true
    · have h1 : nmG ((k, v) :: a ++ b) l = v := if_pos hk
      have h2 : nmG ((k, v) :: a) l = v := if_pos hk
      rw [h1, h2, if_neg hv]
    · have h1 : nmG ((k, v) :: a ++ b) l = nmG (a ++ b) l := if_neg hk
      have h2 : nmG ((k, v) :: a) l = nmG a l := if_neg hk
      rw [h1, h2, ih]
def shut (t : Tab) : Tab := t.map fun e => (e.1 ++ [59], e.2)
theorem last_59 (b : List UInt8) : (b ++ [59]).getLast? = some 59 := by simp
theorem mt_shut_open (x b : List UInt8) (hx : x.getLast? ≠ some 59) : mt x (b ++ [59]) = (b == x) := by
  unfold mt
  have h1 : ((b ++ [59]) == x) = false := by
    rw [beq_eq_false_iff_ne]; intro e; apply hx; rw [← e]; exact last_59 b
  have h2 : (x.getLast? != some 59) = true := by simpa using hx
  rw [h1, h2, Bool.false_or, Bool.true_and, Bool.eq_iff_iff]
  simp
theorem mt_shut_shut (y b : List UInt8) : mt (y ++ [59]) (b ++ [59]) = (b == y) := by
  unfold mt
  rw [last_59, Bool.eq_iff_iff]; simp
theorem mt_open_open (x l : List UInt8) (hl : l.getLast? ≠ some 59) : mt x l = (l == x) := by
  unfold mt
  have h1 : (l == x ++ [59]) = false := by
    rw [beq_eq_false_iff_ne]; intro e; apply hl; rw [e]; exact last_59 x
  rw [h1, Bool.and_false, Bool.or_false]
theorem mt_open_shut (y l : List UInt8) (hl : l.getLast? ≠ some 59) : mt (y ++ [59]) l = false := by
  unfold mt
  have h1 : (l == y ++ [59]) = false := by
    rw [beq_eq_false_iff_ne]; intro e; apply hl; rw [e]; exact last_59 y
  rw [h1, last_59]; rfl
theorem nmG_shut_open : ∀ (t : Tab) (b : List UInt8), (∀ e ∈ t, e.1.getLast? ≠ some 59) → nmG t (b ++ [59]) = lk t b
  | [], _, _ => rfl
  | (k, v) :: r, b, h => by
    unfold nmG lk
    rw [mt_shut_open k b (h (k, v) (by simp)), nmG_shut_open r b (fun e he => h e (by simp [he]))]
theorem nmG_shut_shut : ∀ (t : Tab) (b : List UInt8), nmG (shut t) (b ++ [59]) = lk t b
  | [], _ => rfl
  | (k, v) :: r, b => by
    show nmG ((k ++ [59], v) :: shut r) (b ++ [59]) = _
    unfold nmG lk
    rw [mt_shut_shut, nmG_shut_shut r b]
theorem nmG_open_open : ∀ (t : Tab) (l : List UInt8), l.getLast? ≠ some 59 → nmG t l = lk t l
  | [], _, _ => rfl
  | (k, v) :: r, l, h => by
    unfold nmG lk
    rw [mt_open_open k l h, nmG_open_open r l h]
theorem nmG_open_shut : ∀ (t : Tab) (l : List UInt8), l.getLast? ≠ some 59 → nmG (shut t) l = 0
  | [], _, _ => rfl
  | (k, v) :: r, l, h => by
    show nmG ((k ++ [59], v) :: shut r) l = _
    unfold nmG
    rw [mt_open_shut k l h, nmG_open_shut r l h]; rfl
theorem tabR_eq : tabR = tabL ++ shut (tabS ++ tabP) := by rfl
theorem tabL_ne : ∀ e ∈ tabL, e.2 ≠ 0 := by decide
theorem tabS_ne : ∀ e ∈ tabS, e.2 ≠ 0 := by decide
theorem tabL_open : ∀ e ∈ tabL, e.1.getLast? ≠ some 59 := by decide
/-- What a name with its semicolon is, as the program asks. -/
theorem nm_shut (b : List UInt8) : nm (b ++ [59]) = if lk tabL b = 0 then (if lk tabS b = 0 then lk tabP b else lk tabS b) else lk tabL b := by
  unfold nm
  rw [tabR_eq, nmG_app _ _ _ tabL_ne, nmG_shut_open _ _ tabL_open, nmG_shut_shut, lk_app _ _ _ tabS_ne]
theorem nm_open (l : List UInt8) (h : l.getLast? ≠ some 59) : nm l = lk tabL l := by
  unfold nm
  rw [tabR_eq, nmG_app _ _ _ tabL_ne, nmG_open_open _ _ h, nmG_open_shut _ _ h]
  split
  · rename_i e; rw [e]
  · rfl
/-- The cut of a semicolon. -/
theorem cut_yes (l : List UInt8) (h : Lib.hasSuffix l [59] = true) : l = Lib.trimSuffix l [59] ++ [59] := by
  unfold Lib.trimSuffix
  rw [if_pos h]
  obtain ⟨t, ht⟩ := List.isSuffixOf_iff_suffix.1 h
  rw [← ht]; simp
theorem cut_no (l : List UInt8) (h : Lib.hasSuffix l [59] = false) : Lib.trimSuffix l [59] = l ∧ l.getLast? ≠ some 59 := by
  refine ⟨by unfold Lib.trimSuffix; rw [if_neg (by rw [h]; exact Bool.false_ne_true)], fun e => ?_⟩
  have : Lib.hasSuffix l [59] = true := by
    apply List.isSuffixOf_iff_suffix.2
    obtain ⟨t, rfl⟩ := List.getLast?_eq_some_iff.1 e
    exact ⟨t, rfl⟩
  rw [h] at this; cases this
theorem mt_len (x l : List UInt8) (h : mt x l = true) (h8 : x.length ≤ 8) (h7 : x.getLast? ≠ some 59 → x.length ≤ 7) : l.length ≤ 8 := by
  unfold mt at h
  rw [Bool.or_eq_true, Bool.and_eq_true] at h
  rcases h with h | ⟨h1, h2⟩
  · rw [beq_iff_eq] at h; rw [h]; exact h8
  · rw [beq_iff_eq] at h2; rw [h2, List.length_append]
    have := h7 (by simpa using h1)
    simp; omega
theorem nmG_long : ∀ (t : Tab) (l : List UInt8), (∀ e ∈ t, e.1.length ≤ 8 ∧ (e.1.getLast? ≠ some 59 → e.1.length ≤ 7)) → 8 < l.length → nmG t l = 0
  | [], _, _, _ => rfl
  | (k, v) :: r, l, h, hl => by
    unfold nmG
    have h1 := h (k, v) (by simp)
    rw [if_neg (fun e => by have := mt_len k l e h1.1 h1.2; omega), nmG_long r l (fun e he => h e (by simp [he])) hl]
theorem tabR_short : ∀ e ∈ tabR, e.1.length ≤ 8 ∧ (e.1.getLast? ≠ some 59 → e.1.length ≤ 7) := by decide
theorem nm_long (l : List UInt8) (h : 8 < l.length) : nm l = 0 := nmG_long _ _ tabR_short h
theorem nmG_bd : ∀ (t : Tab) (l : List UInt8), (∀ e ∈ t, 0 ≤ e.2 ∧ e.2 ≤ 8800) → 0 ≤ nmG t l ∧ nmG t l ≤ 8800
  | [], _, _ => ⟨Int.le_refl 0, by show (0 : Int) ≤ 8800; decide⟩
  | (k, v) :: r, l, h => by
    unfold nmG
    split
    · exact h (k, v) (by simp)
    · exact nmG_bd r l (fun e he => h e (by simp [he]))
theorem nm_bd (l : List UInt8) : 0 ≤ nm l ∧ nm l ≤ 8800 := nmG_bd _ _ (by decide)

/-! ### characters -/
def chB (n : Int) : Bool := decide ((0 ≤ n ∧ n < 55296) ∨ (57343 < n ∧ n ≤ 1114111))
def encS (n : Int) : ByteArray := if chB n then Utf8.encode n else ⟨#[239, 191, 189]⟩
theorem encS_size (n : Int) : (encS n).size ≤ 4 := by
  unfold encS
  split
  · unfold Utf8.encode
    dsimp only
    repeat' split
    all_goals simp [ByteArray.size]
  · decide
def stands : List Int := [8364, 129, 8218, 402, 8222, 8230, 8224, 8225, 710, 8240, 352, 8249, 338, 141, 381, 143, 144, 8216, 8217, 8220, 8221, 8226, 8211, 8212, 732, 8482, 353, 8250, 339, 157, 382, 376]
def fromT : List Int := [128, 130, 131, 132, 133, 134, 135, 136, 137, 138, 139, 140, 142, 145, 146, 147, 148, 149, 150, 151, 152, 153, 154, 155, 156, 158, 159]
def toT : List Int := [8364, 8218, 402, 8222, 8230, 8224, 8225, 710, 8240, 352, 8249, 338, 381, 8216, 8217, 8220, 8221, 8226, 8211, 8212, 732, 8482, 353, 8250, 339, 382, 376]
/-- The number of the character that a reference tells. -/
def numI (n : Int) : Int := if n = 0 then 65533 else if 128 ≤ n ∧ n < 160 then stands.getD (n - 128).toNat 0 else n
def numS (n : Int) : ByteArray := encS (numI n)
theorem enc_beyond : encS 1114112 = encS 65533 := by
  have e0 : Utf8.encode 65533 = ⟨#[239, 191, 189]⟩ := by decide
  unfold encS chB
  rw [decide_eq_false (by omega), decide_eq_true (by omega)]
  simp [e0]
theorem numI_hit : ∀ k, k < 27 → numI (fromT.getD k 0) = toT.getD k 0 := by decide
theorem numI_miss (n : Int) (h : ∀ k, k < 27 → fromT.getD k 0 ≠ n) (h0 : n ≠ 0) : numI n = n := by
  unfold numI
  rw [if_neg h0]
  split
  · rename_i hr
    have key : ∀ j : Nat, j < 32 → (∀ k, k < 27 → fromT.getD k 0 ≠ (128 + j : Int)) → stands.getD j 0 = 128 + j := by decide
    have := key (n - 128).toNat (by omega) (by
      have e : (128 + ((n - 128).toNat : Nat) : Int) = n := by omega
      rw [e]; exact h)
    rw [this]; omega
  · rfl
theorem stands_bd : ∀ j, j < 32 → 0 ≤ stands.getD j 0 ∧ stands.getD j 0 ≤ 8482 := by decide

/-! ### numbers -/
def dg (base : Int) (c : UInt8) : Int := if hxI (c.toNat : Int) < base then hxI (c.toNat : Int) else -1
theorem dg_bd (base : Int) (c : UInt8) : -1 ≤ dg base c ∧ dg base c ≤ 15 := by
  unfold dg hxI; split <;> split <;> (try split) <;> (try split) <;> omega
def numG (base : Int) : Int → List UInt8 → Int × Nat
  | n, [] => (n, 0)
  | n, c :: l => if dg base c < 0 then (n, 0) else ((numG base (min (n * base + dg base c) 1114112) l).1, (numG base (min (n * base + dg base c) 1114112) l).2 + 1)
theorem numG_len (base : Int) : ∀ (l : List UInt8) (n : Int), (numG base n l).2 ≤ l.length
  | [], _ => Nat.le_refl _
  | c :: l, n => by
    unfold numG; split
    · exact Nat.zero_le _
    · have := numG_len base l (min (n * base + dg base c) 1114112)
      simp only [List.length_cons]; omega
theorem numG_no (base n : Int) (c : UInt8) (l : List UInt8) (h : dg base c < 0) : numG base n (c :: l) = (n, 0) := by unfold numG; rw [if_pos h]
theorem numG_yes (base n : Int) (c : UInt8) (l : List UInt8) (h : ¬ dg base c < 0) : numG base n (c :: l) = ((numG base (min (n * base + dg base c) 1114112) l).1, (numG base (min (n * base + dg base c) 1114112) l).2 + 1) := by
  conv => lhs; unfold numG
  rw [if_neg h]
/-- The text of a reference, and how many bytes it takes. -/
abbrev Ref := ByteArray × Nat
def noRef : Ref := (ByteArray.empty, 0)
def rdNumB (base : Int) (f : Nat) (l : List UInt8) : Ref :=
  let r := numG base 0 (l.drop f)
  if r.2 = 0 then noRef else (numS r.1, f + r.2 + (if l[f + r.2]? = some 59 then 1 else 0))
def rdNum (l : List UInt8) : Ref := if l[2]? = some 120 ∨ l[2]? = some 88 then rdNumB 16 3 l else rdNumB 10 2 l

/-! ### names in a text -/
def goes : List UInt8 → Bool
  | [] => false
  | c :: _ => c == 61 || leI (c.toNat : Int) || decide ((0 : Int) ≤ dg 10 c)
def rdN (l : List UInt8) (value : Bool) : Nat → Ref
  | 0 => noRef
  | 1 => noRef
  | e + 2 => if nm ((l.take (e + 2)).drop 1) = 0 then rdN l value (e + 1)
    else if value = true ∧ l[e + 1]? ≠ some 59 ∧ goes (l.drop (e + 2)) = true then noRef
    else (encS (nm ((l.take (e + 2)).drop 1)), e + 2)
theorem rdN_skip (l : List UInt8) (value : Bool) : ∀ k, 9 + k ≤ l.length → rdN l value (9 + k) = rdN l value 9
  | 0, _ => rfl
  | k + 1, h => by
    have ih := rdN_skip l value k (by omega)
    rw [show 9 + (k + 1) = (7 + k + 1) + 2 by omega]
    conv => lhs; unfold rdN
    rw [if_pos (nm_long _ (by rw [List.length_drop, List.length_take]; omega)), ← ih]
    congr 1; omega
/-- Names are short: it does not matter whether one looks for longer ones. -/
theorem rdN_min (l : List UInt8) (value : Bool) : rdN l value (min l.length 13) = rdN l value (min l.length 9) := by
  by_cases h : l.length ≤ 9
  · congr 1; omega
  · have := rdN_skip l value (min l.length 13 - 9) (by omega)
    rw [show 9 + (min l.length 13 - 9) = min l.length 13 by omega] at this
    rw [this]; congr 1; omega
def rd (l : List UInt8) (value : Bool) : Ref :=
  if l[0]? = some 38 then (if l[1]? = some 35 then rdNum l else rdN l value (min l.length 9)) else noRef

/-! ### how long: four bytes of text at most for each reference, which takes two bytes or more -/
def okR (r : Ref) (n : Nat) : Prop := (r.2 = 0 ∧ r.1 = ByteArray.empty) ∨ (2 ≤ r.2 ∧ r.2 ≤ n ∧ r.1.size ≤ 4)
theorem okR_num (base : Int) (f : Nat) (hf : 2 ≤ f) (l : List UInt8) : okR (rdNumB base f l) l.length := by
  unfold rdNumB okR
  have h := numG_len base (l.drop f) 0
  rw [List.length_drop] at h
  by_cases h0 : (numG base 0 (l.drop f)).2 = 0
  · left; simp only [h0, if_true]; exact ⟨rfl, rfl⟩
  · right
    simp only [h0, if_false]
    refine ⟨by omega, ?_, encS_size _⟩
    split
    · rename_i e
      have := (List.getElem?_eq_some_iff.1 e).1
      omega
    · omega
theorem okR_name (l : List UInt8) (value : Bool) : ∀ e, e ≤ l.length → okR (rdN l value e) l.length
  | 0, _ => .inl ⟨rfl, rfl⟩
  | 1, _ => .inl ⟨rfl, rfl⟩
  | e + 2, h => by
    unfold rdN
    split
    · exact okR_name l value (e + 1) (by omega)
    · split
      · exact .inl ⟨rfl, rfl⟩
      · exact .inr ⟨by simp, h, encS_size _⟩
theorem okR_rd (l : List UInt8) (value : Bool) : okR (rd l value) l.length := by
  unfold rd
  split
  · split
    · unfold rdNum; split
      · exact okR_num _ _ (by omega) _
      · exact okR_num _ _ (by omega) _
    · exact okR_name _ _ _ (by omega)
  · exact .inl ⟨rfl, rfl⟩

/-! ### a whole text -/
def decG (value : Bool) : Nat → List UInt8 → List UInt8
  | 0, _ => []
  | _ + 1, [] => []
  | k + 1, c :: l => if (rd (c :: l) value).2 = 0 then c :: decG value k l else (rd (c :: l) value).1.data.toList ++ decG value k ((c :: l).drop (rd (c :: l) value).2)
theorem decG_more (value : Bool) : ∀ (k : Nat) (l : List UInt8), l.length ≤ k → decG value (k + 1) l = decG value k l
  | 0, [], _ => rfl
  | 0, c :: l, h => by simp at h
  | k + 1, [], _ => rfl
  | k + 1, c :: l, h => by
    simp only [List.length_cons] at h
    conv => lhs; unfold decG
    conv => rhs; unfold decG
    have hr := okR_rd (c :: l) value
    split
    · rw [decG_more value k l (by omega)]
    · rename_i hn
      rw [decG_more value k ((c :: l).drop (rd (c :: l) value).2) (by rw [List.length_drop, List.length_cons]; omega)]
theorem decG_fuel (value : Bool) (l : List UInt8) : ∀ d, decG value (l.length + d) l = decG value l.length l
  | 0 => rfl
  | d + 1 => by rw [show l.length + (d + 1) = (l.length + d) + 1 by omega, decG_more value _ l (by omega), decG_fuel value l d]
def dec (value : Bool) (l : List UInt8) : List UInt8 := decG value l.length l
theorem dec_nil (value : Bool) : dec value [] = [] := rfl
theorem dec_keep (value : Bool) (c : UInt8) (l : List UInt8) (h : (rd (c :: l) value).2 = 0) : dec value (c :: l) = c :: dec value l := by
  unfold dec
  rw [List.length_cons]
  conv => lhs; unfold decG
  rw [if_pos h]
theorem dec_ref (value : Bool) (l : List UInt8) (h : (rd l value).2 ≠ 0) : dec value l = (rd l value).1.data.toList ++ dec value (l.drop (rd l value).2) := by
  have hr := okR_rd l value
  cases l with
  | nil => exact absurd rfl h
  | cons c l =>
    unfold dec
    have h2 : 2 ≤ (rd (c :: l) value).2 ∧ (rd (c :: l) value).2 ≤ (c :: l).length := by
      rcases hr with ⟨h0, _⟩ | ⟨h1, h2, _⟩
      · exact absurd h0 h
      · exact ⟨h1, h2⟩
    rw [List.length_cons]
    conv => lhs; unfold decG
    rw [if_neg h]
    congr 1
    have e : l.length = ((c :: l).drop (rd (c :: l) value).2).length + (l.length - ((c :: l).drop (rd (c :: l) value).2).length) := by
      rw [List.length_drop, List.length_cons]; omega
    conv => lhs; rw [e]
    exact decG_fuel value _ _
theorem rd_other (c : UInt8) (l : List UInt8) (value : Bool) (h : c ≠ 38) : (rd (c :: l) value).2 = 0 := by
  unfold rd
  rw [if_neg (by simpa using h)]; rfl
/-- What has no & in it stays as it is, whatever stands behind it. -/
theorem dec_plain (value : Bool) : ∀ (p t : List UInt8), (∀ c ∈ p, c ≠ 38) → dec value (p ++ t) = p ++ dec value t
  | [], _, _ => rfl
  | c :: p, t, h => by
    rw [List.cons_append, dec_keep value c (p ++ t) (rd_other c _ value (h c (by simp))), dec_plain value p t (fun d hd => h d (by simp [hd]))]; rfl
theorem dec_same (value : Bool) (p : List UInt8) (h : ∀ c ∈ p, c ≠ 38) : dec value p = p := by
  have := dec_plain value p [] h
  simpa [dec_nil] using this
theorem decG_len (value : Bool) : ∀ (k : Nat) (l : List UInt8), (decG value k l).length ≤ 4 * l.length
  | 0, _ => by simp [decG]
  | k + 1, [] => by simp [decG]
  | k + 1, c :: l => by
    unfold decG
    have hr := okR_rd (c :: l) value
    split
    · have := decG_len value k l; simp only [List.length_cons]; omega
    · rename_i hn
      have := decG_len value k ((c :: l).drop (rd (c :: l) value).2)
      rw [List.length_append, size_list]
      rw [List.length_drop] at this
      rcases hr with ⟨h0, _⟩ | ⟨h1, h2, h3⟩
      · exact absurd h0 hn
      · omega
theorem dec_len (value : Bool) (l : List UInt8) : (dec value l).length ≤ 4 * l.length := decG_len value _ l
end Go.Proofs.YtceelfomgcbkiaaGreatDoor.C

/-
  The walks of the functions on one byte, and on one number: small letters, letters, digits, characters.
-/
namespace Go.Proofs.YtceelfomgcbkiaaGreatDoor.C
open Go.RowKit

theorem small_any (n : Int) (w : World) (h0 : 0 ≤ n) (h1 : n ≤ 255) :
    Calls Tryz.prog 76 #[.int .u8 n] w fun e w' => e = .returned (.int .u8 (smI n)) ∧ w = w' := by
  by_cases ha : 65 ≤ n
  · by_cases hb : n ≤ 90
    · have hs : smI n = n + 32 := by unfold smI; rw [if_pos ⟨ha, hb⟩]
      rw [hs]; clear hs
      go_enter Tryz.func76, Tryz.ntmps76
      go_wp2
      go_ret
      exact ⟨rfl, rfl⟩
    · have hs : smI n = n := by unfold smI; rw [if_neg (by omega)]
      rw [hs]; clear hs
      go_enter Tryz.func76, Tryz.ntmps76
      go_wp2
      go_ret
      exact ⟨rfl, rfl⟩
  · have hs : smI n = n := by unfold smI; rw [if_neg (by omega)]
    rw [hs]; clear hs
    go_enter Tryz.func76, Tryz.ntmps76
    go_wp2
    go_ret
    exact ⟨rfl, rfl⟩

theorem ret_bool {a b : Bool} (h : a = b) : Ending.returned (.bool a) = .returned (.bool b) := by rw [h]

theorem letter_any (n : Int) (w : World) (h0 : 0 ≤ n) (h1 : n ≤ 255) :
    Calls Tryz.prog 72 #[.int .u8 n] w fun e w' => e = .returned (.bool (leI n)) ∧ w = w' := by
  have hsm : leI n = decide (97 ≤ smI n ∧ smI n ≤ 122) := by
    unfold leI smI; rw [decide_eq_decide]; split <;> omega
  have hb : 0 ≤ smI n ∧ smI n ≤ 255 := by unfold smI; split <;> omega
  rw [hsm]; clear hsm
  obtain ⟨hb0, hb1⟩ := hb
  by_cases ha : 97 ≤ smI n
  · by_cases hc : smI n ≤ 122
    · rw [decide_eq_true (And.intro ha hc)]
      go_enter Tryz.func72, Tryz.ntmps72
      go_wp2_with (go_at_call 76; refine (small_any _ _ h0 h1).mono ?_; rintro e w' ⟨rfl, rfl⟩)
      go_ret
      exact ⟨ret_bool (by first | rfl | (simp; omega)), rfl⟩
    · rw [decide_eq_false (by omega)]
      go_enter Tryz.func72, Tryz.ntmps72
      go_wp2_with (go_at_call 76; refine (small_any _ _ h0 h1).mono ?_; rintro e w' ⟨rfl, rfl⟩)
      go_ret
      exact ⟨ret_bool (by first | rfl | (simp; omega)), rfl⟩
  · rw [decide_eq_false (by omega)]
    go_enter Tryz.func72, Tryz.ntmps72
    go_wp2_with (go_at_call 76; refine (small_any _ _ h0 h1).mono ?_; rintro e w' ⟨rfl, rfl⟩)
    go_ret
    exact ⟨ret_bool (by first | rfl | (simp; omega)), rfl⟩

/-- Where a byte stands among the letters and digits. -/
theorem where_is (n : Int) (h0 : 0 ≤ n) (h1 : n ≤ 255) : (0 ≤ n ∧ n < 48) ∨ (48 ≤ n ∧ n ≤ 57) ∨ (57 < n ∧ n < 65) ∨ (65 ≤ n ∧ n ≤ 70) ∨ (70 < n ∧ n ≤ 90) ∨ (90 < n ∧ n < 97) ∨ (97 ≤ n ∧ n ≤ 102) ∨ (102 < n ∧ n ≤ 122) ∨ (122 < n ∧ n ≤ 255) := by omega

set_option maxHeartbeats 800000 in
theorem rletter_any (n : Int) (w : World) (h0 : 0 ≤ n) (h1 : n ≤ 255) :
    Calls Tryz.prog 46 #[.int .u8 n] w fun e w' => e = .returned (.bool (leI n)) ∧ w = w' := by
  rcases where_is n h0 h1 with h | h | h | h | h | h | h | h | h
  all_goals
    obtain ⟨ha, hb⟩ := h
    first
      | rw [show leI n = true from decide_eq_true (by omega)]
      | rw [show leI n = false from decide_eq_false (by omega)]
    go_enter Tryz.func46, Tryz.ntmps46
    go_wp2
    go_ret
    exact ⟨ret_bool (by first | rfl | (simp; omega)), rfl⟩

theorem hxI_d (n : Int) (a : 48 ≤ n) (b : n ≤ 57) : hxI n = n - 48 := by unfold hxI; rw [if_pos ⟨a, b⟩]
theorem hxI_a (n : Int) (a : 97 ≤ n) (b : n ≤ 102) : hxI n = n - 87 := by unfold hxI; rw [if_neg (by omega), if_pos ⟨a, b⟩]
theorem hxI_A (n : Int) (a : 65 ≤ n) (b : n ≤ 70) : hxI n = n - 55 := by unfold hxI; rw [if_neg (by omega), if_neg (by omega), if_pos ⟨a, b⟩]
theorem hxI_n (n : Int) (a : ¬ (48 ≤ n ∧ n ≤ 57)) (b : ¬ (97 ≤ n ∧ n ≤ 102)) (c : ¬ (65 ≤ n ∧ n ≤ 70)) : hxI n = -1 := by unfold hxI; rw [if_neg a, if_neg b, if_neg c]
theorem ret_num {k : IntKind} {a b : Int} (h : a = b) : Ending.returned (.int k a) = .returned (.int k b) := by rw [h]

set_option maxHeartbeats 1600000 in
theorem hex_any (n : Int) (w : World) (h0 : 0 ≤ n) (h1 : n ≤ 255) :
    Calls Tryz.prog 104 #[.int .u8 n] w fun e w' => e = .returned (.int .i64 (hxI n)) ∧ w = w' := by
  rcases where_is n h0 h1 with h | h | h | h | h | h | h | h | h
  all_goals
    obtain ⟨ha, hb⟩ := h
    first
      | rw [hxI_d n (by omega) (by omega)]
      | rw [hxI_a n (by omega) (by omega)]
      | rw [hxI_A n (by omega) (by omega)]
      | rw [hxI_n n (by omega) (by omega) (by omega)]
    go_enter Tryz.func104, Tryz.ntmps104
    go_wp2
    go_ret
    exact ⟨ret_num (by omega), rfl⟩
set_option maxHeartbeats 1600000 in
theorem rhex_any (n : Int) (w : World) (h0 : 0 ≤ n) (h1 : n ≤ 255) :
    Calls Tryz.prog 87 #[.int .u8 n] w fun e w' => e = .returned (.int .i64 (hxI n)) ∧ w = w' := by
  rcases where_is n h0 h1 with h | h | h | h | h | h | h | h | h
  all_goals
    obtain ⟨ha, hb⟩ := h
    first
      | rw [hxI_d n (by omega) (by omega)]
      | rw [hxI_a n (by omega) (by omega)]
      | rw [hxI_A n (by omega) (by omega)]
      | rw [hxI_n n (by omega) (by omega) (by omega)]
    go_enter Tryz.func87, Tryz.ntmps87
    go_wp2
    go_ret
    exact ⟨ret_num (by omega), rfl⟩
theorem encode_any (n : Int) (w : World) (h1 : -9223372036854775808 ≤ n) (h2 : n ≤ 9223372036854775807) :
    Calls Tryz.prog 105 #[.int .i64 n] w fun e w' => e = .returned (.string (encS n)) ∧ w = w' := by
  by_cases hneg : n < 0
  · have e : encS n = ⟨#[239, 191, 189]⟩ := by unfold encS chB; rw [decide_eq_false (by omega)]; rfl
    rw [e]; clear e
    go_enter Tryz.func105, Tryz.ntmps105
    go_wp2
    go_ret
    exact ⟨rfl, rfl⟩
  · by_cases hbig : 1114111 < n
    · have e : encS n = ⟨#[239, 191, 189]⟩ := by unfold encS chB; rw [decide_eq_false (by omega)]; rfl
      rw [e]; clear e
      go_enter Tryz.func105, Tryz.ntmps105
      go_wp2
      go_ret
      exact ⟨rfl, rfl⟩
    · have hV := Lib.hid (fun W => Tryz.utf8_ValidRune n W)
      by_cases hch : chB n = true
      · have e : encS n = Utf8.encode n := by unfold encS; rw [if_pos hch]
        have hvr : Lib.validRune n = true := by unfold Lib.validRune; unfold chB at hch; simpa using hch
        rw [e]; clear e hch
        go_enter Tryz.func105, Tryz.ntmps105
        go_wp2_with (go_at_call 116; refine (hV.out _).mono ?_; rintro e w1 ⟨rfl, rfl⟩)
        go_ret
        exact ⟨rfl, rfl⟩
      · have e : encS n = ⟨#[239, 191, 189]⟩ := by unfold encS; rw [if_neg hch]
        have hvr : Lib.validRune n = false := by unfold Lib.validRune; unfold chB at hch; simpa using hch
        rw [e]; clear e hch
        go_enter Tryz.func105, Tryz.ntmps105
        go_wp2_with (go_at_call 116; refine (hV.out _).mono ?_; rintro e w1 ⟨rfl, rfl⟩)
        go_ret
        exact ⟨rfl, rfl⟩

theorem rencode_any (n : Int) (w : World) (h1 : -9223372036854775808 ≤ n) (h2 : n ≤ 9223372036854775807) :
    Calls Tryz.prog 90 #[.int .i64 n] w fun e w' => e = .returned (.string (encS n)) ∧ w = w' := by
  have e0 : Utf8.encode 65533 = ⟨#[239, 191, 189]⟩ := by decide
  by_cases hneg : n < 0
  · have e : encS n = ⟨#[239, 191, 189]⟩ := by unfold encS chB; rw [decide_eq_false (by omega)]; rfl
    rw [e]; clear e
    go_enter Tryz.func90, Tryz.ntmps90
    go_wp2
    go_ret
    exact ⟨rfl, rfl⟩
  · by_cases hbig : 1114111 < n
    · have e : encS n = ⟨#[239, 191, 189]⟩ := by unfold encS chB; rw [decide_eq_false (by omega)]; rfl
      rw [e]; clear e
      go_enter Tryz.func90, Tryz.ntmps90
      go_wp2
      go_ret
      exact ⟨rfl, rfl⟩
    · by_cases hs : 55296 ≤ n
      · by_cases hs2 : n ≤ 57343
        · have e : encS n = ⟨#[239, 191, 189]⟩ := by unfold encS chB; rw [decide_eq_false (by omega)]; rfl
          rw [e]; clear e
          go_enter Tryz.func90, Tryz.ntmps90
          go_wp2
          go_ret
          exact ⟨rfl, rfl⟩
        · have e : encS n = Utf8.encode n := by unfold encS chB; rw [decide_eq_true (by omega)]; rfl
          rw [e]; clear e e0
          go_enter Tryz.func90, Tryz.ntmps90
          go_wp2
          go_ret
          exact ⟨rfl, rfl⟩
      · have e : encS n = Utf8.encode n := by unfold encS chB; rw [decide_eq_true (by omega)]; rfl
        rw [e]; clear e e0
        go_enter Tryz.func90, Tryz.ntmps90
        go_wp2
        go_ret
        exact ⟨rfl, rfl⟩

theorem digit_any (n : Int) (base : Int) (w : World) (h0 : 0 ≤ n) (h1 : n ≤ 255) (_hb : 0 ≤ base) (_hb2 : base ≤ 16) :
    Calls Tryz.prog 93 #[.int .u8 n, .int .i64 base] w fun e w' => e = .returned (.int .i64 (if hxI n < base then hxI n else -1)) ∧ w = w' := by
  by_cases h : hxI n < base
  · rw [if_pos h]
    go_enter Tryz.func93, Tryz.ntmps93
    go_wp2_with (go_at_call 104; refine (hex_any _ _ h0 h1).mono ?_; rintro e w' ⟨rfl, rfl⟩)
    go_ret
    exact ⟨rfl, rfl⟩
  · rw [if_neg h]
    go_enter Tryz.func93, Tryz.ntmps93
    go_wp2_with (go_at_call 104; refine (hex_any _ _ h0 h1).mono ?_; rintro e w' ⟨rfl, rfl⟩)
    go_ret
    exact ⟨rfl, rfl⟩
/-- A digit to the base, as the plain text has it. -/
theorem dg_any (base : Int) (c : UInt8) (w : World) (hb : 0 ≤ base) (hb2 : base ≤ 16) :
    Calls Tryz.prog 93 #[.int .u8 (c.toNat : Int), .int .i64 base] w fun e w' => e = .returned (.int .i64 (dg base c)) ∧ w = w' :=
  digit_any _ base w (by omega) (by have := c.toNat_lt; omega) hb hb2
theorem alnum_any (n : Int) (w : World) (h0 : 0 ≤ n) (h1 : n ≤ 255) :
    Calls Tryz.prog 60 #[.int .u8 n] w fun e w' => e = .returned (.bool (leI n || decide (48 ≤ n ∧ n ≤ 57))) ∧ w = w' := by
  by_cases hl : leI n = true
  · have hL := Lib.hid (rletter_any n w h0 h1)
    rw [hl] at hL
    rw [hl]; clear hl
    go_enter Tryz.func60, Tryz.ntmps60
    go_wp2_with (go_at_call 46; refine hL.out.mono ?_; rintro e w' ⟨rfl, rfl⟩)
    go_ret
    exact ⟨rfl, rfl⟩
  · have hl1 : leI n = false := by simpa using hl
    have hL := Lib.hid (rletter_any n w h0 h1)
    rw [hl1] at hL
    rw [hl1]; clear hl hl1
    by_cases ha : 48 ≤ n
    · by_cases hb : n ≤ 57
      · rw [decide_eq_true (And.intro ha hb)]
        go_enter Tryz.func60, Tryz.ntmps60
        go_wp2_with (go_at_call 46; refine hL.out.mono ?_; rintro e w' ⟨rfl, rfl⟩)
        go_ret
        exact ⟨rfl, rfl⟩
      · rw [decide_eq_false (fun h => hb h.2)]
        go_enter Tryz.func60, Tryz.ntmps60
        go_wp2_with (go_at_call 46; refine hL.out.mono ?_; rintro e w' ⟨rfl, rfl⟩)
        go_ret
        exact ⟨ret_bool (by first | rfl | (simp; omega)), rfl⟩
    · rw [decide_eq_false (fun h => ha h.1)]
      go_enter Tryz.func60, Tryz.ntmps60
      go_wp2_with (go_at_call 46; refine hL.out.mono ?_; rintro e w' ⟨rfl, rfl⟩)
      go_ret
      exact ⟨ret_bool (by first | rfl | (simp; omega)), rfl⟩

/-! ### the tables of names -/
set_option maxHeartbeats 4000000 in
theorem loose_any (s : ByteArray) (w : World) :
    Calls Tryz.prog 107 #[.string s] w fun e w' => e = .returned (.int .i64 (lk tabL s.toList)) ∧ w = w' := by
  go_enter Tryz.func107, Tryz.ntmps107
  go_wp2
  all_goals
    go_ret
    refine ⟨ret_num ?_, rfl⟩
    first
      | (simp only [tabL, lk, *]; simp; done)
      | (exfalso; simp_all; done)
set_option maxHeartbeats 4000000 in
theorem sign_any (s : ByteArray) (w : World) :
    Calls Tryz.prog 108 #[.string s] w fun e w' => e = .returned (.int .i64 (lk tabS s.toList)) ∧ w = w' := by
  go_enter Tryz.func108, Tryz.ntmps108
  go_wp2
  all_goals
    go_ret
    refine ⟨ret_num ?_, rfl⟩
    first
      | (simp only [tabS, lk, *]; simp; done)
      | (exfalso; simp_all; done)
set_option maxHeartbeats 4000000 in
theorem special_any (s : ByteArray) (w : World) :
    Calls Tryz.prog 109 #[.string s] w fun e w' => e = .returned (.int .i64 (lk tabP s.toList)) ∧ w = w' := by
  go_enter Tryz.func109, Tryz.ntmps109
  go_wp2
  all_goals
    go_ret
    refine ⟨ret_num ?_, rfl⟩
    first
      | (simp only [tabP, lk, *]; simp; done)
      | (exfalso; simp_all; done)
end Go.Proofs.YtceelfomgcbkiaaGreatDoor.C

/-
  The walks of Named, of the document's own, and of its table.
-/
namespace Go.Proofs.YtceelfomgcbkiaaGreatDoor.C
open Go.RowKit

def nmOk (l : List UInt8) : Bool := decide (nm l ≠ 0)
def nmTx (l : List UInt8) : ByteArray := if nm l = 0 then ByteArray.empty else encS (nm l)
def NamedPost (l : List UInt8) (w : World) (e : Ending) (w' : World) : Prop := e = .returned (.tuple #[.string (nmTx l), .bool (nmOk l)]) ∧ Below w.heap.size w w'
theorem named_yes {l : List UInt8} {v : Int} (h : nm l = v) (hv : v ≠ 0) : Ending.returned (.tuple #[.string (encS v), .bool true]) = .returned (.tuple #[.string (nmTx l), .bool (nmOk l)]) := by
  subst h; unfold nmTx nmOk; rw [if_neg hv, decide_eq_true hv]
theorem named_no {l : List UInt8} (h : nm l = 0) : Ending.returned (.tuple #[.string ⟨#[]⟩, .bool false]) = .returned (.tuple #[.string (nmTx l), .bool (nmOk l)]) := by
  unfold nmTx nmOk; rw [if_pos h, decide_eq_false (by simp [h])]; rfl
theorem lk_bd : ∀ (t : Tab) (l : List UInt8), (∀ e ∈ t, 0 ≤ e.2 ∧ e.2 ≤ 8800) → 0 ≤ lk t l ∧ lk t l ≤ 8800
  | [], _, _ => ⟨Int.le_refl 0, by show (0 : Int) ≤ 8800; decide⟩
  | (k, v) :: r, l, h => by
    unfold lk
    split
    · exact h (k, v) (by simp)
    · exact lk_bd r l (fun e he => h e (by simp [he]))
theorem toList_mk (l : List UInt8) : (ByteArray.mk l.toArray).toList = l := by rw [ByteArray.toList_eq]

set_option maxHeartbeats 1600000 in
theorem named_any (s : ByteArray) (w : World) (hs : s.size ≤ 9223372036854775807) :
    Calls Tryz.prog 95 #[.string s] w (NamedPost s.data.toList w) := by
  have HC := Lib.hid (Tryz.strings_CutSuffix s ⟨#[59]⟩ w hs)
  have hyes := cut_yes s.data.toList
  have hno := cut_no s.data.toList
  have HL := Lib.hid (loose_any ⟨(Lib.trimSuffix s.data.toList [59]).toArray⟩)
  have HS := Lib.hid (sign_any ⟨(Lib.trimSuffix s.data.toList [59]).toArray⟩)
  have HP := Lib.hid (special_any ⟨(Lib.trimSuffix s.data.toList [59]).toArray⟩)
  rw [toList_mk] at HL HS HP
  have b1 := lk_bd tabL (Lib.trimSuffix s.data.toList [59]) (by decide)
  have b2 := lk_bd tabS (Lib.trimSuffix s.data.toList [59]) (by decide)
  have b3 := lk_bd tabP (Lib.trimSuffix s.data.toList [59]) (by decide)
  have hn1 := nm_shut (Lib.trimSuffix s.data.toList [59])
  have hn2 := nm_open s.data.toList
  generalize hl : s.data.toList = l at *
  generalize Lib.trimSuffix l [59] = b at *
  generalize hc : Lib.hasSuffix l [59] = c at *
  generalize hB : ByteArray.mk b.toArray = B at *
  clear hB hl
  by_cases h1 : lk tabL b = 0
  · rw [h1] at HL
    cases c with
    | false =>
      have HN : Hid (nm l = 0) := Lib.hid (by
        obtain ⟨e, ho⟩ := hno rfl
        rw [hn2 ho, ← e]; exact h1)
      clear hn1 hn2 hyes hno hc h1 b1 b2 b3
      go_enter Tryz.func95, Tryz.ntmps95
      go_wp2_with (first
        | (go_at_call 106; refine HC.out.mono ?_; rintro e w' ⟨rfl, rfl⟩)
        | (go_at_call 107; refine (HL.out _).mono ?_; rintro e w' ⟨rfl, rfl⟩))
      go_ret2
      exact ⟨named_no HN.out, Below.refl _ _⟩
    | true =>
      have he := hyes rfl
      rw [← he] at hn1
      rw [if_pos h1] at hn1
      by_cases h2 : lk tabS b = 0
      · rw [h2] at HS
        rw [if_pos h2] at hn1
        by_cases h3 : lk tabP b = 0
        · rw [h3] at HP
          rw [h3] at hn1
          have HN := Lib.hid hn1
          clear hn1 hn2 hyes hno hc h1 h2 h3 he b1 b2 b3
          go_enter Tryz.func95, Tryz.ntmps95
          go_wp2_with (first
            | (go_at_call 106; refine HC.out.mono ?_; rintro e w' ⟨rfl, rfl⟩)
            | (go_at_call 107; refine (HL.out _).mono ?_; rintro e w' ⟨rfl, rfl⟩)
            | (go_at_call 108; refine (HS.out _).mono ?_; rintro e w' ⟨rfl, rfl⟩)
            | (go_at_call 109; refine (HP.out _).mono ?_; rintro e w' ⟨rfl, rfl⟩))
          go_ret2
          exact ⟨named_no HN.out, Below.refl _ _⟩
        · have HN := Lib.hid hn1
          have HZ := Lib.hid h3
          have h3' : (lk tabP b == 0) = false := by simpa using h3
          clear hn1 hn2 hyes hno hc h1 h2 h3 he b1 b2
          obtain ⟨b3, b4⟩ := b3
          generalize lk tabP b = v at *
          go_enter Tryz.func95, Tryz.ntmps95
          go_wp2_with (first
            | (go_at_call 106; refine HC.out.mono ?_; rintro e w' ⟨rfl, rfl⟩)
            | (go_at_call 107; refine (HL.out _).mono ?_; rintro e w' ⟨rfl, rfl⟩)
            | (go_at_call 108; refine (HS.out _).mono ?_; rintro e w' ⟨rfl, rfl⟩)
            | (go_at_call 109; refine (HP.out _).mono ?_; rintro e w' ⟨rfl, rfl⟩)
            | (go_at_call 105; refine (encode_any _ _ (by omega) (by omega)).mono ?_; rintro e w' ⟨rfl, rfl⟩))
          go_ret2
          exact ⟨named_yes HN.out HZ.out, Below.refl _ _⟩
      · rw [if_neg h2] at hn1
        have HN := Lib.hid hn1
        have HZ := Lib.hid h2
        have h2' : (lk tabS b == 0) = false := by simpa using h2
        clear hn1 hn2 hyes hno hc h1 h2 he b1 b3
        obtain ⟨b3, b4⟩ := b2
        generalize lk tabS b = v at *
        go_enter Tryz.func95, Tryz.ntmps95
        go_wp2_with (first
          | (go_at_call 106; refine HC.out.mono ?_; rintro e w' ⟨rfl, rfl⟩)
          | (go_at_call 107; refine (HL.out _).mono ?_; rintro e w' ⟨rfl, rfl⟩)
          | (go_at_call 108; refine (HS.out _).mono ?_; rintro e w' ⟨rfl, rfl⟩)
          | (go_at_call 105; refine (encode_any _ _ (by omega) (by omega)).mono ?_; rintro e w' ⟨rfl, rfl⟩))
        go_ret2
        exact ⟨named_yes HN.out HZ.out, Below.refl _ _⟩
  · have HN : Hid (nm l = lk tabL b) := Lib.hid (by
      cases c with
      | false =>
        obtain ⟨e, ho⟩ := hno rfl
        rw [hn2 ho, ← e]
      | true =>
        have he := hyes rfl
        rw [← he] at hn1
        rw [if_neg h1] at hn1
        exact hn1)
    have HZ := Lib.hid h1
    have h1' : (lk tabL b == 0) = false := by simpa using h1
    clear hn1 hn2 hyes hno hc h1 b2 b3
    obtain ⟨b3, b4⟩ := b1
    generalize lk tabL b = v at *
    go_enter Tryz.func95, Tryz.ntmps95
    go_wp2_with (first
      | (go_at_call 106; refine HC.out.mono ?_; rintro e w' ⟨rfl, rfl⟩)
      | (go_at_call 107; refine (HL.out _).mono ?_; rintro e w' ⟨rfl, rfl⟩)
      | (go_at_call 105; refine (encode_any _ _ (by omega) (by omega)).mono ?_; rintro e w' ⟨rfl, rfl⟩))
    go_ret2
    exact ⟨named_yes HN.out HZ.out, Below.refl _ _⟩
end Go.Proofs.YtceelfomgcbkiaaGreatDoor.C

/-
  The walks of the document's table of names, and of its Named.
-/
namespace Go.Proofs.YtceelfomgcbkiaaGreatDoor.C
open Go.RowKit

def nameV : Array Value := (tabR.map fun e => Value.string (mkB e.1)).toArray
def numV : Array Value := (tabR.map fun e => Value.int .i64 e.2).toArray
def tn (k : Nat) : List UInt8 := (tabR.getD k ([], 0)).1
def tv (k : Nat) : Int := (tabR.getD k ([], 0)).2
theorem tabR_len : tabR.length = 61 := by rfl
theorem tabR_at (k : Nat) (h : k < 61) : tabR.drop k = (tn k, tv k) :: tabR.drop (k + 1) := by
  rw [List.drop_eq_getElem_cons (by rw [tabR_len]; exact h)]
  unfold tn tv
  rw [List.getD, List.getElem?_eq_getElem (by rw [tabR_len]; exact h)]; rfl
theorem tn_ok : ∀ k, k < 61 → 1 ≤ (tn k).length ∧ (tn k).length ≤ 8 ∧ tv k ≠ 0 ∧ 0 ≤ tv k ∧ tv k ≤ 8800 := by decide
theorem nameV_at (k : Nat) (h : k < 61) : nameV[k]? = some (.string (mkB (tn k))) := by
  unfold nameV tn
  rw [List.getElem?_toArray, List.getElem?_map, List.getD, List.getElem?_eq_getElem (by rw [tabR_len]; exact h)]; rfl
theorem numV_at (k : Nat) (h : k < 61) : numV[k]? = some (.int .i64 (tv k)) := by
  unfold numV tv
  rw [List.getElem?_toArray, List.getElem?_map, List.getD, List.getElem?_eq_getElem (by rw [tabR_len]; exact h)]; rfl

def TablePost (w : World) (e : Ending) (w' : World) : Prop :=
  ∃ b c : Nat, e = .returned (.tuple #[.slice (some ⟨b, 0, none⟩) 61 61, .slice (some ⟨c, 0, none⟩) 61 61]) ∧ (∀ k, k < 61 → w'.cell? ⟨b, 0 + k, none⟩ = some (.string (mkB (tn k)))) ∧ (∀ k, k < 61 → w'.cell? ⟨c, 0 + k, none⟩ = some (.int .i64 (tv k))) ∧ Below w.heap.size w w'
set_option maxHeartbeats 8000000 in
theorem table_any (w : World) : Calls Tryz.prog 89 #[] w (TablePost w) := by
  go_enter Tryz.func89, Tryz.ntmps89
  go_wp2
  go_ret2
  have key : ∀ W : World, W = (w.alloc (.cells nameV 9)).alloc (.cells numV 3) → TablePost w (.returned (.tuple #[.slice (some ⟨w.heap.size, 0, none⟩) 61 61, .slice (some ⟨w.heap.size + 1, 0, none⟩) 61 61])) W := by
    rintro W rfl
    refine ⟨w.heap.size, w.heap.size + 1, rfl, fun k hk => ?_, fun k hk => ?_, (((Below.refl _ _).alloc (Nat.le_refl _) _).alloc (by simp) _)⟩
    · rw [World.cell?_alloc_lt _ _ _ (by simp), Nat.zero_add]
      rw [cell_of_row (w.alloc (.cells nameV 9)) w.heap.size k nameV 9 (0, 0) (heap_alloc_new w _)]
      exact nameV_at k hk
    · rw [Nat.zero_add]
      have := heap_alloc_new (w.alloc (.cells nameV 9)) (.cells numV 3)
      rw [show (w.alloc (.cells nameV 9)).heap.size = w.heap.size + 1 by simp] at this
      rw [cell_of_row _ (w.heap.size + 1) k numV 3 (0, 0) this]
      exact numV_at k hk
  exact key _ rfl
end Go.Proofs.YtceelfomgcbkiaaGreatDoor.C

/-
  The walk of the document's Named.
-/
namespace Go.Proofs.YtceelfomgcbkiaaGreatDoor.C
open Go.RowKit

theorem eqS_yes {a b : ByteArray} (h : a = b) : (a.toList == b.toList) = true := by rw [h]; simp
theorem eqS_no {a b : ByteArray} (h : a ≠ b) : (a.toList == b.toList) = false := by
  rw [beq_eq_false_iff_ne]; intro e; apply h; apply eq_of_list; rw [← ByteArray.toList_eq, ← ByteArray.toList_eq]; exact e
theorem nmG_at (k : Nat) (h : k < 61) (l : List UInt8) : nmG (tabR.drop k) l = if mt (tn k) l = true then tv k else nmG (tabR.drop (k + 1)) l := by
  rw [tabR_at k h]; rfl
theorem last_at (X : ByteArray) (h : 1 ≤ X.size) : X.data.toList.getLast? = some X[X.size - 1] := by
  rw [List.getLast?_eq_getElem?, size_list, get_at X (X.size - 1) (by omega)]
/-- What the document's test asks, in the walk's words. -/
theorem mt_same {X s : ByteArray} (h : X = s) : mt X.data.toList s.data.toList = true := by
  subst h; simp [mt]
theorem mt_semi {X s : ByteArray} (h1 : 1 ≤ X.size) (h2 : X[X.size - 1] ≠ 59) (h3 : X ++ ⟨#[59]⟩ = s) : mt X.data.toList s.data.toList = true := by
  subst h3
  unfold mt
  rw [last_at X h1]
  simp [h2]
theorem mt_no1 {X s : ByteArray} (h0 : X ≠ s) (h1 : 1 ≤ X.size) (h2 : X[X.size - 1] = 59) : mt X.data.toList s.data.toList = false := by
  unfold mt
  rw [last_at X h1, h2]
  have : (s.data.toList == X.data.toList) = false := by
    rw [beq_eq_false_iff_ne]; intro e; exact h0 (eq_of_list e.symm)
  rw [this]; rfl
theorem mt_no2 {X s : ByteArray} (h0 : X ≠ s) (h3 : X ++ ⟨#[59]⟩ ≠ s) : mt X.data.toList s.data.toList = false := by
  unfold mt
  have h4 : (s.data.toList == X.data.toList) = false := by
    rw [beq_eq_false_iff_ne]; intro e; exact h0 (eq_of_list e.symm)
  have h5 : (s.data.toList == X.data.toList ++ [59]) = false := by
    rw [beq_eq_false_iff_ne]; intro e; apply h3; apply eq_of_list; rw [e]; simp
  rw [h4, h5, Bool.and_false]; rfl

set_option maxHeartbeats 3200000 in
theorem rnamed_any (s : ByteArray) (w : World) :
    Calls Tryz.prog 59 #[.string s] w (NamedPost s.data.toList w) := by
  go_enter Tryz.func59, Tryz.ntmps59
  go_wp2_with fail
  refine (table_any w).mono ?_
  rintro e w1 ⟨b, c, rfl, hb, hc, hbel⟩
  have HB := Lib.hid hb
  have HC := Lib.hid hc
  have HW := Lib.hid hbel
  clear hb hc hbel
  go_wp2
  go_loop [6] (fun i => ∃ k : Nat, k ≤ 61 ∧ i = .int .i64 k ∧ nm s.data.toList = nmG (tabR.drop k) s.data.toList) (fun i => 61 - (intOf i).toNat)
  case atStart => exact ⟨0, Nat.zero_le _, rfl, rfl⟩
  case round =>
    obtain ⟨k, hk, rfl, hn⟩ := hrel
    have HN := Lib.hid hn
    clear hn
    by_cases hlt : k < 61
    · have hcb := HB.out k hlt
      have hcc := HC.out k hlt
      rw [Nat.zero_add] at hcb hcc
      obtain ⟨t1, t2, t3, t4, t5⟩ := tn_ok k hlt
      have HD := Lib.hid (nmG_at k hlt s.data.toList)
      rw [show tn k = (mkB (tn k)).data.toList from (mkB_list _).symm] at HD
      rw [← mkB_size] at t1 t2
      have HV := Lib.hid t3
      clear t3
      generalize mkB (tn k) = X at *
      generalize tv k = v at *
      have hz := X[X.size - 1].toNat_lt
      by_cases q1 : X = s
      · have HF : Hid (nm s.data.toList = v) := Lib.hid (by rw [HN.out, HD.out, if_pos (mt_same q1)])
        have e1 := eqS_yes q1
        have HQ := Lib.hid q1
        clear q1
        go_wp2_with (go_at_call 90; refine (rencode_any _ _ (by omega) (by omega)).mono ?_; rintro e w' ⟨rfl, rfl⟩)
        go_ret2
        exact ⟨named_yes HF.out HV.out, HW.out⟩
      · have e1 := eqS_no q1
        by_cases q2 : X[X.size - 1] = 59
        · have HF : Hid (nm s.data.toList = nmG (tabR.drop (k + 1)) s.data.toList) := Lib.hid (by rw [HN.out, HD.out, if_neg (by rw [mt_no1 q1 t1 q2]; exact Bool.false_ne_true)])
          have e2 : ((X[X.size - 1].toNat : Int) != 59) = false := by rw [q2]; rfl
          have e3 : ((X[X.size - 1].toNat : Int) == 59) = true := by rw [q2]; rfl
          clear q1 q2
          go_wp2
          go_round
          case rel => exact ⟨k + 1, by omega, by go_num, HF.out⟩
          case measure => simp [intOf]; omega
        · have q2' : (X[X.size - 1].toNat : Int) ≠ 59 := fun e => q2 (UInt8.toNat_inj.1 (by show _ = 59; omega))
          have e2 : ((X[X.size - 1].toNat : Int) != 59) = true := by simpa using q2'
          have e3 : ((X[X.size - 1].toNat : Int) == 59) = false := by simpa using q2'
          clear q2'
          by_cases q3 : X ++ ⟨#[59]⟩ = s
          · have HF : Hid (nm s.data.toList = v) := Lib.hid (by rw [HN.out, HD.out, if_pos (mt_semi t1 q2 q3)])
            have e4 := eqS_yes q3
            have HQ := Lib.hid q3
            clear q1 q2 q3
            go_wp2_with (go_at_call 90; refine (rencode_any _ _ (by omega) (by omega)).mono ?_; rintro e w' ⟨rfl, rfl⟩)
            go_ret2
            exact ⟨named_yes HF.out HV.out, HW.out⟩
          · have HF : Hid (nm s.data.toList = nmG (tabR.drop (k + 1)) s.data.toList) := Lib.hid (by rw [HN.out, HD.out, if_neg (by rw [mt_no2 q1 q3]; exact Bool.false_ne_true)])
            have e4 := eqS_no q3
            clear q1 q2 q3
            go_wp2
            go_round
            case rel => exact ⟨k + 1, by omega, by go_num, HF.out⟩
            case measure => simp [intOf]; omega
    · obtain rfl : k = 61 := by omega
      have HF : Hid (nm s.data.toList = 0) := Lib.hid (by rw [HN.out]; rfl)
      go_wp2
      go_ret2
      exact ⟨named_no HF.out, HW.out⟩
end Go.Proofs.YtceelfomgcbkiaaGreatDoor.C

/-
  The walks of Numbered, and of the document's own.
-/
namespace Go.Proofs.YtceelfomgcbkiaaGreatDoor.C
open Go.RowKit

/-- The variable 'stands', as its text lays it. -/
def StAt (w : World) : Prop := ∀ j, j < 32 → w.cell? ⟨1, j, none⟩ = some (.int .i64 (stands.getD j 0))
theorem StAt.below {w w' : World} (h : StAt w) (hb : Below w.heap.size w w') : StAt w' := fun j hj =>
  (hb.cell (p := ⟨1, j, none⟩) (World.block_lt_of_cell? w _ (h j hj))).trans (h j hj)

theorem ret_str {a b : ByteArray} (h : a = b) : Ending.returned (.string a) = .returned (.string b) := by rw [h]
set_option maxHeartbeats 1600000 in
theorem numbered_any (n : Int) (w : World) (hT : StAt w) (h1 : -9223372036854775808 ≤ n) (h2 : n ≤ 9223372036854775807) :
    Calls Tryz.prog 94 #[.int .i64 n] w fun e w' => e = .returned (.string (numS n)) ∧ w = w' := by
  by_cases h0 : n = 0
  · subst h0
    have HF : Hid (encS 1114112 = numS 0) := Lib.hid (by rw [enc_beyond]; rfl)
    clear hT
    go_enter Tryz.func94, Tryz.ntmps94
    go_wp2_with (go_at_call 105; refine (encode_any _ _ (by omega) (by omega)).mono ?_; rintro e w' ⟨rfl, rfl⟩)
    go_ret
    exact ⟨ret_str HF.out, rfl⟩
  · have e0 : (n == 0) = false := by simpa using h0
    by_cases ha : 128 ≤ n
    · by_cases hb : n < 160
      · have hst := stands_bd (n - 128).toNat (by omega)
        have hc := hT (n - 128).toNat (by omega)
        have HF : Hid (encS (stands.getD (n - 128).toNat 0) = numS n) := Lib.hid (by unfold numS numI; rw [if_neg h0, if_pos ⟨ha, hb⟩])
        clear hT h0
        obtain ⟨s1, s2⟩ := hst
        generalize stands.getD (n - 128).toNat 0 = v at *
        go_enter Tryz.func94, Tryz.ntmps94
        go_wp2_with (go_at_call 105; refine (encode_any _ _ (by omega) (by omega)).mono ?_; rintro e w' ⟨rfl, rfl⟩)
        go_ret
        exact ⟨ret_str HF.out, rfl⟩
      · have HF : Hid (encS n = numS n) := Lib.hid (by unfold numS numI; rw [if_neg h0, if_neg (by omega)])
        clear hT h0
        go_enter Tryz.func94, Tryz.ntmps94
        go_wp2_with (go_at_call 105; refine (encode_any _ _ (by omega) (by omega)).mono ?_; rintro e w' ⟨rfl, rfl⟩)
        go_ret
        exact ⟨ret_str HF.out, rfl⟩
    · have HF : Hid (encS n = numS n) := Lib.hid (by unfold numS numI; rw [if_neg h0, if_neg (by omega)])
      clear hT h0
      go_enter Tryz.func94, Tryz.ntmps94
      go_wp2_with (go_at_call 105; refine (encode_any _ _ (by omega) (by omega)).mono ?_; rintro e w' ⟨rfl, rfl⟩)
      go_ret
      exact ⟨ret_str HF.out, rfl⟩

def fromV : Array Value := (fromT.map fun z => Value.int .i64 z).toArray
def toV : Array Value := (toT.map fun z => Value.int .i64 z).toArray
theorem fromT_len : fromT.length = 27 := by rfl
theorem toT_len : toT.length = 27 := by rfl
theorem fromV_at (k : Nat) (h : k < 27) : fromV[k]? = some (.int .i64 (fromT.getD k 0)) := by
  unfold fromV
  rw [List.getElem?_toArray, List.getElem?_map, List.getD, List.getElem?_eq_getElem (by rw [fromT_len]; exact h)]; rfl
theorem toV_at (k : Nat) (h : k < 27) : toV[k]? = some (.int .i64 (toT.getD k 0)) := by
  unfold toV
  rw [List.getElem?_toArray, List.getElem?_map, List.getD, List.getElem?_eq_getElem (by rw [toT_len]; exact h)]; rfl
theorem toT_bd : ∀ k, k < 27 → 0 ≤ toT.getD k 0 ∧ toT.getD k 0 ≤ 8482 := by decide
theorem fromT_bd : ∀ k, k < 27 → 128 ≤ fromT.getD k 0 ∧ fromT.getD k 0 ≤ 159 := by decide
def twoW (w : World) : World := (w.alloc (.cells fromV 3)).alloc (.cells toV 3)
theorem two_from (w : World) (k : Nat) (h : k < 27) : (twoW w).cell? ⟨w.heap.size, k, none⟩ = some (.int .i64 (fromT.getD k 0)) := by
  unfold twoW
  rw [World.cell?_alloc_lt _ _ _ (by simp), cell_of_row (w.alloc (.cells fromV 3)) w.heap.size k fromV 3 (0, 0) (heap_alloc_new w _)]
  exact fromV_at k h
theorem two_to (w : World) (k : Nat) (h : k < 27) : (twoW w).cell? ⟨w.heap.size + 1, k, none⟩ = some (.int .i64 (toT.getD k 0)) := by
  unfold twoW
  have := heap_alloc_new (w.alloc (.cells fromV 3)) (.cells toV 3)
  rw [show (w.alloc (.cells fromV 3)).heap.size = w.heap.size + 1 by simp] at this
  rw [cell_of_row _ (w.heap.size + 1) k toV 3 (0, 0) this]
  exact toV_at k h
theorem two_below (w : World) : Below w.heap.size w (twoW w) := ((Below.refl _ _).alloc (Nat.le_refl _) _).alloc (by simp) _

set_option maxHeartbeats 8000000 in
theorem rnumbered_any (n : Int) (w : World) (h1 : -9223372036854775808 ≤ n) (h2 : n ≤ 9223372036854775807) :
    Calls Tryz.prog 88 #[.int .i64 n] w fun e w' => e = .returned (.string (numS n)) ∧ Below w.heap.size w w' := by
  go_enter Tryz.func88, Tryz.ntmps88
  go_wp2_with fail
  have hW : ∀ W : World, W = twoW w → (∀ k, k < 27 → W.cell? ⟨w.heap.size, k, none⟩ = some (.int .i64 (fromT.getD k 0))) ∧ (∀ k, k < 27 → W.cell? ⟨w.heap.size + 1, k, none⟩ = some (.int .i64 (toT.getD k 0))) ∧ Below w.heap.size w W := by
    rintro W rfl; exact ⟨two_from w, two_to w, two_below w⟩
  generalize hw1 : (w.alloc _).alloc _ = w1
  have HW := Lib.hid (hW w1 (hw1.symm.trans rfl))
  clear hW hw1
  go_loop [5] (fun i => ∃ k : Nat, k ≤ 27 ∧ i = .int .i64 k ∧ ∀ j, j < k → fromT.getD j 0 ≠ n) (fun i => 27 - (intOf i).toNat)
  case atStart => exact ⟨0, Nat.zero_le _, rfl, fun _ h => absurd h (Nat.not_lt_zero _)⟩
  case round =>
    obtain ⟨k, hk, rfl, hall⟩ := hrel
    have HA := Lib.hid hall
    clear hall
    by_cases hlt : k < 27
    · have hf := HW.out.1 k hlt
      have ht := HW.out.2.1 k hlt
      have hh := numI_hit k hlt
      have hb := toT_bd k hlt
      have hb2 := fromT_bd k hlt
      have HK : Hid (fromT.getD k 0 = n → numI n = toT.getD k 0) := Lib.hid (fun e => by rw [← e]; exact hh)
      have HK2 : Hid (fromT.getD k 0 ≠ n → ∀ j, j < k + 1 → fromT.getD j 0 ≠ n) := Lib.hid (fun e j hj => by
        rcases Nat.lt_or_eq_of_le (Nat.le_of_lt_succ hj) with h | h
        · exact HA.out j h
        · subst h; exact e)
      clear hh
      obtain ⟨b1, b2⟩ := hb
      obtain ⟨b3, b4⟩ := hb2
      generalize fromT.getD k 0 = x at *
      generalize toT.getD k 0 = y at *
      by_cases q : x = n
      · have HF : Hid (encS y = numS n) := Lib.hid (by unfold numS; rw [HK.out q])
        have e1 : (x == n) = true := by simpa using q
        clear q
        go_wp2_with (go_at_call 90; refine (rencode_any _ _ (by omega) (by omega)).mono ?_; rintro e w' ⟨rfl, rfl⟩)
        go_ret
        exact ⟨ret_str HF.out, HW.out.2.2⟩
      · have HF := Lib.hid (HK2.out q)
        have e1 : (x == n) = false := by simpa using q
        clear q
        go_wp2
        go_round
        case rel => exact ⟨k + 1, by omega, by go_num, HF.out⟩
        case measure => simp [intOf]; omega
    · obtain rfl : k = 27 := by omega
      by_cases h0 : n = 0
      · subst h0
        go_wp2_with (go_at_call 90; refine (rencode_any _ _ (by omega) (by omega)).mono ?_; rintro e w' ⟨rfl, rfl⟩)
        go_ret
        exact ⟨rfl, HW.out.2.2⟩
      · have e0 : (n == 0) = false := by simpa using h0
        have HF : Hid (encS n = numS n) := Lib.hid (by unfold numS; rw [numI_miss n HA.out h0])
        clear h0
        go_wp2_with (go_at_call 90; refine (rencode_any _ _ (by omega) (by omega)).mono ?_; rintro e w' ⟨rfl, rfl⟩)
        go_ret
        exact ⟨ret_str HF.out, HW.out.2.2⟩
end Go.Proofs.YtceelfomgcbkiaaGreatDoor.C

/-
  The walk of readNumber.
-/
namespace Go.Proofs.YtceelfomgcbkiaaGreatDoor.C
open Go.RowKit

def RefPost (r : Ref) (w : World) (e : Ending) (w' : World) : Prop := e = .returned (.tuple #[.string r.1, .int .i64 r.2]) ∧ Below w.heap.size w w'
theorem ret_ref {r : Ref} {a : ByteArray} {n : Int} (h : a = r.1) (h2 : n = (r.2 : Int)) : Ending.returned (.tuple #[.string a, .int .i64 n]) = .returned (.tuple #[.string r.1, .int .i64 r.2]) := by rw [h, h2]
theorem ret_none {r : Ref} (h : r = noRef) : Ending.returned (.tuple #[.string ⟨#[]⟩, .int .i64 0]) = .returned (.tuple #[.string r.1, .int .i64 r.2]) := by rw [h]; rfl
theorem num_none {base m : Int} {f k : Nat} {l : List UInt8} (h : numG base 0 (l.drop f) = (m, k - f)) (hk : k = f) : rdNumB base f l = noRef := by
  unfold rdNumB; rw [h]; simp [hk]
theorem num_semi {base m : Int} {f k : Nat} {l : List UInt8} (h : numG base 0 (l.drop f) = (m, k - f)) (hk : f < k) (h9 : l[k]? = some 59) : rdNumB base f l = (numS m, k + 1) := by
  unfold rdNumB; rw [h]
  have e : f + (k - f) = k := by omega
  simp only [e, h9]
  rw [if_neg (by omega)]; simp
theorem num_bare {base m : Int} {f k : Nat} {l : List UInt8} (h : numG base 0 (l.drop f) = (m, k - f)) (hk : f < k) (h9 : l[k]? ≠ some 59) : rdNumB base f l = (numS m, k) := by
  unfold rdNumB; rw [h]
  have e : f + (k - f) = k := by omega
  simp only [e]
  rw [if_neg (by omega), if_neg h9]; simp
theorem num_end {base m : Int} {f k : Nat} {l : List UInt8} (h : numG base 0 (l.drop f) = ((numG base m (l.drop k)).1, (numG base m (l.drop k)).2 + (k - f))) (hk : l.length ≤ k) : numG base 0 (l.drop f) = (m, k - f) := by
  rw [h, List.drop_eq_nil_of_le hk]; simp [numG]
theorem num_stop {base m : Int} {f k : Nat} {s : ByteArray} (h : numG base 0 (s.data.toList.drop f) = ((numG base m (s.data.toList.drop k)).1, (numG base m (s.data.toList.drop k)).2 + (k - f))) (hk : k < s.size) (hd : dg base s[k] < 0) : numG base 0 (s.data.toList.drop f) = (m, k - f) := by
  rw [h, drop_at s k hk, numG_no _ _ _ _ hd]; simp
theorem num_step {base m : Int} {f k : Nat} {s : ByteArray} (h : numG base 0 (s.data.toList.drop f) = ((numG base m (s.data.toList.drop k)).1, (numG base m (s.data.toList.drop k)).2 + (k - f))) (hf : f ≤ k) (hk : k < s.size) (hd : ¬ dg base s[k] < 0) :
    numG base 0 (s.data.toList.drop f) = ((numG base (min (m * base + dg base s[k]) 1114112) (s.data.toList.drop (k + 1))).1, (numG base (min (m * base + dg base s[k]) 1114112) (s.data.toList.drop (k + 1))).2 + (k + 1 - f)) := by
  rw [h, drop_at s k hk, numG_yes _ _ _ _ hd]
  simp only [Prod.mk.injEq, true_and]; omega
theorem rd_dec {s : ByteArray} (h : ∀ h : 2 < s.size, s[2] ≠ 120 ∧ s[2] ≠ 88) : rdNum s.data.toList = rdNumB 10 2 s.data.toList := by
  unfold rdNum
  by_cases h2 : 2 < s.size
  · obtain ⟨ha, hb⟩ := h h2
    rw [get_at s 2 h2]
    rw [if_neg (by simp [ha, hb])]
  · rw [List.getElem?_eq_none (by rw [size_list]; omega)]
    simp
theorem rd_hex {s : ByteArray} (h2 : 2 < s.size) (h : s[2] = 120 ∨ s[2] = 88) : rdNum s.data.toList = rdNumB 16 3 s.data.toList := by
  unfold rdNum
  rw [get_at s 2 h2]
  rw [if_pos (by simpa using h)]
theorem byte_no {b c : UInt8} (z : Int) (hz : (c.toNat : Int) = z) (h : b ≠ c) : ((b.toNat : Int) == z) = false ∧ ((b.toNat : Int) != z) = true := by
  have : (b.toNat : Int) ≠ z := fun e => h (UInt8.toNat_inj.1 (by omega))
  exact ⟨by simpa using this, by simpa using this⟩
theorem byte_yes {b c : UInt8} (z : Int) (hz : (c.toNat : Int) = z) (h : b = c) : ((b.toNat : Int) == z) = true ∧ ((b.toNat : Int) != z) = false := by
  subst h; rw [hz]; simp

set_option maxHeartbeats 3200000 in
theorem numberS_any (s : ByteArray) (w : World) (hT : StAt w) (h0 : 2 ≤ s.size) (hs : s.size ≤ 1000000) (h2 : s.size ≤ 2) :
    Calls Tryz.prog 64 #[.string s] w (RefPost (rdNum s.data.toList) w) := by
  have HR := Lib.hid (rd_dec (fun h => absurd h (by omega)) : rdNum s.data.toList = rdNumB 10 2 s.data.toList)
  have HN : Hid (∀ (n : Int), -9223372036854775808 ≤ n → n ≤ 9223372036854775807 → Calls Tryz.prog 94 #[.int .i64 n] w fun e w2 => e = .returned (.string (numS n)) ∧ w = w2) := Lib.hid (fun n h1 h2 => numbered_any n w hT h1 h2)
  clear hT
  go_enter Tryz.func64, Tryz.ntmps64
  go_wp2
  go_loop [6, 7] (fun n i => ∃ (k : Nat) (m : Int), 2 ≤ k ∧ k ≤ s.size ∧ 0 ≤ m ∧ m ≤ 1114112 ∧ i = .int .i64 k ∧ n = .int .i64 m ∧ numG 10 0 (s.data.toList.drop 2) = ((numG 10 m (s.data.toList.drop k)).1, (numG 10 m (s.data.toList.drop k)).2 + (k - 2))) (fun _ i => s.size - (intOf i).toNat)
  case atStart => exact ⟨2, 0, Nat.le_refl _, by omega, by omega, by omega, rfl, rfl, by simp⟩
  case round =>
    obtain ⟨k, m, hk1, hk, hm0, hm1, rfl, rfl, hrel⟩ := hrel
    have HG := Lib.hid hrel
    clear hrel
    by_cases hgo : ∃ h : k < s.size, ¬ dg 10 s[k] < 0
    · obtain ⟨hlt, hd⟩ := hgo
      have HS := Lib.hid (num_step HG.out hk1 hlt hd)
      have hdb := dg_bd 10 s[k]
      obtain ⟨hd1, hd2⟩ := hdb
      have hd3 : 0 ≤ dg 10 s[k] := by omega
      have hc := s[k].toNat_lt
      by_cases hbig : m * 10 + dg 10 s[k] ≤ 1114112
      · have HM : Hid (min (m * 10 + dg 10 s[k]) 1114112 = m * 10 + dg 10 s[k]) := Lib.hid (Int.min_eq_left hbig)
        go_wp2_with (go_at_call 93; refine (dg_any _ _ _ (by omega) (by omega)).mono ?_; rintro e w2 ⟨rfl, rfl⟩)
        go_round
        case rel => exact ⟨k + 1, m * 10 + dg 10 s[k], by omega, by omega, by omega, by omega, by go_num, by go_num, by rw [← HM.out]; exact HS.out⟩
        case measure => simp [intOf]; omega
      · have HM : Hid (min (m * 10 + dg 10 s[k]) 1114112 = 1114112) := Lib.hid (Int.min_eq_right (by omega))
        go_wp2_with (go_at_call 93; refine (dg_any _ _ _ (by omega) (by omega)).mono ?_; rintro e w2 ⟨rfl, rfl⟩)
        go_round
        case rel => exact ⟨k + 1, 1114112, by omega, by omega, by omega, by omega, by go_num, by go_num, by rw [← HM.out]; exact HS.out⟩
        case measure => simp [intOf]; omega
    · have HE : Hid (numG 10 0 (s.data.toList.drop 2) = (m, k - 2)) := Lib.hid (by
        by_cases h : k < s.size
        · exact num_stop HG.out h (by
            by_cases h3 : dg 10 s[k] < 0
            · exact h3
            · exact absurd ⟨h, h3⟩ hgo)
        · exact num_end HG.out (by rw [size_list]; omega))
      have HD : Hid (∀ h : k < s.size, dg 10 s[k] = -1) := Lib.hid (fun h => by
        have := dg_bd 10 s[k]
        by_cases h3 : dg 10 s[k] < 0
        · omega
        · exact absurd ⟨h, h3⟩ hgo)
      clear hgo
      by_cases hlt : k < s.size
      · have hc := s[k].toNat_lt
        have hdm := HD.out hlt
        have HDG := Lib.hid (dg_any 10 s[k] w (by omega) (by omega))
        rw [hdm] at HDG
        clear hdm
        by_cases hkf : k = 2
        · have HF := Lib.hid (HR.out.trans (num_none HE.out hkf))
          have f1 : ((k : Int) == 2) = true := by subst hkf; rfl
          clear hkf
          go_wp2_with (go_at_call 93; refine HDG.out.mono ?_; rintro e w2 ⟨rfl, rfl⟩)
          go_ret2
          exact ⟨ret_none HF.out, Below.refl _ _⟩
        · have f1 : ((k : Int) == 2) = false := by
            rw [beq_eq_false_iff_ne]; omega
          have hkf' : 2 < k := by omega
          clear hkf
          by_cases h9 : s[k] = 59
          · have HF := Lib.hid (HR.out.trans (num_semi HE.out hkf' (by rw [get_at s k hlt, h9])))
            obtain ⟨q1, q2⟩ := byte_yes 59 rfl h9
            clear h9
            go_wp2_with (first | (go_at_call 93; refine HDG.out.mono ?_; rintro e w2 ⟨rfl, rfl⟩) | (go_at_call 94; refine (HN.out _ (by omega) (by omega)).mono ?_; rintro e w2 ⟨rfl, rfl⟩))
            go_ret2
            exact ⟨ret_ref (by rw [HF.out]) (by rw [HF.out]; go_num), Below.refl _ _⟩
          · have HF := Lib.hid (HR.out.trans (num_bare HE.out hkf' (by rw [get_at s k hlt]; simpa using h9)))
            obtain ⟨q1, q2⟩ := byte_no 59 rfl h9
            clear h9
            go_wp2_with (first | (go_at_call 93; refine HDG.out.mono ?_; rintro e w2 ⟨rfl, rfl⟩) | (go_at_call 94; refine (HN.out _ (by omega) (by omega)).mono ?_; rintro e w2 ⟨rfl, rfl⟩))
            go_ret2
            exact ⟨ret_ref (by rw [HF.out]) (by rw [HF.out]), Below.refl _ _⟩
      · have hke : k = s.size := by omega
        by_cases hkf : k = 2
        · have HF := Lib.hid (HR.out.trans (num_none HE.out hkf))
          have f1 : ((k : Int) == 2) = true := by subst hkf; rfl
          clear hkf hke
          go_wp2
          go_ret2
          exact ⟨ret_none HF.out, Below.refl _ _⟩
        · have f1 : ((k : Int) == 2) = false := by
            rw [beq_eq_false_iff_ne]; omega
          have hkf' : 2 < k := by omega
          have HF := Lib.hid (HR.out.trans (num_bare HE.out hkf' (by rw [List.getElem?_eq_none (by rw [size_list]; omega)]; simp)))
          clear hkf hke
          go_wp2_with (go_at_call 94; refine (HN.out _ (by omega) (by omega)).mono ?_; rintro e w2 ⟨rfl, rfl⟩)
          go_ret2
          exact ⟨ret_ref (by rw [HF.out]) (by rw [HF.out]), Below.refl _ _⟩

set_option maxHeartbeats 3200000 in
theorem numberD_any (s : ByteArray) (w : World) (hT : StAt w) (h0 : 2 ≤ s.size) (hs : s.size ≤ 1000000) (h2 : 2 < s.size) (hx : s[2] ≠ 120) (hX : s[2] ≠ 88) :
    Calls Tryz.prog 64 #[.string s] w (RefPost (rdNum s.data.toList) w) := by
  have HR := Lib.hid (rd_dec (fun _ => ⟨hx, hX⟩) : rdNum s.data.toList = rdNumB 10 2 s.data.toList)
  obtain ⟨e1, e2⟩ := byte_no 120 rfl hx
  obtain ⟨e3, e4⟩ := byte_no 88 rfl hX
  have HN : Hid (∀ (n : Int), -9223372036854775808 ≤ n → n ≤ 9223372036854775807 → Calls Tryz.prog 94 #[.int .i64 n] w fun e w2 => e = .returned (.string (numS n)) ∧ w = w2) := Lib.hid (fun n h1 h2 => numbered_any n w hT h1 h2)
  clear hT
  go_enter Tryz.func64, Tryz.ntmps64
  go_wp2
  go_loop [6, 7] (fun n i => ∃ (k : Nat) (m : Int), 2 ≤ k ∧ k ≤ s.size ∧ 0 ≤ m ∧ m ≤ 1114112 ∧ i = .int .i64 k ∧ n = .int .i64 m ∧ numG 10 0 (s.data.toList.drop 2) = ((numG 10 m (s.data.toList.drop k)).1, (numG 10 m (s.data.toList.drop k)).2 + (k - 2))) (fun _ i => s.size - (intOf i).toNat)
  case atStart => exact ⟨2, 0, Nat.le_refl _, by omega, by omega, by omega, rfl, rfl, by simp⟩
  case round =>
    obtain ⟨k, m, hk1, hk, hm0, hm1, rfl, rfl, hrel⟩ := hrel
    have HG := Lib.hid hrel
    clear hrel
    by_cases hgo : ∃ h : k < s.size, ¬ dg 10 s[k] < 0
    · obtain ⟨hlt, hd⟩ := hgo
      have HS := Lib.hid (num_step HG.out hk1 hlt hd)
      have hdb := dg_bd 10 s[k]
      obtain ⟨hd1, hd2⟩ := hdb
      have hd3 : 0 ≤ dg 10 s[k] := by omega
      have hc := s[k].toNat_lt
      by_cases hbig : m * 10 + dg 10 s[k] ≤ 1114112
      · have HM : Hid (min (m * 10 + dg 10 s[k]) 1114112 = m * 10 + dg 10 s[k]) := Lib.hid (Int.min_eq_left hbig)
        go_wp2_with (go_at_call 93; refine (dg_any _ _ _ (by omega) (by omega)).mono ?_; rintro e w2 ⟨rfl, rfl⟩)
        go_round
        case rel => exact ⟨k + 1, m * 10 + dg 10 s[k], by omega, by omega, by omega, by omega, by go_num, by go_num, by rw [← HM.out]; exact HS.out⟩
        case measure => simp [intOf]; omega
      · have HM : Hid (min (m * 10 + dg 10 s[k]) 1114112 = 1114112) := Lib.hid (Int.min_eq_right (by omega))
        go_wp2_with (go_at_call 93; refine (dg_any _ _ _ (by omega) (by omega)).mono ?_; rintro e w2 ⟨rfl, rfl⟩)
        go_round
        case rel => exact ⟨k + 1, 1114112, by omega, by omega, by omega, by omega, by go_num, by go_num, by rw [← HM.out]; exact HS.out⟩
        case measure => simp [intOf]; omega
    · have HE : Hid (numG 10 0 (s.data.toList.drop 2) = (m, k - 2)) := Lib.hid (by
        by_cases h : k < s.size
        · exact num_stop HG.out h (by
            by_cases h3 : dg 10 s[k] < 0
            · exact h3
            · exact absurd ⟨h, h3⟩ hgo)
        · exact num_end HG.out (by rw [size_list]; omega))
      have HD : Hid (∀ h : k < s.size, dg 10 s[k] = -1) := Lib.hid (fun h => by
        have := dg_bd 10 s[k]
        by_cases h3 : dg 10 s[k] < 0
        · omega
        · exact absurd ⟨h, h3⟩ hgo)
      clear hgo
      by_cases hlt : k < s.size
      · have hc := s[k].toNat_lt
        have hdm := HD.out hlt
        have HDG := Lib.hid (dg_any 10 s[k] w (by omega) (by omega))
        rw [hdm] at HDG
        clear hdm
        by_cases hkf : k = 2
        · have HF := Lib.hid (HR.out.trans (num_none HE.out hkf))
          have f1 : ((k : Int) == 2) = true := by subst hkf; rfl
          clear hkf
          go_wp2_with (go_at_call 93; refine HDG.out.mono ?_; rintro e w2 ⟨rfl, rfl⟩)
          go_ret2
          exact ⟨ret_none HF.out, Below.refl _ _⟩
        · have f1 : ((k : Int) == 2) = false := by
            rw [beq_eq_false_iff_ne]; omega
          have hkf' : 2 < k := by omega
          clear hkf
          by_cases h9 : s[k] = 59
          · have HF := Lib.hid (HR.out.trans (num_semi HE.out hkf' (by rw [get_at s k hlt, h9])))
            obtain ⟨q1, q2⟩ := byte_yes 59 rfl h9
            clear h9
            go_wp2_with (first | (go_at_call 93; refine HDG.out.mono ?_; rintro e w2 ⟨rfl, rfl⟩) | (go_at_call 94; refine (HN.out _ (by omega) (by omega)).mono ?_; rintro e w2 ⟨rfl, rfl⟩))
            go_ret2
            exact ⟨ret_ref (by rw [HF.out]) (by rw [HF.out]; go_num), Below.refl _ _⟩
          · have HF := Lib.hid (HR.out.trans (num_bare HE.out hkf' (by rw [get_at s k hlt]; simpa using h9)))
            obtain ⟨q1, q2⟩ := byte_no 59 rfl h9
            clear h9
            go_wp2_with (first | (go_at_call 93; refine HDG.out.mono ?_; rintro e w2 ⟨rfl, rfl⟩) | (go_at_call 94; refine (HN.out _ (by omega) (by omega)).mono ?_; rintro e w2 ⟨rfl, rfl⟩))
            go_ret2
            exact ⟨ret_ref (by rw [HF.out]) (by rw [HF.out]), Below.refl _ _⟩
      · have hke : k = s.size := by omega
        by_cases hkf : k = 2
        · have HF := Lib.hid (HR.out.trans (num_none HE.out hkf))
          have f1 : ((k : Int) == 2) = true := by subst hkf; rfl
          clear hkf hke
          go_wp2
          go_ret2
          exact ⟨ret_none HF.out, Below.refl _ _⟩
        · have f1 : ((k : Int) == 2) = false := by
            rw [beq_eq_false_iff_ne]; omega
          have hkf' : 2 < k := by omega
          have HF := Lib.hid (HR.out.trans (num_bare HE.out hkf' (by rw [List.getElem?_eq_none (by rw [size_list]; omega)]; simp)))
          clear hkf hke
          go_wp2_with (go_at_call 94; refine (HN.out _ (by omega) (by omega)).mono ?_; rintro e w2 ⟨rfl, rfl⟩)
          go_ret2
          exact ⟨ret_ref (by rw [HF.out]) (by rw [HF.out]), Below.refl _ _⟩

set_option maxHeartbeats 3200000 in
theorem numberx_any (s : ByteArray) (w : World) (hT : StAt w) (h0 : 2 ≤ s.size) (hs : s.size ≤ 1000000) (h2 : 2 < s.size) (hx : s[2] = 120) :
    Calls Tryz.prog 64 #[.string s] w (RefPost (rdNum s.data.toList) w) := by
  have HR := Lib.hid (rd_hex h2 (.inl hx) : rdNum s.data.toList = rdNumB 16 3 s.data.toList)
  obtain ⟨e1, e2⟩ := byte_yes 120 rfl hx
  have HN : Hid (∀ (n : Int), -9223372036854775808 ≤ n → n ≤ 9223372036854775807 → Calls Tryz.prog 94 #[.int .i64 n] w fun e w2 => e = .returned (.string (numS n)) ∧ w = w2) := Lib.hid (fun n h1 h2 => numbered_any n w hT h1 h2)
  clear hT
  go_enter Tryz.func64, Tryz.ntmps64
  go_wp2
  go_loop [6, 7] (fun n i => ∃ (k : Nat) (m : Int), 3 ≤ k ∧ k ≤ s.size ∧ 0 ≤ m ∧ m ≤ 1114112 ∧ i = .int .i64 k ∧ n = .int .i64 m ∧ numG 16 0 (s.data.toList.drop 3) = ((numG 16 m (s.data.toList.drop k)).1, (numG 16 m (s.data.toList.drop k)).2 + (k - 3))) (fun _ i => s.size - (intOf i).toNat)
  case atStart => exact ⟨3, 0, Nat.le_refl _, by omega, by omega, by omega, rfl, rfl, by simp⟩
  case round =>
    obtain ⟨k, m, hk1, hk, hm0, hm1, rfl, rfl, hrel⟩ := hrel
    have HG := Lib.hid hrel
    clear hrel
    by_cases hgo : ∃ h : k < s.size, ¬ dg 16 s[k] < 0
    · obtain ⟨hlt, hd⟩ := hgo
      have HS := Lib.hid (num_step HG.out hk1 hlt hd)
      have hdb := dg_bd 16 s[k]
      obtain ⟨hd1, hd2⟩ := hdb
      have hd3 : 0 ≤ dg 16 s[k] := by omega
      have hc := s[k].toNat_lt
      by_cases hbig : m * 16 + dg 16 s[k] ≤ 1114112
      · have HM : Hid (min (m * 16 + dg 16 s[k]) 1114112 = m * 16 + dg 16 s[k]) := Lib.hid (Int.min_eq_left hbig)
        go_wp2_with (go_at_call 93; refine (dg_any _ _ _ (by omega) (by omega)).mono ?_; rintro e w2 ⟨rfl, rfl⟩)
        go_round
        case rel => exact ⟨k + 1, m * 16 + dg 16 s[k], by omega, by omega, by omega, by omega, by go_num, by go_num, by rw [← HM.out]; exact HS.out⟩
        case measure => simp [intOf]; omega
      · have HM : Hid (min (m * 16 + dg 16 s[k]) 1114112 = 1114112) := Lib.hid (Int.min_eq_right (by omega))
        go_wp2_with (go_at_call 93; refine (dg_any _ _ _ (by omega) (by omega)).mono ?_; rintro e w2 ⟨rfl, rfl⟩)
        go_round
        case rel => exact ⟨k + 1, 1114112, by omega, by omega, by omega, by omega, by go_num, by go_num, by rw [← HM.out]; exact HS.out⟩
        case measure => simp [intOf]; omega
    · have HE : Hid (numG 16 0 (s.data.toList.drop 3) = (m, k - 3)) := Lib.hid (by
        by_cases h : k < s.size
        · exact num_stop HG.out h (by
            by_cases h3 : dg 16 s[k] < 0
            · exact h3
            · exact absurd ⟨h, h3⟩ hgo)
        · exact num_end HG.out (by rw [size_list]; omega))
      have HD : Hid (∀ h : k < s.size, dg 16 s[k] = -1) := Lib.hid (fun h => by
        have := dg_bd 16 s[k]
        by_cases h3 : dg 16 s[k] < 0
        · omega
        · exact absurd ⟨h, h3⟩ hgo)
      clear hgo
      by_cases hlt : k < s.size
      · have hc := s[k].toNat_lt
        have hdm := HD.out hlt
        have HDG := Lib.hid (dg_any 16 s[k] w (by omega) (by omega))
        rw [hdm] at HDG
        clear hdm
        by_cases hkf : k = 3
        · have HF := Lib.hid (HR.out.trans (num_none HE.out hkf))
          have f1 : ((k : Int) == 3) = true := by subst hkf; rfl
          clear hkf
          go_wp2_with (go_at_call 93; refine HDG.out.mono ?_; rintro e w2 ⟨rfl, rfl⟩)
          go_ret2
          exact ⟨ret_none HF.out, Below.refl _ _⟩
        · have f1 : ((k : Int) == 3) = false := by
            rw [beq_eq_false_iff_ne]; omega
          have hkf' : 3 < k := by omega
          clear hkf
          by_cases h9 : s[k] = 59
          · have HF := Lib.hid (HR.out.trans (num_semi HE.out hkf' (by rw [get_at s k hlt, h9])))
            obtain ⟨q1, q2⟩ := byte_yes 59 rfl h9
            clear h9
            go_wp2_with (first | (go_at_call 93; refine HDG.out.mono ?_; rintro e w2 ⟨rfl, rfl⟩) | (go_at_call 94; refine (HN.out _ (by omega) (by omega)).mono ?_; rintro e w2 ⟨rfl, rfl⟩))
            go_ret2
            exact ⟨ret_ref (by rw [HF.out]) (by rw [HF.out]; go_num), Below.refl _ _⟩
          · have HF := Lib.hid (HR.out.trans (num_bare HE.out hkf' (by rw [get_at s k hlt]; simpa using h9)))
            obtain ⟨q1, q2⟩ := byte_no 59 rfl h9
            clear h9
            go_wp2_with (first | (go_at_call 93; refine HDG.out.mono ?_; rintro e w2 ⟨rfl, rfl⟩) | (go_at_call 94; refine (HN.out _ (by omega) (by omega)).mono ?_; rintro e w2 ⟨rfl, rfl⟩))
            go_ret2
            exact ⟨ret_ref (by rw [HF.out]) (by rw [HF.out]), Below.refl _ _⟩
      · have hke : k = s.size := by omega
        by_cases hkf : k = 3
        · have HF := Lib.hid (HR.out.trans (num_none HE.out hkf))
          have f1 : ((k : Int) == 3) = true := by subst hkf; rfl
          clear hkf hke
          go_wp2
          go_ret2
          exact ⟨ret_none HF.out, Below.refl _ _⟩
        · have f1 : ((k : Int) == 3) = false := by
            rw [beq_eq_false_iff_ne]; omega
          have hkf' : 3 < k := by omega
          have HF := Lib.hid (HR.out.trans (num_bare HE.out hkf' (by rw [List.getElem?_eq_none (by rw [size_list]; omega)]; simp)))
          clear hkf hke
          go_wp2_with (go_at_call 94; refine (HN.out _ (by omega) (by omega)).mono ?_; rintro e w2 ⟨rfl, rfl⟩)
          go_ret2
          exact ⟨ret_ref (by rw [HF.out]) (by rw [HF.out]), Below.refl _ _⟩

set_option maxHeartbeats 3200000 in
theorem numberX_any (s : ByteArray) (w : World) (hT : StAt w) (h0 : 2 ≤ s.size) (hs : s.size ≤ 1000000) (h2 : 2 < s.size) (hx : s[2] ≠ 120) (hX : s[2] = 88) :
    Calls Tryz.prog 64 #[.string s] w (RefPost (rdNum s.data.toList) w) := by
  have HR := Lib.hid (rd_hex h2 (.inr hX) : rdNum s.data.toList = rdNumB 16 3 s.data.toList)
  obtain ⟨e1, e2⟩ := byte_no 120 rfl hx
  obtain ⟨e3, e4⟩ := byte_yes 88 rfl hX
  have HN : Hid (∀ (n : Int), -9223372036854775808 ≤ n → n ≤ 9223372036854775807 → Calls Tryz.prog 94 #[.int .i64 n] w fun e w2 => e = .returned (.string (numS n)) ∧ w = w2) := Lib.hid (fun n h1 h2 => numbered_any n w hT h1 h2)
  clear hT
  go_enter Tryz.func64, Tryz.ntmps64
  go_wp2
  go_loop [6, 7] (fun n i => ∃ (k : Nat) (m : Int), 3 ≤ k ∧ k ≤ s.size ∧ 0 ≤ m ∧ m ≤ 1114112 ∧ i = .int .i64 k ∧ n = .int .i64 m ∧ numG 16 0 (s.data.toList.drop 3) = ((numG 16 m (s.data.toList.drop k)).1, (numG 16 m (s.data.toList.drop k)).2 + (k - 3))) (fun _ i => s.size - (intOf i).toNat)
  case atStart => exact ⟨3, 0, Nat.le_refl _, by omega, by omega, by omega, rfl, rfl, by simp⟩
  case round =>
    obtain ⟨k, m, hk1, hk, hm0, hm1, rfl, rfl, hrel⟩ := hrel
    have HG := Lib.hid hrel
    clear hrel
    by_cases hgo : ∃ h : k < s.size, ¬ dg 16 s[k] < 0
    · obtain ⟨hlt, hd⟩ := hgo
      have HS := Lib.hid (num_step HG.out hk1 hlt hd)
      have hdb := dg_bd 16 s[k]
      obtain ⟨hd1, hd2⟩ := hdb
      have hd3 : 0 ≤ dg 16 s[k] := by omega
      have hc := s[k].toNat_lt
      by_cases hbig : m * 16 + dg 16 s[k] ≤ 1114112
      · have HM : Hid (min (m * 16 + dg 16 s[k]) 1114112 = m * 16 + dg 16 s[k]) := Lib.hid (Int.min_eq_left hbig)
        go_wp2_with (go_at_call 93; refine (dg_any _ _ _ (by omega) (by omega)).mono ?_; rintro e w2 ⟨rfl, rfl⟩)
        go_round
        case rel => exact ⟨k + 1, m * 16 + dg 16 s[k], by omega, by omega, by omega, by omega, by go_num, by go_num, by rw [← HM.out]; exact HS.out⟩
        case measure => simp [intOf]; omega
      · have HM : Hid (min (m * 16 + dg 16 s[k]) 1114112 = 1114112) := Lib.hid (Int.min_eq_right (by omega))
        go_wp2_with (go_at_call 93; refine (dg_any _ _ _ (by omega) (by omega)).mono ?_; rintro e w2 ⟨rfl, rfl⟩)
        go_round
        case rel => exact ⟨k + 1, 1114112, by omega, by omega, by omega, by omega, by go_num, by go_num, by rw [← HM.out]; exact HS.out⟩
        case measure => simp [intOf]; omega
    · have HE : Hid (numG 16 0 (s.data.toList.drop 3) = (m, k - 3)) := Lib.hid (by
        by_cases h : k < s.size
        · exact num_stop HG.out h (by
            by_cases h3 : dg 16 s[k] < 0
            · exact h3
            · exact absurd ⟨h, h3⟩ hgo)
        · exact num_end HG.out (by rw [size_list]; omega))
      have HD : Hid (∀ h : k < s.size, dg 16 s[k] = -1) := Lib.hid (fun h => by
        have := dg_bd 16 s[k]
        by_cases h3 : dg 16 s[k] < 0
        · omega
        · exact absurd ⟨h, h3⟩ hgo)
      clear hgo
      by_cases hlt : k < s.size
      · have hc := s[k].toNat_lt
        have hdm := HD.out hlt
        have HDG := Lib.hid (dg_any 16 s[k] w (by omega) (by omega))
        rw [hdm] at HDG
        clear hdm
        by_cases hkf : k = 3
        · have HF := Lib.hid (HR.out.trans (num_none HE.out hkf))
          have f1 : ((k : Int) == 3) = true := by subst hkf; rfl
          clear hkf
          go_wp2_with (go_at_call 93; refine HDG.out.mono ?_; rintro e w2 ⟨rfl, rfl⟩)
          go_ret2
          exact ⟨ret_none HF.out, Below.refl _ _⟩
        · have f1 : ((k : Int) == 3) = false := by
            rw [beq_eq_false_iff_ne]; omega
          have hkf' : 3 < k := by omega
          clear hkf
          by_cases h9 : s[k] = 59
          · have HF := Lib.hid (HR.out.trans (num_semi HE.out hkf' (by rw [get_at s k hlt, h9])))
            obtain ⟨q1, q2⟩ := byte_yes 59 rfl h9
            clear h9
            go_wp2_with (first | (go_at_call 93; refine HDG.out.mono ?_; rintro e w2 ⟨rfl, rfl⟩) | (go_at_call 94; refine (HN.out _ (by omega) (by omega)).mono ?_; rintro e w2 ⟨rfl, rfl⟩))
            go_ret2
            exact ⟨ret_ref (by rw [HF.out]) (by rw [HF.out]; go_num), Below.refl _ _⟩
          · have HF := Lib.hid (HR.out.trans (num_bare HE.out hkf' (by rw [get_at s k hlt]; simpa using h9)))
            obtain ⟨q1, q2⟩ := byte_no 59 rfl h9
            clear h9
            go_wp2_with (first | (go_at_call 93; refine HDG.out.mono ?_; rintro e w2 ⟨rfl, rfl⟩) | (go_at_call 94; refine (HN.out _ (by omega) (by omega)).mono ?_; rintro e w2 ⟨rfl, rfl⟩))
            go_ret2
            exact ⟨ret_ref (by rw [HF.out]) (by rw [HF.out]), Below.refl _ _⟩
      · have hke : k = s.size := by omega
        by_cases hkf : k = 3
        · have HF := Lib.hid (HR.out.trans (num_none HE.out hkf))
          have f1 : ((k : Int) == 3) = true := by subst hkf; rfl
          clear hkf hke
          go_wp2
          go_ret2
          exact ⟨ret_none HF.out, Below.refl _ _⟩
        · have f1 : ((k : Int) == 3) = false := by
            rw [beq_eq_false_iff_ne]; omega
          have hkf' : 3 < k := by omega
          have HF := Lib.hid (HR.out.trans (num_bare HE.out hkf' (by rw [List.getElem?_eq_none (by rw [size_list]; omega)]; simp)))
          clear hkf hke
          go_wp2_with (go_at_call 94; refine (HN.out _ (by omega) (by omega)).mono ?_; rintro e w2 ⟨rfl, rfl⟩)
          go_ret2
          exact ⟨ret_ref (by rw [HF.out]) (by rw [HF.out]), Below.refl _ _⟩

theorem number_any (s : ByteArray) (w : World) (hT : StAt w) (h0 : 2 ≤ s.size) (hs : s.size ≤ 1000000) :
    Calls Tryz.prog 64 #[.string s] w (RefPost (rdNum s.data.toList) w) := by
  by_cases h2 : s.size ≤ 2
  · exact numberS_any s w hT h0 hs h2
  · by_cases hx : (s[2]'(by omega)) = 120
    · exact numberx_any s w hT h0 hs (by omega) hx
    · by_cases hX : (s[2]'(by omega)) = 88
      · exact numberX_any s w hT h0 hs (by omega) hx hX
      · exact numberD_any s w hT h0 hs (by omega) hx hX
end Go.Proofs.YtceelfomgcbkiaaGreatDoor.C

/-
  The walk of the document's number.
-/
namespace Go.Proofs.YtceelfomgcbkiaaGreatDoor.C
open Go.RowKit

set_option maxHeartbeats 3200000 in
theorem rnumberS_any (s : ByteArray) (w : World) (h0 : 2 ≤ s.size) (hs : s.size ≤ 1000000) (h2 : s.size ≤ 2) :
    Calls Tryz.prog 58 #[.string s] w (RefPost (rdNum s.data.toList) w) := by
  have HR := Lib.hid (rd_dec (fun h => absurd h (by omega)) : rdNum s.data.toList = rdNumB 10 2 s.data.toList)
  go_enter Tryz.func58, Tryz.ntmps58
  go_wp2
  go_loop [4, 6] (fun i n => ∃ (k : Nat) (m : Int), 2 ≤ k ∧ k ≤ s.size ∧ 0 ≤ m ∧ m ≤ 1114112 ∧ i = .int .i64 k ∧ n = .int .i64 m ∧ numG 10 0 (s.data.toList.drop 2) = ((numG 10 m (s.data.toList.drop k)).1, (numG 10 m (s.data.toList.drop k)).2 + (k - 2))) (fun i _ => s.size - (intOf i).toNat)
  case atStart => exact ⟨2, 0, Nat.le_refl _, by omega, by omega, by omega, rfl, rfl, by simp⟩
  case round =>
    obtain ⟨k, m, hk1, hk, hm0, hm1, rfl, rfl, hrel⟩ := hrel
    have HG := Lib.hid hrel
    clear hrel
    by_cases hgo : ∃ h : k < s.size, ¬ dg 10 s[k] < 0
    · obtain ⟨hlt, hd⟩ := hgo
      exfalso; omega
    · have HE : Hid (numG 10 0 (s.data.toList.drop 2) = (m, k - 2)) := Lib.hid (by
        by_cases h : k < s.size
        · exact num_stop HG.out h (by
            by_cases h3 : dg 10 s[k] < 0
            · exact h3
            · exact absurd ⟨h, h3⟩ hgo)
        · exact num_end HG.out (by rw [size_list]; omega))
      have HD : Hid (∀ h : k < s.size, dg 10 s[k] = -1) := Lib.hid (fun h => by
        have := dg_bd 10 s[k]
        by_cases h3 : dg 10 s[k] < 0
        · omega
        · exact absurd ⟨h, h3⟩ hgo)
      clear hgo
      by_cases hlt : k < s.size
      · exfalso; omega
      · have hke : k = s.size := by omega
        by_cases hkf : k = 2
        · have HF := Lib.hid (HR.out.trans (num_none HE.out hkf))
          have f1 : ((k : Int) == 2) = true := by subst hkf; rfl
          clear hkf hke
          go_wp2
          go_ret2
          exact ⟨ret_none HF.out, Below.refl _ _⟩
        · have f1 : ((k : Int) == 2) = false := by
            rw [beq_eq_false_iff_ne]; omega
          have hkf' : 2 < k := by omega
          have HF := Lib.hid (HR.out.trans (num_bare HE.out hkf' (by rw [List.getElem?_eq_none (by rw [size_list]; omega)]; simp)))
          clear hkf hke
          go_wp2_with fail
          refine (rnumbered_any m _ (by omega) (by omega)).mono ?_
          rintro e w3 ⟨rfl, hb⟩
          have HB3 := Lib.hid hb
          clear hb
          go_wp2
          go_ret2
          exact ⟨ret_ref (by rw [HF.out]) (by rw [HF.out]), HB3.out⟩

set_option maxHeartbeats 3200000 in
theorem rnumberD_any (s : ByteArray) (w : World) (h0 : 2 ≤ s.size) (hs : s.size ≤ 1000000) (h2 : 2 < s.size) (hx : s[2] ≠ 120) (hX : s[2] ≠ 88) :
    Calls Tryz.prog 58 #[.string s] w (RefPost (rdNum s.data.toList) w) := by
  have HR := Lib.hid (rd_dec (fun _ => ⟨hx, hX⟩) : rdNum s.data.toList = rdNumB 10 2 s.data.toList)
  obtain ⟨e1, e2⟩ := byte_no 120 rfl hx
  obtain ⟨e3, e4⟩ := byte_no 88 rfl hX
  go_enter Tryz.func58, Tryz.ntmps58
  go_wp2
  go_loop [4, 6] (fun i n => ∃ (k : Nat) (m : Int), 2 ≤ k ∧ k ≤ s.size ∧ 0 ≤ m ∧ m ≤ 1114112 ∧ i = .int .i64 k ∧ n = .int .i64 m ∧ numG 10 0 (s.data.toList.drop 2) = ((numG 10 m (s.data.toList.drop k)).1, (numG 10 m (s.data.toList.drop k)).2 + (k - 2))) (fun i _ => s.size - (intOf i).toNat)
  case atStart => exact ⟨2, 0, Nat.le_refl _, by omega, by omega, by omega, rfl, rfl, by simp⟩
  case round =>
    obtain ⟨k, m, hk1, hk, hm0, hm1, rfl, rfl, hrel⟩ := hrel
    have HG := Lib.hid hrel
    clear hrel
    by_cases hgo : ∃ h : k < s.size, ¬ dg 10 s[k] < 0
    · obtain ⟨hlt, hd⟩ := hgo
      have HS := Lib.hid (num_step HG.out hk1 hlt hd)
      have hdb := dg_bd 10 s[k]
      have hxb : hxI (s[k].toNat : Int) < 10 := by unfold dg at hd; split at hd <;> omega
      have hxe : dg 10 s[k] = hxI (s[k].toNat : Int) := by unfold dg; rw [if_pos hxb]
      rw [hxe] at HS hdb hd
      clear hxe
      obtain ⟨hd1, hd2⟩ := hdb
      have hd3 : 0 ≤ hxI (s[k].toNat : Int) := by omega
      have hc := s[k].toNat_lt
      by_cases hbig : m * 10 + hxI (s[k].toNat : Int) ≤ 1114112
      · have HM : Hid (min (m * 10 + hxI (s[k].toNat : Int)) 1114112 = m * 10 + hxI (s[k].toNat : Int)) := Lib.hid (Int.min_eq_left hbig)
        go_wp2_with (go_at_call 87; refine (rhex_any _ _ (by omega) (by omega)).mono ?_; rintro e w2 ⟨rfl, rfl⟩)
        go_round
        case rel => exact ⟨k + 1, m * 10 + hxI (s[k].toNat : Int), by omega, by omega, by omega, by omega, by go_num, by go_num, by rw [← HM.out]; exact HS.out⟩
        case measure => simp [intOf]; omega
      · have HM : Hid (min (m * 10 + hxI (s[k].toNat : Int)) 1114112 = 1114112) := Lib.hid (Int.min_eq_right (by omega))
        go_wp2_with (go_at_call 87; refine (rhex_any _ _ (by omega) (by omega)).mono ?_; rintro e w2 ⟨rfl, rfl⟩)
        go_round
        case rel => exact ⟨k + 1, 1114112, by omega, by omega, by omega, by omega, by go_num, by go_num, by rw [← HM.out]; exact HS.out⟩
        case measure => simp [intOf]; omega
    · have HE : Hid (numG 10 0 (s.data.toList.drop 2) = (m, k - 2)) := Lib.hid (by
        by_cases h : k < s.size
        · exact num_stop HG.out h (by
            by_cases h3 : dg 10 s[k] < 0
            · exact h3
            · exact absurd ⟨h, h3⟩ hgo)
        · exact num_end HG.out (by rw [size_list]; omega))
      have HD : Hid (∀ h : k < s.size, dg 10 s[k] = -1) := Lib.hid (fun h => by
        have := dg_bd 10 s[k]
        by_cases h3 : dg 10 s[k] < 0
        · omega
        · exact absurd ⟨h, h3⟩ hgo)
      clear hgo
      by_cases hlt : k < s.size
      · have hc := s[k].toNat_lt
        have hdm := HD.out hlt
        have hcase : hxI (s[k].toNat : Int) < 0 ∨ 10 ≤ hxI (s[k].toNat : Int) := by unfold dg at hdm; split at hdm <;> omega
        clear hdm
        rcases hcase with hneg | hneg
        all_goals
          by_cases hkf : k = 2
          · have HF := Lib.hid (HR.out.trans (num_none HE.out hkf))
            have f1 : ((k : Int) == 2) = true := by subst hkf; rfl
            clear hkf
            go_wp2_with (go_at_call 87; refine (rhex_any _ _ (by omega) (by omega)).mono ?_; rintro e w2 ⟨rfl, rfl⟩)
            go_ret2
            exact ⟨ret_none HF.out, Below.refl _ _⟩
          · have f1 : ((k : Int) == 2) = false := by
              rw [beq_eq_false_iff_ne]; omega
            have hkf' : 2 < k := by omega
            clear hkf
            by_cases h9 : s[k] = 59
            · have HF := Lib.hid (HR.out.trans (num_semi HE.out hkf' (by rw [get_at s k hlt, h9])))
              obtain ⟨q1, q2⟩ := byte_yes 59 rfl h9
              clear h9
              go_wp2_with (go_at_call 87; refine (rhex_any _ _ (by omega) (by omega)).mono ?_; rintro e w2 ⟨rfl, rfl⟩)
              refine (rnumbered_any m _ (by omega) (by omega)).mono ?_
              rintro e w3 ⟨rfl, hb⟩
              have HB3 := Lib.hid hb
              clear hb
              go_wp2
              go_ret2
              exact ⟨ret_ref (by rw [HF.out]) (by rw [HF.out]; go_num), HB3.out⟩
            · have HF := Lib.hid (HR.out.trans (num_bare HE.out hkf' (by rw [get_at s k hlt]; simpa using h9)))
              obtain ⟨q1, q2⟩ := byte_no 59 rfl h9
              clear h9
              go_wp2_with (go_at_call 87; refine (rhex_any _ _ (by omega) (by omega)).mono ?_; rintro e w2 ⟨rfl, rfl⟩)
              refine (rnumbered_any m _ (by omega) (by omega)).mono ?_
              rintro e w3 ⟨rfl, hb⟩
              have HB3 := Lib.hid hb
              clear hb
              go_wp2
              go_ret2
              exact ⟨ret_ref (by rw [HF.out]) (by rw [HF.out]), HB3.out⟩
      · have hke : k = s.size := by omega
        by_cases hkf : k = 2
        · have HF := Lib.hid (HR.out.trans (num_none HE.out hkf))
          have f1 : ((k : Int) == 2) = true := by subst hkf; rfl
          clear hkf hke
          go_wp2
          go_ret2
          exact ⟨ret_none HF.out, Below.refl _ _⟩
        · have f1 : ((k : Int) == 2) = false := by
            rw [beq_eq_false_iff_ne]; omega
          have hkf' : 2 < k := by omega
          have HF := Lib.hid (HR.out.trans (num_bare HE.out hkf' (by rw [List.getElem?_eq_none (by rw [size_list]; omega)]; simp)))
          clear hkf hke
          go_wp2_with fail
          refine (rnumbered_any m _ (by omega) (by omega)).mono ?_
          rintro e w3 ⟨rfl, hb⟩
          have HB3 := Lib.hid hb
          clear hb
          go_wp2
          go_ret2
          exact ⟨ret_ref (by rw [HF.out]) (by rw [HF.out]), HB3.out⟩

set_option maxHeartbeats 3200000 in
theorem rnumberx_any (s : ByteArray) (w : World) (h0 : 2 ≤ s.size) (hs : s.size ≤ 1000000) (h2 : 2 < s.size) (hx : s[2] = 120) :
    Calls Tryz.prog 58 #[.string s] w (RefPost (rdNum s.data.toList) w) := by
  have HR := Lib.hid (rd_hex h2 (.inl hx) : rdNum s.data.toList = rdNumB 16 3 s.data.toList)
  obtain ⟨e1, e2⟩ := byte_yes 120 rfl hx
  go_enter Tryz.func58, Tryz.ntmps58
  go_wp2
  go_loop [4, 6] (fun i n => ∃ (k : Nat) (m : Int), 3 ≤ k ∧ k ≤ s.size ∧ 0 ≤ m ∧ m ≤ 1114112 ∧ i = .int .i64 k ∧ n = .int .i64 m ∧ numG 16 0 (s.data.toList.drop 3) = ((numG 16 m (s.data.toList.drop k)).1, (numG 16 m (s.data.toList.drop k)).2 + (k - 3))) (fun i _ => s.size - (intOf i).toNat)
  case atStart => exact ⟨3, 0, Nat.le_refl _, by omega, by omega, by omega, rfl, rfl, by simp⟩
  case round =>
    obtain ⟨k, m, hk1, hk, hm0, hm1, rfl, rfl, hrel⟩ := hrel
    have HG := Lib.hid hrel
    clear hrel
    by_cases hgo : ∃ h : k < s.size, ¬ dg 16 s[k] < 0
    · obtain ⟨hlt, hd⟩ := hgo
      have HS := Lib.hid (num_step HG.out hk1 hlt hd)
      have hdb := dg_bd 16 s[k]
      have hxb : hxI (s[k].toNat : Int) < 16 := by unfold dg at hd; split at hd <;> omega
      have hxe : dg 16 s[k] = hxI (s[k].toNat : Int) := by unfold dg; rw [if_pos hxb]
      rw [hxe] at HS hdb hd
      clear hxe
      obtain ⟨hd1, hd2⟩ := hdb
      have hd3 : 0 ≤ hxI (s[k].toNat : Int) := by omega
      have hc := s[k].toNat_lt
      by_cases hbig : m * 16 + hxI (s[k].toNat : Int) ≤ 1114112
      · have HM : Hid (min (m * 16 + hxI (s[k].toNat : Int)) 1114112 = m * 16 + hxI (s[k].toNat : Int)) := Lib.hid (Int.min_eq_left hbig)
        go_wp2_with (go_at_call 87; refine (rhex_any _ _ (by omega) (by omega)).mono ?_; rintro e w2 ⟨rfl, rfl⟩)
        go_round
        case rel => exact ⟨k + 1, m * 16 + hxI (s[k].toNat : Int), by omega, by omega, by omega, by omega, by go_num, by go_num, by rw [← HM.out]; exact HS.out⟩
        case measure => simp [intOf]; omega
      · have HM : Hid (min (m * 16 + hxI (s[k].toNat : Int)) 1114112 = 1114112) := Lib.hid (Int.min_eq_right (by omega))
        go_wp2_with (go_at_call 87; refine (rhex_any _ _ (by omega) (by omega)).mono ?_; rintro e w2 ⟨rfl, rfl⟩)
        go_round
        case rel => exact ⟨k + 1, 1114112, by omega, by omega, by omega, by omega, by go_num, by go_num, by rw [← HM.out]; exact HS.out⟩
        case measure => simp [intOf]; omega
    · have HE : Hid (numG 16 0 (s.data.toList.drop 3) = (m, k - 3)) := Lib.hid (by
        by_cases h : k < s.size
        · exact num_stop HG.out h (by
            by_cases h3 : dg 16 s[k] < 0
            · exact h3
            · exact absurd ⟨h, h3⟩ hgo)
        · exact num_end HG.out (by rw [size_list]; omega))
      have HD : Hid (∀ h : k < s.size, dg 16 s[k] = -1) := Lib.hid (fun h => by
        have := dg_bd 16 s[k]
        by_cases h3 : dg 16 s[k] < 0
        · omega
        · exact absurd ⟨h, h3⟩ hgo)
      clear hgo
      by_cases hlt : k < s.size
      · have hc := s[k].toNat_lt
        have hdm := HD.out hlt
        have hcase : hxI (s[k].toNat : Int) < 0 ∨ 16 ≤ hxI (s[k].toNat : Int) := by unfold dg at hdm; split at hdm <;> omega
        clear hdm
        rcases hcase with hneg | hneg
        all_goals
          by_cases hkf : k = 3
          · have HF := Lib.hid (HR.out.trans (num_none HE.out hkf))
            have f1 : ((k : Int) == 3) = true := by subst hkf; rfl
            clear hkf
            go_wp2_with (go_at_call 87; refine (rhex_any _ _ (by omega) (by omega)).mono ?_; rintro e w2 ⟨rfl, rfl⟩)
            go_ret2
            exact ⟨ret_none HF.out, Below.refl _ _⟩
          · have f1 : ((k : Int) == 3) = false := by
              rw [beq_eq_false_iff_ne]; omega
            have hkf' : 3 < k := by omega
            clear hkf
            by_cases h9 : s[k] = 59
            · have HF := Lib.hid (HR.out.trans (num_semi HE.out hkf' (by rw [get_at s k hlt, h9])))
              obtain ⟨q1, q2⟩ := byte_yes 59 rfl h9
              clear h9
              go_wp2_with (go_at_call 87; refine (rhex_any _ _ (by omega) (by omega)).mono ?_; rintro e w2 ⟨rfl, rfl⟩)
              refine (rnumbered_any m _ (by omega) (by omega)).mono ?_
              rintro e w3 ⟨rfl, hb⟩
              have HB3 := Lib.hid hb
              clear hb
              go_wp2
              go_ret2
              exact ⟨ret_ref (by rw [HF.out]) (by rw [HF.out]; go_num), HB3.out⟩
            · have HF := Lib.hid (HR.out.trans (num_bare HE.out hkf' (by rw [get_at s k hlt]; simpa using h9)))
              obtain ⟨q1, q2⟩ := byte_no 59 rfl h9
              clear h9
              go_wp2_with (go_at_call 87; refine (rhex_any _ _ (by omega) (by omega)).mono ?_; rintro e w2 ⟨rfl, rfl⟩)
              refine (rnumbered_any m _ (by omega) (by omega)).mono ?_
              rintro e w3 ⟨rfl, hb⟩
              have HB3 := Lib.hid hb
              clear hb
              go_wp2
              go_ret2
              exact ⟨ret_ref (by rw [HF.out]) (by rw [HF.out]), HB3.out⟩
      · have hke : k = s.size := by omega
        by_cases hkf : k = 3
        · have HF := Lib.hid (HR.out.trans (num_none HE.out hkf))
          have f1 : ((k : Int) == 3) = true := by subst hkf; rfl
          clear hkf hke
          go_wp2
          go_ret2
          exact ⟨ret_none HF.out, Below.refl _ _⟩
        · have f1 : ((k : Int) == 3) = false := by
            rw [beq_eq_false_iff_ne]; omega
          have hkf' : 3 < k := by omega
          have HF := Lib.hid (HR.out.trans (num_bare HE.out hkf' (by rw [List.getElem?_eq_none (by rw [size_list]; omega)]; simp)))
          clear hkf hke
          go_wp2_with fail
          refine (rnumbered_any m _ (by omega) (by omega)).mono ?_
          rintro e w3 ⟨rfl, hb⟩
          have HB3 := Lib.hid hb
          clear hb
          go_wp2
          go_ret2
          exact ⟨ret_ref (by rw [HF.out]) (by rw [HF.out]), HB3.out⟩

set_option maxHeartbeats 3200000 in
theorem rnumberX_any (s : ByteArray) (w : World) (h0 : 2 ≤ s.size) (hs : s.size ≤ 1000000) (h2 : 2 < s.size) (hx : s[2] ≠ 120) (hX : s[2] = 88) :
    Calls Tryz.prog 58 #[.string s] w (RefPost (rdNum s.data.toList) w) := by
  have HR := Lib.hid (rd_hex h2 (.inr hX) : rdNum s.data.toList = rdNumB 16 3 s.data.toList)
  obtain ⟨e1, e2⟩ := byte_no 120 rfl hx
  obtain ⟨e3, e4⟩ := byte_yes 88 rfl hX
  go_enter Tryz.func58, Tryz.ntmps58
  go_wp2
  go_loop [4, 6] (fun i n => ∃ (k : Nat) (m : Int), 3 ≤ k ∧ k ≤ s.size ∧ 0 ≤ m ∧ m ≤ 1114112 ∧ i = .int .i64 k ∧ n = .int .i64 m ∧ numG 16 0 (s.data.toList.drop 3) = ((numG 16 m (s.data.toList.drop k)).1, (numG 16 m (s.data.toList.drop k)).2 + (k - 3))) (fun i _ => s.size - (intOf i).toNat)
  case atStart => exact ⟨3, 0, Nat.le_refl _, by omega, by omega, by omega, rfl, rfl, by simp⟩
  case round =>
    obtain ⟨k, m, hk1, hk, hm0, hm1, rfl, rfl, hrel⟩ := hrel
    have HG := Lib.hid hrel
    clear hrel
    by_cases hgo : ∃ h : k < s.size, ¬ dg 16 s[k] < 0
    · obtain ⟨hlt, hd⟩ := hgo
      have HS := Lib.hid (num_step HG.out hk1 hlt hd)
      have hdb := dg_bd 16 s[k]
      have hxb : hxI (s[k].toNat : Int) < 16 := by unfold dg at hd; split at hd <;> omega
      have hxe : dg 16 s[k] = hxI (s[k].toNat : Int) := by unfold dg; rw [if_pos hxb]
      rw [hxe] at HS hdb hd
      clear hxe
      obtain ⟨hd1, hd2⟩ := hdb
      have hd3 : 0 ≤ hxI (s[k].toNat : Int) := by omega
      have hc := s[k].toNat_lt
      by_cases hbig : m * 16 + hxI (s[k].toNat : Int) ≤ 1114112
      · have HM : Hid (min (m * 16 + hxI (s[k].toNat : Int)) 1114112 = m * 16 + hxI (s[k].toNat : Int)) := Lib.hid (Int.min_eq_left hbig)
        go_wp2_with (go_at_call 87; refine (rhex_any _ _ (by omega) (by omega)).mono ?_; rintro e w2 ⟨rfl, rfl⟩)
        go_round
        case rel => exact ⟨k + 1, m * 16 + hxI (s[k].toNat : Int), by omega, by omega, by omega, by omega, by go_num, by go_num, by rw [← HM.out]; exact HS.out⟩
        case measure => simp [intOf]; omega
      · have HM : Hid (min (m * 16 + hxI (s[k].toNat : Int)) 1114112 = 1114112) := Lib.hid (Int.min_eq_right (by omega))
        go_wp2_with (go_at_call 87; refine (rhex_any _ _ (by omega) (by omega)).mono ?_; rintro e w2 ⟨rfl, rfl⟩)
        go_round
        case rel => exact ⟨k + 1, 1114112, by omega, by omega, by omega, by omega, by go_num, by go_num, by rw [← HM.out]; exact HS.out⟩
        case measure => simp [intOf]; omega
    · have HE : Hid (numG 16 0 (s.data.toList.drop 3) = (m, k - 3)) := Lib.hid (by
        by_cases h : k < s.size
        · exact num_stop HG.out h (by
            by_cases h3 : dg 16 s[k] < 0
            · exact h3
            · exact absurd ⟨h, h3⟩ hgo)
        · exact num_end HG.out (by rw [size_list]; omega))
      have HD : Hid (∀ h : k < s.size, dg 16 s[k] = -1) := Lib.hid (fun h => by
        have := dg_bd 16 s[k]
        by_cases h3 : dg 16 s[k] < 0
        · omega
        · exact absurd ⟨h, h3⟩ hgo)
      clear hgo
      by_cases hlt : k < s.size
      · have hc := s[k].toNat_lt
        have hdm := HD.out hlt
        have hcase : hxI (s[k].toNat : Int) < 0 ∨ 16 ≤ hxI (s[k].toNat : Int) := by unfold dg at hdm; split at hdm <;> omega
        clear hdm
        rcases hcase with hneg | hneg
        all_goals
          by_cases hkf : k = 3
          · have HF := Lib.hid (HR.out.trans (num_none HE.out hkf))
            have f1 : ((k : Int) == 3) = true := by subst hkf; rfl
            clear hkf
            go_wp2_with (go_at_call 87; refine (rhex_any _ _ (by omega) (by omega)).mono ?_; rintro e w2 ⟨rfl, rfl⟩)
            go_ret2
            exact ⟨ret_none HF.out, Below.refl _ _⟩
          · have f1 : ((k : Int) == 3) = false := by
              rw [beq_eq_false_iff_ne]; omega
            have hkf' : 3 < k := by omega
            clear hkf
            by_cases h9 : s[k] = 59
            · have HF := Lib.hid (HR.out.trans (num_semi HE.out hkf' (by rw [get_at s k hlt, h9])))
              obtain ⟨q1, q2⟩ := byte_yes 59 rfl h9
              clear h9
              go_wp2_with (go_at_call 87; refine (rhex_any _ _ (by omega) (by omega)).mono ?_; rintro e w2 ⟨rfl, rfl⟩)
              refine (rnumbered_any m _ (by omega) (by omega)).mono ?_
              rintro e w3 ⟨rfl, hb⟩
              have HB3 := Lib.hid hb
              clear hb
              go_wp2
              go_ret2
              exact ⟨ret_ref (by rw [HF.out]) (by rw [HF.out]; go_num), HB3.out⟩
            · have HF := Lib.hid (HR.out.trans (num_bare HE.out hkf' (by rw [get_at s k hlt]; simpa using h9)))
              obtain ⟨q1, q2⟩ := byte_no 59 rfl h9
              clear h9
              go_wp2_with (go_at_call 87; refine (rhex_any _ _ (by omega) (by omega)).mono ?_; rintro e w2 ⟨rfl, rfl⟩)
              refine (rnumbered_any m _ (by omega) (by omega)).mono ?_
              rintro e w3 ⟨rfl, hb⟩
              have HB3 := Lib.hid hb
              clear hb
              go_wp2
              go_ret2
              exact ⟨ret_ref (by rw [HF.out]) (by rw [HF.out]), HB3.out⟩
      · have hke : k = s.size := by omega
        by_cases hkf : k = 3
        · have HF := Lib.hid (HR.out.trans (num_none HE.out hkf))
          have f1 : ((k : Int) == 3) = true := by subst hkf; rfl
          clear hkf hke
          go_wp2
          go_ret2
          exact ⟨ret_none HF.out, Below.refl _ _⟩
        · have f1 : ((k : Int) == 3) = false := by
            rw [beq_eq_false_iff_ne]; omega
          have hkf' : 3 < k := by omega
          have HF := Lib.hid (HR.out.trans (num_bare HE.out hkf' (by rw [List.getElem?_eq_none (by rw [size_list]; omega)]; simp)))
          clear hkf hke
          go_wp2_with fail
          refine (rnumbered_any m _ (by omega) (by omega)).mono ?_
          rintro e w3 ⟨rfl, hb⟩
          have HB3 := Lib.hid hb
          clear hb
          go_wp2
          go_ret2
          exact ⟨ret_ref (by rw [HF.out]) (by rw [HF.out]), HB3.out⟩

theorem rnumber_any (s : ByteArray) (w : World) (h0 : 2 ≤ s.size) (hs : s.size ≤ 1000000) :
    Calls Tryz.prog 58 #[.string s] w (RefPost (rdNum s.data.toList) w) := by
  by_cases h2 : s.size ≤ 2
  · exact rnumberS_any s w h0 hs h2
  · by_cases hx : (s[2]'(by omega)) = 120
    · exact rnumberx_any s w h0 hs (by omega) hx
    · by_cases hX : (s[2]'(by omega)) = 88
      · exact rnumberX_any s w h0 hs (by omega) hx hX
      · exact rnumberD_any s w h0 hs (by omega) hx hX
end Go.Proofs.YtceelfomgcbkiaaGreatDoor.C

/-
  The walks of goesOn and readName.
-/
namespace Go.Proofs.YtceelfomgcbkiaaGreatDoor.C
open Go.RowKit

theorem empty_yes {s : ByteArray} (h : s.size = 0) : s.toList = [] ∧ s.toList.isEmpty = true := by
  have : s.toList = [] := by rw [ByteArray.toList_eq]; exact List.eq_nil_of_length_eq_zero (by simpa using h)
  exact ⟨this, by rw [this]; rfl⟩
theorem empty_no {s : ByteArray} (h : s.size ≠ 0) : s.toList ≠ [] ∧ s.toList.isEmpty = false := by
  have : s.toList ≠ [] := by
    intro e; apply h
    have h1 : s.data.toList = [] := by rw [← ByteArray.toList_eq]; exact e
    rw [← size_list, h1]; rfl
  exact ⟨this, by cases hx : s.toList with
    | nil => exact absurd hx this
    | cons c r => rfl⟩
theorem goes_empty {s : ByteArray} (h : s.size = 0) : goes s.data.toList = false := by
  rw [List.eq_nil_of_length_eq_zero (l := s.data.toList) (by rw [size_list]; exact h)]; rfl
theorem goes_first {s : ByteArray} (h : 0 < s.size) : goes s.data.toList = (s[0] == 61 || leI (s[0].toNat : Int) || decide ((0 : Int) ≤ dg 10 s[0])) := by
  have := drop_at s 0 h
  rw [List.drop_zero] at this
  rw [this]; rfl

set_option maxHeartbeats 1600000 in
theorem goes_any (s : ByteArray) (w : World) (hs : s.size ≤ 1000000) :
    Calls Tryz.prog 96 #[.string s] w fun e w' => e = .returned (.bool (goes s.data.toList)) ∧ w = w' := by
  by_cases h0 : s.size = 0
  · rw [goes_empty h0]
    obtain ⟨e1, e2⟩ := empty_yes h0
    clear h0
    go_enter Tryz.func96, Tryz.ntmps96
    go_wp2
    go_ret
    exact ⟨rfl, rfl⟩
  · have hp : 0 < s.size := by omega
    rw [goes_first hp]
    obtain ⟨e1, e2⟩ := empty_no h0
    clear h0
    have hc := s[0].toNat_lt
    have HL := Lib.hid (letter_any (s[0].toNat : Int) w (by omega) (by omega))
    have HD := Lib.hid (dg_any 10 s[0] w (by omega) (by omega))
    have hdb := dg_bd 10 s[0]
    by_cases q1 : s[0] = 61
    · obtain ⟨f1, f2⟩ := byte_yes 61 rfl q1
      have g1 : (s[0] == 61) = true := by simpa using q1
      rw [g1, Bool.true_or, Bool.true_or]
      clear q1 g1
      go_enter Tryz.func96, Tryz.ntmps96
      go_wp2
      go_ret
      exact ⟨rfl, rfl⟩
    · obtain ⟨f1, f2⟩ := byte_no 61 rfl q1
      have g1 : (s[0] == 61) = false := by simpa using q1
      rw [g1, Bool.false_or]
      clear q1 g1
      by_cases q2 : leI (s[0].toNat : Int) = true
      · rw [q2] at HL
        rw [q2, Bool.true_or]
        clear q2
        go_enter Tryz.func96, Tryz.ntmps96
        go_wp2_with (go_at_call 72; refine HL.out.mono ?_; rintro e w' ⟨rfl, rfl⟩)
        go_ret
        exact ⟨rfl, rfl⟩
      · have q2' : leI (s[0].toNat : Int) = false := by simpa using q2
        rw [q2'] at HL
        rw [q2', Bool.false_or]
        clear q2 q2'
        generalize dg 10 s[0] = d at *
        obtain ⟨d1, d2⟩ := hdb
        by_cases q3 : 0 ≤ d
        · rw [decide_eq_true q3]
          go_enter Tryz.func96, Tryz.ntmps96
          go_wp2_with (first
            | (go_at_call 72; refine HL.out.mono ?_; rintro e w' ⟨rfl, rfl⟩)
            | (go_at_call 93; refine HD.out.mono ?_; rintro e w' ⟨rfl, rfl⟩))
          go_ret
          exact ⟨rfl, rfl⟩
        · rw [decide_eq_false q3]
          go_enter Tryz.func96, Tryz.ntmps96
          go_wp2_with (first
            | (go_at_call 72; refine HL.out.mono ?_; rintro e w' ⟨rfl, rfl⟩)
            | (go_at_call 93; refine HD.out.mono ?_; rintro e w' ⟨rfl, rfl⟩))
          go_ret
          exact ⟨ret_bool (by first | rfl | (simp; omega)), rfl⟩

theorem rdN_at (l : List UInt8) (value : Bool) (k : Nat) (h : 2 ≤ k) : rdN l value k = if nm ((l.take k).drop 1) = 0 then rdN l value (k - 1) else if value = true ∧ l[k - 1]? ≠ some 59 ∧ goes (l.drop k) = true then noRef else (encS (nm ((l.take k).drop 1)), k) := by
  obtain ⟨e, rfl⟩ : ∃ e, k = e + 2 := ⟨k - 2, by omega⟩
  rfl
theorem rdN_low (l : List UInt8) (value : Bool) (k : Nat) (h : k ≤ 1) : rdN l value k = noRef := by
  match k, h with
  | 0, _ => rfl
  | 1, _ => rfl

set_option maxHeartbeats 3200000 in
theorem readName_any (s : ByteArray) (value : Bool) (w : World) (hs : s.size ≤ 1000000) :
    Calls Tryz.prog 65 #[.string s, .bool value] w (RefPost (rdN s.data.toList value (min s.data.toList.length 9)) w) := by
  rw [size_list]
  have HN : Hid (∀ (k : Nat) (W : World), k ≤ s.size → Calls Tryz.prog 95 #[.string (s.extract 1 k)] W (NamedPost ((s.data.toList.take k).drop 1) W)) := Lib.hid (fun k W hk => by
    have := named_any (s.extract 1 k) W (by rw [ByteArray.size_extract]; omega)
    rw [ext_list] at this; exact this)
  have HG : Hid (∀ (k : Nat) (W : World), k ≤ s.size → Calls Tryz.prog 96 #[.string (s.extract k s.size)] W fun e w' => e = .returned (.bool (goes (s.data.toList.drop k))) ∧ W = w') := Lib.hid (fun k W hk => by
    have := goes_any (s.extract k s.size) W (by rw [ByteArray.size_extract]; omega)
    rw [ext_tail] at this; exact this)
  have hmin : (min (s.size : Int) 9 = ((min s.size 9 : Nat) : Int)) := by omega
  have HM := Lib.hid hmin
  clear hmin
  generalize hR : rdN s.data.toList value (min s.size 9) = R at *
  have HR := Lib.hid hR
  clear hR
  go_enter Tryz.func65, Tryz.ntmps65
  go_wp2
  go_loopw [6] (fun i wr => ∃ k : Nat, k ≤ s.size ∧ i = .int .i64 k ∧ rdN s.data.toList value k = R ∧ Below w.heap.size w wr) (fun i _ => (intOf i).toNat)
  case atStart => exact ⟨min s.size 9, by omega, by rw [HM.out], HR.out, Below.refl _ _⟩
  case round =>
    obtain ⟨k, hk, rfl, hr, hb⟩ := hrel
    have HK := Lib.hid hr
    have HB := Lib.hid hb
    clear hr hb
    by_cases h2 : 2 ≤ k
    · have HA := Lib.hid (HK.out.symm.trans (rdN_at s.data.toList value k h2))
      have hbd := nm_bd ((s.data.toList.take k).drop 1)
      have HNk := Lib.hid (HN.out k wr hk)
      have HE := Lib.hid (@Eq.refl _ (nmTx ((s.data.toList.take k).drop 1)))
      have HO := Lib.hid (@Eq.refl _ (nmOk ((s.data.toList.take k).drop 1)))
      by_cases hz : nm ((s.data.toList.take k).drop 1) = 0
      · have ho : nmOk ((s.data.toList.take k).drop 1) = false := by unfold nmOk; rw [hz]; rfl
        have HF := Lib.hid (HA.out.trans (if_pos hz))
        have HNk' : Hid (Calls Tryz.prog 95 #[.string (s.extract 1 k)] wr fun e w' => e = .returned (.tuple #[.string (nmTx ((s.data.toList.take k).drop 1)), .bool false]) ∧ Below wr.heap.size wr w') := Lib.hid (by
          have := HNk.out
          unfold NamedPost at this
          rw [ho] at this
          exact this)
        clear ho hz hbd HNk HO
        go_wp2_with fail
        refine HNk'.out.mono ?_
        rintro e w1 ⟨rfl, hb⟩
        have HB1 : Hid (Below w.heap.size w w1) := Lib.hid (HB.out.trans (hb.mono HB.out.size))
        clear hb
        go_wp2
        go_roundw
        case rel => exact ⟨k - 1, by omega, by go_num, HF.out.symm, HB1.out⟩
        case measure => simp [intOf]; omega
      · have ho : nmOk ((s.data.toList.take k).drop 1) = true := by unfold nmOk; rw [decide_eq_true hz]
        have ht : nmTx ((s.data.toList.take k).drop 1) = encS (nm ((s.data.toList.take k).drop 1)) := by unfold nmTx; rw [if_neg hz]
        have HF := Lib.hid (HA.out.trans (if_neg hz))
        have HNk' : Hid (Calls Tryz.prog 95 #[.string (s.extract 1 k)] wr fun e w' => e = .returned (.tuple #[.string (encS (nm ((s.data.toList.take k).drop 1))), .bool true]) ∧ Below wr.heap.size wr w') := Lib.hid (by
          have := HNk.out
          unfold NamedPost at this
          rw [ho, ht] at this
          exact this)
        have HGk := Lib.hid (fun W => HG.out k W hk)
        have hlast := get_at s (k - 1) (by omega)
        rw [hlast] at HF
        clear ho ht hz hbd HNk HO HE hlast
        generalize encS (nm ((s.data.toList.take k).drop 1)) = T at *
        generalize goes (s.data.toList.drop k) = g at *
        have hc := (s[k - 1]'(by omega)).toNat_lt
        cases value with
        | false =>
          have HQ : Hid (R = (T, k)) := Lib.hid (by rw [HF.out]; simp)
          go_wp2_with fail
          refine HNk'.out.mono ?_
          rintro e w1 ⟨rfl, hb⟩
          have HB1 : Hid (Below w.heap.size w w1) := Lib.hid (HB.out.trans (hb.mono HB.out.size))
          clear hb
          go_wp2
          go_ret2
          exact ⟨ret_ref (by rw [HQ.out]) (by rw [HQ.out]), HB1.out⟩
        | true =>
          by_cases h59 : (s[k - 1]'(by omega)) = 59
          · have HQ : Hid (R = (T, k)) := Lib.hid (by rw [HF.out, h59]; simp)
            obtain ⟨q1, q2⟩ := byte_yes 59 rfl h59
            clear h59
            go_wp2_with fail
            refine HNk'.out.mono ?_
            rintro e w1 ⟨rfl, hb⟩
            have HB1 : Hid (Below w.heap.size w w1) := Lib.hid (HB.out.trans (hb.mono HB.out.size))
            clear hb
            go_wp2
            go_ret2
            exact ⟨ret_ref (by rw [HQ.out]) (by rw [HQ.out]), HB1.out⟩
          · obtain ⟨q1, q2⟩ := byte_no 59 rfl h59
            cases g with
            | false =>
              have HQ : Hid (R = (T, k)) := Lib.hid (by rw [HF.out]; simp)
              clear h59
              go_wp2_with fail
              refine HNk'.out.mono ?_
              rintro e w1 ⟨rfl, hb⟩
              have HB1 : Hid (Below w.heap.size w w1) := Lib.hid (HB.out.trans (hb.mono HB.out.size))
              clear hb
              go_wp2_with fail
              refine (HGk.out w1).mono ?_
              rintro e w2 ⟨rfl, rfl⟩
              go_wp2
              go_ret2
              exact ⟨ret_ref (by rw [HQ.out]) (by rw [HQ.out]), HB1.out⟩
            | true =>
              have HQ : Hid (R = noRef) := Lib.hid (by rw [HF.out, if_pos ⟨rfl, by simpa using h59, rfl⟩])
              clear h59
              go_wp2_with fail
              refine HNk'.out.mono ?_
              rintro e w1 ⟨rfl, hb⟩
              have HB1 : Hid (Below w.heap.size w w1) := Lib.hid (HB.out.trans (hb.mono HB.out.size))
              clear hb
              go_wp2_with fail
              refine (HGk.out w1).mono ?_
              rintro e w2 ⟨rfl, rfl⟩
              go_wp2
              go_ret2
              exact ⟨ret_none HQ.out, HB1.out⟩
    · have HQ : Hid (R = noRef) := Lib.hid (by rw [← HK.out]; exact rdN_low _ _ _ (by omega))
      go_wp2
      go_ret2
      exact ⟨ret_none HQ.out, HB.out⟩
end Go.Proofs.YtceelfomgcbkiaaGreatDoor.C

/-
  The walks of Read, and of the document's own.
-/
namespace Go.Proofs.YtceelfomgcbkiaaGreatDoor.C
open Go.RowKit

theorem beq_swap (a c : UInt8) : (a == c) = decide (c = a) := by rw [Bool.eq_iff_iff, beq_iff_eq, decide_eq_true_iff]; exact ⟨Eq.symm, Eq.symm⟩
theorem pre_one (l : List UInt8) : Lib.hasPrefix l [38] = decide (l[0]? = some 38) := by
  cases l with
  | nil => rfl
  | cons c l => simp [Lib.hasPrefix, List.isPrefixOf, beq_swap]
theorem pre_two (l : List UInt8) : Lib.hasPrefix l [38, 35] = (decide (l[0]? = some 38) && decide (l[1]? = some 35)) := by
  cases l with
  | nil => rfl
  | cons c l =>
    cases l with
    | nil => simp [Lib.hasPrefix, List.isPrefixOf]
    | cons d l => simp [Lib.hasPrefix, List.isPrefixOf, beq_swap]
theorem rd_none {l : List UInt8} {value : Bool} (h : l[0]? ≠ some 38) : rd l value = noRef := by unfold rd; rw [if_neg h]
theorem rd_num {l : List UInt8} {value : Bool} (h : l[0]? = some 38) (h2 : l[1]? = some 35) : rd l value = rdNum l := by unfold rd; rw [if_pos h, if_pos h2]
theorem rd_name {l : List UInt8} {value : Bool} (h : l[0]? = some 38) (h2 : l[1]? ≠ some 35) : rd l value = rdN l value (min l.length 9) := by unfold rd; rw [if_pos h, if_neg h2]

set_option maxHeartbeats 1600000 in
theorem read_any (s : ByteArray) (value : Bool) (w : World) (hT : StAt w) (hs : s.size ≤ 1000000) :
    Calls Tryz.prog 34 #[.string s, .bool value] w (RefPost (rd s.data.toList value) w) := by
  have HP1 := Lib.hid (fun W => Tryz.strings_HasPrefix s ⟨#[38]⟩ W)
  have HP2 := Lib.hid (fun W => Tryz.strings_HasPrefix s ⟨#[38, 35]⟩ W)
  replace HP1 : Hid (∀ W, Calls Tryz.prog 63 #[.string s, .string ⟨#[38]⟩] W fun e w' => e = .returned (.bool (decide (s.data.toList[0]? = some 38))) ∧ w' = W) := Lib.hid (fun W => by
    have := HP1.out W
    rw [show (ByteArray.mk #[38]).data.toList = [38] from rfl, pre_one] at this; exact this)
  replace HP2 : Hid (∀ W, Calls Tryz.prog 63 #[.string s, .string ⟨#[38, 35]⟩] W fun e w' => e = .returned (.bool (decide (s.data.toList[0]? = some 38) && decide (s.data.toList[1]? = some 35))) ∧ w' = W) := Lib.hid (fun W => by
    have := HP2.out W
    rw [show (ByteArray.mk #[38, 35]).data.toList = [38, 35] from rfl, pre_two] at this; exact this)
  by_cases h0 : s.data.toList[0]? = some 38
  · have h1s : 1 ≤ s.size := by
      have := (List.getElem?_eq_some_iff.1 h0).1
      rw [size_list] at this; omega
    rw [decide_eq_true h0] at HP1 HP2
    by_cases h1 : s.data.toList[1]? = some 35
    · have h2s : 2 ≤ s.size := by
        have := (List.getElem?_eq_some_iff.1 h1).1
        rw [size_list] at this; omega
      rw [decide_eq_true h1] at HP2
      rw [rd_num h0 h1]
      have HN := Lib.hid (number_any s w hT h2s hs)
      clear h0 h1 hT
      generalize rdNum s.data.toList = R at *
      go_enter Tryz.func34, Tryz.ntmps34
      go_wp2_with fail
      refine (HP1.out _).mono ?_
      rintro e w' ⟨rfl, rfl⟩
      go_wp2_with fail
      refine (HP2.out _).mono ?_
      rintro e w' ⟨rfl, rfl⟩
      go_wp2_with fail
      refine HN.out.mono ?_
      rintro e w1 ⟨rfl, hb⟩
      have HB := Lib.hid hb
      clear hb
      go_wp2
      go_ret2
      exact ⟨rfl, HB.out⟩
    · rw [decide_eq_false h1] at HP2
      rw [rd_name h0 h1]
      have HN := Lib.hid (readName_any s value w hs)
      clear h0 h1 hT
      generalize rdN s.data.toList value (min s.data.toList.length 9) = R at *
      go_enter Tryz.func34, Tryz.ntmps34
      go_wp2_with fail
      refine (HP1.out _).mono ?_
      rintro e w' ⟨rfl, rfl⟩
      go_wp2_with fail
      refine (HP2.out _).mono ?_
      rintro e w' ⟨rfl, rfl⟩
      go_wp2_with fail
      refine HN.out.mono ?_
      rintro e w1 ⟨rfl, hb⟩
      have HB := Lib.hid hb
      clear hb
      go_wp2
      go_ret2
      exact ⟨rfl, HB.out⟩
  · rw [decide_eq_false h0] at HP1
    have HF := Lib.hid (rd_none (value := value) h0)
    clear h0 hT
    go_enter Tryz.func34, Tryz.ntmps34
    go_wp2_with fail
    refine (HP1.out _).mono ?_
    rintro e w' ⟨rfl, rfl⟩
    go_wp2
    go_ret2
    exact ⟨ret_none HF.out, Below.refl _ _⟩
end Go.Proofs.YtceelfomgcbkiaaGreatDoor.C

/-
  The walk of the document's Read.
-/
namespace Go.Proofs.YtceelfomgcbkiaaGreatDoor.C
open Go.RowKit
set_option linter.unusedVariables false

theorem dg_ten (c : UInt8) : decide ((0 : Int) ≤ dg 10 c) = decide (48 ≤ (c.toNat : Int) ∧ (c.toNat : Int) ≤ 57) := by
  rw [decide_eq_decide]
  unfold dg hxI
  split <;> split at * <;> (try split at *) <;> (try split at *) <;> omega
theorem goes_at {s : ByteArray} {k : Nat} (h : k < s.size) : goes (s.data.toList.drop k) = (s[k] == 61 || (leI (s[k].toNat : Int) || decide (48 ≤ (s[k].toNat : Int) ∧ (s[k].toNat : Int) ≤ 57))) := by
  rw [drop_at s k h, ← dg_ten, ← Bool.or_assoc]; rfl

set_option maxHeartbeats 6400000 in
theorem rread_one (s : ByteArray) (value : Bool) (w : World) (R : Ref) (hs : s.size ≤ 1000000) (hp : 0 < s.size) (e1 : s.toList ≠ []) (e2 : s.toList.isEmpty = false) (f1 : ((s[0].toNat : Int) == 38) = true) (f2 : ((s[0].toNat : Int) != 38) = false) (hc0 : s[0].toNat < 2 ^ 8) (h1 : s.size ≤ 1)
    (HN : Hid (∀ (k : Nat) (W : World), k ≤ s.size → Calls Tryz.prog 59 #[.string (s.extract 1 k)] W (NamedPost ((s.data.toList.take k).drop 1) W))) (HM : Hid (min ((s.size : Int) - 1) 12 = ((min s.size 13 - 1 : Nat) : Int))) (HR : Hid (R = rdN s.data.toList value (min s.size 13))) :
    Calls Tryz.prog 30 #[.string s, .bool value] w (RefPost R w) := by
  go_enter Tryz.func30, Tryz.ntmps30
  go_wp2
  go_loopw [6] (fun i wr => ∃ k : Nat, k + 1 ≤ s.size ∧ i = .int .i64 k ∧ R = rdN s.data.toList value (k + 1) ∧ Below w.heap.size w wr) (fun i _ => (intOf i).toNat)
  case atStart => exact ⟨min s.size 13 - 1, by omega, by rw [HM.out], by rw [HR.out]; congr 1; omega, Below.refl _ _⟩
  case round =>
    obtain ⟨k, hk, rfl, hr, hb⟩ := hrel
    have HK := Lib.hid hr
    have HB := Lib.hid hb
    clear hr hb
    by_cases h2 : 1 ≤ k
    · exfalso; omega
    · have HQ : Hid (R = noRef) := Lib.hid (by rw [HK.out]; exact rdN_low _ _ _ (by omega))
      go_wp2
      go_ret2
      exact ⟨ret_none HQ.out, HB.out⟩

set_option maxHeartbeats 6400000 in
theorem rread_more (s : ByteArray) (value : Bool) (w : World) (R : Ref) (hs : s.size ≤ 1000000) (hp : 0 < s.size) (e1 : s.toList ≠ []) (e2 : s.toList.isEmpty = false) (f1 : ((s[0].toNat : Int) == 38) = true) (f2 : ((s[0].toNat : Int) != 38) = false) (hc0 : s[0].toNat < 2 ^ 8) (h1 : 1 < s.size) (f3 : ((s[1].toNat : Int) == 35) = false) (f4 : ((s[1].toNat : Int) != 35) = true)
    (HN : Hid (∀ (k : Nat) (W : World), k ≤ s.size → Calls Tryz.prog 59 #[.string (s.extract 1 k)] W (NamedPost ((s.data.toList.take k).drop 1) W))) (HM : Hid (min ((s.size : Int) - 1) 12 = ((min s.size 13 - 1 : Nat) : Int))) (HR : Hid (R = rdN s.data.toList value (min s.size 13))) :
    Calls Tryz.prog 30 #[.string s, .bool value] w (RefPost R w) := by
  have hc1 := s[1].toNat_lt
  go_enter Tryz.func30, Tryz.ntmps30
  go_wp2
  go_loopw [6] (fun i wr => ∃ k : Nat, k + 1 ≤ s.size ∧ i = .int .i64 k ∧ R = rdN s.data.toList value (k + 1) ∧ Below w.heap.size w wr) (fun i _ => (intOf i).toNat)
  case atStart => exact ⟨min s.size 13 - 1, by omega, by rw [HM.out], by rw [HR.out]; congr 1; omega, Below.refl _ _⟩
  case round =>
    obtain ⟨k, hk, rfl, hr, hb⟩ := hrel
    have HK := Lib.hid hr
    have HB := Lib.hid hb
    clear hr hb
    by_cases h2 : 1 ≤ k
    · have HA := Lib.hid (HK.out.trans (rdN_at s.data.toList value (k + 1) (by omega)))
      have HNk := Lib.hid (HN.out (k + 1) wr hk)
      by_cases hz : nm ((s.data.toList.take (k + 1)).drop 1) = 0
      · have ho : nmOk ((s.data.toList.take (k + 1)).drop 1) = false := by unfold nmOk; rw [hz]; rfl
        have HF := Lib.hid (HA.out.trans (if_pos hz))
        have HNk' : Hid (Calls Tryz.prog 59 #[.string (s.extract 1 (k + 1))] wr fun e w' => e = .returned (.tuple #[.string (nmTx ((s.data.toList.take (k + 1)).drop 1)), .bool false]) ∧ Below wr.heap.size wr w') := Lib.hid (by
          have := HNk.out
          unfold NamedPost at this
          rw [ho] at this
          exact this)
        clear ho hz HNk
        go_wp2_with fail
        refine HNk'.out.mono ?_
        rintro e w1 ⟨rfl, hb⟩
        have HB1 : Hid (Below w.heap.size w w1) := Lib.hid (HB.out.trans (hb.mono HB.out.size))
        clear hb
        go_wp2
        go_roundw
        case rel => exact ⟨k - 1, by omega, by go_num, by rw [HF.out]; congr 1; omega, HB1.out⟩
        case measure => simp [intOf]; omega
      · have ho : nmOk ((s.data.toList.take (k + 1)).drop 1) = true := by unfold nmOk; rw [decide_eq_true hz]
        have ht : nmTx ((s.data.toList.take (k + 1)).drop 1) = encS (nm ((s.data.toList.take (k + 1)).drop 1)) := by unfold nmTx; rw [if_neg hz]
        have HF := Lib.hid (HA.out.trans (if_neg hz))
        have HNk' : Hid (Calls Tryz.prog 59 #[.string (s.extract 1 (k + 1))] wr fun e w' => e = .returned (.tuple #[.string (encS (nm ((s.data.toList.take (k + 1)).drop 1))), .bool true]) ∧ Below wr.heap.size wr w') := Lib.hid (by
          have := HNk.out
          unfold NamedPost at this
          rw [ho, ht] at this
          exact this)
        have hlast := get_at s k (by omega)
        rw [show k + 1 - 1 = k by omega, hlast] at HF
        clear ho ht hz HNk hlast
        generalize encS (nm ((s.data.toList.take (k + 1)).drop 1)) = T at *
        have hc := (s[k]'(by omega)).toNat_lt
        cases value with
        | false =>
          have HQ : Hid (R = (T, k + 1)) := Lib.hid (by rw [HF.out]; simp)
          go_wp2_with fail
          refine HNk'.out.mono ?_
          rintro e w1 ⟨rfl, hb⟩
          have HB1 : Hid (Below w.heap.size w w1) := Lib.hid (HB.out.trans (hb.mono HB.out.size))
          clear hb
          go_wp2
          go_ret2
          exact ⟨ret_ref (by rw [HQ.out]) (by rw [HQ.out]; go_num), HB1.out⟩
        | true =>
          by_cases h59 : (s[k]'(by omega)) = 59
          · have HQ : Hid (R = (T, k + 1)) := Lib.hid (by rw [HF.out, h59]; simp)
            obtain ⟨q1, q2⟩ := byte_yes 59 rfl h59
            clear h59
            go_wp2_with fail
            refine HNk'.out.mono ?_
            rintro e w1 ⟨rfl, hb⟩
            have HB1 : Hid (Below w.heap.size w w1) := Lib.hid (HB.out.trans (hb.mono HB.out.size))
            clear hb
            go_wp2
            go_ret2
            exact ⟨ret_ref (by rw [HQ.out]) (by rw [HQ.out]; go_num), HB1.out⟩
          · obtain ⟨q1, q2⟩ := byte_no 59 rfl h59
            by_cases hend : k + 1 < s.size
            · have HG := Lib.hid (goes_at hend)
              have hd := s[k + 1].toNat_lt
              by_cases h61 : s[k + 1] = 61
              · have HQ : Hid (R = noRef) := Lib.hid (by rw [HF.out, HG.out, h61]; rw [if_pos ⟨rfl, by simpa using h59, by simp⟩])
                obtain ⟨q3, q4⟩ := byte_yes 61 rfl h61
                clear h59 h61
                go_wp2_with fail
                refine HNk'.out.mono ?_
                rintro e w1 ⟨rfl, hb⟩
                have HB1 : Hid (Below w.heap.size w w1) := Lib.hid (HB.out.trans (hb.mono HB.out.size))
                clear hb
                go_wp2
                go_ret2
                exact ⟨ret_none HQ.out, HB1.out⟩
              · obtain ⟨q3, q4⟩ := byte_no 61 rfl h61
                have g61 : (s[k + 1] == 61) = false := by simpa using h61
                have HL := Lib.hid (fun W => alnum_any (s[k + 1].toNat : Int) W (by omega) (by omega))
                rw [g61, Bool.false_or] at HG
                clear h61 g61
                generalize (leI (s[k + 1].toNat : Int) || decide (48 ≤ (s[k + 1].toNat : Int) ∧ (s[k + 1].toNat : Int) ≤ 57)) = g at *
                cases g with
                | false =>
                  have HQ : Hid (R = (T, k + 1)) := Lib.hid (by rw [HF.out, HG.out]; simp)
                  clear h59
                  go_wp2_with fail
                  refine HNk'.out.mono ?_
                  rintro e w1 ⟨rfl, hb⟩
                  have HB1 : Hid (Below w.heap.size w w1) := Lib.hid (HB.out.trans (hb.mono HB.out.size))
                  clear hb
                  go_wp2_with fail
                  refine (HL.out w1).mono ?_
                  rintro e w2 ⟨rfl, rfl⟩
                  go_wp2
                  go_ret2
                  exact ⟨ret_ref (by rw [HQ.out]) (by rw [HQ.out]; go_num), HB1.out⟩
                | true =>
                  have HQ : Hid (R = noRef) := Lib.hid (by rw [HF.out, HG.out]; rw [if_pos ⟨rfl, by simpa using h59, rfl⟩])
                  clear h59
                  go_wp2_with fail
                  refine HNk'.out.mono ?_
                  rintro e w1 ⟨rfl, hb⟩
                  have HB1 : Hid (Below w.heap.size w w1) := Lib.hid (HB.out.trans (hb.mono HB.out.size))
                  clear hb
                  go_wp2_with fail
                  refine (HL.out w1).mono ?_
                  rintro e w2 ⟨rfl, rfl⟩
                  go_wp2
                  go_ret2
                  exact ⟨ret_none HQ.out, HB1.out⟩
            · have HQ : Hid (R = (T, k + 1)) := Lib.hid (by
                rw [HF.out, List.drop_eq_nil_of_le (by rw [size_list]; omega)]
                simp [goes])
              clear h59
              go_wp2_with fail
              refine HNk'.out.mono ?_
              rintro e w1 ⟨rfl, hb⟩
              have HB1 : Hid (Below w.heap.size w w1) := Lib.hid (HB.out.trans (hb.mono HB.out.size))
              clear hb
              go_wp2
              go_ret2
              exact ⟨ret_ref (by rw [HQ.out]) (by rw [HQ.out]; go_num), HB1.out⟩
    · have HQ : Hid (R = noRef) := Lib.hid (by rw [HK.out]; exact rdN_low _ _ _ (by omega))
      go_wp2
      go_ret2
      exact ⟨ret_none HQ.out, HB.out⟩

set_option maxHeartbeats 6400000 in
theorem rread_any (s : ByteArray) (value : Bool) (w : World) (hs : s.size ≤ 1000000) :
    Calls Tryz.prog 30 #[.string s, .bool value] w (RefPost (rd s.data.toList value) w) := by
  by_cases h0 : s.size = 0
  · have HF := Lib.hid (rd_none (l := s.data.toList) (value := value) (by rw [List.getElem?_eq_none (by rw [size_list]; omega)]; simp))
    obtain ⟨e1, e2⟩ := empty_yes h0
    clear h0
    go_enter Tryz.func30, Tryz.ntmps30
    go_wp2
    go_ret2
    exact ⟨ret_none HF.out, Below.refl _ _⟩
  obtain ⟨e1, e2⟩ := empty_no h0
  have hp : 0 < s.size := by omega
  clear h0
  have hc0 := s[0].toNat_lt
  by_cases hA : s[0] = 38
  · obtain ⟨f1, f2⟩ := byte_yes 38 rfl hA
    have g0 : s.data.toList[0]? = some 38 := by rw [get_at s 0 hp, hA]
    clear hA
    by_cases hB : ∃ h : 1 < s.size, s[1] = 35
    · obtain ⟨h1, hB⟩ := hB
      obtain ⟨f3, f4⟩ := byte_yes 35 rfl hB
      have HF := Lib.hid (rd_num (value := value) g0 (by rw [get_at s 1 h1, hB]))
      have HN := Lib.hid (rnumber_any s w h1 hs)
      have hc1 := s[1].toNat_lt
      clear hB g0
      go_enter Tryz.func30, Tryz.ntmps30
      go_wp2_with fail
      refine HN.out.mono ?_
      rintro e w1 ⟨rfl, hb⟩
      have HB := Lib.hid hb
      clear hb
      go_wp2
      go_ret2
      exact ⟨ret_ref (by rw [HF.out]) (by rw [HF.out]), HB.out⟩
    · have HB1 : Hid (∀ h : 1 < s.size, s[1] ≠ 35) := Lib.hid (fun h e => hB ⟨h, e⟩)
      have hR := (rd_name (value := value) g0 (by
        by_cases h : 1 < s.size
        · rw [get_at s 1 h]; intro e; exact hB ⟨h, Option.some.inj e⟩
        · rw [List.getElem?_eq_none (by rw [size_list]; omega)]; simp)).trans (rdN_min _ _).symm
      rw [size_list] at hR
      have HN : Hid (∀ (k : Nat) (W : World), k ≤ s.size → Calls Tryz.prog 59 #[.string (s.extract 1 k)] W (NamedPost ((s.data.toList.take k).drop 1) W)) := Lib.hid (fun k W hk => by
        have := rnamed_any (s.extract 1 k) W
        rw [ext_list] at this; exact this)
      have HM : Hid (min ((s.size : Int) - 1) 12 = ((min s.size 13 - 1 : Nat) : Int)) := Lib.hid (by omega)
      generalize rd s.data.toList value = R at *
      have HR := Lib.hid hR
      clear hR hB g0
      have hcase : s.size ≤ 1 ∨ ∃ h : 1 < s.size, s[1] ≠ 35 := by
        by_cases h : 1 < s.size
        · exact .inr ⟨h, HB1.out h⟩
        · exact .inl (by omega)
      clear HB1
      rcases hcase with h1 | ⟨h1, hB⟩
      · exact rread_one s value w R hs hp e1 e2 f1 f2 hc0 h1 HN HM HR
      · obtain ⟨f3, f4⟩ := byte_no 35 rfl hB
        exact rread_more s value w R hs hp e1 e2 f1 f2 hc0 h1 f3 f4 HN HM HR
  · obtain ⟨f1, f2⟩ := byte_no 38 rfl hA
    have HF := Lib.hid (rd_none (l := s.data.toList) (value := value) (by rw [get_at s 0 hp]; simpa using hA))
    clear hA
    go_enter Tryz.func30, Tryz.ntmps30
    go_wp2
    go_ret2
    exact ⟨ret_none HF.out, Below.refl _ _⟩
end Go.Proofs.YtceelfomgcbkiaaGreatDoor.C

/-
  The walk of Decode.
-/
namespace Go.Proofs.YtceelfomgcbkiaaGreatDoor.C
open Go.RowKit Go.Lib

def textOf : Value → ByteArray | .string s => s | _ => ByteArray.empty
def stepR (l : List UInt8) (value : Bool) : Ref := if (rd l value).2 = 0 then (⟨#[38]⟩, 1) else rd l value
theorem stepR_ok (l : List UInt8) (value : Bool) (h : l ≠ []) : 1 ≤ (stepR l value).2 ∧ (stepR l value).2 ≤ l.length ∧ (stepR l value).1.size ≤ 4 * (stepR l value).2 := by
  have hl : 1 ≤ l.length := by
    rcases Nat.eq_zero_or_pos l.length with h0 | h0
    · exact absurd (List.eq_nil_of_length_eq_zero h0) h
    · exact h0
  unfold stepR
  split
  · exact ⟨Nat.le_refl _, hl, by show (1 : Nat) ≤ 4 * 1; omega⟩
  · rename_i hn
    rcases okR_rd l value with ⟨h0, _⟩ | ⟨h1, h2, h3⟩
    · exact absurd h0 hn
    · exact ⟨by omega, h2, by omega⟩
theorem dec_at (value : Bool) (U : List UInt8) (a : Nat) (h : U[a]? = some 38) (hpre : ∀ k, k < a → U[k]? ≠ some 38) :
    dec value U = (U.take a ++ (stepR (U.drop a) value).1.data.toList) ++ dec value (U.drop (a + (stepR (U.drop a) value).2)) := by
  have ha : a < U.length := (List.getElem?_eq_some_iff.1 h).1
  have hd : U.drop a = 38 :: U.drop (a + 1) := by
    rw [List.drop_eq_getElem_cons ha]
    rw [(List.getElem?_eq_some_iff.1 h).2]
  have h1 : dec value U = U.take a ++ dec value (U.drop a) := by
    conv => lhs; rw [← List.take_append_drop a U]
    refine dec_plain value _ _ ?_
    intro c hc e
    obtain ⟨k, hk, rfl⟩ := List.mem_iff_getElem.1 hc
    rw [List.length_take] at hk
    rw [List.getElem_take] at e
    exact hpre k (by omega) (by rw [List.getElem?_eq_getElem (by omega), e])
  rw [h1, List.append_assoc]
  congr 1
  unfold stepR
  by_cases hr : (rd (U.drop a) value).2 = 0
  · rw [if_pos hr, hd] at *
    rw [dec_keep value 38 _ hr]
    rfl
  · rw [if_neg hr, dec_ref value _ hr, List.drop_drop]
theorem dec_none (value : Bool) (U : List UInt8) (h : indexByte U 38 = -1) : dec value U = U := by
  refine dec_same value U ?_
  intro c hc e
  obtain ⟨k, hk, rfl⟩ := List.mem_iff_getElem.1 hc
  exact indexByte_none h k (by rw [List.getElem?_eq_getElem hk, e])
theorem heap_lt {w : World} {b : Nat} {o : Obj} (h : w.heap[b]? = some o) : b < w.heap.size := (Array.getElem?_eq_some_iff.1 h).1
theorem built_at {T e : TypeId} {B b : Nat} {p : Value} {bs : List Value} {W W' : World} (h : Lib.BuilderAtF T e B b p bs W) (hb : Below W.heap.size W W') : Lib.BuilderAtF T e B b p bs W' := by
  obtain ⟨hB, v, hbk, ⟨hl, hown⟩, hne⟩ := h
  refine ⟨hB, v, (hb.block b (heap_lt hbk)).trans hbk, ⟨hl, ?_⟩, hne⟩
  rcases hown with h | ⟨g, cap, cur, fz, h1, h2, h3, h4⟩
  · exact .inl h
  · exact .inr ⟨g, cap, cur, fz, h1, h2, (hb.block g (heap_lt h3)).trans h3, h4⟩
theorem built {T e : TypeId} {B b : Nat} {bs : List Value} {W W' : World} (h : Lib.IsBuilderF T e B b bs W) (hb : Below W.heap.size W W') : Lib.IsBuilderF T e B b bs W' :=
  h.elim (fun x => .inl (built_at x hb)) (fun x => .inr (built_at x hb))
theorem str_cells (l : List UInt8) (s : ByteArray) : byteCells l ++ strCells s = byteCells (l ++ s.data.toList) := by simp [byteCells, strCells]
def decS (value : Bool) (s : ByteArray) : ByteArray := mkB (dec value s.data.toList)

set_option maxHeartbeats 6400000 in
theorem decode_any (s : ByteArray) (value : Bool) (w : World) (hT : StAt w) (hs : s.size ≤ 10000) :
    Calls Tryz.prog 22 #[.string s, .bool value] w fun e w' => e = .returned (.string (decS value s)) ∧ Below w.heap.size w w' := by
  have HT := Lib.hid hT
  clear hT
  have HI : Hid (∀ (u : ByteArray) (W : World), Calls Tryz.prog 33 #[.string u, .int .u8 38] W fun e w' => e = .returned (.int .i64 (indexByte u.data.toList 38)) ∧ w' = W) := Lib.hid (fun u W => Tryz.strings_IndexByte u 38 W)
  go_enter Tryz.func22, Tryz.ntmps22
  go_wp2_with fail
  have HU0 := Lib.hid (IsBuilderF.of (fresh_isBuilder 65 5 w))
  have HB0 := Lib.hid ((Below.refl w.heap.size w).alloc (Nat.le_refl _) (.cells #[.pointer none, .slice none 0 0] 65))
  generalize w.alloc (.cells #[.pointer none, .slice none 0 0] 65) = w1 at *
  refine (HI.out s w1).mono ?_
  rintro e w' ⟨rfl, rfl⟩
  go_wp2_with fail
  go_loopw [0, 6] (fun t i wr => ∃ (u : ByteArray) (acc : List UInt8), t = .string u ∧ i = .int .i64 (indexByte u.data.toList 38) ∧ acc.length + 4 * u.size ≤ 4 * s.size ∧ dec value s.data.toList = acc ++ dec value u.data.toList ∧ IsBuilderF 65 5 w.heap.size w.heap.size (byteCells acc) wr ∧ Below w.heap.size w wr) (fun t _ _ => (textOf t).size)
  case atStart => exact ⟨s, [], rfl, rfl, by simp, rfl, HU0.out, HB0.out⟩
  case round =>
    obtain ⟨u, acc, rfl, rfl, hlen, hdec, hbu, hbel⟩ := hrel
    have HD := Lib.hid hdec
    have HU := Lib.hid hbu
    have HB := Lib.hid hbel
    clear hdec hbu hbel
    have hge := indexByte_ge u.data.toList 38
    by_cases hneg : 0 ≤ indexByte u.data.toList 38
    · obtain ⟨a, ha⟩ : ∃ a : Nat, indexByte u.data.toList 38 = (a : Int) := ⟨(indexByte u.data.toList 38).toNat, by omega⟩
      obtain ⟨h38, hpre⟩ := indexByte_some ha
      have hau : a < u.size := by
        have := (List.getElem?_eq_some_iff.1 h38).1
        rw [size_list] at this; exact this
      have hne : u.data.toList.drop a ≠ [] := fun e => by
        have := congrArg List.length e
        rw [List.length_drop, size_list] at this
        simp at this; omega
      obtain ⟨k1, k2, k3⟩ := stepR_ok _ value hne
      rw [List.length_drop, size_list] at k2
      have HS := Lib.hid (HD.out.trans (congrArg (acc ++ ·) (dec_at value _ a h38 hpre)))
      have HR := Lib.hid (read_any (u.extract a u.size) value wr (HT.out.below HB.out) (by rw [ByteArray.size_extract]; omega))
      rw [ext_tail] at HR
      have hst : stepR (u.data.toList.drop a) value = if (rd (u.data.toList.drop a) value).2 = 0 then (⟨#[38]⟩, 1) else rd (u.data.toList.drop a) value := rfl
      have HH := Lib.hid (ext_list u 0 a)
      have hsa : (u.extract 0 a).size = a := by rw [ByteArray.size_extract]; omega
      have HSA := Lib.hid hsa
      have HX : Hid (∀ n, a + n ≤ u.size → (u.extract (a + n) u.size).data.toList = u.data.toList.drop (a + n) ∧ (u.extract (a + n) u.size).size = u.size - (a + n)) := Lib.hid (fun n hn => ⟨ext_tail _ _, by rw [ByteArray.size_extract]; omega⟩)
      clear h38 hpre hne hneg hge hsa
      have HAi := Lib.hid ha
      rw [ha]
      clear ha
      generalize rd (u.data.toList.drop a) value = R at *
      have HW : Hid (∀ (l : List UInt8) (v : ByteArray) (W : World), IsBuilderF 65 5 w.heap.size w.heap.size (byteCells l) W → w.heap.size ≤ W.heap.size → l.length + v.size ≤ 1000000 → Calls Tryz.prog 35 #[.pointer (some ⟨w.heap.size, 0, none⟩), .string v] W fun e w' => e = .returned (.tuple #[.int .i64 v.size, .nilIface]) ∧ IsBuilderF 65 5 w.heap.size w.heap.size (byteCells (l ++ v.data.toList)) w' ∧ Below w.heap.size W w') := Lib.hid (fun l v W h1 h2 h3 => by
        refine (Tryz.Builder_WriteString_k w.heap.size w.heap.size (byteCells l) v W h1 (by rw [byteCells_length]; omega) h2).mono ?_
        rintro e w' ⟨he, hb, hbel, _⟩
        rw [str_cells] at hb
        exact ⟨he, .inr hb, hbel⟩)
      have hsz2 : (u.extract 0 a).size ≤ 10000 := by rw [HSA.out]; omega
      obtain ⟨T, n⟩ := R
      by_cases hz : n = 0
      · subst hz
        rw [if_pos rfl] at hst
        rw [hst] at HS k1 k2 k3
        clear hst
        unfold RefPost at HR
        simp only [] at HS k1 k2 k3 HR
        go_wp2_with fail
        refine HR.out.mono ?_
        rintro e w2 ⟨rfl, hb⟩
        have HB2 := Lib.hid (HB.out.trans (hb.mono HB.out.size))
        have HU2 := Lib.hid (built HU.out hb)
        clear hb HR
        go_wp2_with fail
        refine (HW.out acc (u.extract 0 a) w2 HU2.out HB2.out.size (by omega)).mono ?_
        rw [HH.out, List.drop_zero]
        rintro e w3 ⟨rfl, hu3, hb⟩
        have HB3 := Lib.hid (HB2.out.trans hb)
        have HU3 := Lib.hid hu3
        clear hb hu3
        go_wp2_with fail
        refine (HW.out (acc ++ u.data.toList.take a) ⟨#[38]⟩ w3 HU3.out HB3.out.size (by rw [List.length_append, List.length_take, size_list]; have : (ByteArray.mk #[38]).size = 1 := rfl; omega)).mono ?_
        rintro e w4 ⟨rfl, hu4, hb⟩
        have HB4 := Lib.hid (HB3.out.trans hb)
        have HU4 := Lib.hid hu4
        clear hb hu4
        go_wp2_with fail
        obtain ⟨q, hq⟩ : ∃ q, indexByte (u.extract (a + 1) u.size).data.toList 38 = q := ⟨_, rfl⟩
        have HIq := HI.out (u.extract (a + 1) u.size) w4
        rw [hq] at HIq
        have HQ := Lib.hid hq
        clear hq
        refine HIq.mono ?_
        rintro e w5 ⟨rfl, rfl⟩
        clear HIq
        go_wp2
        go_roundw
        case rel => exact ⟨u.extract (a + 1) u.size, (acc ++ u.data.toList.take a) ++ (ByteArray.mk #[38]).data.toList, rfl, by rw [HQ.out], by rw [(HX.out 1 (by omega)).2, List.length_append, List.length_append, List.length_take, size_list, size_list]; have : (ByteArray.mk #[38]).size = 1 := rfl; omega, by rw [(HX.out 1 (by omega)).1]; exact HS.out.trans (by simp), HU4.out, HB4.out⟩
        case measure => show (u.extract (a + 1) u.size).size < u.size; rw [(HX.out 1 (by omega)).2]; omega
      · rw [if_neg hz] at hst
        rw [hst] at HS k1 k2 k3
        clear hst
        unfold RefPost at HR
        simp only [] at HS k1 k2 k3 HR
        have n0 : ((n : Int) == 0) = false := by rw [beq_eq_false_iff_ne]; omega
        clear hz
        go_wp2_with fail
        refine HR.out.mono ?_
        rintro e w2 ⟨rfl, hb⟩
        have HB2 := Lib.hid (HB.out.trans (hb.mono HB.out.size))
        have HU2 := Lib.hid (built HU.out hb)
        clear hb HR
        go_wp2_with fail
        refine (HW.out acc (u.extract 0 a) w2 HU2.out HB2.out.size (by omega)).mono ?_
        rw [HH.out, List.drop_zero]
        rintro e w3 ⟨rfl, hu3, hb⟩
        have HB3 := Lib.hid (HB2.out.trans hb)
        have HU3 := Lib.hid hu3
        clear hb hu3
        go_wp2_with fail
        refine (HW.out (acc ++ u.data.toList.take a) T w3 HU3.out HB3.out.size (by rw [List.length_append, List.length_take, size_list]; omega)).mono ?_
        rintro e w4 ⟨rfl, hu4, hb⟩
        have HB4 := Lib.hid (HB3.out.trans hb)
        have HU4 := Lib.hid hu4
        clear hb hu4
        go_wp2_with fail
        obtain ⟨q, hq⟩ : ∃ q, indexByte (u.extract (a + n) u.size).data.toList 38 = q := ⟨_, rfl⟩
        have HIq := HI.out (u.extract (a + n) u.size) w4
        rw [hq] at HIq
        have HQ := Lib.hid hq
        clear hq
        refine HIq.mono ?_
        rintro e w5 ⟨rfl, rfl⟩
        clear HIq
        go_wp2
        go_roundw
        case rel => exact ⟨u.extract (a + n) u.size, (acc ++ u.data.toList.take a) ++ (T).data.toList, rfl, by rw [HQ.out], by rw [(HX.out n (by omega)).2, List.length_append, List.length_append, List.length_take, size_list, size_list]; omega, by rw [(HX.out n (by omega)).1]; exact HS.out.trans (by simp), HU4.out, HB4.out⟩
        case measure => show (u.extract (a + n) u.size).size < u.size; rw [(HX.out n (by omega)).2]; omega
    · have hm : indexByte u.data.toList 38 = -1 := by omega
      have HF : Hid (acc ++ u.data.toList = dec value s.data.toList) := Lib.hid (by rw [HD.out, dec_none value _ hm])
      have HAi := Lib.hid hm
      rw [hm]
      clear hm hge hneg
      go_wp2_with fail
      refine (Tryz.Builder_WriteString_k w.heap.size w.heap.size (byteCells acc) u wr HU.out (by rw [byteCells_length]; omega) HB.out.size).mono ?_
      rintro e w2 ⟨rfl, hb, hbel, _⟩
      rw [str_cells] at hb
      have HU2 : Hid (IsBuilderF 65 5 w.heap.size w.heap.size (byteCells (acc ++ u.data.toList)) w2) := Lib.hid (.inr hb)
      have HB2 := Lib.hid (HB.out.trans hbel)
      clear hb hbel
      go_wp2_with fail
      refine (Tryz.Builder_String_any_k w.heap.size w.heap.size (acc ++ u.data.toList) w2 HU2.out HB2.out.size).mono ?_
      rintro e w3 ⟨rfl, _, hb, _⟩
      have HB3 := Lib.hid (HB2.out.trans hb)
      clear hb
      go_wp2
      go_ret
      exact ⟨ret_str (by rw [HF.out]; rfl), HB3.out⟩
end Go.Proofs.YtceelfomgcbkiaaGreatDoor.C

/-
  The walk of the document's Decode.
-/
namespace Go.Proofs.YtceelfomgcbkiaaGreatDoor.C
open Go.RowKit

set_option maxHeartbeats 6400000 in
theorem rdecode_any (s : ByteArray) (value : Bool) (w : World) (hs : s.size ≤ 10000) :
    Calls Tryz.prog 19 #[.string s, .bool value] w fun e w' => e = .returned (.string (decS value s)) ∧ Below w.heap.size w w' := by
  go_enter Tryz.func19, Tryz.ntmps19
  go_wp2
  go_loopw [5, 6] (fun t i wr => ∃ (k : Nat) (out : ByteArray), k ≤ s.size ∧ t = .string out ∧ i = .int .i64 k ∧ out.size + 4 * (s.size - k) ≤ 4 * s.size ∧ dec value s.data.toList = out.data.toList ++ dec value (s.data.toList.drop k) ∧ Below w.heap.size w wr) (fun _ i _ => s.size - (intOf i).toNat)
  case atStart => exact ⟨0, ByteArray.empty, Nat.zero_le _, rfl, rfl, by have : ByteArray.empty.size = 0 := rfl; omega, rfl, Below.refl _ _⟩
  case round =>
    obtain ⟨k, out, hk, rfl, rfl, hlen, hdec, hbel⟩ := hrel
    have HD := Lib.hid hdec
    have HB := Lib.hid hbel
    clear hdec hbel
    by_cases hlt : k < s.size
    · have HR := Lib.hid (rread_any (s.extract k s.size) value wr (by rw [ByteArray.size_extract]; omega))
      rw [ext_tail] at HR
      have hok := okR_rd (s.data.toList.drop k) value
      rw [List.length_drop, size_list] at hok
      have hd := drop_at s k hlt
      have h1 : (rd (s.data.toList.drop k) value).2 = 0 → dec value (s.data.toList.drop k) = s[k] :: dec value (s.data.toList.drop (k + 1)) := by
        rw [hd]; exact dec_keep value _ _
      have h2 := dec_ref value (s.data.toList.drop k)
      rw [List.drop_drop] at h2
      clear hd
      generalize rd (s.data.toList.drop k) value = R at *
      obtain ⟨T, n⟩ := R
      unfold RefPost at HR
      unfold okR at hok
      simp only [] at HR hok h1 h2
      by_cases hz : n = 0
      · subst hz
        have HF : Hid (dec value s.data.toList = (out ++ s.extract k (k + 1)).data.toList ++ dec value (s.data.toList.drop (k + 1))) := Lib.hid (by
          rw [HD.out, h1 rfl, ByteArray.data_append, Array.toList_append, ext_list, List.drop_take, drop_at s k hlt]
          simp)
        have hsz : (out ++ s.extract k (k + 1)).size = out.size + 1 := by
          rw [ByteArray.size_append, ByteArray.size_extract]; omega
        have HZ := Lib.hid hsz
        clear h1 h2 hok hsz
        go_wp2_with fail
        refine HR.out.mono ?_
        rintro e w2 ⟨rfl, hb⟩
        have HB2 := Lib.hid (HB.out.trans (hb.mono HB.out.size))
        clear hb HR
        go_wp2
        go_roundw
        case rel => exact ⟨k + 1, out ++ s.extract k (k + 1), by omega, rfl, by go_num, by rw [HZ.out]; omega, HF.out, HB2.out⟩
        case measure => simp [intOf]; omega
      · have n0 : ((n : Int) == 0) = false := by rw [beq_eq_false_iff_ne]; omega
        have hb3 : 2 ≤ n ∧ n ≤ s.size - k ∧ T.size ≤ 4 := by
          rcases hok with ⟨h0, _⟩ | h
          · exact absurd h0 hz
          · exact h
        have HF : Hid (dec value s.data.toList = (out ++ T).data.toList ++ dec value (s.data.toList.drop (k + n))) := Lib.hid (by
          rw [HD.out, h2 hz, ByteArray.data_append, Array.toList_append, List.append_assoc])
        have hsz : (out ++ T).size = out.size + T.size := by rw [ByteArray.size_append]
        have HZ := Lib.hid hsz
        clear h1 h2 hok hsz hz
        obtain ⟨n1, n2, n3⟩ := hb3
        go_wp2_with fail
        refine HR.out.mono ?_
        rintro e w2 ⟨rfl, hb⟩
        have HB2 := Lib.hid (HB.out.trans (hb.mono HB.out.size))
        clear hb HR
        go_wp2
        go_roundw
        case rel => exact ⟨k + n, out ++ T, by omega, rfl, by go_num, by rw [HZ.out]; omega, HF.out, HB2.out⟩
        case measure => simp [intOf]; omega
    · have HF : Hid (out = decS value s) := Lib.hid (by
        apply eq_of_list
        unfold decS
        rw [mkB_list, HD.out, List.drop_eq_nil_of_le (by rw [size_list]; omega), dec_nil, List.append_nil])
      go_wp2
      go_ret
      exact ⟨ret_str HF.out, HB.out⟩
end Go.Proofs.YtceelfomgcbkiaaGreatDoor.C
