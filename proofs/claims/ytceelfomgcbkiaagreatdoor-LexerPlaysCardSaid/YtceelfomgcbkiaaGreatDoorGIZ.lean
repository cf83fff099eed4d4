/-
  Several texts in one: IPlain ILeaf ILeaf2 ILoops ITrims IRtrim ILower IFold.
-/
import Derived.WalkKit
import Derived.Test.YtceelfomgcbkiaaGreatDoorRows
import Derived.IntWalk
import Derived.LoopTactic
import Derived.Laws.RangeAny
import Derived.Laws.RangeString
import Derived.WalkSpells
import Derived.Lib.Hide
import Derived.Laws.IdiomStrings
import Derived.Deep.QuietTactic
import Derived.BigQuiet
import Derived.WalkSmall
/-
  Plain functions on bytes and lists for layer 1 (ascii): blanks, letters, digits, small letters, trimming. No program stands here.
-/
namespace Go.Proofs.YtceelfomgcbkiaaGreatDoor.I
open Go.RowKit

/-- Is the number one of the five blanks? -/
def spI (n : Int) : Bool := decide (n = 9 ∨ n = 10 ∨ n = 12 ∨ n = 13 ∨ n = 32)
/-- Is the number a letter? -/
def leI (n : Int) : Bool := decide ((65 ≤ n ∧ n ≤ 90) ∨ (97 ≤ n ∧ n ≤ 122))
/-- What the number is as a digit to the base 16. -/
def hxI (n : Int) : Int := if 48 ≤ n ∧ n ≤ 57 then n - 48 else if 97 ≤ n ∧ n ≤ 102 then n - 87 else if 65 ≤ n ∧ n ≤ 70 then n - 55 else -1
/-- The small letter. -/
def smI (n : Int) : Int := if 65 ≤ n ∧ n ≤ 90 then n + 32 else n

def lowB (c : UInt8) : UInt8 := if 65 ≤ c.toNat ∧ c.toNat ≤ 90 then c + 32 else c
def lowL (l : List UInt8) : List UInt8 := l.map lowB
def lowS (s : ByteArray) : ByteArray := ⟨(lowL s.data.toList).toArray⟩

theorem lowB_nat (c : UInt8) : ((lowB c).toNat : Int) = smI (c.toNat : Int) := by
  unfold lowB smI
  have hc := c.toNat_lt
  by_cases h : 65 ≤ c.toNat ∧ c.toNat ≤ 90
  · rw [if_pos h, if_pos (by omega), UInt8.toNat_add]
    have : (32 : UInt8).toNat = 32 := rfl
    rw [this]; omega
  · rw [if_neg h, if_neg (by omega)]
theorem lowB_idem (c : UInt8) : lowB (lowB c) = lowB c := by
  have h := lowB_nat c
  apply UInt8.toNat_inj.1
  have h2 := lowB_nat (lowB c)
  unfold smI at h h2
  have hc := c.toNat_lt
  split at h <;> split at h2 <;> omega
theorem lowL_idem (l : List UInt8) : lowL (lowL l) = lowL l := by
  unfold lowL; rw [List.map_map]; apply List.map_congr_left; intro c _; exact lowB_idem c
theorem lowS_list (s : ByteArray) : (lowS s).data.toList = lowL s.data.toList := by simp [lowS]
theorem lowS_idem (s : ByteArray) : lowS (lowS s) = lowS s := by
  unfold lowS; simp [lowL_idem]
theorem lowS_size (s : ByteArray) : (lowS s).size = s.size := by
  show (lowS s).data.size = s.data.size
  simp [lowS, lowL]
theorem byte_inj {a b : UInt8} (h : (a.toNat : Int) = (b.toNat : Int)) : a = b := UInt8.toNat_inj.1 (by omega)

/-- Blank: all its bytes are blanks. -/
def blS (s : ByteArray) : Bool := s.data.toList.all fun c => spI (c.toNat : Int)

def spC (c : UInt8) : Bool := spI (c.toNat : Int)
def trL (l : List UInt8) : List UInt8 := ((l.dropWhile spC).reverse.dropWhile spC).reverse
def trS (s : ByteArray) : ByteArray := ⟨(trL s.data.toList).toArray⟩

theorem dw_all {p : UInt8 → Bool} : ∀ (l m : List UInt8), (∀ c ∈ l, p c = true) → (∀ c, m.head? = some c → p c = false) → (l ++ m).dropWhile p = m
  | [], m, _, h => by
    cases m with
    | nil => rfl
    | cons c m => simp [h c (by simp)]
  | c :: l, m, h, h2 => by
    simp [h c (by simp)]
    exact dw_all l m (fun c hc => h c (by simp [hc])) h2

/-- What stands between blanks, and neither begins nor ends with one, is what trimming leaves. -/
theorem trL_mid (a m b : List UInt8) (ha : ∀ c ∈ a, spC c = true) (hb : ∀ c ∈ b, spC c = true) (h1 : ∀ c, m.head? = some c → spC c = false) (h2 : ∀ c, m.getLast? = some c → spC c = false) :
    trL (a ++ (m ++ b)) = m := by
  unfold trL
  cases m with
  | nil =>
    have : (a ++ ([] ++ b)).dropWhile spC = [] := by
      have := dw_all (p := spC) (a ++ b) [] (by intro c hc; rcases List.mem_append.1 hc with h | h; exact ha c h; exact hb c h) (by simp)
      simpa using this
    rw [this]; rfl
  | cons x m =>
    rw [dw_all a ((x :: m) ++ b) ha (by intro c hc; exact h1 c (by simpa using hc))]
    rw [List.reverse_append, dw_all b.reverse (x :: m).reverse (by intro c hc; exact hb c (by simpa using hc)) (by intro c hc; exact h2 c (by rw [List.head?_reverse] at hc; exact hc))]
    simp
theorem dw_suffix {p : UInt8 → Bool} : ∀ (l : List UInt8), ∃ a, l = a ++ l.dropWhile p ∧ ∀ c ∈ a, p c = true
  | [] => ⟨[], rfl, by simp⟩
  | x :: l => by
    by_cases hx : p x = true
    · obtain ⟨a, h1, h2⟩ := dw_suffix (p := p) l
      refine ⟨x :: a, ?_, ?_⟩
      · rw [List.dropWhile_cons_of_pos hx, List.cons_append, ← h1]
      · intro c hc
        rcases List.mem_cons.1 hc with h | h
        · rw [h]; exact hx
        · exact h2 c h
    · exact ⟨[], by rw [List.dropWhile_cons_of_neg hx]; rfl, by simp⟩
theorem dw_len {p : UInt8 → Bool} (l : List UInt8) : (l.dropWhile p).length ≤ l.length := by
  obtain ⟨a, h, _⟩ := dw_suffix (p := p) l
  have := congrArg List.length h
  simp at this; omega
theorem dw_head {p : UInt8 → Bool} : ∀ (l : List UInt8) c, (l.dropWhile p).head? = some c → p c = false
  | [], c, h => by simp at h
  | x :: l, c, h => by
    by_cases hx : p x = true
    · rw [List.dropWhile_cons_of_pos hx] at h; exact dw_head l c h
    · rw [List.dropWhile_cons_of_neg hx] at h; simp at h; subst h; simpa using hx
theorem trL_idem (l : List UInt8) : trL (trL l) = trL l := by
  obtain ⟨a, ha, ha'⟩ := dw_suffix (p := spC) l
  obtain ⟨b, hb, hb'⟩ := dw_suffix (p := spC) (l.dropWhile spC).reverse
  have e : trL l = ((l.dropWhile spC).reverse.dropWhile spC).reverse := rfl
  have h1 : ∀ c, (trL l).head? = some c → spC c = false := by
    intro c hc
    apply dw_head l c
    have hb2 : l.dropWhile spC = trL l ++ b.reverse := by
      rw [e]
      have := congrArg List.reverse hb
      simpa using this
    rw [hb2]
    cases hx : trL l with
    | nil => rw [hx] at hc; simp at hc
    | cons y ys => rw [hx] at hc; simpa using hc
  have h2 : ∀ c, (trL l).getLast? = some c → spC c = false := by
    intro c hc
    rw [e, List.getLast?_reverse] at hc
    exact dw_head _ c hc
  have := trL_mid [] (trL l) [] (by simp) (by simp) h1 h2
  simpa using this
theorem trL_len (l : List UInt8) : (trL l).length ≤ l.length := by
  unfold trL
  have h1 := dw_len (p := spC) l
  have h2 := dw_len (p := spC) (l.dropWhile spC).reverse
  simp at h2 ⊢; omega
theorem trS_idem (s : ByteArray) : trS (trS s) = trS s := by
  unfold trS; simp [trL_idem]
theorem trS_size (s : ByteArray) : (trS s).size ≤ s.size := by
  show (trS s).data.size ≤ s.data.size
  have := trL_len s.data.toList
  simpa [trS] using this
/-- A piece between blanks. -/
theorem trS_of (s : ByteArray) (i j : Nat) (hij : i ≤ j) (hj : j ≤ s.size) (ha : ∀ k (h : k < s.size), k < i → spC s[k] = true) (hb : ∀ k (h : k < s.size), j ≤ k → spC s[k] = true)
    (h1 : ∀ h : i < j, spC (s[i]'(by omega)) = false) (h2 : ∀ h : i < j, spC (s[j - 1]'(by omega)) = false) : s.extract i j = trS s := by
  have hsz : s.data.toList.length = s.size := by simp
  have hx : (s.extract i j).data.toList = (s.data.toList.take j).drop i := by
    rw [ByteArray.data_extract, Array.toList_extract, List.extract_eq_take_drop, List.drop_take]
  have hl : s.data.toList = s.data.toList.take i ++ ((s.data.toList.take j).drop i ++ s.data.toList.drop j) := by
    have e1 : (s.data.toList.take j).take i = s.data.toList.take i := by rw [List.take_take]; congr 1; omega
    rw [← List.append_assoc, ← e1, List.take_append_drop, List.take_append_drop]
  have key : trL s.data.toList = (s.data.toList.take j).drop i := by
    refine (congrArg trL hl).trans ?_
    refine trL_mid _ _ _ ?_ ?_ ?_ ?_
    · intro c hc
      obtain ⟨k, hk, rfl⟩ := List.mem_iff_getElem.1 hc
      simp at hk
      rw [List.getElem_take]
      exact ha k (by omega) (by omega)
    · intro c hc
      obtain ⟨k, hk, rfl⟩ := List.mem_iff_getElem.1 hc
      simp at hk
      rw [List.getElem_drop]
      exact hb (j + k) (by omega) (by omega)
    · intro c hc
      rw [List.head?_eq_getElem?] at hc
      obtain ⟨hk, rfl⟩ := List.getElem?_eq_some_iff.1 hc
      simp at hk
      simp only [List.getElem_drop, List.getElem_take]
      exact h1 (by omega)
    · intro c hc
      rw [List.getLast?_eq_getElem?] at hc
      obtain ⟨hk, rfl⟩ := List.getElem?_eq_some_iff.1 hc
      simp at hk
      simp only [List.getElem_drop, List.getElem_take]
      have := h2 (by omega)
      have e : i + (((s.data.toList.take j).drop i).length - 1) = j - 1 := by simp; omega
      have e2 : s.data.toList[i + (((s.data.toList.take j).drop i).length - 1)]'(by rw [e]; omega) = s[j - 1]'(by omega) := by
        simp only [e]; rfl
      rw [e2]; exact this
  unfold trS
  rw [key, ← hx]
end Go.Proofs.YtceelfomgcbkiaaGreatDoor.I

/-
  The walks of the functions on one byte or one rune: they compute, and leave the world alone.
-/
namespace Go.Proofs.YtceelfomgcbkiaaGreatDoor.I
open Go.RowKit

set_option maxHeartbeats 400000 in
theorem blank_any (n : Int) (w : World) :
    Calls Tryz.prog 102 #[.int .i32 n] w fun e w' => e = .returned (.bool (spI n)) ∧ w = w' := by
  by_cases h : n = 9 ∨ n = 10 ∨ n = 12 ∨ n = 13 ∨ n = 32
  · have hs : spI n = true := by simp [spI, h]
    rw [hs]; clear hs
    rcases h with rfl | rfl | rfl | rfl | rfl
    all_goals
      go_enter Tryz.func102, Tryz.ntmps102
      go_wp2
      go_ret
      exact ⟨rfl, rfl⟩
  · have hs : spI n = false := by simp [spI, h]
    rw [hs]; clear hs
    have h1 : (n == 9) = false := by simp; omega
    have h2 : (n == 10) = false := by simp; omega
    have h3 : (n == 12) = false := by simp; omega
    have h4 : (n == 13) = false := by simp; omega
    have h5 : (n == 32) = false := by simp; omega
    clear h
    go_enter Tryz.func102, Tryz.ntmps102
    go_wp2
    go_ret
    exact ⟨rfl, rfl⟩

theorem space_any (n : Int) (w : World) (h0 : 0 ≤ n) (h1 : n ≤ 255) :
    Calls Tryz.prog 78 #[.int .u8 n] w fun e w' => e = .returned (.bool (spI n)) ∧ w = w' := by
  go_enter Tryz.func78, Tryz.ntmps78
  go_wp2_with (go_at_call 102; refine (blank_any _ _).mono ?_; rintro e w' ⟨rfl, rfl⟩)
  go_ret
  exact ⟨rfl, rfl⟩

theorem rspace_any (n : Int) (w : World) (h0 : 0 ≤ n) (h1 : n ≤ 255) :
    Calls Tryz.prog 47 #[.int .u8 n] w fun e w' => e = .returned (.bool (spI n)) ∧ w = w' := by
  by_cases h : n = 9 ∨ n = 10 ∨ n = 12 ∨ n = 13 ∨ n = 32
  · have hs : spI n = true := by simp [spI, h]
    rw [hs]; clear hs
    rcases h with rfl | rfl | rfl | rfl | rfl
    all_goals
      go_enter Tryz.func47, Tryz.ntmps47
      go_wp2
      go_ret
      exact ⟨rfl, rfl⟩
  · have hs : spI n = false := by simp [spI, h]
    rw [hs]; clear hs
    have h1 : (n == 9) = false := by simp; omega
    have h2 : (n == 10) = false := by simp; omega
    have h3 : (n == 12) = false := by simp; omega
    have h4 : (n == 13) = false := by simp; omega
    have h5 : (n == 32) = false := by simp; omega
    clear h
    go_enter Tryz.func47, Tryz.ntmps47
    go_wp2
    go_ret
    exact ⟨rfl, rfl⟩

theorem small_any (n : Int) (w : World) (h0 : 0 ≤ n) (h1 : n ≤ 255) :
    Calls Tryz.prog 76 #[.int .u8 n] w fun e w' => e = .returned (.int .u8 (smI n)) ∧ w = w' := by
  by_cases ha : 65 ≤ n
  · by_cases hb : n ≤ 90
    · have hs : smI n = n + 32 := by unfold smI; rw [if_pos ⟨ha, hb⟩]
      rw [hs]; clear hs
      go_enter Tryz.func76, Tryz.ntmps76
      go_wp2
      go_ret
      exact ⟨rfl, rfl⟩
    · have hs : smI n = n := by unfold smI; rw [if_neg (by omega)]
      rw [hs]; clear hs
      go_enter Tryz.func76, Tryz.ntmps76
      go_wp2
      go_ret
      exact ⟨rfl, rfl⟩
  · have hs : smI n = n := by unfold smI; rw [if_neg (by omega)]
    rw [hs]; clear hs
    go_enter Tryz.func76, Tryz.ntmps76
    go_wp2
    go_ret
    exact ⟨rfl, rfl⟩
end Go.Proofs.YtceelfomgcbkiaaGreatDoor.I

/-
  The walks of Letter and Hex, and of the document's own.
-/
namespace Go.Proofs.YtceelfomgcbkiaaGreatDoor.I
open Go.RowKit

theorem ret_bool {a b : Bool} (h : a = b) : Ending.returned (.bool a) = .returned (.bool b) := by rw [h]

theorem letter_any (n : Int) (w : World) (h0 : 0 ≤ n) (h1 : n ≤ 255) :
    Calls Tryz.prog 72 #[.int .u8 n] w fun e w' => e = .returned (.bool (leI n)) ∧ w = w' := by
  have hsm : leI n = decide (97 ≤ smI n ∧ smI n ≤ 122) := by
    unfold leI smI; rw [decide_eq_decide]; split <;> omega
  have hb : 0 ≤ smI n ∧ smI n ≤ 255 := by unfold smI; split <;> omega
  rw [hsm]; clear hsm
  obtain ⟨hb0, hb1⟩ := hb
  by_cases ha : 97 ≤ smI n
  · by_cases hc : smI n ≤ 122
    · rw [decide_eq_true (And.intro ha hc)]
      go_enter Tryz.func72, Tryz.ntmps72
      go_wp2_with (go_at_call 76; refine (small_any _ _ h0 h1).mono ?_; rintro e w' ⟨rfl, rfl⟩)
      go_ret
      exact ⟨ret_bool (by first | rfl | (simp; omega)), rfl⟩
    · rw [decide_eq_false (by omega)]
      go_enter Tryz.func72, Tryz.ntmps72
      go_wp2_with (go_at_call 76; refine (small_any _ _ h0 h1).mono ?_; rintro e w' ⟨rfl, rfl⟩)
      go_ret
      exact ⟨ret_bool (by first | rfl | (simp; omega)), rfl⟩
  · rw [decide_eq_false (by omega)]
    go_enter Tryz.func72, Tryz.ntmps72
    go_wp2_with (go_at_call 76; refine (small_any _ _ h0 h1).mono ?_; rintro e w' ⟨rfl, rfl⟩)
    go_ret
    exact ⟨ret_bool (by first | rfl | (simp; omega)), rfl⟩

/-- Where a byte stands among the letters and digits. -/
theorem where_is (n : Int) (h0 : 0 ≤ n) (h1 : n ≤ 255) : (0 ≤ n ∧ n < 48) ∨ (48 ≤ n ∧ n ≤ 57) ∨ (57 < n ∧ n < 65) ∨ (65 ≤ n ∧ n ≤ 70) ∨ (70 < n ∧ n ≤ 90) ∨ (90 < n ∧ n < 97) ∨ (97 ≤ n ∧ n ≤ 102) ∨ (102 < n ∧ n ≤ 122) ∨ (122 < n ∧ n ≤ 255) := by omega

set_option maxHeartbeats 800000 in
theorem rletter_any (n : Int) (w : World) (h0 : 0 ≤ n) (h1 : n ≤ 255) :
    Calls Tryz.prog 46 #[.int .u8 n] w fun e w' => e = .returned (.bool (leI n)) ∧ w = w' := by
  rcases where_is n h0 h1 with h | h | h | h | h | h | h | h | h
  all_goals
    obtain ⟨ha, hb⟩ := h
    first
      | rw [show leI n = true from decide_eq_true (by omega)]
      | rw [show leI n = false from decide_eq_false (by omega)]
    go_enter Tryz.func46, Tryz.ntmps46
    go_wp2
    go_ret
    exact ⟨ret_bool (by first | rfl | (simp; omega)), rfl⟩

theorem hxI_d (n : Int) (a : 48 ≤ n) (b : n ≤ 57) : hxI n = n - 48 := by unfold hxI; rw [if_pos ⟨a, b⟩]
theorem hxI_a (n : Int) (a : 97 ≤ n) (b : n ≤ 102) : hxI n = n - 87 := by unfold hxI; rw [if_neg (by omega), if_pos ⟨a, b⟩]
theorem hxI_A (n : Int) (a : 65 ≤ n) (b : n ≤ 70) : hxI n = n - 55 := by unfold hxI; rw [if_neg (by omega), if_neg (by omega), if_pos ⟨a, b⟩]
theorem hxI_n (n : Int) (a : ¬ (48 ≤ n ∧ n ≤ 57)) (b : ¬ (97 ≤ n ∧ n ≤ 102)) (c : ¬ (65 ≤ n ∧ n ≤ 70)) : hxI n = -1 := by unfold hxI; rw [if_neg a, if_neg b, if_neg c]
theorem ret_num {k : IntKind} {a b : Int} (h : a = b) : Ending.returned (.int k a) = .returned (.int k b) := by rw [h]

set_option maxHeartbeats 1600000 in
theorem hex_any (n : Int) (w : World) (h0 : 0 ≤ n) (h1 : n ≤ 255) :
    Calls Tryz.prog 104 #[.int .u8 n] w fun e w' => e = .returned (.int .i64 (hxI n)) ∧ w = w' := by
  rcases where_is n h0 h1 with h | h | h | h | h | h | h | h | h
  all_goals
    obtain ⟨ha, hb⟩ := h
    first
      | rw [hxI_d n (by omega) (by omega)]
      | rw [hxI_a n (by omega) (by omega)]
      | rw [hxI_A n (by omega) (by omega)]
      | rw [hxI_n n (by omega) (by omega) (by omega)]
    go_enter Tryz.func104, Tryz.ntmps104
    go_wp2
    go_ret
    exact ⟨ret_num (by omega), rfl⟩
set_option maxHeartbeats 1600000 in
theorem rhex_any (n : Int) (w : World) (h0 : 0 ≤ n) (h1 : n ≤ 255) :
    Calls Tryz.prog 87 #[.int .u8 n] w fun e w' => e = .returned (.int .i64 (hxI n)) ∧ w = w' := by
  rcases where_is n h0 h1 with h | h | h | h | h | h | h | h | h
  all_goals
    obtain ⟨ha, hb⟩ := h
    first
      | rw [hxI_d n (by omega) (by omega)]
      | rw [hxI_a n (by omega) (by omega)]
      | rw [hxI_A n (by omega) (by omega)]
      | rw [hxI_n n (by omega) (by omega) (by omega)]
    go_enter Tryz.func87, Tryz.ntmps87
    go_wp2
    go_ret
    exact ⟨ret_num (by omega), rfl⟩
end Go.Proofs.YtceelfomgcbkiaaGreatDoor.I

/-
  The walks of the functions on texts that only read: Trim, Blank, Fold, and the document's own.
-/
namespace Go.Proofs.YtceelfomgcbkiaaGreatDoor.I
open Go.RowKit

theorem blS_of_bad {s : ByteArray} {k : Nat} (hlt : k < s.size) (h : spC s[k] = false) : blS s = false := by
  unfold blS
  rw [List.all_eq_false]
  exact ⟨s[k], by rw [List.mem_iff_getElem]; exact ⟨k, by simpa using hlt, rfl⟩, by simpa [spC] using h⟩
theorem blS_of_all {s : ByteArray} (h : ∀ j (h : j < s.size), spC s[j] = true) : blS s = true := by
  unfold blS
  rw [List.all_eq_true]
  intro c hc
  obtain ⟨j, hj, rfl⟩ := List.mem_iff_getElem.1 hc
  exact h j (by simpa using hj)
theorem spI_high {n : Int} (h : 128 ≤ n) : spI n = false := by
  unfold spI; exact decide_eq_false (by omega)

end Go.Proofs.YtceelfomgcbkiaaGreatDoor.I

/-
  The walks of Trim, and of the document's own.
-/
namespace Go.Proofs.YtceelfomgcbkiaaGreatDoor.I
open Go.RowKit

theorem ret_str {a b : ByteArray} (h : a = b) : Ending.returned (.string a) = .returned (.string b) := by rw [h]

set_option maxHeartbeats 1600000 in
theorem trim_any (s : ByteArray) (w : World) (hs : s.size ≤ maxLen) :
    Calls Tryz.prog 113 #[.string s] w fun e w' => e = .returned (.string (trS s)) ∧ w = w' := by
  unfold maxLen at hs
  go_enter Tryz.func113, Tryz.ntmps113
  go_wp2
  go_loop [3] (fun i => ∃ k : Nat, k ≤ s.size ∧ i = .int .i64 k ∧ (∀ j (h : j < s.size), j < k → spC s[j] = true)) (fun i => s.size - (intOf i).toNat)
  case atStart => exact ⟨0, Nat.zero_le _, rfl, fun _ _ h => absurd h (Nat.not_lt_zero _)⟩
  case round =>
    obtain ⟨k, hk, rfl, hall⟩ := hrel
    have HA := Lib.hid hall; clear hall
    by_cases hgo : ∃ h : k < s.size, spC s[k] = true
    · obtain ⟨hlt, hb⟩ := hgo
      have hc := s[k].toNat_lt
      have hb' : spI (s[k].toNat : Int) = true := hb
      go_wp2_with (go_at_call 78; refine (space_any _ _ (by omega) (by omega)).mono ?_; rintro e w' ⟨rfl, rfl⟩)
      go_round
      case rel => exact ⟨k + 1, by omega, by go_num, fun j h hj => by
        rcases Nat.lt_or_eq_of_le (Nat.le_of_lt_succ hj) with h1 | h1
        · exact HA.out j h h1
        · subst h1; exact hb⟩
      case measure => simp [intOf]; omega
    · have HS : Hid (∀ h : k < s.size, spC s[k] = false) := fun h => by
        cases hx : spC s[k] with
        | false => rfl
        | true => exact absurd ⟨h, hx⟩ hgo
      clear hgo
      have hsz : s.size ≤ s.size := Nat.le_refl _
      by_cases hlt : k < s.size
      · have hb' : spI (s[k].toNat : Int) = false := HS.out hlt
        have hc := s[k].toNat_lt
        go_wp2_with (go_at_call 78; refine (space_any _ _ (by omega) (by omega)).mono ?_; rintro e w' ⟨rfl, rfl⟩)
        clear hb'
        go_loop [4] (fun i => ∃ m : Nat, k < m ∧ m ≤ s.size ∧ i = .int .i64 m ∧ (∀ j (h : j < s.size), m ≤ j → spC s[j] = true)) (fun i => (intOf i).toNat)
        case atStart => exact ⟨s.size, hlt, Nat.le_refl _, rfl, fun _ _ h => by omega⟩
        case round =>
          obtain ⟨m, hkm, hm, rfl, hall⟩ := hrel
          have HB := Lib.hid hall; clear hall
          by_cases hb : spC (s[m - 1]'(by omega)) = true
          · have hb' : spI ((s[m - 1]'(by omega)).toNat : Int) = true := hb
            have hkm' : k + 1 < m := by
              rcases Nat.lt_or_ge (k + 1) m with h | h
              · exact h
              · exfalso
                have : m - 1 = k := by omega
                have h2 := HS.out hlt
                have h3 : spC (s[m - 1]'(by omega)) = spC s[k] := by congr 1; simp only [this]
                rw [h3, h2] at hb; cases hb
            have hc := (s[m - 1]'(by omega)).toNat_lt
            go_wp2_with (go_at_call 78; refine (space_any _ _ (by omega) (by omega)).mono ?_; rintro e w' ⟨rfl, rfl⟩)
            go_round
            case rel => exact ⟨m - 1, by omega, by omega, by congr 1; omega, fun j h hj => by
              rcases Nat.lt_or_ge j m with h1 | h1
              · have e : j = m - 1 := by omega
                subst e; exact hb
              · exact HB.out j h h1⟩
            case measure => simp [intOf]; omega
          · have hb1 : spC (s[m - 1]'(by omega)) = false := by simpa using hb
            have hb' : spI ((s[m - 1]'(by omega)).toNat : Int) = false := hb1
            have hc := (s[m - 1]'(by omega)).toNat_lt
            have HE := Lib.hid (trS_of s k m (by omega) hm HA.out HB.out (fun _ => HS.out hlt) (fun _ => hb1))
            clear hb hb1
            go_wp2_with (go_at_call 78; refine (space_any _ _ (by omega) (by omega)).mono ?_; rintro e w' ⟨rfl, rfl⟩)
            go_ret
            exact ⟨ret_str HE.out, rfl⟩
      · have HE := Lib.hid (trS_of s k s.size hk (Nat.le_refl _) HA.out (fun _ _ _ => by omega) (fun h => absurd h hlt) (fun h => absurd h hlt))
        go_wp2
        refine wp_loop_rounds 1 ?_
        rw [rounds_succ]
        go_wp2
        go_ret
        exact ⟨ret_str HE.out, rfl⟩
end Go.Proofs.YtceelfomgcbkiaaGreatDoor.I

/-
  The walk of the document's own Trim: a text is cut at its front, then at its end, byte by byte.
-/
namespace Go.Proofs.YtceelfomgcbkiaaGreatDoor.I
open Go.RowKit

def Cut1 (s t : ByteArray) : Prop := ∃ k, k ≤ s.size ∧ t = s.extract k s.size ∧ ∀ j (h : j < s.size), j < k → spC s[j] = true
def Cut2 (s t : ByteArray) : Prop := ∃ k m, k ≤ m ∧ m ≤ s.size ∧ t = s.extract k m ∧ (∀ j (h : j < s.size), j < k → spC s[j] = true) ∧ (∀ j (h : j < s.size), m ≤ j → spC s[j] = true) ∧ (∀ h : k < m, ∀ h2 : k < s.size, spC s[k] = false)

theorem ext_size (s : ByteArray) (i j : Nat) (hj : j ≤ s.size) : (s.extract i j).size = j - i := by
  rw [ByteArray.size_extract]; omega
theorem ext_get (s : ByteArray) (i j q : Nat) (h : q < (s.extract i j).size) (h2 : i + q < s.size) : (s.extract i j)[q] = s[i + q] := by
  rw [ByteArray.getElem_extract]
theorem ext_ext (s : ByteArray) (i j a b : Nat) (hij : i ≤ j) (hb : b ≤ j - i) : (s.extract i j).extract a b = s.extract (i + a) (i + b) := by
  rw [ByteArray.extract_extract]; congr 1; omega
theorem get_of {s t : ByteArray} (e : t = s) (q : Nat) (h : q < t.size) (h2 : q < s.size) : t[q] = s[q] := by subst e; rfl
theorem get_at {s : ByteArray} {a b : Nat} (e : a = b) (h : a < s.size) (h2 : b < s.size) : s[a] = s[b] := by subst e; rfl

theorem cut1_start (s : ByteArray) : Cut1 s s := ⟨0, Nat.zero_le _, by
  apply ByteArray.ext
  rw [ByteArray.data_extract]
  exact Array.extract_size.symm, fun _ _ h => absurd h (Nat.not_lt_zero _)⟩
theorem cut1_size {s t : ByteArray} (h : Cut1 s t) : t.size ≤ s.size := by
  obtain ⟨k, hk, rfl, _⟩ := h; rw [ext_size _ _ _ (Nat.le_refl _)]; omega
theorem cut2_size {s t : ByteArray} (h : Cut2 s t) : t.size ≤ s.size := by
  obtain ⟨k, m, _, hm, rfl, _⟩ := h; rw [ext_size _ _ _ hm]; omega
theorem cut1_step {s t : ByteArray} (h : Cut1 s t) (h0 : 0 < t.size) (hb : spC t[0] = true) : Cut1 s (t.extract 1 t.size) := by
  obtain ⟨k, hk, rfl, ha⟩ := h
  have hz : (s.extract k s.size).size = s.size - k := ext_size _ _ _ (Nat.le_refl _)
  rw [ext_get s k s.size 0 h0 (by omega)] at hb
  refine ⟨k + 1, by omega, ?_, ?_⟩
  · rw [hz, ext_ext _ _ _ _ _ hk (Nat.le_refl _)]; congr 1; omega
  · intro j h hj
    rcases Nat.lt_or_eq_of_le (Nat.le_of_lt_succ hj) with h1 | h1
    · exact ha j h h1
    · subst h1; exact hb
theorem cut1_stop {s t : ByteArray} (h : Cut1 s t) (hb : ∀ h : 0 < t.size, spC t[0] = false) : Cut2 s t := by
  obtain ⟨k, hk, rfl, ha⟩ := h
  have hz : (s.extract k s.size).size = s.size - k := ext_size _ _ _ (Nat.le_refl _)
  refine ⟨k, s.size, hk, Nat.le_refl _, rfl, ha, fun _ _ _ => by omega, fun h1 h2 => ?_⟩
  have := hb (by omega)
  rw [ext_get s k s.size 0 (by omega) (by omega)] at this
  exact this
theorem cut2_step {s t : ByteArray} (h : Cut2 s t) (h0 : 0 < t.size) (hb : spC (t[t.size - 1]'(by omega)) = true) : Cut2 s (t.extract 0 (t.size - 1)) := by
  obtain ⟨k, m, hkm, hm, rfl, ha, hc, hd⟩ := h
  have hz : (s.extract k m).size = m - k := ext_size _ _ _ hm
  rw [ext_get s k m _ (by omega) (by omega)] at hb
  refine ⟨k, m - 1, by omega, by omega, ?_, ha, ?_, fun _ h2 => hd (by omega) h2⟩
  · rw [hz, ext_ext _ _ _ _ _ hkm (by omega)]; congr 1; omega
  · intro j h hj
    rcases Nat.lt_or_ge j m with h1 | h1
    · rw [get_at (show j = k + ((s.extract k m).size - 1) by omega) h (by omega)]; exact hb
    · exact hc j h h1
theorem cut2_stop {s t : ByteArray} (h : Cut2 s t) (hb : ∀ h : 0 < t.size, spC (t[t.size - 1]'(by omega)) = false) : t = trS s := by
  obtain ⟨k, m, hkm, hm, rfl, ha, hc, hd⟩ := h
  have hz : (s.extract k m).size = m - k := ext_size _ _ _ hm
  refine trS_of s k m hkm hm ha hc (fun h => hd h (by omega)) (fun h => ?_)
  have h2 := hb (by omega)
  rw [ext_get s k m _ (by omega) (by omega), get_at (show k + ((s.extract k m).size - 1) = m - 1 by omega) (by omega) (by omega)] at h2
  exact h2

def strOf : Value → ByteArray | .string s => s | _ => ByteArray.empty

end Go.Proofs.YtceelfomgcbkiaaGreatDoor.I

/-
  The walks of Lower, and of the document's own: bytes are copied out of the text, turned one by one, and made a text again.
-/
namespace Go.Proofs.YtceelfomgcbkiaaGreatDoor.I
open Go.RowKit

/-- The first n cells of block B hold these bytes, and may be written. -/
def Row (w : World) (B n : Nat) (f : Nat → Int) : Prop := ∀ j, j < n → w.cell? ⟨B, j, none⟩ = some (.int .u8 (f j)) ∧ w.frozen? ⟨B, j, none⟩ = false

/-- The byte at j. -/
def byteAt (s : ByteArray) (j : Nat) : Int := ((s.data.toList.getD j 0).toNat : Int)
theorem byteAt_bd (s : ByteArray) (j : Nat) : 0 ≤ byteAt s j ∧ byteAt s j ≤ 255 := by
  have := (s.data.toList.getD j 0).toNat_lt
  unfold byteAt; omega
theorem byteAt_eq (s : ByteArray) (k : Nat) (h : k < s.size) : byteAt s k = (s[k].toNat : Int) := by
  unfold byteAt
  rw [List.getD_eq_getElem?_getD, List.getElem?_eq_getElem (by simpa using h)]; rfl
/-- The bytes of s, the first k of them small. -/
def part (s : ByteArray) (k j : Nat) : Int := if j < k then smI (byteAt s j) else byteAt s j

theorem part_at (s : ByteArray) (k : Nat) : part s k k = byteAt s k := by
  unfold part; rw [if_neg (Nat.lt_irrefl _)]

/-- What '[]byte(s)' makes. -/
theorem made (s : ByteArray) (w : World) : ∃ (cap : Nat) (C : Array Value),
    (convert 9 63 (.string s)).run Tryz.prog w = .ok (.slice (some ⟨w.heap.size, 0, none⟩) s.size cap) (w.drew.alloc (.cells C 5 (C.size, C.size + 1))) ∧
    s.size ≤ C.size ∧ ∀ j, j < s.size → C[j]? = some (.int .u8 (part s 0 j)) := by
  refine ⟨_, _, run_bytes_of_string (P := Tryz.prog) w 9 63 5 s Tryz.underlying9 Tryz.underlying63 Tryz.underlying5, ?_, ?_⟩
  · show s.data.size ≤ _
    simp [bytesRow]
  · intro j hj
    rw [bytesRow_at s _ j hj]
    unfold part
    rw [if_neg (Nat.not_lt_zero _), byteAt_eq s j hj]; rfl

theorem row_start (w : World) (n : Nat) (f : Nat → Int) (C : Array Value) (hn : n ≤ C.size) (h : ∀ j, j < n → C[j]? = some (.int .u8 (f j))) (t : TypeId) :
    Row (w.alloc (.cells C t (C.size, C.size + 1))) w.heap.size n f := fun j hj => by
  refine ⟨(World.cell?_alloc_mark w C t _ j).trans (h j hj), ?_⟩
  rw [World.frozen?_alloc_mark, decide_eq_false (by omega)]; rfl

theorem row_store {w : World} {B n k : Nat} {s : ByteArray} (h : Row w B n (part s k)) (hk : k < n) (v : Int) (hv : v = smI (byteAt s k)) :
    Row (w.setCell ⟨B, k, none⟩ (.int .u8 v)) B n (part s (k + 1)) := fun j hj => by
  rw [World.frozen?_setCell]
  refine ⟨?_, (h j hj).2⟩
  by_cases e : j = k
  · subst e
    rw [World.cell?_setCell_same _ _ _ (h j hj).1, hv]
    unfold part; rw [if_pos (Nat.lt_succ_self _)]
  · rw [World.cell?_setCell_other _ _ _ _ (by intro x; injection x with _ x; exact e x.symm), (h j hj).1]
    unfold part
    by_cases g : j < k
    · rw [if_pos g, if_pos (by omega)]
    · rw [if_neg g, if_neg (by omega)]

/-- What is not turned needs no store. -/
theorem row_skip {w : World} {B n k : Nat} {s : ByteArray} (h : Row w B n (part s k)) (hv : byteAt s k = smI (byteAt s k)) :
    Row w B n (part s (k + 1)) := fun j hj => by
  refine ⟨?_, (h j hj).2⟩
  rw [(h j hj).1]
  unfold part
  by_cases e : j = k
  · subst e
    rw [if_neg (Nat.lt_irrefl _), if_pos (Nat.lt_succ_self _), ← hv]
  · by_cases g : j < k
    · rw [if_pos g, if_pos (by omega)]
    · rw [if_neg g, if_neg (by omega)]

/-- What 'string(b)' makes of it. -/
theorem row_back {w : World} {B : Nat} {s : ByteArray} (h : Row w B s.size (part s s.size)) (cap : Nat) :
    (convert 63 9 (.slice (some ⟨B, 0, none⟩) s.size cap)).run Tryz.prog w = .ok (.string (lowS s)) w := by
  have hl : (lowL s.data.toList).length = s.size := by simp [lowL]
  have := run_convert_bytes_back (P := Tryz.prog) w 63 9 5 ⟨B, 0, none⟩ cap (lowL s.data.toList) Tryz.underlying63 Tryz.underlying5 Tryz.underlying9 (fun j hj => by
    have hj' : j < s.size := by omega
    have e : (Addr.add ⟨B, 0, none⟩ j) = ⟨B, j, none⟩ := by simp [Addr.add]; exact fun h => h.symm
    rw [e, (h j hj').1]
    unfold part
    rw [if_pos hj', byteAt_eq s j hj', ← lowB_nat]
    simp only [lowL, List.getElem_map]; rfl)
  rw [hl] at this
  exact this

set_option maxHeartbeats 800000 in
theorem lower_any (s : ByteArray) (w : World) (hs : s.size ≤ maxLen) :
    Calls Tryz.prog 41 #[.string s] w fun e w' => e = .returned (.string (lowS s)) ∧ Below w.heap.size w w' := by
  unfold maxLen at hs
  obtain ⟨cap, C, hconv, hC, hcells⟩ := made s w
  have HC := Lib.hid hcells; clear hcells
  go_enter Tryz.func41, Tryz.ntmps41
  go_wp2
  clear hconv
  go_loopw [10] (fun i wr => ∃ k : Nat, k ≤ s.size ∧ i = .int .i64 k ∧ Row wr w.heap.size s.size (part s k) ∧ Below w.heap.size w wr) (fun i _ => s.size - (intOf i).toNat)
  case atStart => exact ⟨0, Nat.zero_le _, rfl, row_start w s.size _ C hC HC.out 5, ((Below.refl _ _).alloc (Nat.le_refl _) _).drew⟩
  case round =>
    obtain ⟨k, hk, rfl, hrow, hbel⟩ := hrel
    by_cases hlt : k < s.size
    · obtain ⟨hcell, hfree⟩ := hrow k hlt
      rw [part_at] at hcell
      obtain ⟨hb0, hb1⟩ := byteAt_bd s k
      have HN := Lib.hid (row_store hrow hlt _ rfl)
      have HB := Lib.hid hbel
      clear hrow hbel
      go_wp2_with (go_at_call 76; refine (small_any _ _ hb0 hb1).mono ?_; rintro e w' ⟨rfl, rfl⟩)
      go_roundw
      case rel => exact ⟨k + 1, by omega, by go_num, HN.out, HB.out.setCell (Nat.le_refl _) _⟩
      case measure => simp [intOf]; omega
    · obtain rfl : k = s.size := by omega
      have hback := row_back hrow cap
      have HB := Lib.hid hbel
      clear hrow hbel
      go_wp2
      go_ret
      exact ⟨rfl, HB.out⟩

set_option maxHeartbeats 1600000 in
theorem rlower_any (s : ByteArray) (w : World) (hs : s.size ≤ maxLen) :
    Calls Tryz.prog 48 #[.string s] w fun e w' => e = .returned (.string (lowS s)) ∧ Below w.heap.size w w' := by
  unfold maxLen at hs
  obtain ⟨cap, C, hconv, hC, hcells⟩ := made s w
  have HC := Lib.hid hcells; clear hcells
  go_enter Tryz.func48, Tryz.ntmps48
  go_wp2
  clear hconv
  go_loopw [4] (fun i wr => ∃ k : Nat, k ≤ s.size ∧ i = .int .i64 k ∧ Row wr w.heap.size s.size (part s k) ∧ Below w.heap.size w wr) (fun i _ => s.size - (intOf i).toNat)
  case atStart => exact ⟨0, Nat.zero_le _, rfl, row_start w s.size _ C hC HC.out 5, ((Below.refl _ _).alloc (Nat.le_refl _) _).drew⟩
  case round =>
    obtain ⟨k, hk, rfl, hrow, hbel⟩ := hrel
    by_cases hlt : k < s.size
    · obtain ⟨hcell, hfree⟩ := hrow k hlt
      rw [part_at] at hcell
      obtain ⟨hb0, hb1⟩ := byteAt_bd s k
      by_cases ha : 65 ≤ byteAt s k
      · by_cases hz : byteAt s k ≤ 90
        · have HN := Lib.hid (row_store hrow hlt (byteAt s k + 32) (by unfold smI; rw [if_pos ⟨ha, hz⟩]))
          have HB := Lib.hid hbel
          clear hrow hbel
          go_wp2
          go_roundw
          case rel => exact ⟨k + 1, by omega, by go_num, HN.out, HB.out.setCell (Nat.le_refl _) _⟩
          case measure => simp [intOf]; omega
        · have HN := Lib.hid (row_skip hrow (by unfold smI; rw [if_neg (by omega)]))
          have HB := Lib.hid hbel
          clear hrow hbel
          go_wp2
          go_roundw
          case rel => exact ⟨k + 1, by omega, by go_num, HN.out, HB.out⟩
          case measure => simp [intOf]; omega
      · have HN := Lib.hid (row_skip hrow (by unfold smI; rw [if_neg (by omega)]))
        have HB := Lib.hid hbel
        clear hrow hbel
        go_wp2
        go_roundw
        case rel => exact ⟨k + 1, by omega, by go_num, HN.out, HB.out⟩
        case measure => simp [intOf]; omega
    · obtain rfl : k = s.size := by omega
      have hback := row_back hrow cap
      have HB := Lib.hid hbel
      clear hrow hbel
      go_wp2
      go_ret
      exact ⟨rfl, HB.out⟩
end Go.Proofs.YtceelfomgcbkiaaGreatDoor.I

/-
  The walks of Fold, and of the document's own; and of 'awake', some answers that the document fixes.
-/
namespace Go.Proofs.YtceelfomgcbkiaaGreatDoor.I
open Go.RowKit

/-- Have both the same small letters? -/
def foldB (a b : ByteArray) : Bool := (lowS a).toList == (lowS b).toList

theorem foldB_eq (a b : ByteArray) : foldB a b = (lowL a.data.toList == lowL b.data.toList) := by
  unfold foldB; rw [ByteArray.toList_eq, ByteArray.toList_eq, lowS_list, lowS_list]
theorem foldB_comm (a b : ByteArray) : foldB a b = foldB b a := by
  rw [foldB_eq, foldB_eq]; exact Bool.beq_comm
theorem foldB_low (s : ByteArray) : foldB (lowS s) s = true := by
  rw [foldB_eq, lowS_list, lowL_idem]; simp
theorem foldB_len {a b : ByteArray} (h : a.size ≠ b.size) : foldB a b = false := by
  rw [foldB_eq]
  cases hx : lowL a.data.toList == lowL b.data.toList with
  | false => rfl
  | true =>
    exfalso
    have := congrArg List.length (eq_of_beq hx)
    simp [lowL] at this
    exact h this
theorem foldB_bad {a b : ByteArray} {k : Nat} (ha : k < a.size) (hb : k < b.size) (h : smI (a[k].toNat : Int) ≠ smI (b[k].toNat : Int)) : foldB a b = false := by
  rw [foldB_eq]
  cases hx : lowL a.data.toList == lowL b.data.toList with
  | false => rfl
  | true =>
    exfalso
    have e := congrArg (fun l : List UInt8 => l[k]?) (eq_of_beq hx)
    simp only [lowL, List.getElem?_map] at e
    rw [List.getElem?_eq_getElem (by simpa using ha), List.getElem?_eq_getElem (by simpa using hb)] at e
    have e2 := congrArg (fun c : UInt8 => (c.toNat : Int)) (Option.some.inj e)
    simp only [lowB_nat] at e2
    exact h e2
theorem foldB_good {a b : ByteArray} (hs : a.size = b.size) (h : ∀ k (ha : k < a.size) (hb : k < b.size), smI (a[k].toNat : Int) = smI (b[k].toNat : Int)) : foldB a b = true := by
  rw [foldB_eq]
  have : lowL a.data.toList = lowL b.data.toList := by
    apply List.ext_getElem
    · simpa [lowL] using hs
    · intro k h1 h2
      simp only [lowL, List.getElem_map]
      apply byte_inj
      rw [lowB_nat, lowB_nat]
      have h1' : k < a.size := by simpa [lowL] using h1
      exact h k h1' (by omega)
  rw [this]; simp

set_option maxHeartbeats 1600000 in
theorem fold_any (a b : ByteArray) (w : World) (hsa : a.size ≤ maxLen) :
    Calls Tryz.prog 68 #[.string a, .string b] w fun e w' => e = .returned (.bool (foldB a b)) ∧ Below w.heap.size w w' := by
  unfold maxLen at hsa
  by_cases hne : (a.size : Int) = b.size
  · have hez : a.size = b.size := by omega
    have HZ := Lib.hid hez
    have hne' : ((a.size : Int) != (b.size : Int)) = false := by simp [hez]
    clear hez hne
    go_enter Tryz.func68, Tryz.ntmps68
    go_wp2
    go_loopw [5] (fun i wr => ∃ k : Nat, k ≤ a.size ∧ i = .int .i64 k ∧ (∀ j (h : j < a.size) (h2 : j < b.size), j < k → smI (a[j].toNat : Int) = smI (b[j].toNat : Int)) ∧ Below w.heap.size w wr) (fun i _ => a.size - (intOf i).toNat)
    case atStart => exact ⟨0, Nat.zero_le _, rfl, fun _ _ _ h => absurd h (Nat.not_lt_zero _), Below.refl _ _⟩
    case round =>
      obtain ⟨k, hk, rfl, hall, hbel⟩ := hrel
      have HA := Lib.hid hall
      have HB := Lib.hid hbel
      clear hall hbel
      by_cases hlt : k < a.size
      · have hlb : k < b.size := by have := HZ.out; omega
        have c1 := a[k].toNat_lt
        have c2 := b[k].toNat_lt
        by_cases hq : smI (a[k].toNat : Int) = smI (b[k].toNat : Int)
        · have hq' : (smI (a[k].toNat : Int) != smI (b[k].toNat : Int)) = false := by simp [hq]
          have HQ := Lib.hid hq
          clear hq
          go_wp2_with fail
          go_quiet ((go_at_call 76; exact Calls.quiet_of_same ((small_any _ _ (by omega) (by omega)).mono fun _ _ h => ⟨h.1, h.2.symm⟩)))
          go_wp2
          go_roundw
          case rel => exact ⟨k + 1, by omega, by go_num, fun j h h2 hj => by
            rcases Nat.lt_or_eq_of_le (Nat.le_of_lt_succ hj) with h1 | h1
            · exact HA.out j h h2 h1
            · subst h1; exact HQ.out, below_drewN HB.out _⟩
          case measure => simp [intOf]; omega
        · have hq' : (smI (a[k].toNat : Int) != smI (b[k].toNat : Int)) = true := by simpa using hq
          have HQ := Lib.hid (foldB_bad hlt hlb hq)
          clear hq
          go_wp2_with fail
          go_quiet ((go_at_call 76; exact Calls.quiet_of_same ((small_any _ _ (by omega) (by omega)).mono fun _ _ h => ⟨h.1, h.2.symm⟩)))
          go_wp2
          go_ret
          exact ⟨ret_bool HQ.out.symm, below_drewN HB.out _⟩
      · have HQ := Lib.hid (foldB_good HZ.out fun j h h2 => HA.out j h h2 (by omega))
        go_wp2
        go_ret
        exact ⟨ret_bool HQ.out.symm, HB.out⟩
  · have hne' : ((a.size : Int) != (b.size : Int)) = true := by simpa using hne
    have HQ := Lib.hid (foldB_len (a := a) (b := b) (by omega))
    go_enter Tryz.func68, Tryz.ntmps68
    go_wp2
    go_ret
    exact ⟨ret_bool HQ.out.symm, Below.refl _ _⟩

theorem rfold_any (a b : ByteArray) (w : World) (hsa : a.size ≤ maxLen) (hsb : b.size ≤ maxLen) :
    Calls Tryz.prog 54 #[.string a, .string b] w fun e w' => e = .returned (.bool (foldB a b)) ∧ Below w.heap.size w w' := by
  go_enter Tryz.func54, Tryz.ntmps54
  go_wp2_with fail
  refine (rlower_any a _ hsa).mono ?_
  rintro e w1 ⟨rfl, hb1⟩
  have HB1 := Lib.hid hb1
  clear hb1
  go_wp2_with fail
  refine (rlower_any b _ hsb).mono ?_
  rintro e w2 ⟨rfl, hb2⟩
  have HB2 := Lib.hid (HB1.out.trans (hb2.mono HB1.out.size))
  clear hb2
  go_wp2
  go_ret
  exact ⟨rfl, HB2.out⟩
end Go.Proofs.YtceelfomgcbkiaaGreatDoor.I
