/-
  Several texts in one: RPlain RMem RTok RCom RFirst.
-/
import Derived.Test.YtceelfomgcbkiaaGreatDoorGIZ
import Derived.Test.YtceelfomgcbkiaaGreatDoorGCZ
import Derived.Lib.IndexMore
import Derived.Test.YtceelfomgcbkiaaGreatDoorShelfZ
import Derived.Test.YtceelfomgcbkiaaGreatDoorRShelfZ
import Derived.Lib.Hide
import Derived.Deep.QuietTactic
import Derived.BigQuiet
import Derived.Laws.Rows
import Derived.Outline
import Derived.LoopTactic
/-
  Layer 9 (remark) in plain functions on lists of bytes: comments, doctypes, and what counts as such. No program stands here.
-/
namespace Go.Proofs.YtceelfomgcbkiaaGreatDoor.R
open Go.RowKit
open Go.Proofs.YtceelfomgcbkiaaGreatDoor.I (spI spC leI lowS lowL lowB trL trS)

abbrev pre (p l : List UInt8) : Bool := p.isPrefixOf l
/-- The first place at which p begins in l; where l ends, if nowhere. -/
def fnd (p : List UInt8) : List UInt8 → Nat
  | [] => 0
  | b :: l => if pre p (b :: l) = true then 0 else fnd p l + 1
theorem fnd_le (p : List UInt8) : ∀ l, fnd p l ≤ l.length
  | [] => Nat.le_refl _
  | b :: l => by
    have := fnd_le p l
    unfold fnd; split <;> simp <;> omega
theorem fnd_at (p : List UInt8) : ∀ l, fnd p l < l.length → pre p (l.drop (fnd p l)) = true
  | [], h => absurd h (Nat.not_lt_zero _)
  | b :: l, h => by
    unfold fnd at h ⊢
    split
    · rename_i h2; exact h2
    · rename_i h2
      rw [if_neg h2] at h
      exact fnd_at p l (by simpa using h)
theorem fnd_no (p : List UInt8) : ∀ l j, j < fnd p l → pre p (l.drop j) = false
  | [], j, h => absurd h (Nat.not_lt_zero _)
  | b :: l, j, h => by
    unfold fnd at h
    split at h
    · exact absurd h (Nat.not_lt_zero _)
    · rename_i h2
      cases j with
      | zero => exact (Bool.not_eq_true _).mp h2
      | succ j => exact fnd_no p l j (by omega)
theorem fnd_is (p : List UInt8) : ∀ l i, i ≤ l.length → (∀ j, j < i → pre p (l.drop j) = false) → (i = l.length ∨ pre p (l.drop i) = true) → fnd p l = i
  | [], i, h, _, _ => by have : i = 0 := by simpa using h
                         rw [this]; rfl
  | b :: l, 0, _, _, h => by
    unfold fnd
    rcases h with h | h
    · simp at h
    · rw [if_pos (show pre p (b :: l) = true from h)]
  | b :: l, i + 1, hi, hn, h => by
    have h0 : pre p (b :: l) = false := hn 0 (Nat.succ_pos _)
    have ih := fnd_is p l i (by simpa using hi) (fun j hj => hn (j + 1) (Nat.succ_lt_succ hj)) (by simpa using h)
    unfold fnd
    rw [if_neg (by rw [h0]; decide), ih]
theorem fnd_skip (p l : List UInt8) (k : Nat) (hk : k ≤ l.length) (hn : ∀ j, j < k → pre p (l.drop j) = false) : fnd p l = k + fnd p (l.drop k) := by
  have hle := fnd_le p (l.drop k)
  rw [List.length_drop] at hle
  refine fnd_is p l _ (by omega) (fun j hj => ?_) ?_
  · rcases Nat.lt_or_ge j k with h | h
    · exact hn j h
    · have := fnd_no p (l.drop k) (j - k) (by omega)
      rw [List.drop_drop, show k + (j - k) = j by omega] at this; exact this
  · rcases Nat.lt_or_ge (fnd p (l.drop k)) (l.drop k).length with h | h
    · have := fnd_at p (l.drop k) h
      rw [List.drop_drop] at this; exact .inr this
    · rw [List.length_drop] at h; exact .inl (by omega)
theorem pre_len {p l : List UInt8} (h : pre p l = true) : p.length ≤ l.length := (List.isPrefixOf_iff_prefix.1 h).length_le
theorem fnd_room (p l : List UInt8) (h : fnd p l < l.length) : fnd p l + p.length ≤ l.length := by
  have := pre_len (fnd_at p l h)
  rw [List.length_drop] at this; omega
theorem occ_eq (s p : List UInt8) (i : Nat) : Lib.occAt s p i = pre p (s.drop i) := rfl
theorem fnd_index (p l : List UInt8) (hp : p ≠ []) : Lib.index l p = if fnd p l < l.length then (fnd p l : Int) else -1 := by
  rcases Lib.index_spec l p with ⟨h1, h2⟩ | ⟨i, h1, h2, h3, h4⟩
  · have : fnd p l = l.length := fnd_is p l _ (Nat.le_refl _) (fun j hj => h2 j (by omega)) (.inl rfl)
    rw [h1, if_neg (by omega)]
  · have e : fnd p l = i := fnd_is p l i h2 h4 (.inr h3)
    have : i < l.length := by
      have := pre_len (p := p) (l := l.drop i) h3
      rw [List.length_drop] at this
      have : 0 < p.length := List.length_pos_iff.2 hp
      omega
    rw [h1, e, if_pos this]
theorem cut_fnd (p l : List UInt8) (hp : p ≠ []) : (Lib.cut l p).1 = l.take (fnd p l) ∧ (Lib.cut l p).2.2 = decide (fnd p l < l.length) := by
  have e := fnd_index p l hp
  have hle := fnd_le p l
  unfold Lib.cut
  by_cases h : fnd p l < l.length
  · rw [if_pos h] at e
    rw [e, if_pos (by omega), decide_eq_true h]
    exact ⟨by simp, rfl⟩
  · rw [if_neg h] at e
    rw [e, if_neg (by decide), decide_eq_false h]
    exact ⟨by simp only; rw [List.take_of_length_le (by omega)], rfl⟩

/-- From a place on. -/
def fndF (p l : List UInt8) (k : Nat) : Nat := k + fnd p (l.drop k)
theorem fndF_bd (p l : List UInt8) (k : Nat) (hk : k ≤ l.length) : k ≤ fndF p l k ∧ fndF p l k ≤ l.length := by
  have := fnd_le p (l.drop k)
  rw [List.length_drop] at this
  unfold fndF; omega
theorem fndF_at (p l : List UInt8) (k : Nat) (h : fndF p l k < l.length) : pre p (l.drop (fndF p l k)) = true := by
  unfold fndF at h ⊢
  rw [← List.drop_drop]
  exact fnd_at p _ (by rw [List.length_drop]; omega)
theorem fndF_room (p l : List UInt8) (k : Nat) (h : fndF p l k < l.length) : fndF p l k + p.length ≤ l.length := by
  have := pre_len (fndF_at p l k h)
  rw [List.length_drop] at this; omega
theorem fndF_no (p l : List UInt8) (k j : Nat) (h1 : k ≤ j) (h2 : j < fndF p l k) : pre p (l.drop j) = false := by
  have := fnd_no p (l.drop k) (j - k) (by unfold fndF at h2; omega)
  rw [List.drop_drop, show k + (j - k) = j by omega] at this; exact this
theorem fndF_is (p l : List UInt8) (k i : Nat) (hk : k ≤ i) (hi : i ≤ l.length) (hn : ∀ j, k ≤ j → j < i → pre p (l.drop j) = false) (h : i = l.length ∨ pre p (l.drop i) = true) : fndF p l k = i := by
  have e : fnd p (l.drop k) = i - k := by
    refine fnd_is p _ _ (by rw [List.length_drop]; omega) (fun j hj => ?_) ?_
    · rw [List.drop_drop]; exact hn _ (by omega) (by omega)
    · rw [List.drop_drop, List.length_drop, show k + (i - k) = i by omega]
      rcases h with h | h
      · exact .inl (by omega)
      · exact .inr h
  unfold fndF; omega

def cut (l : List UInt8) (i j : Nat) : ByteArray := C.mkB ((l.take j).drop i)
theorem cut_of (s : ByteArray) (i j : Nat) : cut s.data.toList i j = s.extract i j := by
  apply C.eq_of_list
  unfold cut
  rw [C.mkB_list, C.ext_list]
/-- A token, how many bytes it takes, and whether there is one. -/
structure Rem where
  kind : Int
  name : ByteArray
  data : ByteArray
  n : Nat
  ok : Bool
def rem0 (n : Nat) : Rem := ⟨0, ByteArray.empty, ByteArray.empty, n, false⟩
/-- The first word. -/
def wrd (l : List UInt8) : List UInt8 := (l.dropWhile spC).takeWhile fun c => !spC c
/-- A comment that does not end. -/
def bare (m : List UInt8) : List UInt8 :=
  if Lib.hasSuffix m [45, 45, 33] = true then m.take (m.length - 3)
  else if Lib.hasSuffix m [45, 45] = true then m.take (m.length - 2)
  else if Lib.hasSuffix m [45] = true then m.take (m.length - 1)
  else m
def pA : List UInt8 := [45, 45, 62]
def pB : List UInt8 := [45, 45, 33, 62]
def comP (m : List UInt8) : ByteArray × Nat :=
  if pre [62] m = true then (ByteArray.empty, 1)
  else if pre [45, 62] m = true then (ByteArray.empty, 2)
  else if fnd pA m = m.length ∧ fnd pB m = m.length then (C.mkB (bare m), m.length)
  else if fnd pA m < fnd pB m then (C.mkB (m.take (fnd pA m)), fnd pA m + 3)
  else (C.mkB (m.take (fnd pB m)), fnd pB m + 4)
def com (m : List UInt8) : Rem := ⟨4, ByteArray.empty, (comP m).1, 4 + (comP m).2, true⟩
def bog (l : List UInt8) (k : Nat) : Rem := ⟨4, ByteArray.empty, cut l k (fndF [62] l k), min (fndF [62] l k + 1) l.length, true⟩
def dty (l : List UInt8) : Rem := ⟨5, lowS (C.mkB (wrd ((l.take (fndF [62] l 9)).drop 9))), ByteArray.empty, min (fndF [62] l 9 + 1) l.length, true⟩
def pS : List UInt8 := [93, 93, 62]
def sec (l : List UInt8) : Rem := if fndF pS l 9 = 9 then rem0 (min 12 l.length) else ⟨3, ByteArray.empty, cut l 9 (fndF pS l 9), min (fndF pS l 9 + 3) l.length, true⟩
def pDoc : List UInt8 := [60, 33, 100, 111, 99, 116, 121, 112, 101]
def dtB (l : List UInt8) : Bool := decide (9 ≤ l.length) && lowL (l.take 9) == pDoc
def pCd : List UInt8 := [60, 33, 91, 67, 68, 65, 84, 65, 91]
def ntL (l : List UInt8) : Bool := match l[2]? with | some c => !leI (c.toNat : Int) | none => false
def rem (l : List UInt8) (f : Bool) : Rem :=
  if pre [60, 33, 45, 45] l = true then com (l.drop 4)
  else if dtB l = true then dty l
  else if (f && pre pCd l) = true then sec l
  else if pre [60, 33] l = true then bog l 2
  else if pre [60, 63] l = true then bog l 1
  else if pre [60, 47, 62] l = true then rem0 3
  else if (pre [60, 47] l && ntL l) = true then bog l 2
  else rem0 0

/-! ### how far -/
theorem comP_bd {m : List UInt8} : 4 + (comP m).2 ≤ 4 + m.length ∧ (m ≠ [] → 1 ≤ (comP m).2) := by
  unfold comP
  split
  · rename_i h; have h1 : 1 ≤ m.length := pre_len h; exact ⟨by show 4 + 1 ≤ _; omega, fun _ => Nat.le_refl _⟩
  · split
    · rename_i h; have h1 : 2 ≤ m.length := pre_len h; exact ⟨by show 4 + 2 ≤ _; omega, fun _ => by show 1 ≤ 2; decide⟩
    · have hA := fnd_le pA m
      have hB := fnd_le pB m
      split
      · refine ⟨Nat.le_refl _, fun h => ?_⟩
        have := List.length_pos_iff.2 h
        simp only; omega
      · rename_i h
        split
        · have := fnd_room pA m (by omega)
          have e : pA.length = 3 := rfl
          simp only; omega
        · have := fnd_room pB m (by omega)
          have e : pB.length = 4 := rfl
          simp only; omega
theorem rem_le (l : List UInt8) (f : Bool) : (rem l f).n ≤ l.length := by
  unfold rem
  split
  · rename_i h
    have h1 := pre_len h
    have h2 := (comP_bd (m := l.drop 4)).1
    rw [List.length_drop] at h2
    simp at h1
    show 4 + (comP (l.drop 4)).2 ≤ _
    omega
  · split
    · exact Nat.min_le_right _ _
    · split
      · unfold sec; split <;> exact Nat.min_le_right _ _
      · split
        · exact Nat.min_le_right _ _
        · split
          · exact Nat.min_le_right _ _
          · split
            · rename_i h; exact pre_len h
            · split
              · exact Nat.min_le_right _ _
              · exact Nat.zero_le _
/-- None is read without a byte. -/
theorem rem_zero {l : List UInt8} {f : Bool} (h : (rem l f).n = 0) : (rem l f).ok = false := by
  unfold rem at h ⊢
  split
  · rename_i h1; rw [if_pos h1] at h
    have : 4 + (comP (l.drop 4)).2 = 0 := h
    omega
  · rename_i h1; rw [if_neg h1] at h
    split
    · rename_i h2; rw [if_pos h2] at h
      have h3 : min (fndF [62] l 9 + 1) l.length = 0 := h
      unfold dtB at h2
      rw [Bool.and_eq_true, decide_eq_true_eq] at h2
      omega
    · rename_i h2; rw [if_neg h2] at h
      split
      · rename_i h3; rw [if_pos h3] at h
        rw [Bool.and_eq_true] at h3
        have h4 := pre_len h3.2
        have e : pCd.length = 9 := rfl
        unfold sec at h ⊢
        split
        · rfl
        · rename_i h5; rw [if_neg h5] at h
          have : min (fndF pS l 9 + 3) l.length = 0 := h
          omega
      · rename_i h3; rw [if_neg h3] at h
        split
        · rename_i h4; rw [if_pos h4] at h
          have := pre_len h4
          have h5 : min (fndF [62] l 2 + 1) l.length = 0 := h
          simp at this; omega
        · rename_i h4; rw [if_neg h4] at h
          split
          · rename_i h5; rw [if_pos h5] at h
            have := pre_len h5
            have h6 : min (fndF [62] l 1 + 1) l.length = 0 := h
            simp at this; omega
          · rename_i h5; rw [if_neg h5] at h
            split
            · rfl
            · rename_i h6; rw [if_neg h6] at h
              split
              · rename_i h7; rw [if_pos h7] at h
                rw [Bool.and_eq_true] at h7
                have := pre_len h7.1
                have h8 : min (fndF [62] l 2 + 1) l.length = 0 := h
                simp at this; omega
              · rfl
end Go.Proofs.YtceelfomgcbkiaaGreatDoor.R

/-
  A token in memory, as the functions of remark hand it back; the walk of upTo.
-/
namespace Go.Proofs.YtceelfomgcbkiaaGreatDoor.R
open Go.RowKit
open Go.Proofs.YtceelfomgcbkiaaGreatDoor.I (spI spC leI lowS)

theorem ret_bool {a b : Bool} (h : a = b) : Ending.returned (.bool a) = .returned (.bool b) := by rw [h]
theorem ret_int {a b : Int} (h : a = b) : Ending.returned (.int .i64 a) = .returned (.int .i64 b) := by rw [h]
theorem ret_str {a b : ByteArray} (h : a = b) : Ending.returned (.string a) = .returned (.string b) := by rw [h]
theorem ret_si {a b : ByteArray} {c d : Int} (h : a = b) (h2 : c = d) : Ending.returned (.tuple #[.string a, .int .i64 c]) = .returned (.tuple #[.string b, .int .i64 d]) := by rw [h, h2]
theorem below_step {w w1 w2 : World} (h : Hid (Below w.heap.size w w1)) (h2 : Below w1.heap.size w1 w2) : Hid (Below w.heap.size w w2) := Lib.hid (h.out.trans (h2.mono h.out.size))
theorem drewNB {b : Nat} {w wr : World} (h : Below b w wr) (n : Nat) : Below b w (wr.drewN n) := ⟨h.os, h.tape, h.output, h.size, h.block⟩
theorem heap_keep {w w1 : World} {b : Nat} {o : Obj} (hb : Below w.heap.size w w1) (h : w.heap[b]? = some o) : w1.heap[b]? = some o := (hb.block b (Array.getElem?_eq_some_iff.1 h).1).trans h
/-- The library's limit is laid: some number. -/
def MaxAt (w : World) : Prop := ∃ m, w.cell? ⟨0, 0, none⟩ = some (.int .i64 m)
theorem MaxAt.below {w w' : World} (h : MaxAt w) (hb : Below w.heap.size w w') : MaxAt w' := by
  obtain ⟨m, hm⟩ := h
  exact ⟨m, (hb.cell (p := ⟨0, 0, none⟩) (World.block_lt_of_cell? w _ hm)).trans hm⟩
theorem str_tail (s : ByteArray) (k : Nat) : (s.extract k s.size).data.toList = s.data.toList.drop k := C.ext_tail s k

/-- Behind what is looked for. -/
def upN (p l : List UInt8) (k : Nat) : Nat := min (fndF p l k + p.length) l.length
theorem upN_yes {p l : List UInt8} {k : Nat} (h : fndF p l k < l.length) : upN p l k = fndF p l k + p.length := Nat.min_eq_left (fndF_room p l k h)
theorem upN_no {p l : List UInt8} {k : Nat} (hk : k ≤ l.length) (h : ¬ fndF p l k < l.length) : upN p l k = fndF p l k := by
  have := (fndF_bd p l k hk).2
  unfold upN; omega
set_option maxHeartbeats 1600000 in
theorem upTo_any (s p : ByteArray) (k : Nat) (w : World) (hM : MaxAt w) (hk : k ≤ s.size) (hp : p.data.toList ≠ []) (hs : s.size ≤ 10000) (hpz : p.size ≤ 10000) :
    Calls Tryz.prog 99 #[.string s, .int .i64 (k : Nat), .string p] w fun e w' =>
      e = .returned (.tuple #[.string (cut s.data.toList k (fndF p.data.toList s.data.toList k)), .int .i64 (upN p.data.toList s.data.toList k : Nat)]) ∧ Below w.heap.size w w' := by
  obtain ⟨m, hm⟩ := hM
  have HC := Lib.hid (Tryz.strings_Cut (s.extract k s.size) p m w (by rw [ByteArray.size_extract]; omega) hm)
  obtain ⟨e1, e2⟩ := cut_fnd p.data.toList (s.data.toList.drop k) hp
  rw [str_tail, e1, e2] at HC
  have hb := fndF_bd p.data.toList s.data.toList k (by rw [C.size_list]; exact hk)
  have hl : fnd p.data.toList (s.data.toList.drop k) = fndF p.data.toList s.data.toList k - k := by unfold fndF; omega
  have hc : (⟨((s.data.toList.drop k).take (fnd p.data.toList (s.data.toList.drop k))).toArray⟩ : ByteArray) = cut s.data.toList k (fndF p.data.toList s.data.toList k) := by
    unfold cut C.mkB
    rw [hl, List.drop_take]
  have hz : (cut s.data.toList k (fndF p.data.toList s.data.toList k)).size = fndF p.data.toList s.data.toList k - k := by
    unfold cut
    rw [C.mkB_size, List.length_drop, List.length_take]; omega
  rw [hc] at HC
  have hd : decide (fnd p.data.toList (s.data.toList.drop k) < (s.data.toList.drop k).length) = decide (fndF p.data.toList s.data.toList k < s.data.toList.length) := by
    apply decide_eq_decide.2
    rw [hl, List.length_drop]; omega
  rw [hd] at HC
  have HY := Lib.hid (fun h => upN_yes (p := p.data.toList) (l := s.data.toList) (k := k) h)
  have HN := Lib.hid (fun h => upN_no (p := p.data.toList) (l := s.data.toList) (k := k) (by rw [C.size_list]; exact hk) h)
  generalize (Lib.cut (s.data.toList.drop k) p.data.toList).2.1 = rest at *
  generalize cut s.data.toList k (fndF p.data.toList s.data.toList k) = t at *
  generalize upN p.data.toList s.data.toList k = u at *
  generalize fndF p.data.toList s.data.toList k = e at *
  rw [C.size_list] at hb
  have hi0 : (0 : Int) ≤ (k : Int) := by omega
  have hi1 : (k : Int) ≤ (s.size : Int) := by omega
  clear hc hd hl e1 e2 hm
  by_cases hlt : e < s.data.toList.length
  · have HF : Hid (u = e + p.size) := Lib.hid (by rw [HY.out hlt, C.size_list])
    rw [decide_eq_true hlt] at HC
    clear hlt
    go_enter Tryz.func99, Tryz.ntmps99
    go_wp2_with fail
    refine HC.out.mono ?_
    rintro e' w' ⟨rfl, n, rfl⟩
    go_wp2
    go_ret2
    exact ⟨ret_si rfl (by rw [HF.out]; omega), drewNB (Below.refl _ _) n⟩
  · have HF : Hid (u = e) := Lib.hid (HN.out hlt)
    rw [decide_eq_false hlt] at HC
    clear hlt
    go_enter Tryz.func99, Tryz.ntmps99
    go_wp2_with fail
    refine HC.out.mono ?_
    rintro e' w' ⟨rfl, n, rfl⟩
    go_wp2
    go_ret2
    exact ⟨ret_si rfl (by rw [HF.out]; omega), drewNB (Below.refl _ _) n⟩
end Go.Proofs.YtceelfomgcbkiaaGreatDoor.R

/-
  A token that is handed back: the cell in which it is made; the walks of readOdd and readDoctype's neighbours.
-/
namespace Go.Proofs.YtceelfomgcbkiaaGreatDoor.R
open Go.RowKit

/-- A token as a value. -/
def remV (t : Rem) : Value := .agg #[.int .i64 t.kind, .string t.name, .slice none 0 0, .bool false, .string t.data]
/-- What a function leaves that hands back a token. -/
def RetRem (t : Rem) (w : World) (e : Ending) (w' : World) : Prop := e = .returned (.tuple #[remV t, .int .i64 (t.n : Nat), .bool t.ok]) ∧ Below w.heap.size w w'
/-- The cells of a token without attributes. -/
def tokC (k : Int) (nm d : ByteArray) : Array Value := #[.int .i64 k, .string nm, .slice none 0 0, .bool false, .string d]
def tok0 : Array Value := tokC 0 ByteArray.empty ByteArray.empty
/-- Five cells stored, one after the other. -/
def S5 (w : World) (B : Nat) (v0 v1 v2 v3 v4 : Value) : World := ((((w.setCell ⟨B, 0, none⟩ v0).setCell ⟨B, 1, none⟩ v1).setCell ⟨B, 2, none⟩ v2).setCell ⟨B, 3, none⟩ v3).setCell ⟨B, 4, none⟩ v4
theorem s5_heap {w : World} {B : Nat} {T : TypeId} {u0 u1 u2 u3 u4 : Value} (v0 v1 v2 v3 v4 : Value) (h : w.heap[B]? = some (.cells #[u0, u1, u2, u3, u4] T (0, 0))) : (S5 w B v0 v1 v2 v3 v4).heap[B]? = some (.cells #[v0, v1, v2, v3, v4] T (0, 0)) :=
  heap_setCell_same _ B 4 _ _ _ (heap_setCell_same _ B 3 _ _ _ (heap_setCell_same _ B 2 _ _ _ (heap_setCell_same _ B 1 _ _ _ (heap_setCell_same w B 0 _ _ _ h))))
theorem s5_below {B : Nat} {a w : World} (v0 v1 v2 v3 v4 : Value) (h : Below B a w) {R : Nat} (hR : B ≤ R) : Below B a (S5 w R v0 v1 v2 v3 v4) :=
  ((((h.setCell (p := ⟨R, 0, none⟩) hR v0).setCell (p := ⟨R, 1, none⟩) hR v1).setCell (p := ⟨R, 2, none⟩) hR v2).setCell (p := ⟨R, 3, none⟩) hR v3).setCell (p := ⟨R, 4, none⟩) hR v4
theorem row_of {w : World} {B : Nat} {v0 v1 v2 v3 v4 : Value} (h : w.heap[B]? = some (.cells #[v0, v1, v2, v3, v4] 34 (0, 0))) :
    w.cell? ⟨B, 0, none⟩ = some v0 ∧ w.cell? ⟨B, 1, none⟩ = some v1 ∧ w.cell? ⟨B, 2, none⟩ = some v2 ∧ w.cell? ⟨B, 3, none⟩ = some v3 ∧ w.cell? ⟨B, 4, none⟩ = some v4 :=
  ⟨cell_of_row w B 0 _ _ (0, 0) h, cell_of_row w B 1 _ _ (0, 0) h, cell_of_row w B 2 _ _ (0, 0) h, cell_of_row w B 3 _ _ (0, 0) h, cell_of_row w B 4 _ _ (0, 0) h⟩
theorem free_of {w : World} {B : Nat} {v0 v1 v2 v3 v4 : Value} (h : w.heap[B]? = some (.cells #[v0, v1, v2, v3, v4] 34 (0, 0))) :
    w.frozen? ⟨B, 0, none⟩ = false ∧ w.frozen? ⟨B, 1, none⟩ = false ∧ w.frozen? ⟨B, 2, none⟩ = false ∧ w.frozen? ⟨B, 3, none⟩ = false ∧ w.frozen? ⟨B, 4, none⟩ = false :=
  ⟨frozen_of_row w B 0 _ _ h, frozen_of_row w B 1 _ _ h, frozen_of_row w B 2 _ _ h, frozen_of_row w B 3 _ _ h, frozen_of_row w B 4 _ _ h⟩
theorem bog_eq (l : List UInt8) (k : Nat) : (⟨4, ByteArray.empty, cut l k (fndF [62] l k), upN [62] l k, true⟩ : Rem) = bog l k := rfl
/-- The world in which a token's cell has been made. -/
def W1 (w : World) : World := w.alloc (.cells tok0 34)
theorem w1_max {w : World} (h : MaxAt w) : MaxAt (W1 w) := h.below ((Below.refl _ _).alloc (Nat.le_refl _) _)
theorem w1_row (w : World) : (W1 w).heap[w.heap.size]? = some (.cells tok0 34 (0, 0)) := heap_alloc_new w (.cells tok0 34)
theorem w1_below (w : World) : Below w.heap.size w (W1 w) := (Below.refl _ _).alloc (Nat.le_refl _) _
theorem w1_size (w : World) : (W1 w).heap.size = w.heap.size + 1 := by simp [W1]

/-- The token is stored, and read when the function ends. -/
theorem fin_of {w w1 : World} {u0 u1 u2 u3 u4 : Value} (k : Int) (nm d : ByteArray) (hR : w1.heap[w.heap.size]? = some (.cells #[u0, u1, u2, u3, u4] 34 (0, 0))) (hB : Below w.heap.size w w1) :
    ∃ wf, wf = S5 w1 w.heap.size (.int .i64 k) (.string nm) (.slice none 0 0) (.bool false) (.string d) ∧
      (wf.cell? ⟨w.heap.size, 0, none⟩ = some (.int .i64 k) ∧ wf.cell? ⟨w.heap.size, 1, none⟩ = some (.string nm) ∧ wf.cell? ⟨w.heap.size, 2, none⟩ = some (.slice none 0 0) ∧ wf.cell? ⟨w.heap.size, 3, none⟩ = some (.bool false) ∧ wf.cell? ⟨w.heap.size, 4, none⟩ = some (.string d)) ∧
      Below w.heap.size w wf :=
  ⟨_, rfl, row_of (s5_heap _ _ _ _ _ hR), s5_below _ _ _ _ _ hB (Nat.le_refl _)⟩

set_option maxHeartbeats 1600000 in
theorem readOdd_any (s : ByteArray) (k : Nat) (w : World) (hM : MaxAt w) (hk : k ≤ s.size) (hs : s.size ≤ 10000) :
    Calls Tryz.prog 71 #[.string s, .int .i64 (k : Nat)] w (RetRem (bog s.data.toList k) w) := by
  have HU := Lib.hid (upTo_any s ⟨#[62]⟩ k (W1 w) (w1_max hM) hk (by decide) hs (by decide))
  have e62 : ((⟨#[62]⟩ : ByteArray).data.toList) = [62] := rfl
  rw [e62] at HU
  rw [← bog_eq]
  have HR := Lib.hid (w1_row w)
  have HB := Lib.hid (w1_below w)
  clear e62 hM
  generalize cut s.data.toList k (fndF [62] s.data.toList k) = d at *
  generalize upN [62] s.data.toList k = u at *
  go_enter Tryz.func71, Tryz.ntmps71
  go_wp2_with fail
  refine HU.out.mono ?_
  rintro e w1 ⟨rfl, hbl⟩
  have HR1 := Lib.hid (heap_keep hbl HR.out)
  have HB1 : Hid (Below w.heap.size w w1) := Lib.hid (HB.out.trans (hbl.mono HB.out.size))
  clear hbl HR HB
  obtain ⟨c0, c1, c2, c3, c4⟩ := row_of HR1.out
  obtain ⟨f0, f1, f2, f3, f4⟩ := free_of HR1.out
  go_wp2
  obtain ⟨wf, ewf, ⟨d0, d1, d2, d3, d4⟩, hbf⟩ := fin_of 4 ByteArray.empty d HR1.out HB1.out
  change bodyPost _ _ _ _ _ (S5 w1 w.heap.size (.int .i64 4) (.string ByteArray.empty) (.slice none 0 0) (.bool false) (.string d))
  rw [← ewf]
  clear ewf c0 c1 c2 c3 c4 f0 f1 f2 f3 f4
  exact bodyPost_ret (v := .tuple #[remV ⟨4, ByteArray.empty, d, u, true⟩, .int .i64 (u : Nat), .bool true]) (by simp [results, Tryz.results71, go_sem, remV, d0, d1, d2, d3, d4]) rfl ⟨rfl, hbf⟩
end Go.Proofs.YtceelfomgcbkiaaGreatDoor.R

/-
  The walks of unended, comment and readDashes.
-/
namespace Go.Proofs.YtceelfomgcbkiaaGreatDoor.R
open Go.RowKit

theorem bare_3 {m : List UInt8} (h : Lib.hasSuffix m [45, 45, 33] = true) : bare m = Lib.trimSuffix m [45, 45, 33] := by
  unfold bare Lib.trimSuffix; rw [if_pos h, if_pos h]; rfl
theorem bare_2 {m : List UInt8} (h3 : Lib.hasSuffix m [45, 45, 33] = false) (h : Lib.hasSuffix m [45, 45] = true) : bare m = Lib.trimSuffix m [45, 45] := by
  unfold bare Lib.trimSuffix; rw [if_neg (by rw [h3]; decide), if_pos h, if_pos h]; rfl
theorem bare_1 {m : List UInt8} (h3 : Lib.hasSuffix m [45, 45, 33] = false) (h2 : Lib.hasSuffix m [45, 45] = false) (h : Lib.hasSuffix m [45] = true) : bare m = Lib.trimSuffix m [45] := by
  unfold bare Lib.trimSuffix; rw [if_neg (by rw [h3]; decide), if_neg (by rw [h2]; decide), if_pos h, if_pos h]; rfl
theorem bare_0 {m : List UInt8} (h3 : Lib.hasSuffix m [45, 45, 33] = false) (h2 : Lib.hasSuffix m [45, 45] = false) (h : Lib.hasSuffix m [45] = false) : bare m = m := by
  unfold bare; rw [if_neg (by rw [h3]; decide), if_neg (by rw [h2]; decide), if_neg (by rw [h]; decide)]

set_option maxHeartbeats 1600000 in
theorem unended_any (s : ByteArray) (w : World) (hs : s.size ≤ 10000) :
    Calls Tryz.prog 111 #[.string s] w fun e w' => e = .returned (.string (C.mkB (bare s.data.toList))) ∧ w = w' := by
  have H3 := Lib.hid (fun W => Tryz.strings_CutSuffix s ⟨#[45, 45, 33]⟩ W (by omega))
  have H2 := Lib.hid (fun W => Tryz.strings_CutSuffix s ⟨#[45, 45]⟩ W (by omega))
  have H1 := Lib.hid (fun W => Tryz.strings_CutSuffix s ⟨#[45]⟩ W (by omega))
  have e3 : ((⟨#[45, 45, 33]⟩ : ByteArray).data.toList) = [45, 45, 33] := rfl
  have e2 : ((⟨#[45, 45]⟩ : ByteArray).data.toList) = [45, 45] := rfl
  have e1 : ((⟨#[45]⟩ : ByteArray).data.toList) = [45] := rfl
  rw [e3] at H3
  rw [e2] at H2
  rw [e1] at H1
  have B3 := Lib.hid (bare_3 (m := s.data.toList))
  have B2 := Lib.hid (bare_2 (m := s.data.toList))
  have B1 := Lib.hid (bare_1 (m := s.data.toList))
  have B0 := Lib.hid (bare_0 (m := s.data.toList))
  clear e1 e2 e3
  generalize bare s.data.toList = b at *
  generalize Lib.trimSuffix s.data.toList [45, 45, 33] = t3 at *
  generalize Lib.trimSuffix s.data.toList [45, 45] = t2 at *
  generalize Lib.trimSuffix s.data.toList [45] = t1 at *
  generalize Lib.hasSuffix s.data.toList [45, 45, 33] = q3 at *
  generalize Lib.hasSuffix s.data.toList [45, 45] = q2 at *
  generalize Lib.hasSuffix s.data.toList [45] = q1 at *
  have i0 : ∀ w, (Instr.index 113 (.agg #[.string ⟨#[45, 45, 33]⟩, .string ⟨#[45, 45]⟩, .string ⟨#[45]⟩]) (.int .i64 0)).run Tryz.prog w = .ok (.string ⟨#[45, 45, 33]⟩) w := fun _ => by kernel_rfl
  have i1 : ∀ w, (Instr.index 113 (.agg #[.string ⟨#[45, 45, 33]⟩, .string ⟨#[45, 45]⟩, .string ⟨#[45]⟩]) (.int .i64 1)).run Tryz.prog w = .ok (.string ⟨#[45, 45]⟩) w := fun _ => by kernel_rfl
  have i2 : ∀ w, (Instr.index 113 (.agg #[.string ⟨#[45, 45, 33]⟩, .string ⟨#[45, 45]⟩, .string ⟨#[45]⟩]) (.int .i64 2)).run Tryz.prog w = .ok (.string ⟨#[45]⟩) w := fun _ => by kernel_rfl
  go_enter Tryz.func111, Tryz.ntmps111
  go_wp2
  go_loop [8] (fun i => i = .int .i64 0 ∨ (i = .int .i64 1 ∧ q3 = false) ∨ (i = .int .i64 2 ∧ q3 = false ∧ q2 = false) ∨ (i = .int .i64 3 ∧ q3 = false ∧ q2 = false ∧ q1 = false)) (fun i => 3 - (intOf i).toNat)
  case atStart => exact .inl rfl
  case round =>
    rcases hrel with rfl | ⟨rfl, h3⟩ | ⟨rfl, h3, h2⟩ | ⟨rfl, h3, h2, h1⟩
    · cases q3 with
      | true =>
        have HF : Hid (⟨t3.toArray⟩ = C.mkB b) := Lib.hid (by rw [B3.out rfl]; rfl)
        clear B3 B2 B1 B0
        go_wp2_with (go_at_call 106; refine (H3.out _).mono ?_; rintro e w' ⟨rfl, rfl⟩)
        go_ret
        exact ⟨ret_str HF.out, rfl⟩
      | false =>
        go_wp2_with (go_at_call 106; refine (H3.out _).mono ?_; rintro e w' ⟨rfl, rfl⟩)
        go_round
        case rel => exact .inr (.inl ⟨rfl, trivial⟩)
        case measure => simp [intOf]
    · subst h3
      cases q2 with
      | true =>
        have HF : Hid (⟨t2.toArray⟩ = C.mkB b) := Lib.hid (by rw [B2.out rfl rfl]; rfl)
        clear B3 B2 B1 B0
        go_wp2_with (go_at_call 106; refine (H2.out _).mono ?_; rintro e w' ⟨rfl, rfl⟩)
        go_ret
        exact ⟨ret_str HF.out, rfl⟩
      | false =>
        go_wp2_with (go_at_call 106; refine (H2.out _).mono ?_; rintro e w' ⟨rfl, rfl⟩)
        go_round
        case rel => exact .inr (.inr (.inl ⟨rfl, trivial, trivial⟩))
        case measure => simp [intOf]
    · subst h3
      subst h2
      cases q1 with
      | true =>
        have HF : Hid (⟨t1.toArray⟩ = C.mkB b) := Lib.hid (by rw [B1.out rfl rfl rfl]; rfl)
        clear B3 B2 B1 B0
        go_wp2_with (go_at_call 106; refine (H1.out _).mono ?_; rintro e w' ⟨rfl, rfl⟩)
        go_ret
        exact ⟨ret_str HF.out, rfl⟩
      | false =>
        go_wp2_with (go_at_call 106; refine (H1.out _).mono ?_; rintro e w' ⟨rfl, rfl⟩)
        go_round
        case rel => exact .inr (.inr (.inr ⟨rfl, trivial, trivial, trivial⟩))
        case measure => simp [intOf]
    · have HF : Hid (s = C.mkB b) := Lib.hid (by rw [B0.out h3 h2 h1, C.mkB_of])
      clear B3 B2 B1 B0
      go_wp2
      go_ret
      exact ⟨ret_str HF.out, rfl⟩

/-! ### comments: what they are, place by place -/
def pD : List UInt8 := [45, 45]
theorem pre_dd {p l : List UInt8} (hp : pre pD p = true) (h : pre p l = true) : pre pD l = true :=
  List.isPrefixOf_iff_prefix.2 ((List.isPrefixOf_iff_prefix.1 hp).trans (List.isPrefixOf_iff_prefix.1 h))
theorem no_dd {p l : List UInt8} (hp : pre pD p = true) (h : pre pD l = false) : pre p l = false := by
  cases hq : pre p l with
  | false => rfl
  | true => rw [pre_dd hp hq] at h; cases h
theorem ab_not {l : List UInt8} (h : pre pA l = true) : pre pB l = false := by
  cases hq : pre pB l with
  | false => rfl
  | true =>
    obtain ⟨x, hx⟩ := List.isPrefixOf_iff_prefix.1 h
    obtain ⟨y, hy⟩ := List.isPrefixOf_iff_prefix.1 hq
    rw [← hx] at hy
    simp [pA, pB] at hy
/-- Up to place k neither end begins. -/
def noAB (m : List UInt8) (k : Nat) : Prop := ∀ j, j < k → pre pA (m.drop j) = false ∧ pre pB (m.drop j) = false
theorem noAB_to {m : List UInt8} {k : Nat} (h : noAB m k) {q : Nat} (hq : q ≤ k + fnd pD (m.drop k)) : noAB m q := by
  intro j hj
  rcases Nat.lt_or_ge j k with h1 | h1
  · exact h j h1
  · have := fnd_no pD (m.drop k) (j - k) (by omega)
    rw [List.drop_drop, show k + (j - k) = j by omega] at this
    exact ⟨no_dd (by decide) this, no_dd (by decide) this⟩
theorem com_gt {m : List UInt8} (h : pre [62] m = true) : comP m = (ByteArray.empty, 1) := by unfold comP; rw [if_pos h]
theorem com_dg {m : List UInt8} (h0 : pre [62] m = false) (h : pre [45, 62] m = true) : comP m = (ByteArray.empty, 2) := by unfold comP; rw [if_neg (by rw [h0]; decide), if_pos h]
theorem com_none {m : List UInt8} (h0 : pre [62] m = false) (h1 : pre [45, 62] m = false) (h : noAB m m.length) : comP m = (C.mkB (bare m), m.length) := by
  have hA : fnd pA m = m.length := fnd_is _ _ _ (Nat.le_refl _) (fun j hj => (h j hj).1) (.inl rfl)
  have hB : fnd pB m = m.length := fnd_is _ _ _ (Nat.le_refl _) (fun j hj => (h j hj).2) (.inl rfl)
  unfold comP
  rw [if_neg (by rw [h0]; decide), if_neg (by rw [h1]; decide), if_pos ⟨hA, hB⟩]
theorem com_A {m : List UInt8} {k : Nat} (h0 : pre [62] m = false) (h1 : pre [45, 62] m = false) (h : noAB m k) (hk : pre pA (m.drop k) = true) : comP m = (C.mkB (m.take k), k + 3) := by
  have hl := pre_len hk
  rw [List.length_drop] at hl
  have e3 : pA.length = 3 := rfl
  have hA : fnd pA m = k := fnd_is _ _ _ (by omega) (fun j hj => (h j hj).1) (.inr hk)
  have hB : k < fnd pB m := by
    rcases Nat.lt_or_ge k (fnd pB m) with h2 | h2
    · exact h2
    · exfalso
      have h3 := fnd_at pB m (by omega)
      rcases Nat.lt_or_eq_of_le h2 with h4 | h4
      · rw [(h _ h4).2] at h3; cases h3
      · rw [h4, ab_not hk] at h3; cases h3
  unfold comP
  rw [if_neg (by rw [h0]; decide), if_neg (by rw [h1]; decide), if_neg (by rw [hA]; omega), hA, if_pos hB]
theorem com_B {m : List UInt8} {k : Nat} (h0 : pre [62] m = false) (h1 : pre [45, 62] m = false) (h : noAB m k) (hk : pre pB (m.drop k) = true) : comP m = (C.mkB (m.take k), k + 4) := by
  have hl := pre_len hk
  rw [List.length_drop] at hl
  have e3 : pB.length = 4 := rfl
  have hB : fnd pB m = k := fnd_is _ _ _ (by omega) (fun j hj => (h j hj).2) (.inr hk)
  have hA : ¬ fnd pA m < k := by
    intro h2
    have h3 := fnd_at pA m (by omega)
    rw [(h _ h2).1] at h3; cases h3
  unfold comP
  rw [if_neg (by rw [h0]; decide), if_neg (by rw [h1]; decide), if_neg (by rw [hB]; omega), hB, if_neg hA]
theorem mk_take (s : ByteArray) (k : Nat) : C.mkB (s.data.toList.take k) = s.extract 0 k := by
  apply C.eq_of_list
  rw [C.mkB_list, C.ext_list, List.drop_zero]

set_option maxRecDepth 100000 in
set_option maxHeartbeats 3200000 in
theorem comment_any (s : ByteArray) (w : World) (hM : MaxAt w) (hs : s.size ≤ 10000) :
    Calls Tryz.prog 98 #[.string s] w fun e w' => e = .returned (.tuple #[.string (comP s.data.toList).1, .int .i64 ((comP s.data.toList).2 : Nat)]) ∧ w = w' := by
  obtain ⟨mx, hm⟩ := hM
  have HG := Lib.hid (fun W => Tryz.strings_HasPrefix s ⟨#[62]⟩ W)
  have HH := Lib.hid (fun W => Tryz.strings_HasPrefix s ⟨#[45, 62]⟩ W)
  rw [show Lib.hasPrefix s.data.toList (⟨#[62]⟩ : ByteArray).data.toList = pre [62] s.data.toList from rfl] at HG
  rw [show Lib.hasPrefix s.data.toList (⟨#[45, 62]⟩ : ByteArray).data.toList = pre [45, 62] s.data.toList from rfl] at HH
  obtain ⟨cp, hcp⟩ : ∃ cp, cp = comP s.data.toList := ⟨_, rfl⟩
  rw [← hcp]
  have C1 := Lib.hid (fun h => hcp.trans (com_gt (m := s.data.toList) h))
  have C2 := Lib.hid (fun h0 h => hcp.trans (com_dg (m := s.data.toList) h0 h))
  have C3 := Lib.hid (fun h0 h1 h => hcp.trans (com_none (m := s.data.toList) h0 h1 h))
  have C4 := Lib.hid (fun k h0 h1 h hk => hcp.trans (com_A (m := s.data.toList) (k := k) h0 h1 h hk))
  have C5 := Lib.hid (fun k h0 h1 h hk => hcp.trans (com_B (m := s.data.toList) (k := k) h0 h1 h hk))
  have HUn := Lib.hid (fun W => unended_any s W hs)
  have HIx : Hid (∀ k, Calls Tryz.prog 110 #[.string (s.extract k s.size), .string ⟨#[45, 45]⟩] w fun e w' => e = .returned (.int .i64 (if fnd pD (s.data.toList.drop k) < (s.data.toList.drop k).length then (fnd pD (s.data.toList.drop k) : Int) else -1)) ∧ w' = w) := Lib.hid (fun k => by
    have h := Tryz.strings_Index (s.extract k s.size) ⟨#[45, 45]⟩ mx w (by rw [ByteArray.size_extract]; omega) hm
    rw [str_tail, show (⟨#[45, 45]⟩ : ByteArray).data.toList = pD from rfl, fnd_index _ _ (by decide)] at h
    exact h)
  have HPA : Hid (∀ k W, Calls Tryz.prog 63 #[.string (s.extract k s.size), .string ⟨#[45, 45, 62]⟩] W fun e w' => e = .returned (.bool (pre pA (s.data.toList.drop k))) ∧ w' = W) := Lib.hid (fun k W => by
    have h := Tryz.strings_HasPrefix (s.extract k s.size) ⟨#[45, 45, 62]⟩ W
    rw [str_tail] at h
    exact h)
  have HPB : Hid (∀ k W, Calls Tryz.prog 63 #[.string (s.extract k s.size), .string ⟨#[45, 45, 33, 62]⟩] W fun e w' => e = .returned (.bool (pre pB (s.data.toList.drop k))) ∧ w' = W) := Lib.hid (fun k W => by
    have h := Tryz.strings_HasPrefix (s.extract k s.size) ⟨#[45, 45, 33, 62]⟩ W
    rw [str_tail] at h
    exact h)
  have i0 : ∀ w, (Instr.index 109 (.agg #[.string ⟨#[62]⟩, .string ⟨#[45, 62]⟩]) (.int .i64 0)).run Tryz.prog w = .ok (.string ⟨#[62]⟩) w := fun _ => by kernel_rfl
  have i1 : ∀ w, (Instr.index 109 (.agg #[.string ⟨#[62]⟩, .string ⟨#[45, 62]⟩]) (.int .i64 1)).run Tryz.prog w = .ok (.string ⟨#[45, 62]⟩) w := fun _ => by kernel_rfl
  have j0 : ∀ w, (Instr.index 109 (.agg #[.string ⟨#[45, 45, 62]⟩, .string ⟨#[45, 45, 33, 62]⟩]) (.int .i64 0)).run Tryz.prog w = .ok (.string ⟨#[45, 45, 62]⟩) w := fun _ => by kernel_rfl
  have j1 : ∀ w, (Instr.index 109 (.agg #[.string ⟨#[45, 45, 62]⟩, .string ⟨#[45, 45, 33, 62]⟩]) (.int .i64 1)).run Tryz.prog w = .ok (.string ⟨#[45, 45, 33, 62]⟩) w := fun _ => by kernel_rfl
  clear hm hcp
  have hz : s.size ≤ 10000 := hs
  obtain ⟨c1, c2⟩ := cp
  simp only
  go_enter Tryz.func98, Tryz.ntmps98
  go_wp2
  go_loop [11] (fun i => i = .int .i64 0 ∨ (i = .int .i64 1 ∧ pre [62] s.data.toList = false) ∨ (i = .int .i64 2 ∧ pre [62] s.data.toList = false ∧ pre [45, 62] s.data.toList = false)) (fun i => 2 - (intOf i).toNat)
  case atStart => exact .inl rfl
  case round =>
    rcases hrel with rfl | ⟨rfl, h0⟩ | ⟨rfl, h0, h1⟩
    · cases q : pre [62] s.data.toList with
      | true =>
        have HF := Lib.hid (C1.out q)
        rw [q] at HG
        clear q C1 C2 C3 C4 C5
        go_wp2_with (go_at_call 63; refine (HG.out _).mono ?_; rintro e w' ⟨rfl, rfl⟩)
        go_ret2
        exact ⟨by injection HF.out with h1 h2; exact ret_si h1.symm (by rw [h2]; rfl), rfl⟩
      | false =>
        rw [q] at HG
        go_wp2_with (go_at_call 63; refine (HG.out _).mono ?_; rintro e w' ⟨rfl, rfl⟩)
        go_round
        case rel => exact .inr (.inl ⟨rfl, trivial⟩)
        case measure => simp [intOf]
    · cases q : pre [45, 62] s.data.toList with
      | true =>
        have HF := Lib.hid (C2.out h0 q)
        rw [q] at HH
        clear h0 q C1 C2 C3 C4 C5
        go_wp2_with (go_at_call 63; refine (HH.out _).mono ?_; rintro e w' ⟨rfl, rfl⟩)
        go_ret2
        exact ⟨by injection HF.out with h1 h2; exact ret_si h1.symm (by rw [h2]; rfl), rfl⟩
      | false =>
        rw [q] at HH
        go_wp2_with (go_at_call 63; refine (HH.out _).mono ?_; rintro e w' ⟨rfl, rfl⟩)
        go_round
        case rel => exact .inr (.inr ⟨rfl, h0, trivial⟩)
        case measure => simp [intOf]
    · have D3 := Lib.hid (C3.out h0 h1)
      have D4 := Lib.hid (fun k => C4.out k h0 h1)
      have D5 := Lib.hid (fun k => C5.out k h0 h1)
      clear C1 C2 C3 C4 C5 HG HH h0 h1 i0 i1
      go_wp2
      go_loop [6] (fun i => ∃ k : Nat, k ≤ s.size ∧ i = .int .i64 k ∧ noAB s.data.toList k) (fun i => s.size - (intOf i).toNat)
      case atStart => exact ⟨0, Nat.zero_le _, rfl, fun j hj => absurd hj (Nat.not_lt_zero _)⟩
      case round =>
        obtain ⟨k, hk, rfl, hno⟩ := hrel
        have hi0 : (0 : Int) ≤ (k : Int) := by omega
        have hi1 : (k : Int) ≤ (s.size : Int) := by omega
        have hkl : k ≤ s.data.toList.length := by rw [C.size_list]; exact hk
        have HIk := Lib.hid (HIx.out k)
        have hle := fnd_le pD (s.data.toList.drop k)
        have hno2 := fun q hq => noAB_to hno (q := q) hq
        have hro := fnd_room pD (s.data.toList.drop k)
        have epd : pD.length = 2 := rfl
        rw [List.length_drop, C.size_list] at hle hro
        by_cases hlt : fnd pD (s.data.toList.drop k) < (s.data.toList.drop k).length
        · rw [if_pos hlt] at HIk
          rw [List.length_drop, C.size_list] at hlt
          have hr2 := hro hlt
          obtain ⟨q, hq⟩ : ∃ q, q = k + fnd pD (s.data.toList.drop k) := ⟨_, rfl⟩
          have HNo := Lib.hid (hno2 q (by omega))
          generalize fnd pD (s.data.toList.drop k) = n at *
          have eQ : (k : Int) + (n : Int) = (q : Int) := by omega
          have hq0 : (0 : Int) ≤ (q : Int) := by omega
          have hq1 : (q : Int) ≤ (s.size : Int) := by omega
          have hq2 : q + 2 ≤ s.size := by omega
          have hnn : ¬ (n : Int) < 0 := by omega
          have HA := Lib.hid (HPA.out q)
          have HB := Lib.hid (HPB.out q)
          have D4q := Lib.hid (D4.out q HNo.out)
          have D5q := Lib.hid (D5.out q HNo.out)
          have eM : C.mkB (s.data.toList.take q) = s.extract 0 q := mk_take s q
          rw [eM] at D4q D5q
          have HKq : Hid (k ≤ q) := Lib.hid (by omega)
          clear hno hno2 hle hro hr2 hlt hq epd hkl eM D3 D4 D5 HPA HPB HIx
          go_wp2_with (go_at_call 110; refine HIk.out.mono ?_; rintro e w' ⟨rfl, rfl⟩)
          go_loop [36] (fun i => i = .int .i64 0 ∨ (i = .int .i64 1 ∧ pre pA (s.data.toList.drop q) = false) ∨ (i = .int .i64 2 ∧ pre pA (s.data.toList.drop q) = false ∧ pre pB (s.data.toList.drop q) = false)) (fun i => 2 - (intOf i).toNat)
          case atStart => exact .inl rfl
          case round =>
            rcases hrel with rfl | ⟨rfl, h0⟩ | ⟨rfl, h0, h1⟩
            · cases qq : pre pA (s.data.toList.drop q) with
              | true =>
                have HF := Lib.hid (D4q.out qq)
                rw [qq] at HA
                clear qq D4q D5q
                go_wp2_with (go_at_call 63; refine (HA.out _).mono ?_; rintro e w' ⟨rfl, rfl⟩)
                go_ret2
                exact ⟨by injection HF.out with h1 h2; exact ret_si h1.symm (by rw [h2]; rfl), rfl⟩
              | false =>
                rw [qq] at HA
                go_wp2_with (go_at_call 63; refine (HA.out _).mono ?_; rintro e w' ⟨rfl, rfl⟩)
                go_round
                case rel => exact .inr (.inl ⟨rfl, trivial⟩)
                case measure => simp [intOf]
            · cases qq : pre pB (s.data.toList.drop q) with
              | true =>
                have HF := Lib.hid (D5q.out qq)
                rw [qq] at HB
                clear qq h0 D4q D5q
                go_wp2_with (go_at_call 63; refine (HB.out _).mono ?_; rintro e w' ⟨rfl, rfl⟩)
                go_ret2
                exact ⟨by injection HF.out with h1 h2; exact ret_si h1.symm (by rw [h2]; rfl), rfl⟩
              | false =>
                rw [qq] at HB
                go_wp2_with (go_at_call 63; refine (HB.out _).mono ?_; rintro e w' ⟨rfl, rfl⟩)
                go_round
                case rel => exact .inr (.inr ⟨rfl, h0, trivial⟩)
                case measure => simp [intOf]
            · have HN : Hid (noAB s.data.toList (q + 1)) := Lib.hid (fun j hj => by
                rcases Nat.lt_or_eq_of_le (Nat.le_of_lt_succ hj) with h2 | h2
                · exact HNo.out j h2
                · rw [h2]; exact ⟨h0, h1⟩)
              clear h0 h1
              go_wp2
              go_round
              case rel => exact ⟨q + 1, by omega, by go_num, HN.out⟩
              case measure => have := HKq.out; simp [intOf]; omega
        · rw [if_neg hlt] at HIk
          rw [List.length_drop, C.size_list] at hlt
          have HF := Lib.hid (D3.out (by rw [C.size_list]; exact hno2 _ (by omega)))
          clear hno hno2 hle hro hlt epd hkl D3 D4 D5 HPA HPB HIx
          go_wp2_with (first | (go_at_call 110; refine HIk.out.mono ?_; rintro e w' ⟨rfl, rfl⟩) | (go_at_call 111; refine (HUn.out _).mono ?_; rintro e w' ⟨rfl, rfl⟩))
          go_ret2
          exact ⟨by injection HF.out with h1 h2; exact ret_si h1.symm (by rw [h2, C.size_list]), rfl⟩
end Go.Proofs.YtceelfomgcbkiaaGreatDoor.R

/-
  The walks of first, readDoctype and readSection.
-/
namespace Go.Proofs.YtceelfomgcbkiaaGreatDoor.R
open Go.RowKit
open Go.Proofs.YtceelfomgcbkiaaGreatDoor.I (spI spC lowS trL trS trS_size trim_any space_any lower_any dw_suffix)

def nsp (c : UInt8) : Bool := !spC c
theorem wrd_eq (l : List UInt8) : wrd l = (l.dropWhile spC).takeWhile nsp := rfl
theorem tw_app {p : UInt8 → Bool} : ∀ (m b : List UInt8), (∀ c, b.head? = some c → p c = false) → (m ++ b).takeWhile p = m.takeWhile p
  | [], b, h => by
    cases b with
    | nil => rfl
    | cons c b => rw [List.nil_append, List.takeWhile_cons, if_neg (by rw [h c rfl]; decide)]; rfl
  | x :: m, b, h => by
    rw [List.cons_append, List.takeWhile_cons, List.takeWhile_cons, tw_app m b h]
theorem wrd_tr (l : List UInt8) : (trL l).takeWhile nsp = wrd l := by
  rw [wrd_eq]
  obtain ⟨b, hb, hb'⟩ := dw_suffix (p := spC) (l.dropWhile spC).reverse
  have e : l.dropWhile spC = trL l ++ b.reverse := by
    have := congrArg List.reverse hb
    rw [List.reverse_reverse, List.reverse_append] at this
    exact this
  rw [e, tw_app]
  intro c hc
  have : c ∈ b := by
    have := List.mem_of_mem_head? (a := c) (l := b.reverse) (by rw [hc]; rfl)
    simpa using this
  unfold nsp
  rw [hb' c this]; rfl
theorem tw_all {p : UInt8 → Bool} : ∀ l : List UInt8, (∀ c ∈ l, p c = true) → l.takeWhile p = l
  | [], _ => rfl
  | x :: l, h => by
    rw [List.takeWhile_cons, if_pos (h x (by simp)), tw_all l (fun c hc => h c (by simp [hc]))]
theorem tw_is {p : UInt8 → Bool} {t : ByteArray} {k : Nat} (hk : k < t.size) (hall : ∀ j (h : j < t.size), j < k → p t[j] = true) (hno : p t[k] = false) : t.data.toList.takeWhile p = t.data.toList.take k := by
  have e : t.data.toList = t.data.toList.take k ++ t.data.toList.drop k := (List.take_append_drop _ _).symm
  have h1 : ∀ c ∈ t.data.toList.take k, p c = true := by
    intro c hc
    obtain ⟨j, hj, rfl⟩ := List.mem_iff_getElem.1 hc
    rw [List.length_take] at hj
    rw [List.getElem_take]
    exact hall j (by rw [C.size_list] at hj; omega) (by omega)
  have h2 : ∀ c, (t.data.toList.drop k).head? = some c → p c = false := by
    intro c hc
    rw [C.drop_at t k hk] at hc
    injection hc with hc
    rw [← hc]; exact hno
  conv => lhs; rw [e]
  rw [tw_app _ _ h2, tw_all _ h1]
theorem tw_whole {p : UInt8 → Bool} {t : ByteArray} (hall : ∀ j (h : j < t.size), p t[j] = true) : t.data.toList.takeWhile p = t.data.toList := by
  refine tw_all _ fun c hc => ?_
  obtain ⟨j, hj, rfl⟩ := List.mem_iff_getElem.1 hc
  exact hall j (by simpa using hj)

set_option maxHeartbeats 1600000 in
theorem first_any (s : ByteArray) (w : World) (hs : s.size ≤ 10000) :
    Calls Tryz.prog 100 #[.string s] w fun e w' => e = .returned (.string (C.mkB (wrd s.data.toList))) ∧ w = w' := by
  have HT := Lib.hid (trim_any s w (by unfold maxLen; omega))
  have hz := trS_size s
  obtain ⟨R, hR⟩ : ∃ R, R = C.mkB (wrd s.data.toList) := ⟨_, rfl⟩
  have HW : Hid (R = C.mkB ((trS s).data.toList.takeWhile nsp)) := Lib.hid (by
    rw [hR, ← wrd_tr]
    congr 2)
  rw [← hR]
  clear hR
  generalize trS s = t at *
  have HIs := Lib.hid (fun k hk h1 h2 => tw_is (p := nsp) (t := t) (k := k) hk h1 h2)
  have HWh := Lib.hid (fun h => tw_whole (p := nsp) (t := t) h)
  go_enter Tryz.func100, Tryz.ntmps100
  go_wp2_with (go_at_call 113; refine HT.out.mono ?_; rintro e w' ⟨rfl, rfl⟩)
  go_loop [8] (fun i => ∃ k : Nat, k ≤ t.size ∧ i = .int .i64 k ∧ (∀ j (h : j < t.size), j < k → nsp t[j] = true)) (fun i => t.size - (intOf i).toNat)
  case atStart => exact ⟨0, Nat.zero_le _, rfl, fun _ _ h => absurd h (Nat.not_lt_zero _)⟩
  case round =>
    obtain ⟨k, hk, rfl, hall⟩ := hrel
    have HA := Lib.hid hall
    clear hall
    by_cases hlt : k < t.size
    · have hi0 : (0 : Int) ≤ (k : Int) := by omega
      have hi1 : (k : Int) < (t.size : Int) := by omega
      have hi2 : (k : Int) ≤ (t.size : Int) := by omega
      have hc := t[k].toNat_lt
      have HSp := Lib.hid (fun W => space_any (t[k].toNat : Int) W (by omega) (by omega))
      cases hq : spC t[k] with
      | true =>
        have HF : Hid (t.extract 0 k = R) := Lib.hid (by
          rw [HW.out, HIs.out k hlt HA.out (by unfold nsp; rw [hq]; rfl)]
          apply C.eq_of_list
          rw [C.mkB_list, C.ext_list, List.drop_zero])
        have e1 : spI (t[k].toNat : Int) = true := hq
        rw [e1] at HSp
        clear hq e1
        go_wp2_with (go_at_call 78; refine (HSp.out _).mono ?_; rintro e w' ⟨rfl, rfl⟩)
        go_ret
        exact ⟨ret_str HF.out, rfl⟩
      | false =>
        have HN : Hid (∀ j (h : j < t.size), j < k + 1 → nsp t[j] = true) := Lib.hid (fun j h hj => by
          rcases Nat.lt_or_eq_of_le (Nat.le_of_lt_succ hj) with h1 | h1
          · exact HA.out j h h1
          · subst h1; unfold nsp; rw [hq]; rfl)
        have e1 : spI (t[k].toNat : Int) = false := hq
        rw [e1] at HSp
        clear hq e1
        go_wp2_with (go_at_call 78; refine (HSp.out _).mono ?_; rintro e w' ⟨rfl, rfl⟩)
        go_round
        case rel => exact ⟨k + 1, by omega, by go_num, HN.out⟩
        case measure => simp [intOf]; omega
    · have HF : Hid (t = R) := Lib.hid (by rw [HW.out, HWh.out (fun j h => HA.out j h (by omega)), C.mkB_of])
      go_wp2
      go_ret
      exact ⟨ret_str HF.out, rfl⟩

theorem wrd_len (l : List UInt8) : (wrd l).length ≤ l.length := by
  rw [← wrd_tr]
  exact Nat.le_trans (List.takeWhile_prefix nsp).length_le (I.trL_len l)
theorem cut_size (l : List UInt8) (i j : Nat) : (cut l i j).size ≤ l.length := by
  unfold cut
  rw [C.mkB_size, List.length_drop, List.length_take]; omega
theorem dty_eq (l : List UInt8) : (⟨5, lowS (C.mkB (wrd (cut l 9 (fndF [62] l 9)).data.toList)), ByteArray.empty, upN [62] l 9, true⟩ : Rem) = dty l := by
  unfold dty cut
  rw [C.mkB_list]; rfl

set_option maxHeartbeats 1600000 in
theorem readDoctype_any (s : ByteArray) (w : World) (hM : MaxAt w) (hk : 9 ≤ s.size) (hs : s.size ≤ 10000) :
    Calls Tryz.prog 69 #[.string s] w (RetRem (dty s.data.toList) w) := by
  have HU := Lib.hid (upTo_any s ⟨#[62]⟩ 9 (W1 w) (w1_max hM) hk (by decide) hs (by decide))
  have e62 : ((⟨#[62]⟩ : ByteArray).data.toList) = [62] := rfl
  rw [e62] at HU
  rw [← dty_eq]
  have HR := Lib.hid (w1_row w)
  have HB := Lib.hid (w1_below w)
  have hdz := cut_size s.data.toList 9 (fndF [62] s.data.toList 9)
  rw [C.size_list] at hdz
  clear e62 hM
  generalize cut s.data.toList 9 (fndF [62] s.data.toList 9) = d at *
  generalize upN [62] s.data.toList 9 = u at *
  have HFi := Lib.hid (fun W => first_any d W (by omega))
  have HLo := Lib.hid (fun W => lower_any (C.mkB (wrd d.data.toList)) W (by
    have := wrd_len d.data.toList
    rw [C.size_list] at this
    rw [C.mkB_size]; unfold maxLen; omega))
  generalize C.mkB (wrd d.data.toList) = f at *
  generalize lowS f = nm at *
  go_enter Tryz.func69, Tryz.ntmps69
  go_wp2_with fail
  refine HU.out.mono ?_
  rintro e w1 ⟨rfl, hbl⟩
  have HR1 := Lib.hid (heap_keep hbl HR.out)
  have HB1 : Hid (Below w.heap.size w w1) := Lib.hid (HB.out.trans (hbl.mono HB.out.size))
  clear hbl HR HB
  go_wp2_with (go_at_call 100; refine (HFi.out _).mono ?_; rintro e w' ⟨rfl, rfl⟩)
  refine (HLo.out _).mono ?_
  rintro e w2 ⟨rfl, hbl⟩
  have HR2 := Lib.hid (heap_keep hbl HR1.out)
  have HB2 := below_step HB1 hbl
  clear hbl HR1 HB1
  obtain ⟨c0, c1, c2, c3, c4⟩ := row_of HR2.out
  obtain ⟨f0, f1, f2, f3, f4⟩ := free_of HR2.out
  go_wp2
  obtain ⟨wf, ewf, ⟨d0, d1, d2, d3, d4⟩, hbf⟩ := fin_of 5 nm ByteArray.empty HR2.out HB2.out
  change bodyPost _ _ _ _ _ (S5 w2 w.heap.size (.int .i64 5) (.string nm) (.slice none 0 0) (.bool false) (.string ByteArray.empty))
  rw [← ewf]
  clear ewf c0 c1 c2 c3 c4 f0 f1 f2 f3 f4
  exact bodyPost_ret (v := .tuple #[remV ⟨5, nm, ByteArray.empty, u, true⟩, .int .i64 (u : Nat), .bool true]) (by simp [results, Tryz.results69, go_sem, remV, d0, d1, d2, d3, d4]) rfl ⟨rfl, hbf⟩

set_option maxHeartbeats 1600000 in
theorem readSection_any (s : ByteArray) (w : World) (hM : MaxAt w) (hk : 9 ≤ s.size) (hs : s.size ≤ 10000) :
    Calls Tryz.prog 70 #[.string s] w (RetRem (sec s.data.toList) w) := by
  have HU := Lib.hid (upTo_any s ⟨#[93, 93, 62]⟩ 9 (W1 w) (w1_max hM) hk (by decide) hs (by decide))
  have e62 : ((⟨#[93, 93, 62]⟩ : ByteArray).data.toList) = pS := rfl
  rw [e62] at HU
  have HR := Lib.hid (w1_row w)
  have HB := Lib.hid (w1_below w)
  have hb := fndF_bd pS s.data.toList 9 (by rw [C.size_list]; exact hk)
  have hdz : (cut s.data.toList 9 (fndF pS s.data.toList 9)).size = fndF pS s.data.toList 9 - 9 := by
    unfold cut
    rw [C.mkB_size, List.length_drop, List.length_take]; omega
  clear e62 hM
  by_cases h9 : fndF pS s.data.toList 9 = 9
  · have hX : rem0 (upN pS s.data.toList 9) = sec s.data.toList := by
      unfold sec
      rw [if_pos h9]
      unfold upN
      rw [h9]; rfl
    rw [← hX]
    have h0 : (cut s.data.toList 9 (fndF pS s.data.toList 9)).size = 0 := by omega
    clear hX hb hdz h9
    generalize cut s.data.toList 9 (fndF pS s.data.toList 9) = d at *
    generalize upN pS s.data.toList 9 = u at *
    obtain ⟨e1, e2⟩ : d.toList = [] ∧ d.toList.isEmpty = true := by
      have : d.toList = [] := by rw [ByteArray.toList_eq]; exact List.eq_nil_of_length_eq_zero (by simpa using h0)
      exact ⟨this, by rw [this]; rfl⟩
    clear h0
    go_enter Tryz.func70, Tryz.ntmps70
    go_wp2_with fail
    refine HU.out.mono ?_
    rintro e w1 ⟨rfl, hbl⟩
    have HR1 := Lib.hid (heap_keep hbl HR.out)
    have HB1 : Hid (Below w.heap.size w w1) := Lib.hid (HB.out.trans (hbl.mono HB.out.size))
    clear hbl HR HB
    obtain ⟨c0, c1, c2, c3, c4⟩ := row_of HR1.out
    obtain ⟨f0, f1, f2, f3, f4⟩ := free_of HR1.out
    go_wp2
    obtain ⟨wf, ewf, ⟨d0, d1, d2, d3, d4⟩, hbf⟩ := fin_of 0 ByteArray.empty ByteArray.empty HR1.out HB1.out
    change bodyPost _ _ _ _ _ (S5 w1 w.heap.size (.int .i64 0) (.string ByteArray.empty) (.slice none 0 0) (.bool false) (.string ByteArray.empty))
    rw [← ewf]
    clear ewf c0 c1 c2 c3 c4 f0 f1 f2 f3 f4
    exact bodyPost_ret (v := .tuple #[remV (rem0 u), .int .i64 (u : Nat), .bool false]) (by simp [results, Tryz.results70, go_sem, remV, rem0, d0, d1, d2, d3, d4]) rfl ⟨rfl, hbf⟩
  · have hX : (⟨3, ByteArray.empty, cut s.data.toList 9 (fndF pS s.data.toList 9), upN pS s.data.toList 9, true⟩ : Rem) = sec s.data.toList := by
      unfold sec
      rw [if_neg h9]; rfl
    rw [← hX]
    have h0 : (cut s.data.toList 9 (fndF pS s.data.toList 9)).size ≠ 0 := by omega
    clear hX hb hdz h9
    generalize cut s.data.toList 9 (fndF pS s.data.toList 9) = d at *
    generalize upN pS s.data.toList 9 = u at *
    obtain ⟨e1, e2⟩ : d.toList ≠ [] ∧ d.toList.isEmpty = false := by
      have : d.toList ≠ [] := by
        intro e; apply h0
        have h1 : d.data.toList = [] := by rw [← ByteArray.toList_eq]; exact e
        rw [← C.size_list, h1]; rfl
      exact ⟨this, by cases hx : d.toList with
        | nil => exact absurd hx this
        | cons c r => rfl⟩
    clear h0
    go_enter Tryz.func70, Tryz.ntmps70
    go_wp2_with fail
    refine HU.out.mono ?_
    rintro e w1 ⟨rfl, hbl⟩
    have HR1 := Lib.hid (heap_keep hbl HR.out)
    have HB1 : Hid (Below w.heap.size w w1) := Lib.hid (HB.out.trans (hbl.mono HB.out.size))
    clear hbl HR HB
    obtain ⟨c0, c1, c2, c3, c4⟩ := row_of HR1.out
    obtain ⟨f0, f1, f2, f3, f4⟩ := free_of HR1.out
    go_wp2
    obtain ⟨wf, ewf, ⟨d0, d1, d2, d3, d4⟩, hbf⟩ := fin_of 3 ByteArray.empty d HR1.out HB1.out
    change bodyPost _ _ _ _ _ (S5 w1 w.heap.size (.int .i64 3) (.string ByteArray.empty) (.slice none 0 0) (.bool false) (.string d))
    rw [← ewf]
    clear ewf c0 c1 c2 c3 c4 f0 f1 f2 f3 f4
    exact bodyPost_ret (v := .tuple #[remV ⟨3, ByteArray.empty, d, u, true⟩, .int .i64 (u : Nat), .bool true]) (by simp [results, Tryz.results70, go_sem, remV, d0, d1, d2, d3, d4]) rfl ⟨rfl, hbf⟩
end Go.Proofs.YtceelfomgcbkiaaGreatDoor.R
