/-
  Layer 7 (attr) in plain functions on lists of pairs of texts. No program stands here.
-/
import Derived.WalkKit
namespace Go.Proofs.Ytkkngflpmdcfjaa.A
open Go.RowKit

/-- An attribute: its name, its value. -/
abbrev At := ByteArray × ByteArray
def eqS (a b : ByteArray) : Bool := a.toList == b.toList
theorem list_eq {a b : ByteArray} (h : a.toList = b.toList) : a = b := by
  rw [ByteArray.toList_eq, ByteArray.toList_eq] at h
  obtain ⟨⟨x⟩⟩ := a
  obtain ⟨⟨y⟩⟩ := b
  simpa using h
theorem eqS_iff {a b : ByteArray} : eqS a b = true ↔ a = b := by
  unfold eqS
  rw [beq_iff_eq]
  exact ⟨list_eq, fun h => by rw [h]⟩
theorem eqS_no {a b : ByteArray} : eqS a b = false ↔ a ≠ b := by
  rw [← Bool.not_eq_true, eqS_iff]
/-- Where the first one of that name is; how many there are, if there is none. -/
def pos (n : ByteArray) : List At → Nat
  | [] => 0
  | a :: l => if eqS a.1 n = true then 0 else pos n l + 1
theorem pos_le (n : ByteArray) : ∀ l : List At, pos n l ≤ l.length
  | [] => Nat.le_refl _
  | a :: l => by unfold pos; split; exact Nat.zero_le _; have := pos_le n l; simp; omega
theorem pos_drop (n : ByteArray) : ∀ (l : List At) (k : Nat) (h : k < l.length), pos n (l.drop k) = if eqS l[k].1 n = true then 0 else pos n (l.drop (k + 1)) + 1 := by
  intro l k h
  rw [List.drop_eq_getElem_cons h]; rfl
theorem pos_hit (n : ByteArray) : ∀ (l : List At) (h : pos n l < l.length), l[pos n l].1 = n
  | [], h => by simp at h
  | a :: l, h => by
    by_cases e : eqS a.1 n = true
    · have : pos n (a :: l) = 0 := if_pos e
      simp only [this]; exact eqS_iff.1 e
    · have e2 : pos n (a :: l) = pos n l + 1 := if_neg e
      simp only [e2]
      exact pos_hit n l (by rw [e2] at h; simpa using h)
theorem pos_before (n : ByteArray) : ∀ (l : List At) (j : Nat) (h : j < l.length), j < pos n l → l[j].1 ≠ n
  | [], j, h, _ => by simp at h
  | a :: l, j, h, hp => by
    by_cases e : eqS a.1 n = true
    · have : pos n (a :: l) = 0 := if_pos e
      omega
    · have e2 : pos n (a :: l) = pos n l + 1 := if_neg e
      cases j with
      | zero => exact fun h2 => e (eqS_iff.2 h2)
      | succ j => exact pos_before n l j (by simpa using h) (by omega)
theorem pos_miss {n : ByteArray} {l : List At} : pos n l = l.length ↔ ∀ a ∈ l, a.1 ≠ n := by
  constructor
  · intro h a ha
    obtain ⟨j, hj, rfl⟩ := List.mem_iff_getElem.1 ha
    exact pos_before n l j hj (by omega)
  · intro h
    rcases Nat.lt_or_ge (pos n l) l.length with h1 | h1
    · exact absurd (pos_hit n l h1) (h _ (List.getElem_mem h1))
    · have := pos_le n l; omega
theorem pos_is {n : ByteArray} {l : List At} {k : Nat} (h : k < l.length) (h1 : l[k].1 = n) (h2 : ∀ j (hj : j < k), l[j].1 ≠ n) : pos n l = k := by
  rcases Nat.lt_trichotomy (pos n l) k with h3 | h3 | h3
  · exact absurd (pos_hit n l (by omega)) (h2 _ h3)
  · exact h3
  · exact absurd h1 (pos_before n l k h h3)
/-- Where it is, as the program tells it. -/
def posI (n : ByteArray) (l : List At) : Int := if pos n l < l.length then (pos n l : Int) else -1
/-- Of a rest: where, counted from the list's beginning. -/
def restI (n : ByteArray) (l : List At) (k : Nat) : Int := if pos n (l.drop k) < (l.drop k).length then (k : Int) + (pos n (l.drop k) : Int) else -1
theorem restI_zero (n : ByteArray) (l : List At) : restI n l 0 = posI n l := by unfold restI posI; simp
theorem restI_hit (n : ByteArray) (l : List At) (k : Nat) (h : k < l.length) (e : eqS l[k].1 n = true) : restI n l k = k := by
  unfold restI
  rw [pos_drop n l k h, if_pos e, if_pos (by rw [List.length_drop]; omega)]; simp
theorem restI_miss (n : ByteArray) (l : List At) (k : Nat) (h : k < l.length) (e : eqS l[k].1 n = false) : restI n l k = restI n l (k + 1) := by
  unfold restI
  have e1 : pos n (l.drop k) = pos n (l.drop (k + 1)) + 1 := by rw [pos_drop n l k h, e]; rfl
  rw [e1]
  simp only [List.length_drop]
  by_cases h2 : pos n (l.drop (k + 1)) < l.length - (k + 1)
  · rw [if_pos h2, if_pos (by omega)]; omega
  · rw [if_neg h2, if_neg (by omega)]
theorem restI_end (n : ByteArray) (l : List At) (k : Nat) (h : l.length ≤ k) : restI n l k = -1 := by
  unfold restI
  rw [List.drop_eq_nil_of_le h]; rfl
/-! ### the document's answers -/
def getV (n : ByteArray) (l : List At) : ByteArray := (l[pos n l]?.map (·.2)).getD ByteArray.empty
def getB (n : ByteArray) (l : List At) : Bool := decide (pos n l < l.length)
def addL (l : List At) (a : At) : List At := if getB a.1 l = true then l else l ++ [a]
def setL (l : List At) (a : At) : List At := if getB a.1 l = true then l.set (pos a.1 l) a else l ++ [a]
def dropL (n : ByteArray) (l : List At) : List At := l.filter fun a => !eqS a.1 n
def eqA (a b : At) : Bool := eqS a.1 b.1 && eqS a.2 b.2
theorem eqA_iff {a b : At} : eqA a b = true ↔ a = b := by
  unfold eqA
  rw [Bool.and_eq_true, eqS_iff, eqS_iff]
  exact ⟨fun h => Prod.ext h.1 h.2, fun h => by rw [h]; exact ⟨rfl, rfl⟩⟩
theorem eqA_no {a b : At} : eqA a b = false ↔ a ≠ b := by rw [← Bool.not_eq_true, eqA_iff]
def sameB : List At → List At → Bool
  | [], [] => true
  | a :: l, b :: m => eqA a b && sameB l m
  | _, _ => false
theorem sameB_iff : ∀ {l m : List At}, sameB l m = true ↔ l = m
  | [], [] => by simp [sameB]
  | [], _ :: _ => by simp [sameB]
  | _ :: _, [] => by simp [sameB]
  | a :: l, b :: m => by rw [sameB, Bool.and_eq_true, eqA_iff, sameB_iff, List.cons.injEq]
theorem sameB_len {l m : List At} (h : l.length ≠ m.length) : sameB l m = false := by
  rw [← Bool.not_eq_true, sameB_iff]; intro e; exact h (by rw [e])
theorem sameB_drop (l m : List At) (k : Nat) (h : k < l.length) (h' : k < m.length) : sameB (l.drop k) (m.drop k) = (eqA l[k] m[k] && sameB (l.drop (k + 1)) (m.drop (k + 1))) := by
  rw [List.drop_eq_getElem_cons h, List.drop_eq_getElem_cons h']; rfl
def isIn (m : List At) (a : At) : Bool := m.any fun b => eqA a b
theorem isIn_iff {m : List At} {a : At} : isIn m a = true ↔ a ∈ m := by
  unfold isIn
  rw [List.any_eq_true]
  exact ⟨fun ⟨b, hb, h⟩ => by rw [eqA_iff.1 h]; exact hb, fun h => ⟨a, h, eqA_iff.2 rfl⟩⟩
def amongB (l m : List At) : Bool := l.all (isIn m)
theorem amongB_iff {l m : List At} : amongB l m = true ↔ ∀ a ∈ l, a ∈ m := by
  unfold amongB
  rw [List.all_eq_true]
  exact ⟨fun h a ha => isIn_iff.1 (h a ha), fun h a ha => isIn_iff.2 (h a ha)⟩
def alikeB (l m : List At) : Bool := decide (l.length = m.length) && amongB l m && amongB m l
def fewA (l : List At) : Bool := decide (l.length ≤ 14) && l.all fun a => decide (a.1.size ≤ 40) && decide (a.2.size ≤ 150)

theorem getV_hit {n : ByteArray} {l : List At} (h : pos n l < l.length) : getV n l = l[pos n l].2 := by
  unfold getV; rw [List.getElem?_eq_getElem h]; rfl
theorem getV_miss {n : ByteArray} {l : List At} (h : ¬ pos n l < l.length) : getV n l = ByteArray.empty := by
  unfold getV; rw [List.getElem?_eq_none (by omega)]; rfl
theorem getB_iff {n : ByteArray} {l : List At} : getB n l = true ↔ pos n l < l.length := by unfold getB; simp
theorem getB_no {n : ByteArray} {l : List At} : getB n l = false ↔ ∀ a ∈ l, a.1 ≠ n := by
  rw [← pos_miss]; unfold getB; have := pos_le n l; simp; omega
theorem dropL_cons (n : ByteArray) (a : At) (l : List At) : dropL n (a :: l) = if eqS a.1 n = true then dropL n l else a :: dropL n l := by
  unfold dropL
  rw [List.filter_cons]
  cases eqS a.1 n <;> rfl
theorem dropL_at (n : ByteArray) (l : List At) (k : Nat) (h : k < l.length) : dropL n (l.drop k) = if eqS l[k].1 n = true then dropL n (l.drop (k + 1)) else l[k] :: dropL n (l.drop (k + 1)) := by
  rw [List.drop_eq_getElem_cons h, dropL_cons]
/-! ### what follows (P7.3) -/
theorem getB_drop (n : ByteArray) (l : List At) : getB n (dropL n l) = false := by
  rw [getB_no]
  intro a ha
  have := (List.mem_filter.1 ha).2
  exact eqS_no.1 (by simpa using this)
theorem get_set (l : List At) (a : At) : getB a.1 (setL l a) = true ∧ getV a.1 (setL l a) = a.2 := by
  unfold setL
  by_cases h : getB a.1 l = true
  · rw [if_pos h]
    have hp := getB_iff.1 h
    have e : pos a.1 (l.set (pos a.1 l) a) = pos a.1 l := pos_is (by rw [List.length_set]; exact hp) (by simp) (fun j hj => by
      rw [List.getElem_set_ne (by omega)]
      exact pos_before a.1 l j (by omega) hj)
    have h1 : pos a.1 (l.set (pos a.1 l) a) < (l.set (pos a.1 l) a).length := by rw [e, List.length_set]; exact hp
    refine ⟨getB_iff.2 h1, ?_⟩
    rw [getV_hit h1]
    simp only [e]
    simp
  · rw [if_neg h]
    have hn := getB_no.1 (by simpa using h)
    have e : pos a.1 (l ++ [a]) = l.length := pos_is (by simp) (by simp) (fun j hj => by
      rw [List.getElem_append_left (by omega)]
      exact hn _ (List.getElem_mem _))
    have h1 : pos a.1 (l ++ [a]) < (l ++ [a]).length := by rw [e]; simp
    refine ⟨getB_iff.2 h1, ?_⟩
    rw [getV_hit h1]
    simp only [e]
    simp
theorem alike_comm (l m : List At) : alikeB l m = alikeB m l := by
  unfold alikeB
  rw [show decide (l.length = m.length) = decide (m.length = l.length) by rw [decide_eq_decide]; exact eq_comm]
  cases amongB l m <;> cases amongB m l <;> simp
theorem among_self (l : List At) : amongB l l = true := amongB_iff.2 fun _ h => h
theorem same_alike {l m : List At} (h : sameB l m = true) : alikeB l m = true := by
  have : l = m := sameB_iff.1 h
  subst this
  unfold alikeB; rw [among_self]; simp
theorem sameB_self (l : List At) : sameB l l = true := sameB_iff.2 rfl
theorem add_own (l : List At) (a : At) : addL l a = l ∨ addL l a = l ++ [a] := by unfold addL; split; exact .inl rfl; exact .inr rfl
theorem fewA_yes {l : List At} (h : fewA l = true) : l.length ≤ 14 ∧ ∀ a ∈ l, a.1.size ≤ 40 ∧ a.2.size ≤ 150 := by
  unfold fewA at h
  rw [Bool.and_eq_true, decide_eq_true_eq, List.all_eq_true] at h
  exact ⟨h.1, fun a ha => by have := h.2 a ha; rw [Bool.and_eq_true, decide_eq_true_eq, decide_eq_true_eq] at this; exact this⟩
def restA (l : List At) (k : Nat) : Bool := (l.drop k).all fun a => decide (a.1.size ≤ 40) && decide (a.2.size ≤ 150)
theorem restA_at (l : List At) (k : Nat) (h : k < l.length) : restA l k = (decide (l[k].1.size ≤ 40) && decide (l[k].2.size ≤ 150) && restA l (k + 1)) := by
  unfold restA; rw [List.drop_eq_getElem_cons h, List.all_cons]
theorem restA_end (l : List At) (k : Nat) (h : l.length ≤ k) : restA l k = true := by unfold restA; rw [List.drop_eq_nil_of_le h]; rfl
end Go.Proofs.Ytkkngflpmdcfjaa.A
