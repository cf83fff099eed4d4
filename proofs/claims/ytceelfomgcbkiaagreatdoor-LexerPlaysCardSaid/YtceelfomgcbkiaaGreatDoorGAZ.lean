/-
  Several texts in one: APlain AMem AFind AAdd ASame.
-/
import Derived.WalkKit
import Derived.Test.YtceelfomgcbkiaaGreatDoorRows
import Derived.IntWalk
import Derived.LoopTactic
import Derived.WalkSpells
import Derived.Lib.Hide
import Derived.Laws.OwnMore
import Derived.Laws.StructEq
import Derived.Maps.AppendAt
import Derived.Deep.AppendLies
import Derived.Deep.QuietTactic
import Derived.BigQuiet
/-
  Layer 7 (attr) in plain functions on lists of pairs of texts. No program stands here.
-/
namespace Go.Proofs.YtceelfomgcbkiaaGreatDoor.A
open Go.RowKit

/-- An attribute: its name, its value. -/
abbrev At := ByteArray × ByteArray
def eqS (a b : ByteArray) : Bool := a.toList == b.toList
theorem list_eq {a b : ByteArray} (h : a.toList = b.toList) : a = b := by
  rw [ByteArray.toList_eq, ByteArray.toList_eq] at h
  obtain ⟨⟨x⟩⟩ := a
  obtain ⟨⟨y⟩⟩ := b
  simpa using h
theorem eqS_iff {a b : ByteArray} : eqS a b = true ↔ a = b := by
  unfold eqS
  rw [beq_iff_eq]
  exact ⟨list_eq, fun h => by rw [h]⟩
theorem eqS_no {a b : ByteArray} : eqS a b = false ↔ a ≠ b := by
  rw [← Bool.not_eq_true, eqS_iff]
/-- Where the first one of that name is; how many there are, if there is none. -/
def pos (n : ByteArray) : List At → Nat
  | [] => 0
  | a :: l => if eqS a.1 n = true then 0 else pos n l + 1
theorem pos_le (n : ByteArray) : ∀ l : List At, pos n l ≤ l.length
  | [] => Nat.le_refl _
  | a :: l => by unfold pos; split; exact Nat.zero_le _; have := pos_le n l; simp; omega
theorem pos_drop (n : ByteArray) : ∀ (l : List At) (k : Nat) (h : k < l.length), pos n (l.drop k) = if eqS l[k].1 n = true then 0 else pos n (l.drop (k + 1)) + 1 := by
  intro l k h
  rw [List.drop_eq_getElem_cons h]; rfl
theorem pos_hit (n : ByteArray) : ∀ (l : List At) (h : pos n l < l.length), l[pos n l].1 = n
  | [], h => by simp at h
  | a :: l, h => by
    by_cases e : eqS a.1 n = true
    · have : pos n (a :: l) = 0 := if_pos e
      simp only [this]; exact eqS_iff.1 e
    · have e2 : pos n (a :: l) = pos n l + 1 := if_neg e
      simp only [e2]
      exact pos_hit n l (by rw [e2] at h; simpa using h)
theorem pos_before (n : ByteArray) : ∀ (l : List At) (j : Nat) (h : j < l.length), j < pos n l → l[j].1 ≠ n
  | [], j, h, _ => by simp at h
  | a :: l, j, h, hp => by
    by_cases e : eqS a.1 n = true
    · have : pos n (a :: l) = 0 := if_pos e
      omega
    · have e2 : pos n (a :: l) = pos n l + 1 := if_neg e
      cases j with
      | zero => exact fun h2 => e (eqS_iff.2 h2)
      | succ j => exact pos_before n l j (by simpa using h) (by omega)
theorem pos_miss {n : ByteArray} {l : List At} : pos n l = l.length ↔ ∀ a ∈ l, a.1 ≠ n := by
  constructor
  · intro h a ha
    obtain ⟨j, hj, rfl⟩ := List.mem_iff_getElem.1 ha
    exact pos_before n l j hj (by omega)
  · intro h
    rcases Nat.lt_or_ge (pos n l) l.length with h1 | h1
    · exact absurd (pos_hit n l h1) (h _ (List.getElem_mem h1))
    · have := pos_le n l; omega
theorem pos_is {n : ByteArray} {l : List At} {k : Nat} (h : k < l.length) (h1 : l[k].1 = n) (h2 : ∀ j (hj : j < k), l[j].1 ≠ n) : pos n l = k := by
  rcases Nat.lt_trichotomy (pos n l) k with h3 | h3 | h3
  · exact absurd (pos_hit n l (by omega)) (h2 _ h3)
  · exact h3
  · exact absurd h1 (pos_before n l k h h3)
/-- Where it is, as the program tells it. -/
def posI (n : ByteArray) (l : List At) : Int := if pos n l < l.length then (pos n l : Int) else -1
/-- Of a rest: where, counted from the list's beginning. -/
def restI (n : ByteArray) (l : List At) (k : Nat) : Int := if pos n (l.drop k) < (l.drop k).length then (k : Int) + (pos n (l.drop k) : Int) else -1
theorem restI_zero (n : ByteArray) (l : List At) : restI n l 0 = posI n l := by unfold restI posI; simp
theorem restI_hit (n : ByteArray) (l : List At) (k : Nat) (h : k < l.length) (e : eqS l[k].1 n = true) : restI n l k = k := by
  unfold restI
  rw [pos_drop n l k h, if_pos e, if_pos (by rw [List.length_drop]; omega)]; simp
theorem restI_miss (n : ByteArray) (l : List At) (k : Nat) (h : k < l.length) (e : eqS l[k].1 n = false) : restI n l k = restI n l (k + 1) := by
  unfold restI
  have e1 : pos n (l.drop k) = pos n (l.drop (k + 1)) + 1 := by rw [pos_drop n l k h, e]; rfl
  rw [e1]
  simp only [List.length_drop]
  by_cases h2 : pos n (l.drop (k + 1)) < l.length - (k + 1)
  · rw [if_pos h2, if_pos (by omega)]; omega
  · rw [if_neg h2, if_neg (by omega)]
theorem restI_end (n : ByteArray) (l : List At) (k : Nat) (h : l.length ≤ k) : restI n l k = -1 := by
  unfold restI
  rw [List.drop_eq_nil_of_le h]; rfl
/-! ### the document's answers -/
def getV (n : ByteArray) (l : List At) : ByteArray := (l[pos n l]?.map (·.2)).getD ByteArray.empty
def getB (n : ByteArray) (l : List At) : Bool := decide (pos n l < l.length)
def addL (l : List At) (a : At) : List At := if getB a.1 l = true then l else l ++ [a]
def setL (l : List At) (a : At) : List At := if getB a.1 l = true then l.set (pos a.1 l) a else l ++ [a]
def dropL (n : ByteArray) (l : List At) : List At := l.filter fun a => !eqS a.1 n
def eqA (a b : At) : Bool := eqS a.1 b.1 && eqS a.2 b.2
theorem eqA_iff {a b : At} : eqA a b = true ↔ a = b := by
  unfold eqA
  rw [Bool.and_eq_true, eqS_iff, eqS_iff]
  exact ⟨fun h => Prod.ext h.1 h.2, fun h => by rw [h]; exact ⟨rfl, rfl⟩⟩
theorem eqA_no {a b : At} : eqA a b = false ↔ a ≠ b := by rw [← Bool.not_eq_true, eqA_iff]
def sameB : List At → List At → Bool
  | [], [] => true
  | a :: l, b :: m => eqA a b && sameB l m
  | _, _ => false
theorem sameB_iff : ∀ {l m : List At}, sameB l m = true ↔ l = m
  | [], [] => by simp [sameB]
  | [], _ :: _ => by simp [sameB]
  | _ :: _, [] => by simp [sameB]
  | a :: l, b :: m => by rw [sameB, Bool.and_eq_true, eqA_iff, sameB_iff, List.cons.injEq]
theorem sameB_len {l m : List At} (h : l.length ≠ m.length) : sameB l m = false := by
  rw [← Bool.not_eq_true, sameB_iff]; intro e; exact h (by rw [e])
theorem sameB_drop (l m : List At) (k : Nat) (h : k < l.length) (h' : k < m.length) : sameB (l.drop k) (m.drop k) = (eqA l[k] m[k] && sameB (l.drop (k + 1)) (m.drop (k + 1))) := by
  rw [List.drop_eq_getElem_cons h, List.drop_eq_getElem_cons h']; rfl
def isIn (m : List At) (a : At) : Bool := m.any fun b => eqA a b
theorem isIn_iff {m : List At} {a : At} : isIn m a = true ↔ a ∈ m := by
  unfold isIn
  rw [List.any_eq_true]
  exact ⟨fun ⟨b, hb, h⟩ => by rw [eqA_iff.1 h]; exact hb, fun h => ⟨a, h, eqA_iff.2 rfl⟩⟩
def amongB (l m : List At) : Bool := l.all (isIn m)
theorem amongB_iff {l m : List At} : amongB l m = true ↔ ∀ a ∈ l, a ∈ m := by
  unfold amongB
  rw [List.all_eq_true]
  exact ⟨fun h a ha => isIn_iff.1 (h a ha), fun h a ha => isIn_iff.2 (h a ha)⟩
def alikeB (l m : List At) : Bool := decide (l.length = m.length) && amongB l m && amongB m l
def fewA (l : List At) : Bool := decide (l.length ≤ 14) && l.all fun a => decide (a.1.size ≤ 40) && decide (a.2.size ≤ 150)

theorem getV_hit {n : ByteArray} {l : List At} (h : pos n l < l.length) : getV n l = l[pos n l].2 := by
  unfold getV; rw [List.getElem?_eq_getElem h]; rfl
theorem getV_miss {n : ByteArray} {l : List At} (h : ¬ pos n l < l.length) : getV n l = ByteArray.empty := by
  unfold getV; rw [List.getElem?_eq_none (by omega)]; rfl
theorem getB_iff {n : ByteArray} {l : List At} : getB n l = true ↔ pos n l < l.length := by unfold getB; simp
theorem getB_no {n : ByteArray} {l : List At} : getB n l = false ↔ ∀ a ∈ l, a.1 ≠ n := by
  rw [← pos_miss]; unfold getB; have := pos_le n l; simp; omega
theorem dropL_cons (n : ByteArray) (a : At) (l : List At) : dropL n (a :: l) = if eqS a.1 n = true then dropL n l else a :: dropL n l := by
  unfold dropL
  rw [List.filter_cons]
  cases eqS a.1 n <;> rfl
theorem dropL_at (n : ByteArray) (l : List At) (k : Nat) (h : k < l.length) : dropL n (l.drop k) = if eqS l[k].1 n = true then dropL n (l.drop (k + 1)) else l[k] :: dropL n (l.drop (k + 1)) := by
  rw [List.drop_eq_getElem_cons h, dropL_cons]
/-! ### what follows (P7.3) -/
theorem getB_drop (n : ByteArray) (l : List At) : getB n (dropL n l) = false := by
  rw [getB_no]
  intro a ha
  have := (List.mem_filter.1 ha).2
  exact eqS_no.1 (by simpa using this)
theorem get_set (l : List At) (a : At) : getB a.1 (setL l a) = true ∧ getV a.1 (setL l a) = a.2 := by
  unfold setL
  by_cases h : getB a.1 l = true
  · rw [if_pos h]
    have hp := getB_iff.1 h
    have e : pos a.1 (l.set (pos a.1 l) a) = pos a.1 l := pos_is (by rw [List.length_set]; exact hp) (by simp) (fun j hj => by
      rw [List.getElem_set_ne (by omega)]
      exact pos_before a.1 l j (by omega) hj)
    have h1 : pos a.1 (l.set (pos a.1 l) a) < (l.set (pos a.1 l) a).length := by rw [e, List.length_set]; exact hp
    refine ⟨getB_iff.2 h1, ?_⟩
    rw [getV_hit h1]
    simp only [e]
    simp
  · rw [if_neg h]
    have hn := getB_no.1 (by simpa using h)
    have e : pos a.1 (l ++ [a]) = l.length := pos_is (by simp) (by simp) (fun j hj => by
      rw [List.getElem_append_left (by omega)]
      exact hn _ (List.getElem_mem _))
    have h1 : pos a.1 (l ++ [a]) < (l ++ [a]).length := by rw [e]; simp
    refine ⟨getB_iff.2 h1, ?_⟩
    rw [getV_hit h1]
    simp only [e]
    simp
theorem alike_comm (l m : List At) : alikeB l m = alikeB m l := by
  unfold alikeB
  rw [show decide (l.length = m.length) = decide (m.length = l.length) by rw [decide_eq_decide]; exact eq_comm]
  cases amongB l m <;> cases amongB m l <;> simp
theorem among_self (l : List At) : amongB l l = true := amongB_iff.2 fun _ h => h
theorem same_alike {l m : List At} (h : sameB l m = true) : alikeB l m = true := by
  have : l = m := sameB_iff.1 h
  subst this
  unfold alikeB; rw [among_self]; simp
theorem sameB_self (l : List At) : sameB l l = true := sameB_iff.2 rfl
theorem add_own (l : List At) (a : At) : addL l a = l ∨ addL l a = l ++ [a] := by unfold addL; split; exact .inl rfl; exact .inr rfl
theorem fewA_yes {l : List At} (h : fewA l = true) : l.length ≤ 14 ∧ ∀ a ∈ l, a.1.size ≤ 40 ∧ a.2.size ≤ 150 := by
  unfold fewA at h
  rw [Bool.and_eq_true, decide_eq_true_eq, List.all_eq_true] at h
  exact ⟨h.1, fun a ha => by have := h.2 a ha; rw [Bool.and_eq_true, decide_eq_true_eq, decide_eq_true_eq] at this; exact this⟩
def restA (l : List At) (k : Nat) : Bool := (l.drop k).all fun a => decide (a.1.size ≤ 40) && decide (a.2.size ≤ 150)
theorem restA_at (l : List At) (k : Nat) (h : k < l.length) : restA l k = (decide (l[k].1.size ≤ 40) && decide (l[k].2.size ≤ 150) && restA l (k + 1)) := by
  unfold restA; rw [List.drop_eq_getElem_cons h, List.all_cons]
theorem restA_end (l : List At) (k : Nat) (h : l.length ≤ k) : restA l k = true := by unfold restA; rw [List.drop_eq_nil_of_le h]; rfl
end Go.Proofs.YtceelfomgcbkiaaGreatDoor.A

/-
  A slice of attributes as a list of pairs of texts; what a function that hands one back leaves.
-/
namespace Go.Proofs.YtceelfomgcbkiaaGreatDoor.A
open Go.RowKit

theorem ret_bool {a b : Bool} (h : a = b) : Ending.returned (.bool a) = .returned (.bool b) := by rw [h]
theorem ret_int {k : IntKind} {a b : Int} (h : a = b) : Ending.returned (.int k a) = .returned (.int k b) := by rw [h]
theorem ret_two {a b : ByteArray} {c d : Bool} (h : a = b) (h' : c = d) : Ending.returned (.tuple #[.string a, .bool c]) = .returned (.tuple #[.string b, .bool d]) := by rw [h, h']
theorem below_step {w w1 w2 : World} (h : Hid (Below w.heap.size w w1)) (h2 : Below w1.heap.size w1 w2) : Hid (Below w.heap.size w w2) := Lib.hid (h.out.trans (h2.mono h.out.size))
/-- An attribute as a value; a list's cells. -/
def atV (a : At) : Value := .agg #[.string a.1, .string a.2]
def clA (l : List At) : List Value := l.flatMap fun a => [.string a.1, .string a.2]
theorem clA_len : ∀ l : List At, (clA l).length = l.length * 2
  | [] => rfl
  | a :: l => by
    have := clA_len l
    unfold clA at this ⊢
    rw [List.flatMap_cons, List.length_append, this, List.length_cons]; simp; omega
theorem clA_app (l m : List At) : clA (l ++ m) = clA l ++ clA m := by unfold clA; rw [List.flatMap_append]
theorem clA_at : ∀ (l : List At) (j : Nat) (h : j < l.length), (clA l)[j * 2]? = some (.string l[j].1) ∧ (clA l)[j * 2 + 1]? = some (.string l[j].2)
  | [], j, h => by simp at h
  | a :: l, 0, _ => ⟨rfl, rfl⟩
  | a :: l, j + 1, h => by
    have ih := clA_at l j (by simpa using h)
    have e : clA (a :: l) = .string a.1 :: .string a.2 :: clA l := rfl
    rw [e, show (j + 1) * 2 = j * 2 + 1 + 1 by omega]
    exact ⟨by rw [List.getElem?_cons_succ, List.getElem?_cons_succ]; exact ih.1, by rw [List.getElem?_cons_succ, List.getElem?_cons_succ]; exact ih.2⟩
theorem clA_one (l : List At) : ∀ u ∈ clA l, u.oneCell' = true := by
  intro u hu
  obtain ⟨a, _, h⟩ := List.mem_flatMap.1 hu
  simp at h
  rcases h with rfl | rfl <;> rfl
def AttrsAt (w : World) (a : Option Addr) (l : List At) : Prop :=
  l ≠ [] → ∃ b off, a = some ⟨b, off, none⟩ ∧ b < w.heap.size ∧ ∀ j (h : j < l.length), w.cell? ⟨b, off + j * 2, none⟩ = some (.string l[j].1) ∧ w.cell? ⟨b, off + j * 2 + 1, none⟩ = some (.string l[j].2)
theorem AttrsAt.nil (w : World) (a : Option Addr) : AttrsAt w a [] := fun h => absurd rfl h
theorem AttrsAt.below {w w' : World} {a : Option Addr} {l : List At} (h : AttrsAt w a l) (hb : Below w.heap.size w w') : AttrsAt w' a l := fun hne => by
  obtain ⟨b, off, rfl, hlt, hc⟩ := h hne
  exact ⟨b, off, rfl, Nat.lt_of_lt_of_le hlt hb.size, fun j hj => ⟨(hb.cell (p := ⟨b, off + j * 2, none⟩) hlt).trans (hc j hj).1, (hb.cell (p := ⟨b, off + j * 2 + 1, none⟩) hlt).trans (hc j hj).2⟩⟩
theorem AttrsAt.alloc {w : World} {a : Option Addr} {l : List At} (h : AttrsAt w a l) (o : Obj) : AttrsAt (w.alloc o) a l := h.below ((Below.refl _ _).alloc (Nat.le_refl _) _)
/-- What a function that makes a list of attributes leaves. -/
def RetAttrs (l : List At) (w : World) (e : Ending) (w' : World) : Prop :=
  ∃ a cap, l.length ≤ cap ∧ e = .returned (.slice a l.length cap) ∧ AttrsAt w' a l ∧ Below w.heap.size w w'
/-- .. in memory of its own. -/
def OwnAttrs (l : List At) (w : World) (e : Ending) (w' : World) : Prop :=
  ∃ v, e = .returned v ∧ w'.ownsRow w.heap.size 51 2 v l.length (clA l) ∧ Below w.heap.size w w'
theorem own_attrs {w : World} {base : Nat} {v : Value} {l : List At} (h : w.ownsRow base 51 2 v l.length (clA l)) : ∃ a cap, l.length ≤ cap ∧ v = .slice a l.length cap ∧ AttrsAt w a l := by
  rcases h.2 with ⟨rfl, hn⟩ | ⟨g, cap, cur, rfl, hb, hg, hnc, hm, hcs, ht⟩
  · obtain rfl : l = [] := List.eq_nil_of_length_eq_zero hn
    exact ⟨none, 0, Nat.le_refl _, rfl, AttrsAt.nil _ _⟩
  · refine ⟨_, cap, hnc, rfl, fun _ => ⟨g, 0, rfl, (Array.getElem?_eq_some_iff.1 hg).1, fun j hj => ?_⟩⟩
    have key : ∀ i, i < l.length * 2 → w.cell? ⟨g, 0 + i, none⟩ = (clA l)[i]? := fun i hi => by
      rw [Nat.zero_add, cell_of_row w g i cur 51 (0, 0) hg, ← ht, List.getElem?_take, if_pos (by omega)]; simp
    rw [Nat.add_assoc]
    exact ⟨(key _ (by omega)).trans (clA_at l j hj).1, (key _ (by omega)).trans (clA_at l j hj).2⟩
theorem ret_attrs {w w' : World} {base : Nat} {v : Value} {l l' : List At} (h : w'.ownsRow base 51 2 v l.length (clA l)) (hb : Below w.heap.size w w') (hl : l = l') : RetAttrs l' w (.returned v) w' := by
  subst hl
  obtain ⟨a, cap, h1, rfl, h2⟩ := own_attrs h
  exact ⟨a, cap, h1, rfl, h2, hb⟩
theorem OwnAttrs.ret {l : List At} {w w' : World} {e : Ending} (h : OwnAttrs l w e w') : RetAttrs l w e w' := by
  obtain ⟨v, rfl, h1, h2⟩ := h
  exact ret_attrs h1 h2 rfl
theorem own_below {w w' : World} {base : Nat} {e : TypeId} {size : Nat} {v : Value} {n : Nat} {xs : List Value} (h : w.ownsRow base e size v n xs) (hb : Below w.heap.size w w') : w'.ownsRow base e size v n xs := by
  refine ⟨h.1, ?_⟩
  rcases h.2 with hn | ⟨g, cap, cur, rfl, hb2, hg, rest⟩
  · exact .inl hn
  · exact .inr ⟨g, cap, cur, rfl, hb2, (hb.block g (Array.getElem?_eq_some_iff.1 hg).1).trans hg, rest⟩
theorem own_snoc {w : World} {base : Nat} {v : Value} {l : List At} {x : At} (h : w.ownsRow base 51 2 v (l.length + 1) (clA l ++ [.string x.1, .string x.2])) :
    w.ownsRow base 51 2 v (l ++ [x]).length (clA (l ++ [x])) := by
  rw [clA_app, List.length_append]; exact h
theorem attr_info : (Tryz.prog.info? 51).map (fun i => (i.zero, i.size, i.bytes)) = some (some (.agg #[.string ⟨#[]⟩, .string ⟨#[]⟩]), 2, 32) := by kernel_rfl
theorem cells_at (a : At) : ∀ u ∈ [Value.string a.1, Value.string a.2], u.oneCell' = true := by intro u hu; simp at hu; rcases hu with rfl | rfl <;> rfl
end Go.Proofs.YtceelfomgcbkiaaGreatDoor.A

/-
  The walks of find (with slices.IndexFunc and its closure), of Get, and of the document's own.
-/
namespace Go.Proofs.YtceelfomgcbkiaaGreatDoor.A
open Go.RowKit

theorem posI_hit {n : ByteArray} {l : List At} (h : getB n l = true) : posI n l = (pos n l : Int) ∧ pos n l < l.length := by
  have := getB_iff.1 h
  exact ⟨by unfold posI; rw [if_pos this], this⟩
theorem posI_miss {n : ByteArray} {l : List At} (h : getB n l = false) : posI n l = -1 := by
  have : ¬ pos n l < l.length := fun e => by rw [getB_iff.2 e] at h; cases h
  unfold posI; rw [if_neg this]

set_option maxHeartbeats 1600000 in
theorem rget_any (a : Option Addr) (cap : Nat) (l : List At) (n : ByteArray) (w : World) (_hl : l.length ≤ 9223372036854775807) (hA : AttrsAt w a l) :
    Calls Tryz.prog 85 #[.slice a l.length cap, .string n] w fun e w' => e = .returned (.tuple #[.string (getV n l), .bool (getB n l)]) ∧ w = w' := by
  have HA := Lib.hid hA
  clear hA
  go_enter Tryz.func85, Tryz.ntmps85
  go_wp2
  go_loop [6] (fun i => ∃ k : Nat, k ≤ l.length ∧ i = .int .i64 k ∧ ∀ j (h : j < l.length), j < k → l[j].1 ≠ n) (fun i => l.length - (intOf i).toNat)
  case atStart => exact ⟨0, Nat.zero_le _, rfl, fun j _ h => absurd h (by omega)⟩
  case round =>
    obtain ⟨k, hk, rfl, hh⟩ := hrel
    have HH := Lib.hid hh
    clear hh
    by_cases hlt : k < l.length
    · obtain ⟨b, off, rfl, hbk, hcl⟩ := HA.out (fun e => by rw [e] at hlt; simp at hlt)
      obtain ⟨hck1, hck2⟩ := hcl k hlt
      clear hcl
      by_cases hq : l[k].1 = n
      · have hp : pos n l = k := pos_is hlt hq (fun j hj => HH.out j (by omega) hj)
        have HV : Hid (l[k].2 = getV n l) := Lib.hid (by rw [getV_hit (by omega)]; simp only [hp])
        have HG : Hid (true = getB n l) := Lib.hid (getB_iff.2 (by omega)).symm
        have hs : (l[k].1.toList == n.toList) = true := eqS_iff.2 hq
        clear hq hp
        generalize l[k] = x at *
        go_wp2
        go_ret2
        exact ⟨ret_two HV.out HG.out, rfl⟩
      · have HF : Hid (∀ j (h : j < l.length), j < k + 1 → l[j].1 ≠ n) := Lib.hid (fun j h hj => by
          by_cases e : j = k
          · subst e; exact hq
          · exact HH.out j h (by omega))
        have hs : (l[k].1.toList == n.toList) = false := eqS_no.2 hq
        clear hq
        generalize l[k] = x at *
        go_wp2
        go_round
        case rel => exact ⟨k + 1, by omega, by go_num, HF.out⟩
        case measure => simp [intOf]; omega
    · have HG : Hid (false = getB n l) := Lib.hid (getB_no.2 (fun a ha => by
        obtain ⟨j, hj, rfl⟩ := List.mem_iff_getElem.1 ha
        exact HH.out j hj (by omega))).symm
      have HV : Hid (ByteArray.empty = getV n l) := Lib.hid (getV_miss (fun e => by have := HG.out; rw [getB_iff.2 e] at this; cases this)).symm
      go_wp2
      go_ret2
      exact ⟨ret_two HV.out HG.out, rfl⟩
end Go.Proofs.YtceelfomgcbkiaaGreatDoor.A

/-
  Lists that grow: the law of append at attributes; the walks of own and Add, and of the document's own Add.
-/
namespace Go.Proofs.YtceelfomgcbkiaaGreatDoor.A
open Go.RowKit

theorem run_append_nil_any (w : World) (base : Nat) (t ty e : TypeId) (i : TypeInfo) (size : Nat) (ht : Tryz.prog.underlying t = some (.slice e)) (hi : Tryz.prog.info? e = some i)
    (v : Value) (n : Nat) (xs : List Value) (hown : w.ownsRow base e size v n xs) (c : Nat) : (Builtin.append_ #[t, t] ty #[v, .slice none 0 c]).run Tryz.prog w = .ok v w := by
  rcases hown.2 with ⟨rfl, rfl⟩ | ⟨g, cap, cur, rfl, _, _, hnc, _⟩
  · simp [Builtin.append_, run_underlying ht, sizeOf, typeInfo, hi, Builtin.lenOf, Builtin.firstCells]
  · simp [Builtin.append_, run_underlying ht, sizeOf, typeInfo, hi, Builtin.lenOf, Builtin.firstCells, hnc, storeCells]
theorem attrs_news {w : World} {b off : Nat} {m : List At} (h : ∀ j (h : j < m.length), w.cell? ⟨b, off + j * 2, none⟩ = some (.string m[j].1) ∧ w.cell? ⟨b, off + j * 2 + 1, none⟩ = some (.string m[j].2)) :
    ∀ j u, (clA m)[j]? = some u → w.cell? ((⟨b, off, none⟩ : Addr).add j) = some u := by
  intro j u hu
  have hl := (List.getElem?_eq_some_iff.1 hu).1
  rw [clA_len] at hl
  have hadd : (⟨b, off, none⟩ : Addr).add j = ⟨b, off + j, none⟩ := by unfold Addr.add; split <;> simp_all
  rw [hadd]
  have hp : j = (j / 2) * 2 ∨ j = (j / 2) * 2 + 1 := by omega
  obtain ⟨c1, c2⟩ := h (j / 2) (by omega)
  obtain ⟨d1, d2⟩ := clA_at m (j / 2) (by omega)
  rcases hp with hp | hp
  · rw [hp, d1] at hu
    rw [hp, c1]; exact hu
  · rw [hp, d2] at hu
    rw [hp, ← Nat.add_assoc, c2]; exact hu
/-- append of attributes, none among them too. -/
theorem run_append_attrs (w : World) (base : Nat) (ty : TypeId) (v : Value) (l : List At) (hown : w.ownsRow base 51 2 v l.length (clA l)) (A : Option Addr) (c : Nat) (m : List At) (hm : AttrsAt w A m)
    (h : l.length + m.length ≤ 3000000) (hbase : base ≤ w.heap.size) :
    ∃ v' w', (Builtin.append_ #[32, 32] ty #[v, .slice A m.length c]).run Tryz.prog w = .ok v' w' ∧ w'.ownsRow base 51 2 v' (l ++ m).length (clA (l ++ m)) ∧ w.grownBy w' v.ownBlock ∧ (v'.ownBlock = v.ownBlock ∨ v'.ownBlock = some w.heap.size) := by
  obtain ⟨i0, hi, hz0, hz1, hz2⟩ := info_parts attr_info
  rw [clA_app, List.length_append]
  by_cases hne : m = []
  · subst hne
    cases A with
    | none => exact ⟨v, w, run_append_nil_any w base _ ty _ i0 2 Tryz.underlying32 hi v _ _ hown c, by simpa [clA] using hown, World.grownBy.refl w _, .inl rfl⟩
    | some ad =>
      obtain ⟨v', w', hrun, h2, h3, _, h5⟩ := run_append_own_at (P := Tryz.prog) w base _ ty _ i0 _ 2 32 Tryz.underlying32 hi hz0 hz1 hz2 rfl (by omega) v _ _ hown ad 0 c [] rfl (fun j u hu => by simp at hu) (fun u hu => by simp at hu) (by unfold maxLen; omega) (by omega) hbase
      exact ⟨v', w', hrun, h2, h3, h5⟩
  · obtain ⟨b, off, rfl, hlt, hc⟩ := hm hne
    obtain ⟨v', w', hrun, h2, h3, _, h5⟩ := run_append_own_at (P := Tryz.prog) w base _ ty _ i0 _ 2 32 Tryz.underlying32 hi hz0 hz1 hz2 rfl (by omega) v _ _ hown ⟨b, off, none⟩ m.length c (clA m) (clA_len m) (attrs_news hc) (clA_one m) (by unfold maxLen; omega) (by omega) hbase
    exact ⟨v', w', hrun, h2, h3, h5⟩
theorem wpList_append_attrs (w : World) {ops : Array Oper} {rest : List Oper} {o : Oper} {a : Act} {Q : Exit → Act → World → Prop} (hgd : o.guard = none) (s x : Operand)
    (ho : o.op = .call { callee := .builtin .append, args := #[s, x], argTypes := #[32, 32] })
    (base : Nat) (v : Value) (l : List At) (hs : a.eval s = v) (hown : w.ownsRow base 51 2 v l.length (clA l)) (A : Option Addr) (c : Nat) (m : List At) (hx : a.eval x = .slice A m.length c) (hm : AttrsAt w A m)
    (h : l.length + m.length ≤ 3000000) (hbase : base ≤ w.heap.size)
    (hK : ∀ v' w', w'.ownsRow base 51 2 v' (l ++ m).length (clA (l ++ m)) → w.grownBy w' v.ownBlock → wpList Tryz.prog ops Q rest (a.put o.dst v') w') :
    wpList Tryz.prog ops Q (o :: rest) a w := by
  refine wpList_plain hgd fun K hK' => ?_
  obtain ⟨v', w', hr, h2, h3, _⟩ := run_append_attrs w base o.type v l hown A c m hm h hbase
  unfold Oper.wp execOp
  simp only [ho, resolve, invoke, builtin, Sem.run_bind, Sem.run_pure, Result.andThen_ok, List.map_toArray, List.map_cons, List.map_nil, hs, hx, hr]
  exact hK' _ _ (hK v' w' h2 h3)
/-- One attribute, as it is laid ahead of append. -/
theorem one_attrs (w : World) (x : At) : AttrsAt (w.alloc (.cells #[.string x.1, .string x.2] 51)) (some ⟨w.heap.size, 0, none⟩) [x] := fun _ =>
  ⟨w.heap.size, 0, rfl, by simp, fun j hj => by
    obtain rfl : j = 0 := by simp at hj; omega
    exact ⟨by simp [go_sem], by simp [go_sem]⟩⟩

theorem own_base {w : World} {base base' : Nat} {e : TypeId} {size : Nat} {v : Value} {n : Nat} {xs : List Value} (h : w.ownsRow base' e size v n xs) (hb : base ≤ base') : w.ownsRow base e size v n xs := by
  refine ⟨h.1, ?_⟩
  rcases h.2 with hn | ⟨g, cap, cur, rfl, hb2, rest⟩
  · exact .inl hn
  · exact .inr ⟨g, cap, cur, rfl, Nat.le_trans hb hb2, rest⟩
theorem boxed (w : World) (x : At) : (w.alloc (.cells #[.string x.1, .string x.2] 51)).cell? ⟨w.heap.size, 0, none⟩ = some (.string x.1) ∧ (w.alloc (.cells #[.string x.1, .string x.2] 51)).cell? ⟨w.heap.size, 1, none⟩ = some (.string x.2) := by
  constructor <;> simp [go_sem]
theorem cell_keep {w w1 : World} {B o : Nat} {u : Value} (hb : Below w.heap.size w w1) (h : w.cell? ⟨B, o, none⟩ = some u) : w1.cell? ⟨B, o, none⟩ = some u :=
  (hb.cell (p := ⟨B, o, none⟩) (World.block_lt_of_cell? w _ h)).trans h
theorem grown_below {b : Nat} {w w1 w2 : World} {v : Value} {base n size : Nat} {e : TypeId} {xs : List Value} (h : Below b w w1) (hb : b ≤ base) (hs : b ≤ w1.heap.size) (hown : w1.ownsRow base e size v n xs) (hg : w1.grownBy w2 v.ownBlock) : Below b w w2 :=
  h.grown hg hs (fun k hk => Nat.le_trans hb (hown.lt k hk).1)

/-- The world behind a boxed attribute and an empty list of the call's own. -/
def W2 (w : World) (x : At) : World := (w.alloc (.cells #[.string x.1, .string x.2] 51)).alloc (.cells #[] 51)
theorem w2_size (w : World) (x : At) : (W2 w x).heap.size = w.heap.size + 2 := by simp [W2]
theorem w2_own (w : World) (x : At) : (W2 w x).ownsRow (w.heap.size + 1) 51 2 (.slice (some ⟨w.heap.size + 1, 0, none⟩) 0 0) ([] : List At).length (clA []) := by
  have h := World.ownsRow_lit (base := w.heap.size + 1) (e := 51) (size := 2) (w.alloc (.cells #[.string x.1, .string x.2] 51)) #[] 0 (by simp) (Nat.zero_le _) rfl
  have e : (w.alloc (.cells #[.string x.1, .string x.2] 51)).heap.size = w.heap.size + 1 := by simp
  rw [e] at h; exact h
theorem w2_below (w : World) (x : At) : Below w.heap.size w (W2 w x) := ((Below.refl _ _).alloc (Nat.le_refl _) _).alloc (by simp) _
theorem w2_cells (w : World) (x : At) : (W2 w x).cell? ⟨w.heap.size, 0, none⟩ = some (.string x.1) ∧ (W2 w x).cell? ⟨w.heap.size, 1, none⟩ = some (.string x.2) := by
  obtain ⟨h1, h2⟩ := boxed w x
  exact ⟨(World.cell?_alloc_lt _ _ _ (by simp)).trans h1, (World.cell?_alloc_lt _ _ _ (by simp)).trans h2⟩
theorem own_cell {w0 w1 : World} {v : Value} {base n size B o : Nat} {e : TypeId} {xs : List Value} {u : Value} (hown : w0.ownsRow base e size v n xs) (hg : w0.grownBy w1 v.ownBlock) (hB : B < base) (h : w0.cell? ⟨B, o, none⟩ = some u) : w1.cell? ⟨B, o, none⟩ = some u :=
  hg.cell h (fun e => by have := (hown.lt B e.symm).1; omega)

set_option maxHeartbeats 1600000 in
theorem radd_any (a : Option Addr) (cap : Nat) (l : List At) (x : At) (w : World) (hl : l.length ≤ 1000000) (hA : AttrsAt w a l) :
    Calls Tryz.prog 51 #[.slice a l.length cap, atV x] w (OwnAttrs (addL l x) w) := by
  have HG : Hid (∀ W, Below w.heap.size w W → Calls Tryz.prog 85 #[.slice a l.length cap, .string x.1] W fun e w' => e = .returned (.tuple #[.string (getV x.1 l), .bool (getB x.1 l)]) ∧ W = w') := Lib.hid (fun W hW => rget_any a cap l x.1 W (by omega) (hA.below hW))
  obtain ⟨hb1, hb2⟩ := w2_cells w x
  have HX1 := Lib.hid hb1
  have HX2 := Lib.hid hb2
  have HA2 := Lib.hid (hA.below (w2_below w x))
  have HB0 := Lib.hid (w2_below w x)
  have HW := Lib.hid (w2_own w x)
  have HS := Lib.hid (w2_size w x)
  unfold atV
  clear hA hb1 hb2
  generalize getV x.1 l = gv at *
  by_cases hg : getB x.1 l = true
  · have HR : Hid (addL l x = l) := Lib.hid (by unfold addL; rw [if_pos hg])
    rw [hg] at HG
    clear hg
    go_enter Tryz.func51, Tryz.ntmps51
    go_wp2_with (at_builtin; refine wpList_append_attrs (W2 w x) rfl _ _ rfl (w.heap.size + 1) _ [] rfl HW.out a cap l rfl HA2.out (by simp; omega) (by rw [HS.out]; omega) ?_; intro v1 w1 hown1 hgrow1; have hc1 := own_cell HW.out hgrow1 (Nat.lt_succ_self _) HX1.out; have HB : Hid (Below w.heap.size w w1) := Lib.hid (grown_below HB0.out (Nat.le_succ _) HB0.out.size HW.out hgrow1); have HV := Lib.hid hown1; clear hown1 hgrow1)
    refine (HG.out w1 HB.out).mono ?_
    rintro e w2 ⟨rfl, rfl⟩
    go_wp2
    go_ret
    exact ⟨v1, rfl, by rw [HR.out]; exact own_base HV.out (Nat.le_succ _), HB.out⟩
  · have hg2 : getB x.1 l = false := by simpa using hg
    have HR : Hid (addL l x = l ++ [x]) := Lib.hid (by unfold addL; rw [if_neg hg])
    rw [hg2] at HG
    clear hg hg2
    go_enter Tryz.func51, Tryz.ntmps51
    go_wp2_with (at_builtin; refine wpList_append_attrs (W2 w x) rfl _ _ rfl (w.heap.size + 1) _ [] rfl HW.out a cap l rfl HA2.out (by simp; omega) (by rw [HS.out]; omega) ?_; intro v1 w1 hown1 hgrow1; have hc1 := own_cell HW.out hgrow1 (Nat.lt_succ_self _) HX1.out; have hc2 := own_cell HW.out hgrow1 (Nat.lt_succ_self _) HX2.out; have HB : Hid (Below w.heap.size w w1) := Lib.hid (grown_below HB0.out (Nat.le_succ _) HB0.out.size HW.out hgrow1); have HV := Lib.hid (own_base (base := w.heap.size) hown1 (Nat.le_succ _)); clear hown1 hgrow1)
    refine (HG.out w1 HB.out).mono ?_
    rintro e w2 ⟨rfl, rfl⟩
    go_wp2_with (at_builtin; refine wpList_append_attrs _ rfl _ _ rfl w.heap.size _ l rfl (HV.out.alloc _) (some ⟨w1.heap.size, 0, none⟩) 1 [x] rfl (one_attrs w1 x) (by simp; omega) (by have := HB.out.size; simp; omega) ?_; intro v3 w3 hown3 hgrow3)
    go_ret
    exact ⟨v3, rfl, by rw [HR.out]; exact hown3, grown_below (HB.out.alloc HB.out.size _) (Nat.le_refl _) (by have := HB.out.size; simp; omega) (HV.out.alloc _) hgrow3⟩
end Go.Proofs.YtceelfomgcbkiaaGreatDoor.A

/-
  The walks of Same (with slices.Equal), of the document's own, and of what statements ask of a list of attributes.
-/
namespace Go.Proofs.YtceelfomgcbkiaaGreatDoor.A
open Go.RowKit

/-- The model's == of two attributes. -/
theorem run_eqA (x y : At) (w : World) : (binOp .eql 51 (atV x) (atV y)).run Tryz.prog w = .ok (.bool (eqA x y)) w := by
  have u9 := Tryz.underlying9
  have hS : Tryz.prog.underlying 51 = some (.struct (Tryz.prog.fieldsOf 51)) := by kernel_rfl
  have hp : Tryz.prog.stoodInHeld 51 = false := by kernel_rfl
  unfold atV eqA eqS
  rw [run_eql_struct, show (10000 : Nat) = 9999 + 1 from rfl, run_equalIn_agg w 9999 51 _ _ hS hp]
  simp only [Program.fieldsOf, Tryz.underlying51]
  go_simp
  by_cases h1 : x.1.toList = y.1.toList <;> by_cases h2 : x.2.toList = y.2.toList <;> simp [h1, h2]
theorem run_neA (x y : At) (w : World) : (binOp .neq 51 (atV x) (atV y)).run Tryz.prog w = .ok (.bool (!eqA x y)) w := by
  have u9 := Tryz.underlying9
  have hS : Tryz.prog.underlying 51 = some (.struct (Tryz.prog.fieldsOf 51)) := by kernel_rfl
  have hp : Tryz.prog.stoodInHeld 51 = false := by kernel_rfl
  unfold atV eqA eqS
  rw [run_neq_struct, show (10000 : Nat) = 9999 + 1 from rfl, run_equalIn_agg w 9999 51 _ _ hS hp]
  simp only [Program.fieldsOf, Tryz.underlying51]
  go_simp
  by_cases h1 : x.1.toList = y.1.toList <;> by_cases h2 : x.2.toList = y.2.toList <;> simp [h1, h2]
theorem guardA : Tryz.prog.eqGuardType Tryz.prog.depth 51 = false := by kernel_rfl

set_option maxHeartbeats 1600000 in
theorem rsame_any (a a' : Option Addr) (cap cap' : Nat) (l m : List At) (w : World) (_hl : l.length ≤ 1000000) (_hm : m.length ≤ 1000000) (hA : AttrsAt w a l) (hM : AttrsAt w a' m) :
    Calls Tryz.prog 14 #[.slice a l.length cap, .slice a' m.length cap'] w fun e w' => e = .returned (.bool (sameB l m)) ∧ Below w.heap.size w w' := by
  have HA := Lib.hid hA
  have HM := Lib.hid hM
  clear hA hM
  by_cases hne : l.length = m.length
  · have HL := Lib.hid hne
    have h1 : ((l.length : Int) == (m.length : Int)) = true := by simp [hne]
    have h2 : ((l.length : Int) != (m.length : Int)) = false := by simp [hne]
    clear hne
    go_enter Tryz.func14, Tryz.ntmps14
    go_wp2
    go_loopw [5] (fun i wr => ∃ k : Nat, k ≤ l.length ∧ i = .int .i64 k ∧ sameB l m = sameB (l.drop k) (m.drop k) ∧ Below w.heap.size w wr) (fun i _ => l.length - (intOf i).toNat)
    case atStart => exact ⟨0, Nat.zero_le _, rfl, rfl, Below.refl _ _⟩
    case round =>
      obtain ⟨k, hk, rfl, hh, hbel⟩ := hrel
      have HH := Lib.hid hh
      have HB := Lib.hid hbel
      clear hh hbel
      by_cases hlt : k < l.length
      · have hlt' : k < m.length := by have := HL.out; omega
        obtain ⟨b, off, rfl, hbk, hcl⟩ := HA.out (fun e => by rw [e] at hlt; simp at hlt)
        obtain ⟨b', off', rfl, hbk', hcl'⟩ := HM.out (fun e => by rw [e] at hlt'; simp at hlt')
        have hck1 : wr.cell? ⟨b, off + k * 2, none⟩ = some (.string l[k].1) := (HB.out.cell (p := ⟨b, off + k * 2, none⟩) hbk).trans (hcl k hlt).1
        have hck2 : wr.cell? ⟨b, off + k * 2 + 1, none⟩ = some (.string l[k].2) := (HB.out.cell (p := ⟨b, off + k * 2 + 1, none⟩) hbk).trans (hcl k hlt).2
        have hck3 : wr.cell? ⟨b', off' + k * 2, none⟩ = some (.string m[k].1) := (HB.out.cell (p := ⟨b', off' + k * 2, none⟩) hbk').trans (hcl' k hlt').1
        have hck4 : wr.cell? ⟨b', off' + k * 2 + 1, none⟩ = some (.string m[k].2) := (HB.out.cell (p := ⟨b', off' + k * 2 + 1, none⟩) hbk').trans (hcl' k hlt').2
        have HD := Lib.hid (sameB_drop l m k hlt hlt')
        clear hcl hcl'
        have hi1 : (0 : Int) ≤ (k : Int) := by omega
        have hi2 : (k : Int) < (l.length : Int) := by omega
        have hi3 : (k : Int) < (m.length : Int) := by omega
        generalize l[k] = x at *
        generalize m[k] = y at *
        have hrun := fun w' => run_neA x y w'
        unfold atV at hrun
        have hg := guardA
        by_cases hq : eqA x y = true
        · have HF : Hid (sameB l m = sameB (l.drop (k + 1)) (m.drop (k + 1))) := Lib.hid (by rw [HH.out, HD.out, hq, Bool.true_and])
          rw [hq] at hrun
          clear hq
          go_wp2
          go_quiet (fail)
          go_wp2
          go_roundw
          case rel => exact ⟨k + 1, by omega, by go_num, HF.out, by first | exact HB.out | exact ⟨HB.out.os, HB.out.tape, HB.out.output, HB.out.size, HB.out.block⟩⟩
          case measure => simp [intOf]; omega
        · have hq2 : eqA x y = false := by simpa using hq
          have HF : Hid (false = sameB l m) := Lib.hid (by rw [HH.out, HD.out, hq2, Bool.false_and])
          rw [hq2] at hrun
          clear hq hq2
          go_wp2
          go_quiet (fail)
          go_wp2
          go_ret
          exact ⟨ret_bool HF.out, by first | exact HB.out | exact ⟨HB.out.os, HB.out.tape, HB.out.output, HB.out.size, HB.out.block⟩⟩
      · have HF : Hid (true = sameB l m) := Lib.hid (by
          have := HL.out
          rw [HH.out, List.drop_eq_nil_of_le (by omega), List.drop_eq_nil_of_le (by omega)]; rfl)
        go_wp2
        go_ret
        exact ⟨ret_bool HF.out, HB.out⟩
  · have HF : Hid (false = sameB l m) := Lib.hid (sameB_len hne).symm
    have h1 : ((l.length : Int) == (m.length : Int)) = false := by simp; omega
    have h2 : ((l.length : Int) != (m.length : Int)) = true := by simp; omega
    clear hne
    go_enter Tryz.func14, Tryz.ntmps14
    go_wp2
    go_ret
    exact ⟨ret_bool HF.out, Below.refl _ _⟩
theorem fewA_few {l : List At} (h : l.length ≤ 14) : fewA l = restA l 0 := by
  unfold fewA restA; rw [decide_eq_true h, Bool.true_and, List.drop_zero]
end Go.Proofs.YtceelfomgcbkiaaGreatDoor.A
