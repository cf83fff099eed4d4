/-
  All counts at which nodes are gone into, and left, are unlike: what was seen so far.
-/
import Derived.Test.YtkkngflpmdcfjaaONestP
namespace Go.Proofs.Ytkkngflpmdcfjaa
open Go.RowKit

/-- Which counts were seen behind j nodes, and q marks of the next one. -/
def sn (A : List (Nat × Bool)) (j q : Nat) (p : Nat) : Bool :=
  match A[p]? with
  | none => false
  | some x => decide (x.1 < j) || (decide (x.1 = j) && (decide (q = 2) || (decide (q = 1) && x.2)))
theorem sn_start (A : List (Nat × Bool)) (p : Nat) : sn A 0 0 p = false := by
  unfold sn
  cases A[p]? with
  | none => rfl
  | some x => simp
theorem sn_two (A : List (Nat × Bool)) (j : Nat) : sn A j 2 = sn A (j + 1) 0 := by
  funext p
  unfold sn
  cases A[p]? with
  | none => rfl
  | some x =>
    simp only [decide_true, Bool.true_or, Bool.and_true]
    rw [Bool.eq_iff_iff]; simp; omega
theorem sn_not {A : List (Nat × Bool)} {j : Nat} (h1 : (j, true) ∉ A) (h2 : (j, false) ∉ A) : sn A j 0 = sn A (j + 1) 0 := by
  funext p
  unfold sn
  cases hp : A[p]? with
  | none => rfl
  | some x =>
    have hx : x.1 ≠ j := fun e => by
      have hm := List.mem_of_getElem? hp
      obtain ⟨k, b⟩ := x
      subst e
      cases b
      · exact h2 hm
      · exact h1 hm
    dsimp only
    rw [Bool.eq_iff_iff]; simp; omega
theorem sn_first {A : List (Nat × Bool)} (hA : A.Nodup) {j i : Nat} (hi : A[i]? = some (j, true)) : sn A j 0 i = false ∧ mark1 (sn A j 0) i = sn A j 1 := by
  constructor
  · unfold sn; rw [hi]; simp
  · funext p
    unfold mark1
    by_cases h : p = i
    · subst h
      rw [if_pos rfl]
      unfold sn; rw [hi]; simp
    · rw [if_neg h]
      unfold sn
      cases hp : A[p]? with
      | none => rfl
      | some x =>
        have hx : ¬ (x.1 = j ∧ x.2 = true) := fun e => h (nodup_at hA hp (by rw [hi]; rw [show x = (j, true) from Prod.ext e.1 e.2]))
        dsimp only
        rw [Bool.eq_iff_iff]
        simp
        intro e1 e2
        exact absurd ⟨e1, e2⟩ hx
theorem sn_second {A : List (Nat × Bool)} (hA : A.Nodup) {j o : Nat} (ho : A[o]? = some (j, false)) : sn A j 1 o = false ∧ mark1 (sn A j 1) o = sn A j 2 := by
  constructor
  · unfold sn; rw [ho]; simp
  · funext p
    unfold mark1
    by_cases h : p = o
    · subst h
      rw [if_pos rfl]
      unfold sn; rw [ho]; simp
    · rw [if_neg h]
      unfold sn
      cases hp : A[p]? with
      | none => rfl
      | some x =>
        have hx : ¬ (x.1 = j ∧ x.2 = false) := fun e => h (nodup_at hA hp (by rw [ho]; rw [show x = (j, false) from Prod.ext e.1 e.2]))
        dsimp only
        rw [Bool.eq_iff_iff]
        simp
        refine ⟨fun h1 => h1.imp id And.left, fun h1 => h1.imp id fun h1 => ⟨h1, ?_⟩⟩
        cases hb : x.2 with
        | true => rfl
        | false => exact absurd ⟨h1, hb⟩ hx
/-- How many of the first j nodes are gone into. -/
def cnt (A : List (Nat × Bool)) (j : Nat) : Nat := (A.filter fun x => x.2 && decide (x.1 < j)).length
theorem cnt_zero (A : List (Nat × Bool)) : cnt A 0 = 0 := by
  unfold cnt
  rw [List.length_eq_zero_iff, List.filter_eq_nil_iff]
  intro x _; simp
theorem cnt_all {A : List (Nat × Bool)} {n : Nat} (h : ∀ x ∈ A, x.1 < n) : cnt A n = (insE A).length := by
  unfold cnt insE
  rw [List.length_map]
  congr 1
  refine List.filter_congr fun x hx => ?_
  rw [decide_eq_true (h x hx), Bool.and_true]
theorem cnt_le (A : List (Nat × Bool)) (j : Nat) : cnt A j ≤ A.length := List.length_filter_le _ _
theorem cnt_no {A : List (Nat × Bool)} {j : Nat} (h : (j, true) ∉ A) : cnt A (j + 1) = cnt A j := by
  unfold cnt
  congr 1
  refine List.filter_congr fun x hx => ?_
  obtain ⟨k, b⟩ := x
  cases b with
  | false => rfl
  | true =>
    have : k ≠ j := fun e => h (e ▸ hx)
    dsimp only
    rw [Bool.eq_iff_iff]; simp; omega
theorem cnt_yes : ∀ {A : List (Nat × Bool)} {j : Nat}, A.Nodup → (j, true) ∈ A → cnt A (j + 1) = cnt A j + 1
  | [], _, _, h => by cases h
  | (k, b) :: A, j, hA, h => by
    obtain ⟨h1, h2⟩ := List.nodup_cons.1 hA
    have e : ∀ i, cnt ((k, b) :: A) i = (if b && decide (k < i) then 1 else 0) + cnt A i := fun i => by
      unfold cnt
      rw [List.filter_cons]
      split <;> simp <;> omega
    rw [e, e]
    rcases List.mem_cons.1 h with h3 | h3
    · injection h3 with h4 h5
      subst h4; subst h5
      rw [cnt_no h1]
      have d1 : decide (j < j + 1) = true := by simp
      have d2 : decide (j < j) = false := by simp
      rw [d1, d2]; simp; omega
    · have ih := cnt_yes h2 h3
      rw [ih]
      have : (b && decide (k < j + 1)) = (b && decide (k < j)) := by
        cases b with
        | false => rfl
        | true =>
          have : k ≠ j := fun e => h1 (e ▸ h3)
          rw [Bool.eq_iff_iff]; simp; omega
      rw [this]; omega
end Go.Proofs.Ytkkngflpmdcfjaa
