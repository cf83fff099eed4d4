/-
  Layer 12 (tree) in plain functions on lists of nodes: where a kid is, who holds whom.
-/
import Derived.Test.YtkkngflpmdcfjaaNMem
namespace Go.Proofs.Ytkkngflpmdcfjaa
open Go.RowKit

def nd0 : Nd := ⟨0, 0, ByteArray.empty, .slice none 0 0, ByteArray.empty, 0, .slice none 0 0, [], []⟩
def inN (n : Nat) (k : Int) : Bool := decide (0 ≤ k) && decide (k < n)
theorem inN_iff {n : Nat} {k : Int} : inN n k = true ↔ 0 ≤ k ∧ k < n := by unfold inN; simp
theorem inN_nat {n : Nat} {k : Int} (h : inN n k = true) : ∃ j : Nat, k = j ∧ j < n := ⟨k.toNat, by have := inN_iff.1 h; omega, by have := inN_iff.1 h; omega⟩
theorem inN_of {n j : Nat} (h : j < n) : inN n j = true := inN_iff.2 ⟨by omega, by omega⟩
theorem inN_no {n : Nat} {k : Int} (h : inN n k = false) : ¬ (0 ≤ k ∧ k < n) := fun e => by rw [inN_iff.2 e] at h; cases h
def nodeI (l : List Nd) (k : Int) : Nd := l.getD k.toNat nd0
def upI (l : List Nd) (k : Int) : Int := (nodeI l k).up
theorem nodeI_at {l : List Nd} {j : Nat} (h : j < l.length) : nodeI l j = l[j] := by unfold nodeI; simp [h]
/-- The first place of x in a list, counted from k on; -1: none. -/
def idxR (x : Int) : List Int → Nat → Int
  | [], _ => -1
  | y :: r, k => if x = y then (k : Int) else idxR x r (k + 1)
def idxI (x : Int) (l : List Int) : Int := idxR x l 0
theorem idxR_drop (x : Int) (l : List Int) (k : Nat) (h : k < l.length) : idxR x (l.drop k) k = if x = l[k] then (k : Int) else idxR x (l.drop (k + 1)) (k + 1) := by
  rw [List.drop_eq_getElem_cons h]; rfl
theorem idxR_end (x : Int) (l : List Int) (k : Nat) (h : l.length ≤ k) : idxR x (l.drop k) k = -1 := by rw [List.drop_eq_nil_of_le h]; rfl
theorem idxR_bound (x : Int) : ∀ (l : List Int) (k : Nat), idxR x l k = -1 ∨ ∃ j : Nat, idxR x l k = ((k + j : Nat) : Int) ∧ ∃ h : j < l.length, l[j] = x ∧ ∀ i (hi : i < j), l[i]'(by omega) ≠ x
  | [], _ => .inl rfl
  | y :: r, k => by
    unfold idxR
    by_cases e : x = y
    · rw [if_pos e]; exact .inr ⟨0, rfl, by simp, e.symm, fun i hi => absurd hi (Nat.not_lt_zero _)⟩
    · rw [if_neg e]
      rcases idxR_bound x r (k + 1) with h | ⟨j, h1, h2, h3, h4⟩
      · exact .inl h
      · refine .inr ⟨j + 1, by rw [h1]; omega, by simpa using h2, by simpa using h3, fun i hi => ?_⟩
        cases i with
        | zero => simpa using Ne.symm e
        | succ i => simpa using h4 i (by omega)
theorem idxI_cases (x : Int) (l : List Int) : idxI x l = -1 ∨ ∃ j : Nat, idxI x l = (j : Int) ∧ ∃ h : j < l.length, l[j] = x ∧ ∀ i (hi : i < j), l[i]'(by omega) ≠ x := by
  rcases idxR_bound x l 0 with h | ⟨j, h1, h2⟩
  · exact .inl h
  · exact .inr ⟨j, by rw [← Nat.zero_add j]; exact h1, h2⟩
theorem idxR_none (x : Int) : ∀ (l : List Int) (k : Nat), (∀ y ∈ l, y ≠ x) → idxR x l k = -1
  | [], _, _ => rfl
  | y :: r, k, h => by
    unfold idxR
    rw [if_neg (fun e => h y (by simp) e.symm)]
    exact idxR_none x r _ fun z hz => h z (by simp [hz])
def placeP (l : List Nd) (kid : Int) : Int :=
  if inN l.length kid = true then (if inN l.length (upI l kid) = true then idxI kid (nodeI l (upI l kid)).kids else -1) else -1
/-- Does one come to up, by so many steps at most? -/
def climb (l : List Nd) (up : Int) : Nat → Int → Bool
  | 0, _ => false
  | f + 1, kid => if kid = up then true else if inN l.length kid = true then climb l up f (upI l kid) else false
def holdsP (l : List Nd) (up kid : Int) : Bool := inN l.length up && climb l up l.length kid
def rholdsP (l : List Nd) (up kid : Int) : Bool := inN l.length up && climb l up (l.length + 1) kid
def mayP (l : List Nd) (one other : Int) : Bool := inN l.length one && inN l.length other && !holdsP l one other
end Go.Proofs.Ytkkngflpmdcfjaa
