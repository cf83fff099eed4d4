/-
  Layer 13 (order) in plain functions: how a tree is gone through: each node comes twice, when it is gone into, and when it is left.
-/
import Derived.WalkKit
namespace Go.Proofs.Ytkkngflpmdcfjaa
open Go.RowKit

/-- What is being gone through, the innermost first: each node with those of its kids that are still to come. -/
abbrev Stk := List (Nat × List Int)
def mark1 (seen : Nat → Bool) (k : Nat) : Nat → Bool := fun j => if j = k then true else seen j
/-- Is this a node that was not gone into yet? -/
def fresh (n : Nat) (seen : Nat → Bool) (k : Int) : Bool := decide (0 ≤ k) && decide (k < (n : Int)) && !seen k.toNat
def evs (K : Nat → List Int) (n : Nat) : Nat → (Nat → Bool) → Stk → List (Nat × Bool)
  | 0, _, _ => []
  | _ + 1, _, [] => []
  | f + 1, seen, (nd, []) :: rest => if rest = [] then [] else (nd, false) :: evs K n f seen rest
  | f + 1, seen, (nd, k :: ks) :: rest =>
    if fresh n seen k = true then (k.toNat, true) :: evs K n f (mark1 seen k.toNat) ((k.toNat, K k.toNat) :: (nd, ks) :: rest) else evs K n f seen ((nd, ks) :: rest)
/-- What is still to come of the nodes that were not gone into. -/
def us (K : Nat → List Int) (seen : Nat → Bool) : Nat → Nat
  | 0 => 0
  | m + 1 => us K seen m + if seen m = true then 0 else (K m).length + 2
def st : Stk → Nat
  | [] => 0
  | (_, ks) :: r => ks.length + 1 + st r
/-- How many steps are to come at most. -/
def ms (K : Nat → List Int) (n : Nat) (seen : Nat → Bool) (s : Stk) : Nat := us K seen n + st s
theorem us_far (K : Nat → List Int) (seen : Nat → Bool) (k : Nat) : ∀ m, m ≤ k → us K (mark1 seen k) m = us K seen m
  | 0, _ => rfl
  | m + 1, h => by
    unfold us
    rw [us_far K seen k m (by omega)]
    have : mark1 seen k m = seen m := by unfold mark1; rw [if_neg (by omega)]
    rw [this]
theorem us_mark (K : Nat → List Int) (seen : Nat → Bool) (k : Nat) (hs : seen k = false) : ∀ m, k < m → us K seen m = us K (mark1 seen k) m + ((K k).length + 2)
  | 0, h => absurd h (Nat.not_lt_zero _)
  | m + 1, h => by
    unfold us
    by_cases hk : k = m
    · subst hk
      have h1 : mark1 seen k k = true := by unfold mark1; rw [if_pos rfl]
      rw [us_far K seen k k (Nat.le_refl _), h1, hs]
      simp
    · have ih := us_mark K seen k hs m (by omega)
      have h1 : mark1 seen k m = seen m := by unfold mark1; rw [if_neg (fun e => hk e.symm)]
      rw [h1, ih]; omega
theorem fresh_iff {n : Nat} {seen : Nat → Bool} {k : Int} : fresh n seen k = true ↔ 0 ≤ k ∧ k < n ∧ seen k.toNat = false := by
  unfold fresh; simp [and_assoc]
theorem ms_in {K : Nat → List Int} {n : Nat} {seen : Nat → Bool} {nd : Nat} {k : Int} {ks : List Int} {rest : Stk} (h : fresh n seen k = true) :
    ms K n (mark1 seen k.toNat) ((k.toNat, K k.toNat) :: (nd, ks) :: rest) < ms K n seen ((nd, k :: ks) :: rest) := by
  obtain ⟨h0, h1, h2⟩ := fresh_iff.1 h
  have := us_mark K seen k.toNat h2 n (by omega)
  unfold ms
  simp only [st, List.length_cons]
  omega
theorem ms_skip {K : Nat → List Int} {n : Nat} {seen : Nat → Bool} {nd : Nat} {k : Int} {ks : List Int} {rest : Stk} : ms K n seen ((nd, ks) :: rest) < ms K n seen ((nd, k :: ks) :: rest) := by
  unfold ms; simp only [st, List.length_cons]; omega
theorem ms_out {K : Nat → List Int} {n : Nat} {seen : Nat → Bool} {nd : Nat} {rest : Stk} : ms K n seen rest < ms K n seen ((nd, []) :: rest) := by
  unfold ms; simp only [st, List.length_nil]; omega
/-- All steps. -/
def evA (K : Nat → List Int) (n : Nat) : List (Nat × Bool) := evs K n (ms K n (fun _ => false) [(0, [0])] + 1) (fun _ => false) [(0, [0])]
theorem evs_in {K : Nat → List Int} {n f : Nat} {seen : Nat → Bool} {nd : Nat} {k : Int} {ks : List Int} {rest : Stk} (h : fresh n seen k = true) :
    evs K n (f + 1) seen ((nd, k :: ks) :: rest) = (k.toNat, true) :: evs K n f (mark1 seen k.toNat) ((k.toNat, K k.toNat) :: (nd, ks) :: rest) := by
  conv => lhs; unfold evs
  rw [if_pos h]
theorem evs_skip {K : Nat → List Int} {n f : Nat} {seen : Nat → Bool} {nd : Nat} {k : Int} {ks : List Int} {rest : Stk} (h : fresh n seen k = false) :
    evs K n (f + 1) seen ((nd, k :: ks) :: rest) = evs K n f seen ((nd, ks) :: rest) := by
  conv => lhs; unfold evs
  rw [if_neg (by rw [h]; decide)]
theorem evs_out {K : Nat → List Int} {n f : Nat} {seen : Nat → Bool} {nd : Nat} {p : Nat × List Int} {rest : Stk} :
    evs K n (f + 1) seen ((nd, []) :: p :: rest) = (nd, false) :: evs K n f seen (p :: rest) := by
  conv => lhs; unfold evs
  rw [if_neg (fun e => by cases e)]
theorem evs_end {K : Nat → List Int} {n f : Nat} {seen : Nat → Bool} {nd : Nat} : evs K n (f + 1) seen [(nd, [])] = [] := by
  unfold evs; rw [if_pos rfl]

/-! ### the least ghost -/
open Classical in
/-- The least number of which R holds. -/
noncomputable def lst (R : Nat → Prop) : Nat := if h : ∃ m, R m ∧ ∀ k, R k → m ≤ k then Classical.choose h else 0
theorem lst_ex {R : Nat → Prop} : ∀ g, R g → ∃ m, R m ∧ ∀ k, R k → m ≤ k := by
  intro g
  induction g using Nat.strongRecOn with
  | ind g ih =>
    intro hg
    by_cases h : ∃ k, k < g ∧ R k
    · obtain ⟨k, hk, hr⟩ := h
      exact ih k hk hr
    · exact ⟨g, hg, fun k hk => by
        rcases Nat.lt_or_ge k g with h2 | h2
        · exact absurd ⟨k, h2, hk⟩ h
        · exact h2⟩
theorem lst_is {R : Nat → Prop} {g : Nat} (h : R g) : R (lst R) := by
  unfold lst
  rw [dif_pos (lst_ex g h)]
  exact (Classical.choose_spec (lst_ex g h)).1
theorem lst_le {R : Nat → Prop} {g : Nat} (h : R g) : lst R ≤ g := by
  unfold lst
  rw [dif_pos (lst_ex g h)]
  exact (Classical.choose_spec (lst_ex g h)).2 g h

/-- How many nodes were not gone into. -/
def cn (seen : Nat → Bool) : Nat → Nat
  | 0 => 0
  | m + 1 => cn seen m + if seen m = true then 0 else 1
theorem cn_far (seen : Nat → Bool) (k : Nat) : ∀ m, m ≤ k → cn (mark1 seen k) m = cn seen m
  | 0, _ => rfl
  | m + 1, h => by
    unfold cn
    rw [cn_far seen k m (by omega)]
    have : mark1 seen k m = seen m := by unfold mark1; rw [if_neg (by omega)]
    rw [this]
theorem cn_mark (seen : Nat → Bool) (k : Nat) (hs : seen k = false) : ∀ m, k < m → cn seen m = cn (mark1 seen k) m + 1
  | 0, h => absurd h (Nat.not_lt_zero _)
  | m + 1, h => by
    unfold cn
    by_cases hk : k = m
    · subst hk
      have h1 : mark1 seen k k = true := by unfold mark1; rw [if_pos rfl]
      rw [cn_far seen k k (Nat.le_refl _), h1, hs]
      simp
    · have ih := cn_mark seen k hs m (by omega)
      have h1 : mark1 seen k m = seen m := by unfold mark1; rw [if_neg (fun e => hk e.symm)]
      rw [h1, ih]; omega
theorem evs_two (K : Nat → List Int) (n : Nat) : ∀ (f : Nat) (seen : Nat → Bool) (s : Stk), s ≠ [] → (evs K n f seen s).length + 1 ≤ 2 * cn seen n + s.length
  | 0, seen, s, h => by
    have := List.length_pos_iff.2 h
    unfold evs; simp; omega
  | f + 1, seen, [], h => absurd rfl h
  | f + 1, seen, [(a, [])], _ => by rw [evs_end]; simp
  | f + 1, seen, (a, []) :: q :: r, _ => by
    rw [evs_out]
    have ih := evs_two K n f seen (q :: r) (by simp)
    simp only [List.length_cons] at ih ⊢; omega
  | f + 1, seen, (a, k :: ks) :: r, _ => by
    by_cases hf : fresh n seen k = true
    · rw [evs_in hf]
      obtain ⟨h0, h1, h2⟩ := fresh_iff.1 hf
      have ih := evs_two K n f (mark1 seen k.toNat) ((k.toNat, K k.toNat) :: (a, ks) :: r) (by simp)
      have h3 := cn_mark seen k.toNat h2 n (by omega)
      simp only [List.length_cons] at ih ⊢; omega
    · rw [evs_skip (by simpa using hf)]
      have ih := evs_two K n f seen ((a, ks) :: r) (by simp)
      simp only [List.length_cons] at ih ⊢; omega
theorem cn_le (seen : Nat → Bool) : ∀ m, cn seen m ≤ m
  | 0 => Nat.le_refl _
  | m + 1 => by unfold cn; have := cn_le seen m; split <;> omega
theorem evA_two (K : Nat → List Int) (n : Nat) : (evA K n).length ≤ 2 * n := by
  have h := evs_two K n (ms K n (fun _ => false) [(0, [0])] + 1) (fun _ => false) [(0, [0])] (by simp)
  have h2 := cn_le (fun _ => false) n
  show (evs K n _ _ _).length ≤ _
  simp only [List.length_cons, List.length_nil] at h
  omega
/-- How long the way is at most, from the numbers of kids. -/
theorem us_bound (K : Nat → List Int) (seen : Nat → Bool) (b : Nat) : ∀ m, (∀ j, j < m → (K j).length ≤ b) → us K seen m ≤ m * (b + 2)
  | 0, _ => by simp [us]
  | m + 1, h => by
    unfold us
    have ih := us_bound K seen b m (fun j hj => h j (by omega))
    have h1 := h m (by omega)
    have e : (m + 1) * (b + 2) = m * (b + 2) + (b + 2) := by rw [Nat.add_mul, Nat.one_mul]
    rw [e]
    split <;> omega
theorem ms_bound {K : Nat → List Int} {n b : Nat} (h : ∀ j, j < n → (K j).length ≤ b) : ms K n (fun _ => false) [(0, [0])] ≤ n * (b + 2) + 2 := by
  have := us_bound K (fun _ => false) b n h
  unfold ms
  simp only [st, List.length_cons, List.length_nil]
  omega
end Go.Proofs.Ytkkngflpmdcfjaa
