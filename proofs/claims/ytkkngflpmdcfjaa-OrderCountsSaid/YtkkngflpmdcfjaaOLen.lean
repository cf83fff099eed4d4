/-
  Each node comes at most twice.
-/
import Derived.Test.YtkkngflpmdcfjaaOPlain
namespace Go.Proofs.Ytkkngflpmdcfjaa
open Go.RowKit

/-- How many nodes were not gone into. -/
def cn (seen : Nat → Bool) : Nat → Nat
  | 0 => 0
  | m + 1 => cn seen m + if seen m = true then 0 else 1
theorem cn_far (seen : Nat → Bool) (k : Nat) : ∀ m, m ≤ k → cn (mark1 seen k) m = cn seen m
  | 0, _ => rfl
  | m + 1, h => by
    unfold cn
    rw [cn_far seen k m (by omega)]
    have : mark1 seen k m = seen m := by unfold mark1; rw [if_neg (by omega)]
    rw [this]
theorem cn_mark (seen : Nat → Bool) (k : Nat) (hs : seen k = false) : ∀ m, k < m → cn seen m = cn (mark1 seen k) m + 1
  | 0, h => absurd h (Nat.not_lt_zero _)
  | m + 1, h => by
    unfold cn
    by_cases hk : k = m
    · subst hk
      have h1 : mark1 seen k k = true := by unfold mark1; rw [if_pos rfl]
      rw [cn_far seen k k (Nat.le_refl _), h1, hs]
      simp
    · have ih := cn_mark seen k hs m (by omega)
      have h1 : mark1 seen k m = seen m := by unfold mark1; rw [if_neg (fun e => hk e.symm)]
      rw [h1, ih]; omega
theorem evs_two (K : Nat → List Int) (n : Nat) : ∀ (f : Nat) (seen : Nat → Bool) (s : Stk), s ≠ [] → (evs K n f seen s).length + 1 ≤ 2 * cn seen n + s.length
  | 0, seen, s, h => by
    have := List.length_pos_iff.2 h
    unfold evs; simp; omega
  | f + 1, seen, [], h => absurd rfl h
  | f + 1, seen, [(a, [])], _ => by rw [evs_end]; simp
  | f + 1, seen, (a, []) :: q :: r, _ => by
    rw [evs_out]
    have ih := evs_two K n f seen (q :: r) (by simp)
    simp only [List.length_cons] at ih ⊢; omega
  | f + 1, seen, (a, k :: ks) :: r, _ => by
    by_cases hf : fresh n seen k = true
    · rw [evs_in hf]
      obtain ⟨h0, h1, h2⟩ := fresh_iff.1 hf
      have ih := evs_two K n f (mark1 seen k.toNat) ((k.toNat, K k.toNat) :: (a, ks) :: r) (by simp)
      have h3 := cn_mark seen k.toNat h2 n (by omega)
      simp only [List.length_cons] at ih ⊢; omega
    · rw [evs_skip (by simpa using hf)]
      have ih := evs_two K n f seen ((a, ks) :: r) (by simp)
      simp only [List.length_cons] at ih ⊢; omega
theorem cn_le (seen : Nat → Bool) : ∀ m, cn seen m ≤ m
  | 0 => Nat.le_refl _
  | m + 1 => by unfold cn; have := cn_le seen m; split <;> omega
theorem evA_two (K : Nat → List Int) (n : Nat) : (evA K n).length ≤ 2 * n := by
  have h := evs_two K n (ms K n (fun _ => false) [(0, [0])] + 1) (fun _ => false) [(0, [0])] (by simp)
  have h2 := cn_le (fun _ => false) n
  show (evs K n _ _ _).length ≤ _
  simp only [List.length_cons, List.length_nil] at h
  omega
/-- How long the way is at most, from the numbers of kids. -/
theorem us_bound (K : Nat → List Int) (seen : Nat → Bool) (b : Nat) : ∀ m, (∀ j, j < m → (K j).length ≤ b) → us K seen m ≤ m * (b + 2)
  | 0, _ => by simp [us]
  | m + 1, h => by
    unfold us
    have ih := us_bound K seen b m (fun j hj => h j (by omega))
    have h1 := h m (by omega)
    have e : (m + 1) * (b + 2) = m * (b + 2) + (b + 2) := by rw [Nat.add_mul, Nat.one_mul]
    rw [e]
    split <;> omega
theorem ms_bound {K : Nat → List Int} {n b : Nat} (h : ∀ j, j < n → (K j).length ≤ b) : ms K n (fun _ => false) [(0, [0])] ≤ n * (b + 2) + 2 := by
  have := us_bound K (fun _ => false) b n h
  unfold ms
  simp only [st, List.length_cons, List.length_nil]
  omega
end Go.Proofs.Ytkkngflpmdcfjaa
