/-
  A node is gone into ahead of being left.
-/
import Derived.Test.YtkkngflpmdcfjaaOLeft
namespace Go.Proofs.Ytkkngflpmdcfjaa
open Go.RowKit

theorem evs_before (K : Nat → List Int) (n : Nat) : ∀ (f : Nat) (seen : Nat → Bool) (s : Stk) (p : List (Nat × Bool)) (k : Nat), p ++ [(k, false)] <+: evs K n f seen s → k ∈ nds s ∨ (k, true) ∈ p
  | 0, _, _, p, k, h => by unfold evs at h; have := h.length_le; simp at this
  | f + 1, seen, [], p, k, h => by unfold evs at h; have := h.length_le; simp at this
  | f + 1, seen, [(a, [])], p, k, h => by rw [evs_end] at h; have := h.length_le; simp at this
  | f + 1, seen, (a, []) :: q :: r, p, k, h => by
    rw [evs_out] at h
    rw [nds_cons]
    cases p with
    | nil =>
      rw [List.nil_append, List.cons_prefix_cons] at h
      left; rw [show k = a from congrArg Prod.fst h.1]; exact List.mem_cons_self ..
    | cons y p =>
      rw [List.cons_append, List.cons_prefix_cons] at h
      exact (evs_before K n f seen (q :: r) p k h.2).imp (List.mem_cons_of_mem _) (List.mem_cons_of_mem _)
  | f + 1, seen, (a, j :: ks) :: r, p, k, h => by
    by_cases hf : fresh n seen j = true
    · rw [evs_in hf] at h
      rw [nds_kids a (j :: ks) ks r]
      cases p with
      | nil =>
        rw [List.nil_append, List.cons_prefix_cons] at h
        have := h.1
        cases this
      | cons y p =>
        rw [List.cons_append, List.cons_prefix_cons] at h
        obtain ⟨rfl, h⟩ := h
        rcases evs_before K n f _ _ p k h with h4 | h4
        · rw [nds_cons] at h4
          rcases List.mem_cons.1 h4 with h5 | h5
          · right; rw [h5]; exact List.mem_cons_self ..
          · exact .inl h5
        · exact .inr (List.mem_cons_of_mem _ h4)
    · rw [evs_skip (by simpa using hf)] at h
      rw [nds_kids a (j :: ks) ks r]
      exact evs_before K n f seen ((a, ks) :: r) p k h
theorem evA_before {K : Nat → List Int} {n k : Nat} {p : List (Nat × Bool)} (h : p ++ [(k, false)] <+: evA K n) : (k, true) ∈ p :=
  (evs_before K n _ _ _ p k h).elim (fun h => by cases h) id
end Go.Proofs.Ytkkngflpmdcfjaa
