/-
  What is gone into is left.
-/
import Derived.Test.YtkkngflpmdcfjaaONodup
namespace Go.Proofs.Ytkkngflpmdcfjaa
open Go.RowKit

theorem evs_left (K : Nat → List Int) (n : Nat) : ∀ (f : Nat) (seen : Nat → Bool) (s : Stk), ms K n seen s < f → (∀ k ∈ nds s, (k, false) ∈ evs K n f seen s) ∧ ∀ k, (k, true) ∈ evs K n f seen s → (k, false) ∈ evs K n f seen s
  | 0, _, _, h => absurd h (Nat.not_lt_zero _)
  | f + 1, seen, [], _ => ⟨fun k hk => (by cases hk), fun k hk => by unfold evs at hk; cases hk⟩
  | f + 1, seen, [(a, [])], _ => ⟨fun k hk => (by cases hk), fun k hk => by rw [evs_end] at hk; cases hk⟩
  | f + 1, seen, (a, []) :: q :: r, h => by
    rw [evs_out]
    have hm := ms_out (K := K) (n := n) (seen := seen) (nd := a) (rest := q :: r)
    obtain ⟨h1, h2⟩ := evs_left K n f seen (q :: r) (by omega)
    rw [nds_cons]
    refine ⟨fun k hk => ?_, fun k hk => ?_⟩
    · rcases List.mem_cons.1 hk with rfl | hk
      · exact List.mem_cons_self ..
      · exact List.mem_cons_of_mem _ (h1 k hk)
    · rcases List.mem_cons.1 hk with h3 | h3
      · cases h3
      · exact List.mem_cons_of_mem _ (h2 k h3)
  | f + 1, seen, (a, k :: ks) :: r, h => by
    by_cases hf : fresh n seen k = true
    · rw [evs_in hf]
      have hm := ms_in (K := K) (nd := a) (ks := ks) (rest := r) hf
      obtain ⟨h1, h2⟩ := evs_left K n f (mark1 seen k.toNat) ((k.toNat, K k.toNat) :: (a, ks) :: r) (by omega)
      rw [nds_cons] at h1
      rw [nds_kids a (k :: ks) ks r]
      refine ⟨fun j hj => List.mem_cons_of_mem _ (h1 j (List.mem_cons_of_mem _ hj)), fun j hj => ?_⟩
      rcases List.mem_cons.1 hj with h3 | h3
      · have : j = k.toNat := congrArg Prod.fst h3
        rw [this]
        exact List.mem_cons_of_mem _ (h1 _ (List.mem_cons_self ..))
      · exact List.mem_cons_of_mem _ (h2 j h3)
    · rw [evs_skip (by simpa using hf)]
      have hm := ms_skip (K := K) (n := n) (seen := seen) (nd := a) (k := k) (ks := ks) (rest := r)
      rw [nds_kids a (k :: ks) ks r]
      exact evs_left K n f seen ((a, ks) :: r) (by omega)
theorem evA_left {K : Nat → List Int} {n k : Nat} (h : (k, true) ∈ evA K n) : (k, false) ∈ evA K n :=
  (evs_left K n _ _ _ (Nat.lt_succ_self _)).2 k h
/-- What is left was gone into. -/
theorem evs_went (K : Nat → List Int) (n : Nat) : ∀ (f : Nat) (seen : Nat → Bool) (s : Stk) (k : Nat), (k, false) ∈ evs K n f seen s → k ∈ nds s ∨ (k, true) ∈ evs K n f seen s
  | 0, _, _, k, h => by unfold evs at h; cases h
  | f + 1, seen, [], k, h => by unfold evs at h; cases h
  | f + 1, seen, [(a, [])], k, h => by rw [evs_end] at h; cases h
  | f + 1, seen, (a, []) :: q :: r, k, h => by
    rw [evs_out] at h ⊢
    rw [nds_cons]
    rcases List.mem_cons.1 h with h3 | h3
    · left; rw [show k = a from congrArg Prod.fst h3]; exact List.mem_cons_self ..
    · exact (evs_went K n f seen (q :: r) k h3).imp (List.mem_cons_of_mem _) (List.mem_cons_of_mem _)
  | f + 1, seen, (a, j :: ks) :: r, k, h => by
    by_cases hf : fresh n seen j = true
    · rw [evs_in hf] at h ⊢
      rw [nds_kids a (j :: ks) ks r]
      rcases List.mem_cons.1 h with h3 | h3
      · cases h3
      · rcases evs_went K n f _ _ k h3 with h4 | h4
        · rw [nds_cons] at h4
          rcases List.mem_cons.1 h4 with h5 | h5
          · right; rw [h5]; exact List.mem_cons_self ..
          · exact .inl h5
        · exact .inr (List.mem_cons_of_mem _ h4)
    · rw [evs_skip (by simpa using hf)] at h ⊢
      rw [nds_kids a (j :: ks) ks r]
      exact evs_went K n f seen ((a, ks) :: r) k h
theorem evA_went {K : Nat → List Int} {n k : Nat} (h : (k, false) ∈ evA K n) : (k, true) ∈ evA K n :=
  (evs_went K n _ _ _ k h).elim (fun h => by cases h) id
end Go.Proofs.Ytkkngflpmdcfjaa
