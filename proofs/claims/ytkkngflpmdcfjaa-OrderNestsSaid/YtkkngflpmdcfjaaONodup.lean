/-
  No step comes twice; what is gone into is left, and gone into ahead of that.
-/
import Derived.Test.YtkkngflpmdcfjaaOPlain
namespace Go.Proofs.Ytkkngflpmdcfjaa
open Go.RowKit

/-- The nodes that are being gone through. -/
def nds (s : Stk) : List Nat := s.dropLast.map fun x => x.1
theorem nds_cons (x p : Nat × List Int) (r : Stk) : nds (x :: p :: r) = x.1 :: nds (p :: r) := by
  unfold nds; rw [List.dropLast_cons_cons]; rfl
theorem nds_kids (a : Nat) (k k' : List Int) (r : Stk) : nds ((a, k) :: r) = nds ((a, k') :: r) := by
  unfold nds
  cases r with
  | nil => rfl
  | cons q r => rw [List.dropLast_cons_cons, List.dropLast_cons_cons]; rfl
theorem mark1_self (seen : Nat → Bool) (k : Nat) : mark1 seen k k = true := by unfold mark1; rw [if_pos rfl]
theorem mark1_of {seen : Nat → Bool} {k j : Nat} (h : mark1 seen k j = false) : seen j = false := by
  unfold mark1 at h
  by_cases e : j = k
  · rw [if_pos e] at h; cases h
  · rw [if_neg e] at h; exact h
theorem evs_mem (K : Nat → List Int) (n : Nat) : ∀ (f : Nat) (seen : Nat → Bool) (s : Stk) (x : Nat × Bool), x ∈ evs K n f seen s → (x.2 = true → seen x.1 = false) ∧ (x.2 = false → seen x.1 = false ∨ x.1 ∈ nds s)
  | 0, _, _, x, h => by unfold evs at h; cases h
  | f + 1, seen, [], x, h => by unfold evs at h; cases h
  | f + 1, seen, [(a, [])], x, h => by rw [evs_end] at h; cases h
  | f + 1, seen, (a, []) :: q :: r, x, h => by
    rw [evs_out] at h
    rw [nds_cons]
    rcases List.mem_cons.1 h with rfl | h
    · exact ⟨fun e => (by cases e), fun _ => .inr (List.mem_cons_self ..)⟩
    · obtain ⟨h1, h2⟩ := evs_mem K n f seen (q :: r) x h
      exact ⟨h1, fun e => (h2 e).imp id (List.mem_cons_of_mem _)⟩
  | f + 1, seen, (a, k :: ks) :: r, x, h => by
    by_cases hf : fresh n seen k = true
    · rw [evs_in hf] at h
      obtain ⟨_, _, hs⟩ := fresh_iff.1 hf
      rcases List.mem_cons.1 h with rfl | h
      · exact ⟨fun _ => hs, fun e => (by cases e)⟩
      · obtain ⟨h1, h2⟩ := evs_mem K n f (mark1 seen k.toNat) ((k.toNat, K k.toNat) :: (a, ks) :: r) x h
        refine ⟨fun e => mark1_of (h1 e), fun e => ?_⟩
        rcases h2 e with h3 | h3
        · exact .inl (mark1_of h3)
        · rw [nds_cons] at h3
          rcases List.mem_cons.1 h3 with h4 | h4
          · left; rw [h4]; exact hs
          · right; rw [nds_kids a (k :: ks) ks r]; exact h4
    · rw [evs_skip (by simpa using hf)] at h
      have h1 := evs_mem K n f seen ((a, ks) :: r) x h
      rw [nds_kids a ks (k :: ks) r] at h1
      exact h1
theorem evs_nodup (K : Nat → List Int) (n : Nat) : ∀ (f : Nat) (seen : Nat → Bool) (s : Stk), (nds s).Nodup → (∀ k ∈ nds s, seen k = true) → (evs K n f seen s).Nodup
  | 0, _, _, _, _ => by unfold evs; exact List.nodup_nil
  | f + 1, seen, [], _, _ => by unfold evs; exact List.nodup_nil
  | f + 1, seen, [(a, [])], _, _ => by rw [evs_end]; exact List.nodup_nil
  | f + 1, seen, (a, []) :: q :: r, hd, hs => by
    rw [evs_out]
    rw [nds_cons] at hd hs
    obtain ⟨h1, h2⟩ := List.nodup_cons.1 hd
    refine List.nodup_cons.2 ⟨fun hm => ?_, evs_nodup K n f seen (q :: r) h2 fun k hk => hs k (List.mem_cons_of_mem _ hk)⟩
    rcases (evs_mem K n f seen (q :: r) _ hm).2 rfl with h3 | h3
    · have := hs a (List.mem_cons_self ..)
      rw [show seen a = false from h3] at this
      cases this
    · exact h1 h3
  | f + 1, seen, (a, k :: ks) :: r, hd, hs => by
    by_cases hf : fresh n seen k = true
    · rw [evs_in hf]
      obtain ⟨_, _, hsk⟩ := fresh_iff.1 hf
      rw [nds_kids a (k :: ks) ks r] at hd hs
      refine List.nodup_cons.2 ⟨fun hm => ?_, evs_nodup K n f _ _ ?_ fun j hj => ?_⟩
      · have h3 := (evs_mem K n f _ _ _ hm).1 rfl
        have h4 : mark1 seen k.toNat k.toNat = false := h3
        rw [mark1_self] at h4
        cases h4
      · rw [nds_cons]
        refine List.nodup_cons.2 ⟨fun hm => ?_, hd⟩
        have h3 := hs _ hm
        rw [show seen k.toNat = false from hsk] at h3
        cases h3
      · rw [nds_cons] at hj
        rcases List.mem_cons.1 hj with h4 | h4
        · rw [h4]; exact mark1_self _ _
        · unfold mark1; split
          · rfl
          · exact hs j h4
    · rw [evs_skip (by simpa using hf)]
      rw [nds_kids a (k :: ks) ks r] at hd hs
      exact evs_nodup K n f seen ((a, ks) :: r) hd hs
theorem evA_nodup (K : Nat → List Int) (n : Nat) : (evA K n).Nodup := evs_nodup K n _ _ _ List.nodup_nil (fun k hk => by cases hk)

theorem evs_left (K : Nat → List Int) (n : Nat) : ∀ (f : Nat) (seen : Nat → Bool) (s : Stk), ms K n seen s < f → (∀ k ∈ nds s, (k, false) ∈ evs K n f seen s) ∧ ∀ k, (k, true) ∈ evs K n f seen s → (k, false) ∈ evs K n f seen s
  | 0, _, _, h => absurd h (Nat.not_lt_zero _)
  | f + 1, seen, [], _ => ⟨fun k hk => (by cases hk), fun k hk => by unfold evs at hk; cases hk⟩
  | f + 1, seen, [(a, [])], _ => ⟨fun k hk => (by cases hk), fun k hk => by rw [evs_end] at hk; cases hk⟩
  | f + 1, seen, (a, []) :: q :: r, h => by
    rw [evs_out]
    have hm := ms_out (K := K) (n := n) (seen := seen) (nd := a) (rest := q :: r)
    obtain ⟨h1, h2⟩ := evs_left K n f seen (q :: r) (by omega)
    rw [nds_cons]
    refine ⟨fun k hk => ?_, fun k hk => ?_⟩
    · rcases List.mem_cons.1 hk with rfl | hk
      · exact List.mem_cons_self ..
      · exact List.mem_cons_of_mem _ (h1 k hk)
    · rcases List.mem_cons.1 hk with h3 | h3
      · cases h3
      · exact List.mem_cons_of_mem _ (h2 k h3)
  | f + 1, seen, (a, k :: ks) :: r, h => by
    by_cases hf : fresh n seen k = true
    · rw [evs_in hf]
      have hm := ms_in (K := K) (nd := a) (ks := ks) (rest := r) hf
      obtain ⟨h1, h2⟩ := evs_left K n f (mark1 seen k.toNat) ((k.toNat, K k.toNat) :: (a, ks) :: r) (by omega)
      rw [nds_cons] at h1
      rw [nds_kids a (k :: ks) ks r]
      refine ⟨fun j hj => List.mem_cons_of_mem _ (h1 j (List.mem_cons_of_mem _ hj)), fun j hj => ?_⟩
      rcases List.mem_cons.1 hj with h3 | h3
      · have : j = k.toNat := congrArg Prod.fst h3
        rw [this]
        exact List.mem_cons_of_mem _ (h1 _ (List.mem_cons_self ..))
      · exact List.mem_cons_of_mem _ (h2 j h3)
    · rw [evs_skip (by simpa using hf)]
      have hm := ms_skip (K := K) (n := n) (seen := seen) (nd := a) (k := k) (ks := ks) (rest := r)
      rw [nds_kids a (k :: ks) ks r]
      exact evs_left K n f seen ((a, ks) :: r) (by omega)
theorem evA_left {K : Nat → List Int} {n k : Nat} (h : (k, true) ∈ evA K n) : (k, false) ∈ evA K n :=
  (evs_left K n _ _ _ (Nat.lt_succ_self _)).2 k h
/-- What is left was gone into. -/
theorem evs_went (K : Nat → List Int) (n : Nat) : ∀ (f : Nat) (seen : Nat → Bool) (s : Stk) (k : Nat), (k, false) ∈ evs K n f seen s → k ∈ nds s ∨ (k, true) ∈ evs K n f seen s
  | 0, _, _, k, h => by unfold evs at h; cases h
  | f + 1, seen, [], k, h => by unfold evs at h; cases h
  | f + 1, seen, [(a, [])], k, h => by rw [evs_end] at h; cases h
  | f + 1, seen, (a, []) :: q :: r, k, h => by
    rw [evs_out] at h ⊢
    rw [nds_cons]
    rcases List.mem_cons.1 h with h3 | h3
    · left; rw [show k = a from congrArg Prod.fst h3]; exact List.mem_cons_self ..
    · exact (evs_went K n f seen (q :: r) k h3).imp (List.mem_cons_of_mem _) (List.mem_cons_of_mem _)
  | f + 1, seen, (a, j :: ks) :: r, k, h => by
    by_cases hf : fresh n seen j = true
    · rw [evs_in hf] at h ⊢
      rw [nds_kids a (j :: ks) ks r]
      rcases List.mem_cons.1 h with h3 | h3
      · cases h3
      · rcases evs_went K n f _ _ k h3 with h4 | h4
        · rw [nds_cons] at h4
          rcases List.mem_cons.1 h4 with h5 | h5
          · right; rw [h5]; exact List.mem_cons_self ..
          · exact .inl h5
        · exact .inr (List.mem_cons_of_mem _ h4)
    · rw [evs_skip (by simpa using hf)] at h ⊢
      rw [nds_kids a (j :: ks) ks r]
      exact evs_went K n f seen ((a, ks) :: r) k h
theorem evA_went {K : Nat → List Int} {n k : Nat} (h : (k, false) ∈ evA K n) : (k, true) ∈ evA K n :=
  (evs_went K n _ _ _ k h).elim (fun h => by cases h) id

theorem evs_before (K : Nat → List Int) (n : Nat) : ∀ (f : Nat) (seen : Nat → Bool) (s : Stk) (p : List (Nat × Bool)) (k : Nat), p ++ [(k, false)] <+: evs K n f seen s → k ∈ nds s ∨ (k, true) ∈ p
  | 0, _, _, p, k, h => by unfold evs at h; have := h.length_le; simp at this
  | f + 1, seen, [], p, k, h => by unfold evs at h; have := h.length_le; simp at this
  | f + 1, seen, [(a, [])], p, k, h => by rw [evs_end] at h; have := h.length_le; simp at this
  | f + 1, seen, (a, []) :: q :: r, p, k, h => by
    rw [evs_out] at h
    rw [nds_cons]
    cases p with
    | nil =>
      rw [List.nil_append, List.cons_prefix_cons] at h
      left; rw [show k = a from congrArg Prod.fst h.1]; exact List.mem_cons_self ..
    | cons y p =>
      rw [List.cons_append, List.cons_prefix_cons] at h
      exact (evs_before K n f seen (q :: r) p k h.2).imp (List.mem_cons_of_mem _) (List.mem_cons_of_mem _)
  | f + 1, seen, (a, j :: ks) :: r, p, k, h => by
    by_cases hf : fresh n seen j = true
    · rw [evs_in hf] at h
      rw [nds_kids a (j :: ks) ks r]
      cases p with
      | nil =>
        rw [List.nil_append, List.cons_prefix_cons] at h
        have := h.1
        cases this
      | cons y p =>
        rw [List.cons_append, List.cons_prefix_cons] at h
        obtain ⟨rfl, h⟩ := h
        rcases evs_before K n f _ _ p k h with h4 | h4
        · rw [nds_cons] at h4
          rcases List.mem_cons.1 h4 with h5 | h5
          · right; rw [h5]; exact List.mem_cons_self ..
          · exact .inl h5
        · exact .inr (List.mem_cons_of_mem _ h4)
    · rw [evs_skip (by simpa using hf)] at h
      rw [nds_kids a (j :: ks) ks r]
      exact evs_before K n f seen ((a, ks) :: r) p k h
theorem evA_before {K : Nat → List Int} {n k : Nat} {p : List (Nat × Bool)} (h : p ++ [(k, false)] <+: evA K n) : (k, true) ∈ p :=
  (evs_before K n _ _ _ p k h).elim (fun h => by cases h) id
end Go.Proofs.Ytkkngflpmdcfjaa
