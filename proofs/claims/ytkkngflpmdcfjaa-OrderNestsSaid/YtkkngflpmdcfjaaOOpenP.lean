/-
  What is open is what was gone into and not left, in its order.
-/
import Derived.Test.YtkkngflpmdcfjaaOPathP
import Derived.Test.YtkkngflpmdcfjaaONodup
import Derived.Test.YtkkngflpmdcfjaaOList
namespace Go.Proofs.Ytkkngflpmdcfjaa
open Go.RowKit

theorem evs_last (K : Nat → List Int) (n : Nat) : ∀ (f : Nat) (seen : Nat → Bool) (s : Stk) (p : List (Nat × Bool)) (nd : Nat), s ≠ [] → p ++ [(nd, false)] <+: evs K n f seen s → ∃ z, opF (opn s) p = z ++ [(nd : Int)]
  | 0, _, _, p, nd, _, h => by
    unfold evs at h
    have := h.length_le; simp at this
  | f + 1, seen, [], p, nd, h0, h => absurd rfl h0
  | f + 1, seen, [(a, [])], p, nd, _, h => by
    rw [evs_end] at h
    have := h.length_le; simp at this
  | f + 1, seen, (a, []) :: q :: r, p, nd, _, h => by
    rw [evs_out] at h
    rw [opn_cons]
    cases p with
    | nil =>
      rw [List.nil_append, List.cons_prefix_cons] at h
      rw [show nd = a from congrArg Prod.fst h.1]
      exact ⟨_, rfl⟩
    | cons y p =>
      rw [List.cons_append, List.cons_prefix_cons] at h
      obtain ⟨rfl, h⟩ := h
      have ih := evs_last K n f seen (q :: r) p nd (by simp) h
      show ∃ z, opF (opS (opn (q :: r) ++ [(a : Int)]) (a, false)) p = _
      have e : opS (opn (q :: r) ++ [(a : Int)]) (a, false) = opn (q :: r) := by unfold opS; simp
      rw [e]; exact ih
  | f + 1, seen, (a, k :: ks) :: r, p, nd, _, h => by
    have e1 : opn ((a, ks) :: r) = opn ((a, k :: ks) :: r) := by
      unfold opn
      cases r with
      | nil => rfl
      | cons q r => rw [List.dropLast_cons_cons, List.dropLast_cons_cons]; rfl
    by_cases hf : fresh n seen k = true
    · rw [evs_in hf] at h
      cases p with
      | nil =>
        rw [List.nil_append, List.cons_prefix_cons] at h
        have := h.1
        cases this
      | cons y p =>
        rw [List.cons_append, List.cons_prefix_cons] at h
        obtain ⟨rfl, h⟩ := h
        have ih := evs_last K n f (mark1 seen k.toNat) ((k.toNat, K k.toNat) :: (a, ks) :: r) p nd (by simp) h
        rw [opn_cons, e1] at ih
        show ∃ z, opF (opS (opn ((a, k :: ks) :: r)) (k.toNat, true)) p = _
        have e : opS (opn ((a, k :: ks) :: r)) (k.toNat, true) = opn ((a, k :: ks) :: r) ++ [(k.toNat : Int)] := by unfold opS; simp
        rw [e]; exact ih
    · rw [evs_skip (by simpa using hf)] at h
      have ih := evs_last K n f seen ((a, ks) :: r) p nd (by simp) h
      rw [e1] at ih
      exact ih
theorem opE_last {K : Nat → List Int} {n : Nat} {p : List (Nat × Bool)} {nd : Nat} (h : p ++ [(nd, false)] <+: evA K n) : ∃ z, opE p = z ++ [(nd : Int)] :=
  evs_last K n _ _ [(0, [0])] p nd (by simp) h
theorem insE_mem {A : List (Nat × Bool)} {z : Int} : z ∈ insE A ↔ ∃ k : Nat, z = k ∧ (k, true) ∈ A := by
  unfold insE
  constructor
  · intro h
    obtain ⟨x, hx, rfl⟩ := List.mem_map.1 h
    obtain ⟨h1, h2⟩ := List.mem_filter.1 hx
    obtain ⟨k, b⟩ := x
    cases b with
    | true => exact ⟨k, rfl, h1⟩
    | false => cases h2
  · rintro ⟨k, rfl, h⟩
    exact List.mem_map.2 ⟨(k, true), List.mem_filter.2 ⟨h, rfl⟩, rfl⟩
theorem insE_nodup {A : List (Nat × Bool)} (h : A.Nodup) : (insE A).Nodup := by
  induction A with
  | nil => exact List.nodup_nil
  | cons x A ih =>
    obtain ⟨h1, h2⟩ := List.nodup_cons.1 h
    obtain ⟨k, b⟩ := x
    cases b with
    | false => exact ih h2
    | true =>
      show ((k : Int) :: insE A).Nodup
      refine List.nodup_cons.2 ⟨fun hm => ?_, ih h2⟩
      obtain ⟨k', e, hk'⟩ := insE_mem.1 hm
      have : k = k' := by omega
      subst this
      exact h1 hk'
/-- Is this number not left yet? -/
def openQ (A : List (Nat × Bool)) (z : Int) : Bool := !(A.contains (z.toNat, false))
theorem opE_is {K : Nat → List Int} {n : Nat} : ∀ (m : Nat) (A : List (Nat × Bool)), A.length = m → A <+: evA K n → opE A = (insE A).filter (openQ A)
  | 0, A, hm, _ => by
    have : A = [] := List.eq_nil_of_length_eq_zero hm
    subst this; rfl
  | m + 1, A, hm, hp => by
    obtain ⟨A, x, rfl⟩ : ∃ A' x, A = A' ++ [x] := by
      rcases List.eq_nil_or_concat A with h | ⟨l', y, h⟩
      · subst h; simp at hm
      · exact ⟨l', y, by rw [h, List.concat_eq_append]⟩
    have hl : A.length = m := by simpa using hm
    have hpA : A <+: evA K n := (List.prefix_append A [x]).trans hp
    have ih := opE_is m A hl hpA
    have hnA : A.Nodup := (evA_nodup K n).sublist hpA.sublist
    have hx : x ∉ A := fun hin => by
      have h := (evA_nodup K n).sublist hp.sublist
      rw [List.nodup_append] at h
      exact h.2.2 x hin x (List.mem_singleton.2 rfl) rfl
    obtain ⟨k, b⟩ := x
    rw [opE_snoc]
    cases b with
    | true =>
      have e : opS (opE A) (k, true) = opE A ++ [(k : Int)] := rfl
      have hq : ∀ z : Int, openQ (A ++ [(k, true)]) z = openQ A z := fun z => by unfold openQ; simp
      have hkq : openQ A (k : Int) = true := by
        unfold openQ
        simp only [Bool.not_eq_true', List.contains_eq_mem, decide_eq_false_iff_not, Int.toNat_natCast]
        intro hin
        obtain ⟨o, ho⟩ := List.getElem?_of_mem hin
        have ht : A.take o ++ [(k, false)] <+: evA K n := by
          have : A.take o ++ [(k, false)] = A.take (o + 1) := by rw [List.take_add_one, ho]; rfl
          rw [this]
          exact (List.take_prefix _ _).trans hpA
        exact hx (List.mem_of_mem_take (evA_before ht))
      rw [e, insE_snoc_t, List.filter_append, funext hq, ← ih]
      rw [List.filter_cons_of_pos hkq]; rfl
    | false =>
      have e : opS (opE A) (k, false) = (opE A).dropLast := rfl
      obtain ⟨z, hz⟩ := opE_last hp
      have hzn : (z ++ [(k : Int)]).Nodup := by
        rw [← hz, ih]
        exact (insE_nodup hnA).sublist List.filter_sublist
      have hkz : (k : Int) ∉ z := fun hin => by
        rw [List.nodup_append] at hzn
        exact hzn.2.2 _ hin _ (List.mem_singleton.2 rfl) rfl
      have hf : (insE A).filter (openQ (A ++ [(k, false)])) = ((insE A).filter (openQ A)).filter (fun y => decide (y ≠ (k : Int))) := by
        rw [List.filter_filter]
        refine List.filter_congr fun y hy => ?_
        obtain ⟨j, rfl, hj⟩ := insE_mem.1 hy
        unfold openQ
        by_cases hjk : j = k
        · subst hjk; simp
        · have : ¬ ((j : Int) = (k : Int)) := by omega
          simp [hjk, this]
      rw [e, hz, List.dropLast_concat, insE_snoc_f, hf, ← ih, hz, List.filter_append]
      have h1 : z.filter (fun y => decide (y ≠ (k : Int))) = z := List.filter_eq_self.2 fun y hy => by
        have : y ≠ (k : Int) := fun e => hkz (e ▸ hy)
        simpa using this
      rw [h1]
      simp
end Go.Proofs.Ytkkngflpmdcfjaa
