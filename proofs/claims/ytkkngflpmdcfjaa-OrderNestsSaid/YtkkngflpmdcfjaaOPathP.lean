/-
  The plain part of Path: whenever a node is left, something is open.
-/
import Derived.Test.YtkkngflpmdcfjaaOPlain
namespace Go.Proofs.Ytkkngflpmdcfjaa
open Go.RowKit

def opS (s : List Int) (x : Nat × Bool) : List Int := if x.2 = true then s ++ [(x.1 : Int)] else s.dropLast
def opF (s : List Int) (A : List (Nat × Bool)) : List Int := A.foldl opS s
def opE (A : List (Nat × Bool)) : List Int := opF [] A
theorem opE_snoc (A : List (Nat × Bool)) (x : Nat × Bool) : opE (A ++ [x]) = opS (opE A) x := by unfold opE opF; rw [List.foldl_append]; rfl
/-- What is open when it stands so. -/
def opn (s : Stk) : List Int := (s.dropLast.map fun x => (x.1 : Int)).reverse
theorem opn_cons (x p : Nat × List Int) (r : Stk) : opn (x :: p :: r) = opn (p :: r) ++ [(x.1 : Int)] := by
  unfold opn; rw [List.dropLast_cons_cons]; simp
theorem evs_open (K : Nat → List Int) (n : Nat) : ∀ (f : Nat) (seen : Nat → Bool) (s : Stk) (p : List (Nat × Bool)) (nd : Nat), s ≠ [] → p ++ [(nd, false)] <+: evs K n f seen s → opF (opn s) p ≠ []
  | 0, _, _, p, nd, _, h => by
    unfold evs at h
    have := h.length_le; simp at this
  | f + 1, seen, [], p, nd, h0, h => absurd rfl h0
  | f + 1, seen, [(a, [])], p, nd, _, h => by
    rw [evs_end] at h
    have := h.length_le; simp at this
  | f + 1, seen, (a, []) :: q :: r, p, nd, _, h => by
    rw [evs_out] at h
    rw [opn_cons]
    cases p with
    | nil => simp [opF]
    | cons y p =>
      rw [List.cons_append, List.cons_prefix_cons] at h
      obtain ⟨rfl, h⟩ := h
      have ih := evs_open K n f seen (q :: r) p nd (by simp) h
      show opF (opS (opn (q :: r) ++ [(a : Int)]) (a, false)) p ≠ []
      have e : opS (opn (q :: r) ++ [(a : Int)]) (a, false) = opn (q :: r) := by unfold opS; simp
      rw [e]; exact ih
  | f + 1, seen, (a, k :: ks) :: r, p, nd, _, h => by
    by_cases hf : fresh n seen k = true
    · rw [evs_in hf] at h
      cases p with
      | nil =>
        rw [List.nil_append, List.cons_prefix_cons] at h
        have := h.1
        cases this
      | cons y p =>
        rw [List.cons_append, List.cons_prefix_cons] at h
        obtain ⟨rfl, h⟩ := h
        have ih := evs_open K n f (mark1 seen k.toNat) ((k.toNat, K k.toNat) :: (a, ks) :: r) p nd (by simp) h
        rw [opn_cons] at ih
        have e1 : opn ((a, ks) :: r) = opn ((a, k :: ks) :: r) := by
          unfold opn
          cases r with
          | nil => rfl
          | cons q r => rw [List.dropLast_cons_cons, List.dropLast_cons_cons]; rfl
        rw [e1] at ih
        show opF (opS (opn ((a, k :: ks) :: r)) (k.toNat, true)) p ≠ []
        have e : opS (opn ((a, k :: ks) :: r)) (k.toNat, true) = opn ((a, k :: ks) :: r) ++ [(k.toNat : Int)] := by unfold opS; simp
        rw [e]; exact ih
    · rw [evs_skip (by simpa using hf)] at h
      have ih := evs_open K n f seen ((a, ks) :: r) p nd (by simp) h
      have e1 : opn ((a, ks) :: r) = opn ((a, k :: ks) :: r) := by
        unfold opn
        cases r with
        | nil => rfl
        | cons q r => rw [List.dropLast_cons_cons, List.dropLast_cons_cons]; rfl
      rw [e1] at ih
      exact ih
theorem opE_out {K : Nat → List Int} {n : Nat} {p : List (Nat × Bool)} {nd : Nat} (h : p ++ [(nd, false)] <+: evA K n) : opE p ≠ [] := by
  have := evs_open K n _ _ [(0, [0])] p nd (by simp) h
  exact this
/-- What is open when i is gone into; nothing where it is not. -/
def pthE (i : Int) : List Int → List (Nat × Bool) → List Int
  | _, [] => []
  | o, (k, true) :: r => if (k : Int) = i then o else pthE i (o ++ [(k : Int)]) r
  | o, (_, false) :: r => pthE i o.dropLast r
theorem pthE_t {i : Int} {o : List Int} {k : Nat} {r : List (Nat × Bool)} : pthE i o ((k, true) :: r) = if (k : Int) = i then o else pthE i (o ++ [(k : Int)]) r := rfl
theorem pthE_f {i : Int} {o : List Int} {k : Nat} {r : List (Nat × Bool)} : pthE i o ((k, false) :: r) = pthE i o.dropLast r := rfl
theorem opF_t {o : List Int} {k : Nat} {r : List (Nat × Bool)} : opF o ((k, true) :: r) = opF (o ++ [(k : Int)]) r := rfl
theorem opF_f {o : List Int} {k : Nat} {r : List (Nat × Bool)} : opF o ((k, false) :: r) = opF o.dropLast r := rfl
/-- Was i gone into? -/
def hasI (i : Int) (A : List (Nat × Bool)) : Bool := A.any fun x => x.2 && decide ((x.1 : Int) = i)
theorem pthE_go {i : Int} : ∀ (A B : List (Nat × Bool)) (o : List Int), hasI i A = false → pthE i o (A ++ B) = pthE i (opF o A) B
  | [], _, _, _ => rfl
  | (k, true) :: A, B, o, h => by
    unfold hasI at h
    simp only [List.any_cons, Bool.or_eq_false_iff] at h
    have h1 : ¬ ((k : Int) = i) := by simpa using h.1
    rw [List.cons_append, pthE_t, if_neg h1, pthE_go A B _ h.2, opF_t]
  | (k, false) :: A, B, o, h => by
    unfold hasI at h
    simp only [List.any_cons, Bool.or_eq_false_iff] at h
    rw [List.cons_append, pthE_f, pthE_go A B _ h.2, opF_f]
theorem pthE_none {i : Int} {A : List (Nat × Bool)} (h : hasI i A = false) : pthE i [] A = [] := by
  have := pthE_go A [] [] h
  rw [List.append_nil] at this
  rw [this]; rfl
theorem pthE_hit {i : Int} {A B : List (Nat × Bool)} {k : Nat} (h : hasI i A = false) (hk : (k : Int) = i) (hp : A ++ [(k, true)] <+: B) : pthE i [] B = opE A := by
  obtain ⟨r, rfl⟩ := hp
  rw [List.append_assoc, pthE_go A _ _ h]
  show pthE i (opE A) ((k, true) :: r) = _
  rw [pthE_t, if_pos hk]
theorem hasI_snoc (i : Int) (A : List (Nat × Bool)) (x : Nat × Bool) : hasI i (A ++ [x]) = (hasI i A || (x.2 && decide ((x.1 : Int) = i))) := by unfold hasI; simp
theorem opE_len (A : List (Nat × Bool)) : (opE A).length ≤ A.length := by
  have key : ∀ (A : List (Nat × Bool)) (o : List Int), (opF o A).length ≤ o.length + A.length := by
    intro A
    induction A with
    | nil => intro o; exact Nat.le_refl _
    | cons x A ih =>
      intro o
      have h := ih (opS o x)
      have h2 : (opS o x).length ≤ o.length + 1 := by unfold opS; split <;> simp <;> omega
      show (opF (opS o x) A).length ≤ _
      simp only [List.length_cons]; omega
  have := key A []
  simpa [opE] using this
end Go.Proofs.Ytkkngflpmdcfjaa
