/-
  A mark is where its two steps stand.
-/
import Derived.Test.YtkkngflpmdcfjaaONodup
import Derived.Test.YtkkngflpmdcfjaaOMarks
namespace Go.Proofs.Ytkkngflpmdcfjaa
open Go.RowKit

theorem get_snoc {α : Type} {A : List α} {x y : α} {i : Nat} (h : (A ++ [x])[i]? = some y) : A[i]? = some y ∨ (i = A.length ∧ x = y) := by
  rcases Nat.lt_or_ge i A.length with h1 | h1
  · left; rwa [List.getElem?_append_left h1] at h
  · rw [List.getElem?_append_right h1] at h
    have : i - A.length = 0 := by
      rcases Nat.eq_zero_or_pos (i - A.length) with h2 | h2
      · exact h2
      · rw [List.getElem?_eq_none (by simp; omega)] at h; cases h
    rw [this] at h
    simp at h
    exact .inr ⟨by omega, h⟩
theorem mk_at {B : List (Nat × Bool)} (hnd : B.Nodup) (hbef : ∀ p k, p ++ [(k, false)] <+: B → (k, true) ∈ p) (j : Nat) : ∀ (m : Nat) (A : List (Nat × Bool)), A.length = m → A <+: B →
    ((j, true) ∉ A → (mkE A).1 j = (-1, -1)) ∧ (∀ i : Nat, A[i]? = some (j, true) → ((mkE A).1 j).1 = i) ∧ ∀ o : Nat, A[o]? = some (j, false) → ((mkE A).1 j).2 = o
  | 0, A, hm, _ => by
    have : A = [] := List.eq_nil_of_length_eq_zero hm
    subst this
    exact ⟨fun _ => rfl, fun i h => by simp at h, fun o h => by simp at h⟩
  | m + 1, A, hm, hp => by
    obtain ⟨A, x, rfl⟩ : ∃ A' x, A = A' ++ [x] := by
      rcases List.eq_nil_or_concat A with h | ⟨l', y, h⟩
      · subst h; simp at hm
      · exact ⟨l', y, by rw [h, List.concat_eq_append]⟩
    have hl : A.length = m := by simpa using hm
    have hpA : A <+: B := (List.prefix_append A [x]).trans hp
    obtain ⟨i1, i2, i3⟩ := mk_at hnd hbef j m A hl hpA
    have hx : x ∉ A := fun hin => by
      have h := hnd.sublist hp.sublist
      rw [List.nodup_append] at h
      exact h.2.2 x hin x (List.mem_singleton.2 rfl) rfl
    obtain ⟨k, b⟩ := x
    have e2 := mkE_two A
    rw [mkE_snoc]
    by_cases hk : j = k
    · subst hk
      cases b with
      | true =>
        have hv : (mkS (mkE A) (j, true)).1 j = (((mkE A).2 : Int), 0) := by unfold mkS; dsimp only; rw [if_pos rfl, if_pos rfl]
        rw [hv]
        refine ⟨fun h => absurd (List.mem_append_right _ (List.mem_singleton.2 rfl)) h, fun i h => ?_, fun o h => ?_⟩
        · rcases get_snoc h with h1 | h1
          · exact absurd (List.mem_of_getElem? h1) hx
          · show ((mkE A).2 : Int) = i
            rw [e2, h1.1]
        · exfalso
          rcases get_snoc h with h1 | h1
          · have hlt := (List.getElem?_eq_some_iff.1 h1).1
            have ht : A.take o ++ [(j, false)] <+: B := by
              have : A.take o ++ [(j, false)] = A.take (o + 1) := by rw [List.take_add_one, h1]; rfl
              rw [this]
              exact (List.take_prefix _ _).trans hpA
            exact hx (List.mem_of_mem_take (hbef _ _ ht))
          · cases h1.2
      | false =>
        have hv : (mkS (mkE A) (j, false)).1 j = (((mkE A).1 j).1, ((mkE A).2 : Int)) := by unfold mkS; dsimp only; rw [if_pos rfl, if_neg (by decide)]
        rw [hv]
        refine ⟨fun h => absurd (List.mem_append_left _ (hbef _ _ hp)) h, fun i h => ?_, fun o h => ?_⟩
        · rcases get_snoc h with h1 | h1
          · exact i2 i h1
          · cases h1.2
        · rcases get_snoc h with h1 | h1
          · exact absurd (List.mem_of_getElem? h1) hx
          · show ((mkE A).2 : Int) = o
            rw [e2, h1.1]
    · have hv : (mkS (mkE A) (k, b)).1 j = (mkE A).1 j := by unfold mkS; dsimp only; rw [if_neg hk]
      rw [hv]
      refine ⟨fun h => i1 (fun h2 => h (List.mem_append_left _ h2)), fun i h => ?_, fun o h => ?_⟩
      · rcases get_snoc h with h1 | h1
        · exact i2 i h1
        · exact absurd (congrArg Prod.fst h1.2).symm hk
      · rcases get_snoc h with h1 | h1
        · exact i3 o h1
        · exact absurd (congrArg Prod.fst h1.2).symm hk
/-- The marks of a tree: a node that is not gone into has (-1, -1); else a mark tells the places of its two steps. -/
theorem marks_at (K : Nat → List Int) (n j : Nat) : ((j, true) ∉ evA K n → (mkE (evA K n)).1 j = (-1, -1)) ∧
    ∀ i : Nat, (evA K n)[i]? = some (j, true) → ∃ o : Nat, (evA K n)[o]? = some (j, false) ∧ (mkE (evA K n)).1 j = ((i : Int), (o : Int)) := by
  obtain ⟨h1, h2, h3⟩ := mk_at (evA_nodup K n) (fun p k h => evA_before h) j _ (evA K n) rfl (List.prefix_refl _)
  refine ⟨h1, fun i hi => ?_⟩
  obtain ⟨o, ho⟩ := List.getElem?_of_mem (evA_left (List.mem_of_getElem? hi))
  exact ⟨o, ho, Prod.ext (h2 i hi) (h3 o ho)⟩
end Go.Proofs.Ytkkngflpmdcfjaa
