/-
  slices.Equal at numbers.
-/
import Derived.Test.YtkkngflpmdcfjaaShelf
import Derived.Test.YtkkngflpmdcfjaaNInts
namespace Go.Proofs.Ytkkngflpmdcfjaa
open Go.RowKit

theorem getD_ati {l : List Int} {j : Nat} (h : j < l.length) : l.getD j 0 = l[j] := by simp [h]
theorem below_drewN' (w : World) : ∀ q, Below w.heap.size w (w.drewN q) := fun q => by
  have h : ∀ (q : Nat) (w : World), (w.drewN q).heap = w.heap ∧ (w.drewN q).os = w.os ∧ (w.drewN q).tape = w.tape ∧ (w.drewN q).output = w.output := by
    intro q
    induction q with
    | zero => intro w; exact ⟨rfl, rfl, rfl, rfl⟩
    | succ q ih => intro w; exact ih w
  obtain ⟨h1, h2, h3, h4⟩ := h q w
  exact ⟨h2, h3, h4, by rw [h1]; exact Nat.le_refl _, fun k _ => by rw [h1]⟩
theorem equal_ints (a1 a2 : Option Addr) (c1 c2 : Nat) (xs ys : List Int) (w : World) (hx : xs.length ≤ 1000000) (hy : ys.length ≤ 1000000) (h1 : IntsAt w a1 xs) (h2 : IntsAt w a2 ys) :
    Calls Try.prog 19 #[.slice a1 xs.length c1, .slice a2 ys.length c2] w fun e w' => e = .returned (.bool (decide (xs = ys))) ∧ Below w.heap.size w w' := by
  by_cases hl : xs.length = ys.length
  · by_cases hne : xs = []
    · subst hne
      have : ys = [] := List.eq_nil_of_length_eq_zero hl.symm
      subst this
      refine (Try.slices_Equal_int_empty a1 a2 c1 0 c2 w (by omega)).mono ?_
      rintro e w' ⟨rfl, rfl⟩
      exact ⟨rfl, Below.refl _ _⟩
    · have hne2 : ys ≠ [] := fun e => hne (List.eq_nil_of_length_eq_zero (by rw [hl, e]; rfl))
      obtain ⟨b1, o1, rfl, _, hc1⟩ := h1 hne
      obtain ⟨b2, o2, rfl, _, hc2⟩ := h2 hne2
      refine (Try.slices_Equal_int b1 o1 xs.length c1 b2 o2 ys.length c2 xs ys w (Nat.le_refl _) (Nat.le_refl _) (by omega) (by omega) (fun j hj => by rw [getD_ati hj]; exact hc1 j hj) (fun j hj => by rw [getD_ati hj]; exact hc2 j hj)).mono ?_
      rintro e w' ⟨rfl, q, rfl⟩
      refine ⟨?_, below_drewN' w q⟩
      rw [List.take_length, List.take_length]
      congr 2
      rw [Bool.eq_iff_iff]; simp
  · refine (Try.slices_Equal_int_lens a1 a2 xs.length c1 ys.length c2 w hl).mono ?_
    rintro e w' ⟨rfl, rfl⟩
    have : decide (xs = ys) = false := decide_eq_false fun e => hl (by rw [e])
    exact ⟨by rw [this], Below.refl _ _⟩
end Go.Proofs.Ytkkngflpmdcfjaa
