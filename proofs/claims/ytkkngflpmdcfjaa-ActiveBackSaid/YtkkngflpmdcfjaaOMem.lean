/-
  What the iterator of layer 13 keeps in memory: the nodes that are being gone through, with their kids; the nodes that were gone into.
-/
import Derived.Test.YtkkngflpmdcfjaaOPlain
import Derived.Test.YtkkngflpmdcfjaaOLaw
import Derived.Test.YtkkngflpmdcfjaaNClone
namespace Go.Proofs.Ytkkngflpmdcfjaa
open Go.RowKit

/-- A part: a node, the slice of its kids to come, and these kids. -/
abbrev Pt := Nat × Value × List Int
def ptC (x : Pt) : List Value := [.int .i64 (x.1 : Nat), x.2.1]
def clP (l : List Pt) : List Value := l.flatMap ptC
theorem clP_len : ∀ l : List Pt, (clP l).length = l.length * 2
  | [] => rfl
  | a :: l => by
    have := clP_len l
    unfold clP at this ⊢
    rw [List.flatMap_cons, List.length_append, this, List.length_cons]
    show 2 + _ = _
    omega
theorem clP_app (l m : List Pt) : clP (l ++ m) = clP l ++ clP m := by unfold clP; rw [List.flatMap_append]
theorem clP_one (x : Pt) : clP [x] = ptC x := by unfold clP; simp
/-- The stack that parts in memory are, the innermost first. -/
def stk (l : List Pt) : Stk := (l.map fun x => (x.1, x.2.2)).reverse
theorem stk_snoc (l : List Pt) (x : Pt) : stk (l ++ [x]) = (x.1, x.2.2) :: stk l := by unfold stk; simp
def PR (w : World) (v : Value) (l : List Pt) : Prop := w.ownsRow 0 108 2 v l.length (clP l)
theorem PR.kept {w w' : World} {v : Value} {l : List Pt} (h : PR w v l) (hb : ∀ g, v.ownBlock = some g → w'.heap[g]? = w.heap[g]?) : PR w' v l := own_block h hb
theorem PR.at {w : World} {b c : Nat} {l : List Pt} {x : Pt} (h : PR w (.slice (some ⟨b, 0, none⟩) (l ++ [x]).length c) (l ++ [x])) : w.cell? ⟨b, l.length * 2, none⟩ = some (.int .i64 (x.1 : Nat)) ∧ w.cell? ⟨b, l.length * 2 + 1, none⟩ = some x.2.1 ∧ w.frozen? ⟨b, l.length * 2 + 1, none⟩ = false := by
  have hc := h.cells (g := b) rfl
  have hl := clP_len l
  have g0 : (clP (l ++ [x]))[l.length * 2]? = some (.int .i64 (x.1 : Nat)) := by rw [clP_app, clP_one, List.getElem?_append_right (by omega), hl]; simp [ptC]
  have g1 : (clP (l ++ [x]))[l.length * 2 + 1]? = some x.2.1 := by rw [clP_app, clP_one, List.getElem?_append_right (by omega), hl]; simp [ptC]
  have ea : ∀ j, (⟨b, 0, none⟩ : Addr).add j = ⟨b, j, none⟩ := fun j => by unfold Addr.add; split <;> simp_all
  have h0 := hc _ _ g0
  have h1 := hc _ _ g1
  rw [ea] at h0 h1
  refine ⟨h0, h1, ?_⟩
  rcases h.2 with ⟨e, _⟩ | ⟨g, cap, cur, e, _, hg, _⟩
  · cases e
  · injection e with e1; cases e1
    exact frozen_of_row w _ _ _ _ hg
theorem PR.set {w : World} {b c : Nat} {l : List Pt} {nd : Nat} {v : Value} {ks : List Int} (h : PR w (.slice (some ⟨b, 0, none⟩) (l ++ [(nd, v, ks)]).length c) (l ++ [(nd, v, ks)])) (v' : Value) (ks' : List Int) :
    PR (w.setCell ⟨b, l.length * 2 + 1, none⟩ v') (.slice (some ⟨b, 0, none⟩) (l ++ [(nd, v', ks')]).length c) (l ++ [(nd, v', ks')]) ∧ w.grownBy (w.setCell ⟨b, l.length * 2 + 1, none⟩ v') (some b) := by
  have e : (l ++ [(nd, v', ks')]).length = (l ++ [(nd, v, ks)]).length := by simp
  obtain ⟨s1, s2⟩ := World.ownsRow.stored h (l.length * 2 + 1) v'
  refine ⟨?_, s2⟩
  unfold PR
  rw [e]
  have ec : (clP (l ++ [(nd, v, ks)])).set (l.length * 2 + 1) v' = clP (l ++ [(nd, v', ks')]) := by
    rw [clP_app, clP_app, clP_one, clP_one, List.set_append_right _ _ (by rw [clP_len]; omega), clP_len]
    congr 1
    rw [show l.length * 2 + 1 - l.length * 2 = 1 by omega]; rfl
  rw [← ec]; exact s1
/-- Without its last one. -/
theorem PR.front {w : World} {b c : Nat} {l : List Pt} {x : Pt} (h : PR w (.slice (some ⟨b, 0, none⟩) (l ++ [x]).length c) (l ++ [x])) : PR w (.slice (some ⟨b, 0, none⟩) l.length c) l := by
  refine ⟨clP_len l, ?_⟩
  rcases h.2 with ⟨e, _⟩ | ⟨g, cap, cur, e, h1, hg, h3, h4, h5, h6⟩
  · cases e
  · injection e with e1 e2 e3
    cases e1
    subst e3
    refine .inr ⟨b, c, cur, rfl, h1, hg, by simp at h3; omega, h4, h5, ?_⟩
    have hl := clP_len l
    have : (cur.toList.take ((l ++ [x]).length * 2)).take (l.length * 2) = (clP (l ++ [x])).take (l.length * 2) := by rw [h6]
    rw [List.take_take, Nat.min_eq_left (by simp; omega), clP_app, List.take_left' hl] at this
    exact this
theorem PR.le {w : World} {b n c : Nat} {l : List Pt} (h : PR w (.slice (some ⟨b, 0, none⟩) n c) l) : l.length ≤ c ∧ b < w.heap.size ∧ ∃ cur, w.heap[b]? = some (.cells cur 108 (0, 0)) := by
  rcases h.2 with ⟨e, _⟩ | ⟨g, cap, cur, e, h1, hg, h3, _⟩
  · cases e
  · injection e with e1 e2 e3
    cases e1
    subst e3
    exact ⟨h3, (Array.getElem?_eq_some_iff.1 hg).1, cur, hg⟩
/-- The kids of a part can be read; they lie below n₀, or in block L. -/
def KA (w : World) (n₀ L : Nat) (x : Pt) : Prop :=
  ∃ a c, x.2.1 = .slice a x.2.2.length c ∧ x.2.2.length ≤ c ∧ (x.2.2 ≠ [] → ∃ b off, a = some ⟨b, off, none⟩ ∧ (b < n₀ ∨ b = L) ∧ ∀ j (h : j < x.2.2.length), w.cell? ⟨b, off + j, none⟩ = some (.int .i64 x.2.2[j]))
theorem KA.kept {w w' : World} {n₀ L : Nat} {x : Pt} (h : KA w n₀ L x) (hb : ∀ k, k < n₀ ∨ k = L → w'.heap[k]? = w.heap[k]?) : KA w' n₀ L x := by
  obtain ⟨a, c, e, hc, h⟩ := h
  exact ⟨a, c, e, hc, fun hne => by
    obtain ⟨b, off, ea, hb', hcl⟩ := h hne
    exact ⟨b, off, ea, hb', fun j hj => (World.cell?_of_block (a := ⟨b, off + j, none⟩) (hb b hb')).trans (hcl j hj)⟩⟩
/-- Which nodes were gone into. -/
def SR (w : World) (S n : Nat) (seen : Nat → Bool) : Prop := ∃ cs, w.heap[S]? = some (.cells cs 4 (0, 0)) ∧ cs.size = n ∧ ∀ j, j < n → cs[j]? = some (.bool (seen j))
theorem SR.of {w w' : World} {S n : Nat} {seen : Nat → Bool} (h : SR w S n seen) (hg : w'.heap[S]? = w.heap[S]?) : SR w' S n seen := by
  obtain ⟨cs, h1, h2⟩ := h
  exact ⟨cs, hg.trans h1, h2⟩
theorem SR.lt {w : World} {S n : Nat} {seen : Nat → Bool} (h : SR w S n seen) : S < w.heap.size := by
  obtain ⟨cs, h1, _⟩ := h
  exact (Array.getElem?_eq_some_iff.1 h1).1
theorem SR.at {w : World} {S n : Nat} {seen : Nat → Bool} (h : SR w S n seen) {j : Nat} (hj : j < n) : w.cell? ⟨S, j, none⟩ = some (.bool (seen j)) ∧ w.frozen? ⟨S, j, none⟩ = false := by
  obtain ⟨cs, h1, h2, h3⟩ := h
  exact ⟨(cell_of_row w S j _ _ (0, 0) h1).trans (h3 j hj), frozen_of_row w S j _ _ h1⟩
theorem SR.set {w : World} {S n : Nat} {seen : Nat → Bool} (h : SR w S n seen) {k : Nat} (hk : k < n) : SR (w.setCell ⟨S, k, none⟩ (.bool true)) S n (mark1 seen k) := by
  obtain ⟨cs, h1, h2, h3⟩ := h
  refine ⟨_, heap_setCell_same w S k _ _ _ h1, by simp [h2], fun j hj => ?_⟩
  unfold mark1
  rw [Array.getElem?_setIfInBounds]
  by_cases e : k = j
  · subst e
    rw [if_pos rfl, if_pos (by omega), if_pos rfl]
  · rw [if_neg e, if_neg (fun e2 => e e2.symm)]
    exact h3 j hj
end Go.Proofs.Ytkkngflpmdcfjaa
