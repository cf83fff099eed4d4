/-
  The document's own tree, of which only its size is asked: how many nodes, and how many kids.
-/
import Derived.Test.YtnihomlmjfgmdaaNMove
namespace Go.Proofs.Ytnihomlmjfgmdaa
open Go.RowKit

def kidSum (l : List Nd) : Nat := (l.map fun x => x.kids.length).sum
theorem kidSum_cons (x : Nd) (l : List Nd) : kidSum (x :: l) = x.kids.length + kidSum l := by unfold kidSum; simp
theorem kidSum_snoc (l : List Nd) (x : Nd) : kidSum (l ++ [x]) = kidSum l + x.kids.length := by unfold kidSum; simp
theorem kidSum_at : ∀ (l : List Nd) (i : Nat) (h : i < l.length), l[i].kids.length ≤ kidSum l
  | [], i, h => by simp at h
  | x :: l, 0, _ => by rw [kidSum_cons]; simp
  | x :: l, i + 1, h => by rw [kidSum_cons]; have := kidSum_at l i (by simpa using h); simp; omega
theorem kidSum_two : ∀ (l : List Nd) (i j : Nat) (hi : i < l.length) (hj : j < l.length), i ≠ j → l[i].kids.length + l[j].kids.length ≤ kidSum l
  | [], i, _, h, _, _ => by simp at h
  | x :: l, 0, 0, _, _, h => absurd rfl h
  | x :: l, 0, j + 1, _, hj, _ => by rw [kidSum_cons]; have := kidSum_at l j (by simpa using hj); simp; omega
  | x :: l, i + 1, 0, hi, _, _ => by rw [kidSum_cons]; have := kidSum_at l i (by simpa using hi); simp; omega
  | x :: l, i + 1, j + 1, hi, hj, h => by
    rw [kidSum_cons]; have := kidSum_two l i j (by simpa using hi) (by simpa using hj) (by omega); simp; omega
theorem kidSum_up (u : Int) : ∀ (l : List Nd) (i : Nat), kidSum (l.modify i (setUp u)) = kidSum l
  | [], i => by simp
  | x :: l, 0 => by simp [kidSum_cons, setUp, List.modify]
  | x :: l, i + 1 => by rw [List.modify_succ_cons, kidSum_cons, kidSum_cons, kidSum_up u l i]
theorem kidSum_kids (v : Value) (ks : List Int) : ∀ (l : List Nd) (i : Nat) (h : i < l.length), kidSum (l.modify i (setKids v ks)) + l[i].kids.length = kidSum l + ks.length
  | [], i, h => by simp at h
  | x :: l, 0, _ => by simp [kidSum_cons, setKids, List.modify]; omega
  | x :: l, i + 1, h => by
    rw [List.modify_succ_cons, kidSum_cons, kidSum_cons]
    have := kidSum_kids v ks l i (by simpa using h)
    simp; omega
def TreeQ (w : World) (R : Nat → Prop) (p n S : Nat) : Prop := ∃ v l, TreeAt w R p v l ∧ l.length = n ∧ kidSum l ≤ S
def RetQT (R : Nat → Prop) (p n S : Nat) (w : World) (e : Ending) (w' : World) : Prop := e = .returned (.tuple #[]) ∧ Keeps R w w' ∧ TreeQ w' (RN R w w') p n S
theorem retQ_setUp {w wz : World} {R : Nat → Prop} {p g n c k N S : Nat} {l1 : List Nd} {u : Int} (hR : ∀ k, R k → k < w.heap.size) (hk : Keeps R w wz) (ht : TreeAt wz (RN R w wz) p (.slice (some ⟨g, 0, none⟩) n c) l1) (hN : l1.length = N) (hS : kidSum l1 ≤ S) :
    RetQT R p N S w (.returned (.tuple #[])) (wz.setCell ⟨g, k * 7 + 5, none⟩ (.int .i64 u)) := by
  obtain ⟨h1, h2⟩ := ht.setUp k u
  have hs : (wz.setCell ⟨g, k * 7 + 5, none⟩ (.int .i64 u)).heap.size = wz.heap.size := by simp
  exact ⟨rfl, hk.trans (RN.more R w wz) h2, _, _, h1.wide (rn_rn (by rw [hs]; exact Nat.le_refl _)) (rn_lt fun k h => by rw [hs]; exact Nat.lt_of_lt_of_le (hR k h) hk.size), by simpa using hN, by rw [kidSum_up]; exact hS⟩
end Go.Proofs.Ytnihomlmjfgmdaa
