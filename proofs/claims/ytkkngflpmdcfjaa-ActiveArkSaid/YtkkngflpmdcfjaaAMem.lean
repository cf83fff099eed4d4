/-
  A slice of attributes as a list of pairs of texts; what a function that hands one back leaves.
-/
import Derived.Test.YtkkngflpmdcfjaaRows
import Derived.Test.YtkkngflpmdcfjaaAPlain
import Derived.WalkKit
import Derived.IntWalk
import Derived.LoopTactic
import Derived.WalkSpells
import Derived.Lib.Hide
import Derived.Laws.OwnMore
import Derived.Laws.StructEq
import Derived.Maps.AppendAt
import Derived.Deep.AppendLies
namespace Go.Proofs.Ytkkngflpmdcfjaa.A
open Go.RowKit

theorem ret_bool {a b : Bool} (h : a = b) : Ending.returned (.bool a) = .returned (.bool b) := by rw [h]
theorem ret_int {k : IntKind} {a b : Int} (h : a = b) : Ending.returned (.int k a) = .returned (.int k b) := by rw [h]
theorem ret_two {a b : ByteArray} {c d : Bool} (h : a = b) (h' : c = d) : Ending.returned (.tuple #[.string a, .bool c]) = .returned (.tuple #[.string b, .bool d]) := by rw [h, h']
theorem below_step {w w1 w2 : World} (h : Hid (Below w.heap.size w w1)) (h2 : Below w1.heap.size w1 w2) : Hid (Below w.heap.size w w2) := Lib.hid (h.out.trans (h2.mono h.out.size))
/-- An attribute as a value; a list's cells. -/
def atV (a : At) : Value := .agg #[.string a.1, .string a.2]
def clA (l : List At) : List Value := l.flatMap fun a => [.string a.1, .string a.2]
theorem clA_len : ∀ l : List At, (clA l).length = l.length * 2
  | [] => rfl
  | a :: l => by
    have := clA_len l
    unfold clA at this ⊢
    rw [List.flatMap_cons, List.length_append, this, List.length_cons]; simp; omega
theorem clA_app (l m : List At) : clA (l ++ m) = clA l ++ clA m := by unfold clA; rw [List.flatMap_append]
theorem clA_at : ∀ (l : List At) (j : Nat) (h : j < l.length), (clA l)[j * 2]? = some (.string l[j].1) ∧ (clA l)[j * 2 + 1]? = some (.string l[j].2)
  | [], j, h => by simp at h
  | a :: l, 0, _ => ⟨rfl, rfl⟩
  | a :: l, j + 1, h => by
    have ih := clA_at l j (by simpa using h)
    have e : clA (a :: l) = .string a.1 :: .string a.2 :: clA l := rfl
    rw [e, show (j + 1) * 2 = j * 2 + 1 + 1 by omega]
    exact ⟨by rw [List.getElem?_cons_succ, List.getElem?_cons_succ]; exact ih.1, by rw [List.getElem?_cons_succ, List.getElem?_cons_succ]; exact ih.2⟩
theorem clA_one (l : List At) : ∀ u ∈ clA l, u.oneCell' = true := by
  intro u hu
  obtain ⟨a, _, h⟩ := List.mem_flatMap.1 hu
  simp at h
  rcases h with rfl | rfl <;> rfl
def AttrsAt (w : World) (a : Option Addr) (l : List At) : Prop :=
  l ≠ [] → ∃ b off, a = some ⟨b, off, none⟩ ∧ b < w.heap.size ∧ ∀ j (h : j < l.length), w.cell? ⟨b, off + j * 2, none⟩ = some (.string l[j].1) ∧ w.cell? ⟨b, off + j * 2 + 1, none⟩ = some (.string l[j].2)
theorem AttrsAt.nil (w : World) (a : Option Addr) : AttrsAt w a [] := fun h => absurd rfl h
theorem AttrsAt.below {w w' : World} {a : Option Addr} {l : List At} (h : AttrsAt w a l) (hb : Below w.heap.size w w') : AttrsAt w' a l := fun hne => by
  obtain ⟨b, off, rfl, hlt, hc⟩ := h hne
  exact ⟨b, off, rfl, Nat.lt_of_lt_of_le hlt hb.size, fun j hj => ⟨(hb.cell (p := ⟨b, off + j * 2, none⟩) hlt).trans (hc j hj).1, (hb.cell (p := ⟨b, off + j * 2 + 1, none⟩) hlt).trans (hc j hj).2⟩⟩
theorem AttrsAt.alloc {w : World} {a : Option Addr} {l : List At} (h : AttrsAt w a l) (o : Obj) : AttrsAt (w.alloc o) a l := h.below ((Below.refl _ _).alloc (Nat.le_refl _) _)
/-- What a function that makes a list of attributes leaves. -/
def RetAttrs (l : List At) (w : World) (e : Ending) (w' : World) : Prop :=
  ∃ a cap, l.length ≤ cap ∧ e = .returned (.slice a l.length cap) ∧ AttrsAt w' a l ∧ Below w.heap.size w w'
/-- .. in memory of its own. -/
def OwnAttrs (l : List At) (w : World) (e : Ending) (w' : World) : Prop :=
  ∃ v, e = .returned v ∧ w'.ownsRow w.heap.size 115 2 v l.length (clA l) ∧ Below w.heap.size w w'
theorem own_attrs {w : World} {base : Nat} {v : Value} {l : List At} (h : w.ownsRow base 115 2 v l.length (clA l)) : ∃ a cap, l.length ≤ cap ∧ v = .slice a l.length cap ∧ AttrsAt w a l := by
  rcases h.2 with ⟨rfl, hn⟩ | ⟨g, cap, cur, rfl, hb, hg, hnc, hm, hcs, ht⟩
  · obtain rfl : l = [] := List.eq_nil_of_length_eq_zero hn
    exact ⟨none, 0, Nat.le_refl _, rfl, AttrsAt.nil _ _⟩
  · refine ⟨_, cap, hnc, rfl, fun _ => ⟨g, 0, rfl, (Array.getElem?_eq_some_iff.1 hg).1, fun j hj => ?_⟩⟩
    have key : ∀ i, i < l.length * 2 → w.cell? ⟨g, 0 + i, none⟩ = (clA l)[i]? := fun i hi => by
      rw [Nat.zero_add, cell_of_row w g i cur 115 (0, 0) hg, ← ht, List.getElem?_take, if_pos (by omega)]; simp
    rw [Nat.add_assoc]
    exact ⟨(key _ (by omega)).trans (clA_at l j hj).1, (key _ (by omega)).trans (clA_at l j hj).2⟩
theorem ret_attrs {w w' : World} {base : Nat} {v : Value} {l l' : List At} (h : w'.ownsRow base 115 2 v l.length (clA l)) (hb : Below w.heap.size w w') (hl : l = l') : RetAttrs l' w (.returned v) w' := by
  subst hl
  obtain ⟨a, cap, h1, rfl, h2⟩ := own_attrs h
  exact ⟨a, cap, h1, rfl, h2, hb⟩
theorem OwnAttrs.ret {l : List At} {w w' : World} {e : Ending} (h : OwnAttrs l w e w') : RetAttrs l w e w' := by
  obtain ⟨v, rfl, h1, h2⟩ := h
  exact ret_attrs h1 h2 rfl
theorem own_below {w w' : World} {base : Nat} {e : TypeId} {size : Nat} {v : Value} {n : Nat} {xs : List Value} (h : w.ownsRow base e size v n xs) (hb : Below w.heap.size w w') : w'.ownsRow base e size v n xs := by
  refine ⟨h.1, ?_⟩
  rcases h.2 with hn | ⟨g, cap, cur, rfl, hb2, hg, rest⟩
  · exact .inl hn
  · exact .inr ⟨g, cap, cur, rfl, hb2, (hb.block g (Array.getElem?_eq_some_iff.1 hg).1).trans hg, rest⟩
theorem own_snoc {w : World} {base : Nat} {v : Value} {l : List At} {x : At} (h : w.ownsRow base 115 2 v (l.length + 1) (clA l ++ [.string x.1, .string x.2])) :
    w.ownsRow base 115 2 v (l ++ [x]).length (clA (l ++ [x])) := by
  rw [clA_app, List.length_append]; exact h
theorem attr_info : (Try.prog.info? 115).map (fun i => (i.zero, i.size, i.bytes)) = some (some (.agg #[.string ⟨#[]⟩, .string ⟨#[]⟩]), 2, 32) := by kernel_rfl
theorem cells_at (a : At) : ∀ u ∈ [Value.string a.1, Value.string a.2], u.oneCell' = true := by intro u hu; simp at hu; rcases hu with rfl | rfl <;> rfl
end Go.Proofs.Ytkkngflpmdcfjaa.A
