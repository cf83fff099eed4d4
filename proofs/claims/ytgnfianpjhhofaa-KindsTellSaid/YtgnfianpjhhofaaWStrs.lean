/-
  A slice of strings as a list; what a function that hands one back leaves.
-/
import Derived.Test.YtgnfianpjhhofaaWLeaf
import Derived.Laws.OwnMore
import Derived.Maps.AppendAt
namespace Go.Proofs.Ytgnfianpjhhofaa.W
open Go.RowKit

def textOf : Value → ByteArray | .string s => s | _ => ByteArray.empty
def StrsAt (w : World) (a : Option Addr) (l : List ByteArray) : Prop :=
  l ≠ [] → ∃ b off, a = some ⟨b, off, none⟩ ∧ b < w.heap.size ∧ ∀ j (h : j < l.length), w.cell? ⟨b, off + j, none⟩ = some (.string l[j])
theorem StrsAt.nil (w : World) (a : Option Addr) : StrsAt w a [] := fun h => absurd rfl h
theorem StrsAt.below {w w' : World} {a : Option Addr} {l : List ByteArray} (h : StrsAt w a l) (hb : Below w.heap.size w w') : StrsAt w' a l := fun hne => by
  obtain ⟨b, off, rfl, hlt, hc⟩ := h hne
  exact ⟨b, off, rfl, Nat.lt_of_lt_of_le hlt hb.size, fun j hj => (hb.cell (p := ⟨b, off + j, none⟩) hlt).trans (hc j hj)⟩
/-- What a function that makes a list of strings leaves. -/
def RetStrs (l : List ByteArray) (w : World) (e : Ending) (w' : World) : Prop :=
  ∃ a cap, l.length ≤ cap ∧ e = .returned (.slice a l.length cap) ∧ StrsAt w' a l ∧ Below w.heap.size w w'
theorem own_strs {w : World} {base : Nat} {v : Value} {l : List ByteArray} (h : w.ownsRow base 9 1 v l.length (l.map Value.string)) : ∃ a cap, l.length ≤ cap ∧ v = .slice a l.length cap ∧ StrsAt w a l := by
  rcases h.2 with ⟨rfl, hn⟩ | ⟨g, cap, cur, rfl, hb, hg, hnc, hm, hcs, ht⟩
  · obtain rfl : l = [] := List.eq_nil_of_length_eq_zero hn
    exact ⟨none, 0, Nat.le_refl _, rfl, StrsAt.nil _ _⟩
  · refine ⟨_, cap, hnc, rfl, fun _ => ⟨g, 0, rfl, (Array.getElem?_eq_some_iff.1 hg).1, fun j hj => ?_⟩⟩
    rw [Nat.zero_add, cell_of_row w g j cur 9 (0, 0) hg]
    have e : (cur.toList.take (l.length * 1))[j]? = (l.map Value.string)[j]? := by rw [ht]
    rw [List.getElem?_take, if_pos (by omega), List.getElem?_map, List.getElem?_eq_getElem hj] at e
    simpa using e
theorem ret_strs {w w' : World} {v : Value} {l l' : List ByteArray} (h : w'.ownsRow w.heap.size 9 1 v l.length (l.map Value.string)) (hb : Below w.heap.size w w') (hl : l = l') : RetStrs l' w (.returned v) w' := by
  subst hl
  obtain ⟨a, cap, h1, rfl, h2⟩ := own_strs h
  exact ⟨a, cap, h1, rfl, h2, hb⟩
theorem own_below {w w' : World} {base : Nat} {e : TypeId} {size : Nat} {v : Value} {n : Nat} {xs : List Value} (h : w.ownsRow base e size v n xs) (hb : Below w.heap.size w w') : w'.ownsRow base e size v n xs := by
  refine ⟨h.1, ?_⟩
  rcases h.2 with hn | ⟨g, cap, cur, rfl, hb2, hg, rest⟩
  · exact .inl hn
  · exact .inr ⟨g, cap, cur, rfl, hb2, (hb.block g (Array.getElem?_eq_some_iff.1 hg).1).trans hg, rest⟩
theorem str_info : (Try.prog.info? 9).map (fun i => (i.zero, i.size, i.bytes)) = some (some (.string ⟨#[]⟩), 1, 16) := by kernel_rfl
theorem str_one (x : ByteArray) : ∀ u ∈ [Value.string x], u.oneCell' = true := by intro u hu; simp at hu; subst hu; rfl
/-- The row grew by one. -/
theorem own_snoc {w : World} {base : Nat} {v : Value} {l : List ByteArray} {x : ByteArray} (h : w.ownsRow base 9 1 v (l.length + 1) (l.map Value.string ++ [Value.string x])) :
    w.ownsRow base 9 1 v (l ++ [x]).length ((l ++ [x]).map Value.string) := by simpa using h
/-- What a test on an empty text reads. -/
theorem empty_yes {s : ByteArray} (h : s.size = 0) : s.toList = [] ∧ s.toList.isEmpty = true := by
  have : s.toList = [] := by rw [ByteArray.toList_eq]; exact List.eq_nil_of_length_eq_zero (by simpa using h)
  exact ⟨this, by rw [this]; rfl⟩
theorem empty_no {s : ByteArray} (h : s.size ≠ 0) : s.toList ≠ [] ∧ s.toList.isEmpty = false := by
  have : s.toList ≠ [] := by
    intro e; apply h
    have h1 : s.data.toList = [] := by rw [← ByteArray.toList_eq]; exact e
    rw [← size_list, h1]; rfl
  exact ⟨this, by cases hx : s.toList with
    | nil => exact absurd hx this
    | cons c r => rfl⟩
end Go.Proofs.Ytgnfianpjhhofaa.W
