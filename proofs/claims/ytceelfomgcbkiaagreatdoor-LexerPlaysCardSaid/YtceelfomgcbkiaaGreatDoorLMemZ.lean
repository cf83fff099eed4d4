/-
  A token, and a lexer, in memory; Same on two tokens that say the same.
-/
import Derived.Test.YtceelfomgcbkiaaGreatDoorLNextZ
import Derived.Test.YtceelfomgcbkiaaGreatDoorTSameZ
import Derived.Test.YtceelfomgcbkiaaGreatDoorGR1Z
import Derived.Test.YtceelfomgcbkiaaGreatDoorGQZ
namespace Go.Proofs.YtceelfomgcbkiaaGreatDoor
open Go.RowKit
open Go.Proofs.YtceelfomgcbkiaaGreatDoor.A (At AttrsAt rsame_any sameB_self)

/-- A token as a value. -/
def tkV (t : LTok) (a : Option Addr) (cap : Nat) : Value := .agg #[.int .i64 t.kind, .string t.name, .slice a t.attrs.length cap, .bool t.self, .string t.data]
/-- A lexer in memory, with what is left. -/
def LB (T : TypeId) (w : World) (B : Nat) (s : ByteArray) : Prop := w.heap[B]? = some (.cells #[.string s] T (0, 0))
section
variable {T : TypeId} {w w' : World} {B : Nat} {s : ByteArray}
theorem LB.lt (h : LB T w B s) : B < w.heap.size := (Array.getElem?_eq_some_iff.1 h).1
theorem LB.c (h : LB T w B s) : w.cell? ⟨B, 0, none⟩ = some (.string s) := cell_of_row w B 0 _ _ (0, 0) h
theorem LB.fz (h : LB T w B s) : w.frozen? ⟨B, 0, none⟩ = false := frozen_of_row w B 0 _ _ h
theorem LB.of (h : LB T w B s) (hg : w'.heap[B]? = w.heap[B]?) : LB T w' B s := hg.trans h
theorem LB.set (h : LB T w B s) (u : ByteArray) : LB T (w.setCell ⟨B, 0, none⟩ (.string u)) B u := heap_setCell_same w B 0 _ _ _ h
theorem LB.below (h : LB T w B s) (hb : Below w.heap.size w w') : LB T w' B s := (hb.block B h.lt).trans h
theorem LB.drewN (h : LB T w B s) (n : Nat) : LB T (w.drewN n) B s := h
theorem LB.other {C : Nat} (h : LB T w B s) (hg : w.grownBy w' (some C)) (hne : B ≠ C) : LB T w' B s := h.of (hg.block B h.lt (fun e => hne (by cases e; rfl)))
end
theorem grown_of {w w' : World} (B : Nat) (h : Below w.heap.size w w') : w.grownBy w' (some B) := ⟨h.os, h.tape, h.output, h.size, fun k hk _ => h.block k hk⟩
theorem grown_set (w : World) (R : Nat) (u : Value) : w.grownBy (w.setCell ⟨R, 0, none⟩ u) (some R) :=
  ⟨rfl, rfl, rfl, by simp, fun k _ hk => heap_setCell_other w ⟨R, 0, none⟩ k u (fun e => hk (by simp [e]))⟩
theorem grown_step {w w1 w2 : World} {B : Nat} (h : Hid (w.grownBy w1 (some B))) (h2 : Below w1.heap.size w1 w2) : Hid (w.grownBy w2 (some B)) := Lib.hid (h.out.trans (grown_of B h2))
theorem grown_below {b B : Nat} {w w1 w2 : World} (h : Below b w w1) (hg : w1.grownBy w2 (some B)) (hb : b ≤ w.heap.size) (hB : b ≤ B) : Below b w w2 :=
  h.grown hg (Nat.le_trans hb h.size) (fun k e => by cases e; exact hB)
theorem attrs_kept {w w' : World} {a : Option Addr} {l : List At} {T : TypeId} {B : Nat} {s : ByteArray} (h : AttrsAt w a l) (hB : LB T w B s) (hg : w.grownBy w' (some B)) : AttrsAt w' a l := fun hne => by
  obtain ⟨b, off, rfl, hlt, hc⟩ := h hne
  have hbB : b ≠ B := fun e => by
    subst e
    have h0 : 0 < l.length := List.length_pos_iff.2 hne
    have h2 := (hc 0 h0).2
    rw [cell_of_row w b _ _ _ (0, 0) hB] at h2
    simp at h2
  have hk : w'.heap[b]? = w.heap[b]? := hg.block b hlt (fun e => hbB (by cases e; rfl))
  exact ⟨b, off, rfl, Nat.lt_of_lt_of_le hlt hg.size, fun j hj => ⟨(World.cell?_of_block (a := ⟨b, off + j * 2, none⟩) hk).trans (hc j hj).1, (World.cell?_of_block (a := ⟨b, off + j * 2 + 1, none⟩) hk).trans (hc j hj).2⟩⟩
/-- What a method of a lexer leaves that answers with a token. -/
def RetNx (T : TypeId) (B : Nat) (r : LTok × ByteArray) (w : World) (e : Ending) (w' : World) : Prop :=
  ∃ a cap, r.1.attrs.length ≤ cap ∧ e = .returned (tkV r.1 a cap) ∧ AttrsAt w' a r.1.attrs ∧ LB T w' B r.2 ∧ w.grownBy w' (some B)
/-- What a function leaves that tells of a tag or a remark. -/
def RetMk (t : LTok) (n : Nat) (ok : Bool) (w : World) (e : Ending) (w' : World) : Prop :=
  ∃ a cap, t.attrs.length ≤ cap ∧ e = .returned (.tuple #[tkV t a cap, .int .i64 n, .bool ok]) ∧ AttrsAt w' a t.attrs ∧ Below w.heap.size w w'
theorem tok_mk {l : List UInt8} {w w' : World} {e : Ending} (h : T.RetTok (T.rdT l) w e w') : RetMk (ofT (T.rdT l)) (T.rdT l).n (T.rdT l).ok w e w' := h
theorem rem_mk {l : List UInt8} {f : Bool} {w w' : World} {e : Ending} (h : R.RetRem (R.rem l f) w e w') : RetMk (ofR (R.rem l f)) (R.rem l f).n (R.rem l f).ok w e w' :=
  ⟨none, 0, Nat.le_refl _, h.1, AttrsAt.nil _ _, h.2⟩
theorem two_below (w : World) (x y : Obj) : Below w.heap.size w ((w.alloc x).alloc y) := ((Below.refl _ _).alloc (Nat.le_refl _) _).alloc (by simp) _
end Go.Proofs.YtceelfomgcbkiaaGreatDoor
