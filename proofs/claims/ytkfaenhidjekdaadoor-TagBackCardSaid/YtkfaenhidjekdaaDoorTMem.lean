/-
  The reader of tags in memory; the walks of over, pass and spaces.
-/
import Derived.Test.YtkfaenhidjekdaaDoorTPlain
import Derived.Test.YtkfaenhidjekdaaDoorILeaf2
import Derived.Test.YtkfaenhidjekdaaDoorAMem
import Derived.Test.YtkfaenhidjekdaaDoorShelf
import Derived.Deep.LoopGhost
import Derived.Deep.QuietTactic
import Derived.BigQuiet
import Derived.Outline
import Derived.Laws.Rows
namespace Go.Proofs.YtkfaenhidjekdaaDoor.T
open Go.RowKit
open Go.Proofs.YtkfaenhidjekdaaDoor.I (spI spC leI space_any)
open Go.Proofs.YtkfaenhidjekdaaDoor.A (ret_bool ret_int)

theorem ret_str {a b : ByteArray} (h : a = b) : Ending.returned (.string a) = .returned (.string b) := by rw [h]
/-- The cells of a reader. -/
def rdC (s : ByteArray) (k : Nat) (self : Bool) (v m : Value) : Array Value := #[.string s, .int .i64 k, .bool self, v, m]
def RB (w : World) (R : Nat) (s : ByteArray) (k : Nat) (self : Bool) (v m : Value) : Prop := w.heap[R]? = some (.cells (rdC s k self v m) 39 (0, 0))
section
variable {w w' : World} {R : Nat} {s : ByteArray} {k : Nat} {self : Bool} {v m : Value}
theorem RB.lt (h : RB w R s k self v m) : R < w.heap.size := (Array.getElem?_eq_some_iff.1 h).1
theorem RB.c (h : RB w R s k self v m) (i : Nat) : w.cell? ⟨R, i, none⟩ = (rdC s k self v m)[i]? := cell_of_row w R i _ _ (0, 0) h
theorem RB.c0 (h : RB w R s k self v m) : w.cell? ⟨R, 0, none⟩ = some (.string s) := h.c 0
theorem RB.c1 (h : RB w R s k self v m) : w.cell? ⟨R, 1, none⟩ = some (.int .i64 k) := h.c 1
theorem RB.c2 (h : RB w R s k self v m) : w.cell? ⟨R, 2, none⟩ = some (.bool self) := h.c 2
theorem RB.c3 (h : RB w R s k self v m) : w.cell? ⟨R, 3, none⟩ = some v := h.c 3
theorem RB.c4 (h : RB w R s k self v m) : w.cell? ⟨R, 4, none⟩ = some m := h.c 4
theorem RB.fz (h : RB w R s k self v m) (i : Nat) : w.frozen? ⟨R, i, none⟩ = false := frozen_of_row w R i _ _ h
theorem RB.drewN (h : RB w R s k self v m) (n : Nat) : RB (w.drewN n) R s k self v m := h
theorem RB.drew (h : RB w R s k self v m) : RB w.drew R s k self v m := h
theorem RB.of (h : RB w R s k self v m) (hg : w'.heap[R]? = w.heap[R]?) : RB w' R s k self v m := hg.trans h
theorem RB.below {B : Nat} (h : RB w R s k self v m) (hb : Below B w w') (hR : R < B) : RB w' R s k self v m := (hb.block R hR).trans h
theorem RB.at_ (h : RB w R s k self v m) (k' : Nat) : RB (w.setCell ⟨R, 1, none⟩ (.int .i64 k')) R s k' self v m := heap_setCell_same w R 1 _ _ _ h
theorem RB.self_ (h : RB w R s k self v m) (b : Bool) : RB (w.setCell ⟨R, 2, none⟩ (.bool b)) R s k b v m := heap_setCell_same w R 2 _ _ _ h
theorem RB.attrs_ (h : RB w R s k self v m) (v' : Value) : RB (w.setCell ⟨R, 3, none⟩ v') R s k self v' m := heap_setCell_same w R 3 _ _ _ h
end
theorem grown_set (w : World) (R i : Nat) (u : Value) : w.grownBy (w.setCell ⟨R, i, none⟩ u) (some R) :=
  ⟨rfl, rfl, rfl, by simp, fun k _ hk => heap_setCell_other w ⟨R, i, none⟩ k u (fun e => hk (by simp [e]))⟩
theorem grown_drewN {a w : World} {row : Option Nat} (h : a.grownBy w row) (n : Nat) : a.grownBy (w.drewN n) row := ⟨h.os, h.tape, h.output, h.size, h.block⟩
/-- What a method of the reader leaves that goes on to k'. -/
def Mv (w w' : World) (R : Nat) (s : ByteArray) (k' : Nat) (self : Bool) (v m : Value) : Prop := RB w' R s k' self v m ∧ w.grownBy w' (some R)
section
variable {w w1 w2 : World} {R : Nat} {s : ByteArray} {k k' : Nat} {self : Bool} {v m : Value}
theorem Mv.start (h : RB w R s k self v m) : Mv w w R s k self v m := ⟨h, World.grownBy.refl _ _⟩
theorem Mv.drewN (h : Mv w w1 R s k self v m) (n : Nat) : Mv w (w1.drewN n) R s k self v m := ⟨h.1, grown_drewN h.2 n⟩
theorem Mv.at_ (h : Mv w w1 R s k self v m) (k' : Nat) : Mv w (w1.setCell ⟨R, 1, none⟩ (.int .i64 k')) R s k' self v m := ⟨h.1.at_ k', h.2.trans (grown_set _ _ _ _)⟩
theorem Mv.then (h : Mv w w1 R s k self v m) (h2 : Mv w1 w2 R s k' self v m) : Mv w w2 R s k' self v m := ⟨h2.1, h.2.trans h2.2⟩
end
/-! ### bytes of a text -/
def hitB (s : ByteArray) (k : Nat) (c : UInt8) : Bool := s.data.toList[k]? == some c
theorem hitB_lt {s : ByteArray} {k : Nat} {c : UInt8} (h : k < s.size) : hitB s k c = (((s[k].toNat : Nat) : Int) == ((c.toNat : Nat) : Int)) := by
  unfold hitB
  rw [C.get_at s k h, Bool.eq_iff_iff, beq_iff_eq, beq_iff_eq]
  constructor
  · intro e; injection e with e; rw [e]
  · intro e; rw [UInt8.toNat_inj.1 (by omega : s[k].toNat = c.toNat)]
theorem hitB_end {s : ByteArray} {k : Nat} {c : UInt8} (h : s.size ≤ k) : hitB s k c = false := by
  unfold hitB
  rw [List.getElem?_eq_none (by rw [C.size_list]; exact h)]; rfl

section
variable {R : Nat} {s : ByteArray} {k : Nat} {self : Bool} {v m : Value}
theorem over_yes (w : World) (h : RB w R s k self v m) (hs : k = s.size) : Calls Tryd.prog 34 #[.pointer (some ⟨R, 0, none⟩)] w fun e w' => e = .returned (.bool true) ∧ ∃ n, w' = w.drewN n := by
  have h0 := h.c0
  have h1 := h.c1
  have hd : ((k : Int) == (s.size : Int)) = true := by simp [hs]
  clear h hs
  go_enter Tryd.func34, Tryd.ntmps34
  go_wp2
  go_quiet (fail)
  go_wp2
  go_ret
  exact ⟨rfl, _, rfl⟩
theorem over_no (w : World) (h : RB w R s k self v m) (hs : k < s.size) : Calls Tryd.prog 34 #[.pointer (some ⟨R, 0, none⟩)] w fun e w' => e = .returned (.bool false) ∧ ∃ n, w' = w.drewN n := by
  have h0 := h.c0
  have h1 := h.c1
  have hd : ((k : Int) == (s.size : Int)) = false := by simp; omega
  clear h hs
  go_enter Tryd.func34, Tryd.ntmps34
  go_wp2
  go_quiet (fail)
  go_wp2
  go_ret
  exact ⟨rfl, _, rfl⟩
set_option maxHeartbeats 800000 in
theorem pass_any (c : UInt8) (w : World) (h : RB w R s k self v m) (hk : k ≤ s.size) (hs : s.size ≤ 1000000) : Calls Tryd.prog 37 #[.pointer (some ⟨R, 0, none⟩), .int .u8 (c.toNat : Int)] w fun e w' => e = .returned (.bool (hitB s k c)) ∧ Mv w w' R s (if hitB s k c = true then k + 1 else k) self v m := by
  have h0 := h.c0
  have h1 := h.c1
  have hf := h.fz 1
  have H := Lib.hid h
  clear h
  by_cases hlt : k < s.size
  · have HO := Lib.hid (fun n => over_no (w.drewN n) (H.out.drewN n) hlt)
    have hb := hitB_lt (c := c) hlt
    have hi0 : (0 : Int) ≤ (k : Int) := by omega
    have hi1 : (k : Int) < (s.size : Int) := by omega
    have hc := c.toNat_lt
    have hc2 := s[k].toNat_lt
    generalize hitB s k c = q at *
    cases q with
    | true =>
      have e1 : (((s[k].toNat : Nat) : Int) == ((c.toNat : Nat) : Int)) = true := hb.symm
      have e2 : (((s[k].toNat : Nat) : Int) != ((c.toNat : Nat) : Int)) = false := by rw [bne, e1]; rfl
      clear hb
      go_enter Tryd.func37, Tryd.ntmps37
      go_wp2
      go_quiet ((go_at_call 34; exact Calls.quiet_of (HO.out _)))
      go_wp2
      go_ret
      exact ⟨rfl, ((Mv.start H.out).drewN _).at_ (k + 1)⟩
    | false =>
      have e1 : (((s[k].toNat : Nat) : Int) == ((c.toNat : Nat) : Int)) = false := hb.symm
      have e2 : (((s[k].toNat : Nat) : Int) != ((c.toNat : Nat) : Int)) = true := by rw [bne, e1]; rfl
      clear hb
      go_enter Tryd.func37, Tryd.ntmps37
      go_wp2
      go_quiet ((go_at_call 34; exact Calls.quiet_of (HO.out _)))
      go_wp2
      go_ret
      exact ⟨rfl, (Mv.start H.out).drewN _⟩
  · have HO := Lib.hid (fun n => over_yes (w.drewN n) (H.out.drewN n) (by omega))
    have hb := hitB_end (c := c) (by omega : s.size ≤ k)
    rw [hb]
    clear hb
    go_enter Tryd.func37, Tryd.ntmps37
    go_wp2
    go_quiet ((go_at_call 34; exact Calls.quiet_of (HO.out _)))
    go_wp2
    go_ret
    exact ⟨rfl, (Mv.start H.out).drewN _⟩
end
end Go.Proofs.YtkfaenhidjekdaaDoor.T
