/-
  Several texts in one: TMem TUp TValue TAttr.
-/
import Derived.Test.YtceelfomgcbkiaaGreatDoorTPlainZ
import Derived.Test.YtceelfomgcbkiaaGreatDoorGIZ
import Derived.Test.YtceelfomgcbkiaaGreatDoorGAZ
import Derived.Test.YtceelfomgcbkiaaGreatDoorShelfZ
import Derived.Deep.LoopGhost
import Derived.Deep.QuietTactic
import Derived.BigQuiet
import Derived.Outline
import Derived.Laws.Rows
import Derived.Test.YtceelfomgcbkiaaGreatDoorGCZ
import Derived.StillTailTactics
import Derived.Deep.RegionLaw
import Derived.Maps.OwnSet
import Derived.Maps.Views
import Derived.StringKeys
/-
  The reader of tags in memory; the walks of over, pass and spaces.
-/
namespace Go.Proofs.YtceelfomgcbkiaaGreatDoor.T
open Go.RowKit
open Go.Proofs.YtceelfomgcbkiaaGreatDoor.I (spI spC leI space_any)
open Go.Proofs.YtceelfomgcbkiaaGreatDoor.A (ret_bool ret_int)

theorem ret_str {a b : ByteArray} (h : a = b) : Ending.returned (.string a) = .returned (.string b) := by rw [h]
/-- The cells of a reader. -/
def rdC (s : ByteArray) (k : Nat) (self : Bool) (v m : Value) : Array Value := #[.string s, .int .i64 k, .bool self, v, m]
def RB (w : World) (R : Nat) (s : ByteArray) (k : Nat) (self : Bool) (v m : Value) : Prop := w.heap[R]? = some (.cells (rdC s k self v m) 76 (0, 0))
section
variable {w w' : World} {R : Nat} {s : ByteArray} {k : Nat} {self : Bool} {v m : Value}
theorem RB.lt (h : RB w R s k self v m) : R < w.heap.size := (Array.getElem?_eq_some_iff.1 h).1
theorem RB.c (h : RB w R s k self v m) (i : Nat) : w.cell? ⟨R, i, none⟩ = (rdC s k self v m)[i]? := cell_of_row w R i _ _ (0, 0) h
theorem RB.c0 (h : RB w R s k self v m) : w.cell? ⟨R, 0, none⟩ = some (.string s) := h.c 0
theorem RB.c1 (h : RB w R s k self v m) : w.cell? ⟨R, 1, none⟩ = some (.int .i64 k) := h.c 1
theorem RB.c2 (h : RB w R s k self v m) : w.cell? ⟨R, 2, none⟩ = some (.bool self) := h.c 2
theorem RB.c3 (h : RB w R s k self v m) : w.cell? ⟨R, 3, none⟩ = some v := h.c 3
theorem RB.c4 (h : RB w R s k self v m) : w.cell? ⟨R, 4, none⟩ = some m := h.c 4
theorem RB.fz (h : RB w R s k self v m) (i : Nat) : w.frozen? ⟨R, i, none⟩ = false := frozen_of_row w R i _ _ h
theorem RB.drewN (h : RB w R s k self v m) (n : Nat) : RB (w.drewN n) R s k self v m := h
theorem RB.drew (h : RB w R s k self v m) : RB w.drew R s k self v m := h
theorem RB.of (h : RB w R s k self v m) (hg : w'.heap[R]? = w.heap[R]?) : RB w' R s k self v m := hg.trans h
theorem RB.below {B : Nat} (h : RB w R s k self v m) (hb : Below B w w') (hR : R < B) : RB w' R s k self v m := (hb.block R hR).trans h
theorem RB.at_ (h : RB w R s k self v m) (k' : Nat) : RB (w.setCell ⟨R, 1, none⟩ (.int .i64 k')) R s k' self v m := heap_setCell_same w R 1 _ _ _ h
theorem RB.self_ (h : RB w R s k self v m) (b : Bool) : RB (w.setCell ⟨R, 2, none⟩ (.bool b)) R s k b v m := heap_setCell_same w R 2 _ _ _ h
theorem RB.attrs_ (h : RB w R s k self v m) (v' : Value) : RB (w.setCell ⟨R, 3, none⟩ v') R s k self v' m := heap_setCell_same w R 3 _ _ _ h
end
theorem grown_set (w : World) (R i : Nat) (u : Value) : w.grownBy (w.setCell ⟨R, i, none⟩ u) (some R) :=
  ⟨rfl, rfl, rfl, by simp, fun k _ hk => heap_setCell_other w ⟨R, i, none⟩ k u (fun e => hk (by simp [e]))⟩
theorem grown_drewN {a w : World} {row : Option Nat} (h : a.grownBy w row) (n : Nat) : a.grownBy (w.drewN n) row := ⟨h.os, h.tape, h.output, h.size, h.block⟩
/-- What a method of the reader leaves that goes on to k'. -/
def Mv (w w' : World) (R : Nat) (s : ByteArray) (k' : Nat) (self : Bool) (v m : Value) : Prop := RB w' R s k' self v m ∧ w.grownBy w' (some R)
section
variable {w w1 w2 : World} {R : Nat} {s : ByteArray} {k k' : Nat} {self : Bool} {v m : Value}
theorem Mv.start (h : RB w R s k self v m) : Mv w w R s k self v m := ⟨h, World.grownBy.refl _ _⟩
theorem Mv.drewN (h : Mv w w1 R s k self v m) (n : Nat) : Mv w (w1.drewN n) R s k self v m := ⟨h.1, grown_drewN h.2 n⟩
theorem Mv.at_ (h : Mv w w1 R s k self v m) (k' : Nat) : Mv w (w1.setCell ⟨R, 1, none⟩ (.int .i64 k')) R s k' self v m := ⟨h.1.at_ k', h.2.trans (grown_set _ _ _ _)⟩
theorem Mv.then (h : Mv w w1 R s k self v m) (h2 : Mv w1 w2 R s k' self v m) : Mv w w2 R s k' self v m := ⟨h2.1, h.2.trans h2.2⟩
end
/-! ### bytes of a text -/
def hitB (s : ByteArray) (k : Nat) (c : UInt8) : Bool := s.data.toList[k]? == some c
theorem hitB_lt {s : ByteArray} {k : Nat} {c : UInt8} (h : k < s.size) : hitB s k c = (((s[k].toNat : Nat) : Int) == ((c.toNat : Nat) : Int)) := by
  unfold hitB
  rw [C.get_at s k h, Bool.eq_iff_iff, beq_iff_eq, beq_iff_eq]
  constructor
  · intro e; injection e with e; rw [e]
  · intro e; rw [UInt8.toNat_inj.1 (by omega : s[k].toNat = c.toNat)]
theorem hitB_end {s : ByteArray} {k : Nat} {c : UInt8} (h : s.size ≤ k) : hitB s k c = false := by
  unfold hitB
  rw [List.getElem?_eq_none (by rw [C.size_list]; exact h)]; rfl

section
variable {R : Nat} {s : ByteArray} {k : Nat} {self : Bool} {v m : Value}
theorem over_yes (w : World) (h : RB w R s k self v m) (hs : k = s.size) : Calls Tryz.prog 77 #[.pointer (some ⟨R, 0, none⟩)] w fun e w' => e = .returned (.bool true) ∧ ∃ n, w' = w.drewN n := by
  have h0 := h.c0
  have h1 := h.c1
  have hd : ((k : Int) == (s.size : Int)) = true := by simp [hs]
  clear h hs
  go_enter Tryz.func77, Tryz.ntmps77
  go_wp2
  go_quiet (fail)
  go_wp2
  go_ret
  exact ⟨rfl, _, rfl⟩
theorem over_no (w : World) (h : RB w R s k self v m) (hs : k < s.size) : Calls Tryz.prog 77 #[.pointer (some ⟨R, 0, none⟩)] w fun e w' => e = .returned (.bool false) ∧ ∃ n, w' = w.drewN n := by
  have h0 := h.c0
  have h1 := h.c1
  have hd : ((k : Int) == (s.size : Int)) = false := by simp; omega
  clear h hs
  go_enter Tryz.func77, Tryz.ntmps77
  go_wp2
  go_quiet (fail)
  go_wp2
  go_ret
  exact ⟨rfl, _, rfl⟩
set_option maxHeartbeats 800000 in
theorem pass_any (c : UInt8) (w : World) (h : RB w R s k self v m) (hk : k ≤ s.size) (hs : s.size ≤ 1000000) : Calls Tryz.prog 80 #[.pointer (some ⟨R, 0, none⟩), .int .u8 (c.toNat : Int)] w fun e w' => e = .returned (.bool (hitB s k c)) ∧ Mv w w' R s (if hitB s k c = true then k + 1 else k) self v m := by
  have h0 := h.c0
  have h1 := h.c1
  have hf := h.fz 1
  have H := Lib.hid h
  clear h
  by_cases hlt : k < s.size
  · have HO := Lib.hid (fun n => over_no (w.drewN n) (H.out.drewN n) hlt)
    have hb := hitB_lt (c := c) hlt
    have hi0 : (0 : Int) ≤ (k : Int) := by omega
    have hi1 : (k : Int) < (s.size : Int) := by omega
    have hc := c.toNat_lt
    have hc2 := s[k].toNat_lt
    generalize hitB s k c = q at *
    cases q with
    | true =>
      have e1 : (((s[k].toNat : Nat) : Int) == ((c.toNat : Nat) : Int)) = true := hb.symm
      have e2 : (((s[k].toNat : Nat) : Int) != ((c.toNat : Nat) : Int)) = false := by rw [bne, e1]; rfl
      clear hb
      go_enter Tryz.func80, Tryz.ntmps80
      go_wp2
      go_quiet ((go_at_call 77; exact Calls.quiet_of (HO.out _)))
      go_wp2
      go_ret
      exact ⟨rfl, ((Mv.start H.out).drewN _).at_ (k + 1)⟩
    | false =>
      have e1 : (((s[k].toNat : Nat) : Int) == ((c.toNat : Nat) : Int)) = false := hb.symm
      have e2 : (((s[k].toNat : Nat) : Int) != ((c.toNat : Nat) : Int)) = true := by rw [bne, e1]; rfl
      clear hb
      go_enter Tryz.func80, Tryz.ntmps80
      go_wp2
      go_quiet ((go_at_call 77; exact Calls.quiet_of (HO.out _)))
      go_wp2
      go_ret
      exact ⟨rfl, (Mv.start H.out).drewN _⟩
  · have HO := Lib.hid (fun n => over_yes (w.drewN n) (H.out.drewN n) (by omega))
    have hb := hitB_end (c := c) (by omega : s.size ≤ k)
    rw [hb]
    clear hb
    go_enter Tryz.func80, Tryz.ntmps80
    go_wp2
    go_quiet ((go_at_call 77; exact Calls.quiet_of (HO.out _)))
    go_wp2
    go_ret
    exact ⟨rfl, (Mv.start H.out).drewN _⟩
end
end Go.Proofs.YtceelfomgcbkiaaGreatDoor.T

/-
  The walks of spaces and upTo.
-/
namespace Go.Proofs.YtceelfomgcbkiaaGreatDoor.T
open Go.RowKit
open Go.Proofs.YtceelfomgcbkiaaGreatDoor.I (spI spC leI space_any)
open Go.Proofs.YtceelfomgcbkiaaGreatDoor.A (ret_bool ret_int)

theorem quiet_left {P : Program} {f : FuncId} {args : Array Value} {w : World} {n : Nat} {v : Value}
    (h : Calls P f args (w.drewN n) fun e w' => e = .returned v ∧ w.drewN n = w') : Calls P f args (w.drewN n) fun e w'' => e = .returned v ∧ ∃ m, w'' = w.drewN m :=
  h.mono fun _ _ ⟨he, hm⟩ => ⟨he, n, hm.symm⟩
theorem quiet_same {P : Program} {f : FuncId} {args : Array Value} {w : World} {n : Nat} {v : Value}
    (h : Calls P f args (w.drewN n) fun e w' => e = .returned v ∧ w' = w.drewN n) : Calls P f args (w.drewN n) fun e w'' => e = .returned v ∧ ∃ m, w'' = w.drewN m :=
  h.mono fun _ _ ⟨he, hm⟩ => ⟨he, n, hm⟩
theorem get_of (s : ByteArray) (k : Nat) (_h : k < s.size) (h2 : k < s.data.toList.length) : s.data.toList[k] = s[k] := rfl

section
variable {R : Nat} {s : ByteArray} {k : Nat} {self : Bool} {v m : Value}
set_option maxHeartbeats 800000 in
theorem spaces_any (w : World) (h : RB w R s k self v m) (hk : k ≤ s.size) (hs : s.size ≤ 1000000) : Calls Tryz.prog 79 #[.pointer (some ⟨R, 0, none⟩)] w fun e w' => e = .returned (.tuple #[]) ∧ Mv w w' R s (skp s.data.toList k) self v m := by
  have H := Lib.hid h
  clear h
  go_enter Tryz.func79, Tryz.ntmps79
  go_wp2
  go_loopg [] (s.size - k) (fun g wr => ∃ k', g = s.size - k' ∧ k' ≤ s.size ∧ skp s.data.toList k = skp s.data.toList k' ∧ Mv w wr R s k' self v m)
  case atStart => exact ⟨k, rfl, hk, rfl, Mv.start H.out⟩
  case round =>
    obtain ⟨j, hg, hj, hh, hmv⟩ := hrel
    have HM := Lib.hid hmv
    have HH := Lib.hid hh
    have HG := Lib.hid hg
    clear hh hg
    have h0 := hmv.1.c0
    have h1 := hmv.1.c1
    have hf := hmv.1.fz 1
    clear hmv
    by_cases hlt : j < s.size
    · have HO := Lib.hid (fun n => over_no (wr.drewN n) (HM.out.1.drewN n) hlt)
      have hi0 : (0 : Int) ≤ (j : Int) := by omega
      have hi1 : (j : Int) < (s.size : Int) := by omega
      have hc2 := s[j].toNat_lt
      have HSp := Lib.hid (fun W => space_any (s[j].toNat : Int) W (by omega) (by omega))
      have hll : j < s.data.toList.length := by rw [C.size_list]; exact hlt
      by_cases hq : spC s[j] = true
      · have HF := Lib.hid (run_yes hll hq)
        have e1 : spI (s[j].toNat : Int) = true := hq
        rw [e1] at HSp
        clear hq e1 hll
        go_wp2
        go_quiet ((first | (go_at_call 77; exact Calls.quiet_of (HO.out _)) | (go_at_call 78; exact quiet_left (HSp.out _))))
        go_wp2
        go_roundg (s.size - (j + 1))
        case rel => exact ⟨j + 1, rfl, by omega, by rw [HH.out]; exact HF.out, (HM.out.drewN _).at_ (j + 1)⟩
        case measure => have := HG.out; omega
      · have hq2 : spC s[j] = false := by simpa using hq
        have HF := Lib.hid (run_no hll hq2)
        have e1 : spI (s[j].toNat : Int) = false := hq2
        rw [e1] at HSp
        clear hq hq2 e1 hll
        go_wp2
        go_quiet ((first | (go_at_call 77; exact Calls.quiet_of (HO.out _)) | (go_at_call 78; exact quiet_left (HSp.out _))))
        go_wp2
        go_end0
        exact ⟨rfl, by rw [HH.out]; show Mv w _ R s (run spC s.data.toList j) self v m; rw [HF.out]; exact HM.out.drewN _⟩
    · have HO := Lib.hid (fun n => over_yes (wr.drewN n) (HM.out.1.drewN n) (by omega))
      have HF := Lib.hid (run_end spC s.data.toList j (by rw [C.size_list]; omega))
      go_wp2
      go_quiet ((go_at_call 77; exact Calls.quiet_of (HO.out _)))
      go_wp2
      go_end0
      exact ⟨rfl, by rw [HH.out]; show Mv w _ R s (run spC s.data.toList j) self v m; rw [HF.out]; exact HM.out.drewN _⟩

/-- What goes on up to a Space, or a byte of ends. -/
def upP (ends : List UInt8) (c : UInt8) : Bool := !spC c && decide (Lib.indexByte ends c < 0)
theorem byte_back (c : UInt8) : ((c.toNat : Int)).toNat.toUInt8 = c := by
  rw [Int.toNat_natCast]; exact UInt8.ofNat_toNat
set_option maxHeartbeats 1600000 in
theorem upTo_any (ends : ByteArray) (w : World) (h : RB w R s k self v m) (hk : k ≤ s.size) (hs : s.size ≤ 1000000) : Calls Tryz.prog 42 #[.pointer (some ⟨R, 0, none⟩), .string ends] w fun e w' => e = .returned (.string (cut s.data.toList k (run (upP ends.data.toList) s.data.toList k))) ∧ Mv w w' R s (run (upP ends.data.toList) s.data.toList k) self v m := by
  have H := Lib.hid h
  have h1 := h.c1
  clear h
  have hrl := run_le (upP ends.data.toList) s.data.toList k (by rw [C.size_list]; exact hk)
  have hrg := run_ge (upP ends.data.toList) s.data.toList k
  rw [C.size_list] at hrl
  rw [cut_of]
  have HE := Lib.hid (fun j => run_end (upP ends.data.toList) s.data.toList j)
  have HY : Hid (∀ j (hl : j < s.size), upP ends.data.toList s[j] = true → run (upP ends.data.toList) s.data.toList j = run (upP ends.data.toList) s.data.toList (j + 1)) := Lib.hid (fun j hl hp => run_yes (by rw [C.size_list]; exact hl) hp)
  have HN : Hid (∀ j (hl : j < s.size), upP ends.data.toList s[j] = false → run (upP ends.data.toList) s.data.toList j = j) := Lib.hid (fun j hl hp => run_no (by rw [C.size_list]; exact hl) hp)
  obtain ⟨r, hr⟩ : ∃ r : Nat → Nat, r = run (upP ends.data.toList) s.data.toList := ⟨_, rfl⟩
  rw [← hr] at hrl hrg HE HY HN ⊢
  clear hr
  go_enter Tryz.func42, Tryz.ntmps42
  go_wp2
  clear h1
  go_loopg [] (s.size - k) (fun g wr => ∃ j, g = s.size - j ∧ k ≤ j ∧ j ≤ s.size ∧ r k = r j ∧ Mv w wr R s j self v m)
  case atStart => exact ⟨k, rfl, Nat.le_refl _, hk, rfl, Mv.start H.out⟩
  case round =>
    obtain ⟨j, hg, hkj, hj, hh, hmv⟩ := hrel
    have HM := Lib.hid hmv
    have HH := Lib.hid hh
    have HG := Lib.hid hg
    clear hh hg
    have h0 := hmv.1.c0
    have h1 := hmv.1.c1
    have hf := hmv.1.fz 1
    clear hmv
    have hi0 : (0 : Int) ≤ (j : Int) := by omega
    have hk0 : (0 : Int) ≤ (k : Int) := by omega
    have hk1 : (k : Int) ≤ (j : Int) := by omega
    have hj1 : (j : Int) ≤ (s.size : Int) := by omega
    by_cases hlt : j < s.size
    · have HO := Lib.hid (fun n => over_no (wr.drewN n) (HM.out.1.drewN n) hlt)
      have hi1 : (j : Int) < (s.size : Int) := by omega
      have hc2 := s[j].toNat_lt
      have HSp := Lib.hid (fun W => space_any (s[j].toNat : Int) W (by omega) (by omega))
      have HIx := Lib.hid (fun W => Tryz.strings_IndexByte ends (s[j].toNat : Int) W)
      rw [byte_back] at HIx
      have HYj := Lib.hid (HY.out j hlt)
      have HNj := Lib.hid (HN.out j hlt)
      by_cases hq : spC s[j] = true
      · have e1 : spI (s[j].toNat : Int) = true := hq
        have HF := Lib.hid (HNj.out (by unfold upP; rw [hq]; rfl))
        rw [e1] at HSp
        clear hq e1 HYj HNj HIx
        have HR : Hid (r k = j) := Lib.hid (by rw [HH.out, HF.out])
        go_wp2
        go_quiet ((first | (go_at_call 77; exact Calls.quiet_of (HO.out _)) | (go_at_call 78; exact quiet_left (HSp.out _))))
        have HM2 := Lib.hid (HM.out.drewN nq)
        have k0 := HM2.out.1.c0
        have k1 := HM2.out.1.c1
        clear h0 h1 hf HO
        generalize wr.drewN nq = wq at *
        go_wp2
        go_quiet (fail)
        go_wp2
        go_ret
        exact ⟨ret_str (by rw [HR.out]), by rw [HR.out]; exact HM2.out.drewN _⟩
      · have hq2 : spC s[j] = false := by simpa using hq
        have e1 : spI (s[j].toNat : Int) = false := hq2
        rw [e1] at HSp
        have hu : upP ends.data.toList s[j] = decide (Lib.indexByte ends.data.toList s[j] < 0) := by unfold upP; rw [hq2]; rfl
        rw [hu] at HYj HNj
        clear hq hq2 e1 hu
        generalize Lib.indexByte ends.data.toList s[j] = q at *
        by_cases hq : q < 0
        · have HF : Hid (r j = r (j + 1)) := Lib.hid (HYj.out (decide_eq_true hq))
          clear HYj HNj
          go_wp2
          go_quiet ((first | (go_at_call 77; exact Calls.quiet_of (HO.out _)) | (go_at_call 78; exact quiet_left (HSp.out _)) | (go_at_call 33; exact quiet_same (HIx.out _))))
          go_wp2
          go_roundg (s.size - (j + 1))
          case rel => exact ⟨j + 1, rfl, by omega, by omega, by rw [HH.out]; exact HF.out, (HM.out.drewN _).at_ (j + 1)⟩
          case measure => have := HG.out; omega
        · have HF : Hid (r j = j) := Lib.hid (HNj.out (decide_eq_false hq))
          clear HYj HNj
          have HR : Hid (r k = j) := Lib.hid (by rw [HH.out, HF.out])
          go_wp2
          go_quiet ((first | (go_at_call 77; exact Calls.quiet_of (HO.out _)) | (go_at_call 78; exact quiet_left (HSp.out _)) | (go_at_call 33; exact quiet_same (HIx.out _))))
          have HM2 := Lib.hid (HM.out.drewN nq)
          have k0 := HM2.out.1.c0
          have k1 := HM2.out.1.c1
          clear h0 h1 hf HO
          generalize wr.drewN nq = wq at *
          go_wp2
          go_quiet (fail)
          go_wp2
          go_ret
          exact ⟨ret_str (by rw [HR.out]), by rw [HR.out]; exact HM2.out.drewN _⟩
    · have HO := Lib.hid (fun n => over_yes (wr.drewN n) (HM.out.1.drewN n) (by omega))
      have HF := Lib.hid (HE.out j (by rw [C.size_list]; omega))
      have HR : Hid (r k = j) := Lib.hid (by rw [HH.out, HF.out])
      go_wp2
      go_quiet ((go_at_call 77; exact Calls.quiet_of (HO.out _)))
      have HM2 := Lib.hid (HM.out.drewN nq)
      have k0 := HM2.out.1.c0
      have k1 := HM2.out.1.c1
      clear h0 h1 hf HO
      generalize wr.drewN nq = wq at *
      go_wp2
      go_quiet (fail)
      go_wp2
      go_ret
      exact ⟨ret_str (by rw [HR.out]), by rw [HR.out]; exact HM2.out.drewN _⟩
end
end Go.Proofs.YtceelfomgcbkiaaGreatDoor.T

/-
  The walks of quoted and value.
-/
namespace Go.Proofs.YtceelfomgcbkiaaGreatDoor.T
open Go.RowKit
open Go.Proofs.YtceelfomgcbkiaaGreatDoor.I (spC)
open Go.Proofs.YtceelfomgcbkiaaGreatDoor.A (ret_bool ret_int)

theorem ix_run (q : UInt8) : ∀ l : List UInt8, Lib.indexByte l q = if (l.takeWhile (· != q)).length < l.length then ((l.takeWhile (· != q)).length : Int) else -1
  | [] => rfl
  | c :: l => by
    have ih := ix_run q l
    unfold Lib.indexByte
    rw [List.takeWhile_cons]
    by_cases e : c = q
    · subst e
      simp
    · have e1 : (c == q) = false := by simpa using e
      have e2 : (c != q) = true := by simp [e]
      rw [e1, e2, ih]
      have := tw_len (· != q) l
      by_cases h : (l.takeWhile (· != q)).length < l.length
      · have hne : ((((l.takeWhile (· != q)).length : Nat) : Int) == -1) = false := by simp
        rw [if_pos h, hne]
        simp [h]
      · rw [if_neg h]
        simp [h]
theorem ix_drop (q : UInt8) (l : List UInt8) (k : Nat) (hk : k ≤ l.length) : Lib.indexByte (l.drop k) q = if run (· != q) l k < l.length then ((run (· != q) l k - k : Nat) : Int) else -1 := by
  rw [ix_run, List.length_drop]
  have h1 : run (· != q) l k = k + ((l.drop k).takeWhile (· != q)).length := rfl
  rw [h1]
  by_cases h : k + ((l.drop k).takeWhile (· != q)).length < l.length
  · rw [if_pos h, if_pos (by omega)]; congr 1; omega
  · rw [if_neg h, if_neg (by omega)]

section
variable {R : Nat} {s : ByteArray} {k : Nat} {self : Bool} {v m : Value}
set_option maxHeartbeats 800000 in
theorem quoted_hit (q : UInt8) (w : World) (h : RB w R s k self v m) (hk : k ≤ s.size) (hs : s.size ≤ 1000000) (hq : run (· != q) s.data.toList k < s.size) :
    Calls Tryz.prog 115 #[.pointer (some ⟨R, 0, none⟩), .int .u8 (q.toNat : Int)] w fun e w' => e = .returned (.string (cut s.data.toList k (run (· != q) s.data.toList k))) ∧ Mv w w' R s (run (· != q) s.data.toList k + 1) self v m := by
  have H := Lib.hid h
  have h0 := h.c0
  have h1 := h.c1
  have hf := h.fz 1
  clear h
  have HIx := Lib.hid (fun W => Tryz.strings_IndexByte (s.extract k s.size) (q.toNat : Int) W)
  have hg := run_ge (· != q) s.data.toList k
  have hx := ix_drop q s.data.toList k (by rw [C.size_list]; exact hk)
  rw [if_pos (by rw [C.size_list]; exact hq)] at hx
  rw [byte_back, C.ext_tail, hx] at HIx
  rw [cut_of]
  generalize run (· != q) s.data.toList k = j at *
  have hj : ((j - k : Nat) : Int) = (j : Int) - (k : Int) := by omega
  rw [hj] at HIx
  clear hx hj
  have hk0 : (0 : Int) ≤ (k : Int) := by omega
  have hk1 : (k : Int) ≤ (s.size : Int) := by omega
  have hj0 : (k : Int) ≤ (j : Int) := by omega
  have hj1 : (j : Int) < (s.size : Int) := by omega
  go_enter Tryz.func115, Tryz.ntmps115
  go_wp2_with (go_at_call 33; refine (HIx.out _).mono ?_; rintro e w' ⟨rfl, rfl⟩)
  go_ret
  refine ⟨ret_str (by rw [show k + (j - k) = j by omega]), ?_⟩
  rw [show (k : Int) + ((j : Int) - (k : Int)) + 1 = ((j + 1 : Nat) : Int) by omega]
  exact (Mv.start H.out).at_ (j + 1)
set_option maxHeartbeats 800000 in
theorem quoted_miss (q : UInt8) (w : World) (h : RB w R s k self v m) (hk : k ≤ s.size) (_hs : s.size ≤ 1000000) (hq : ¬ run (· != q) s.data.toList k < s.size) :
    Calls Tryz.prog 115 #[.pointer (some ⟨R, 0, none⟩), .int .u8 (q.toNat : Int)] w fun e w' => e = .returned (.string (s.extract k s.size)) ∧ Mv w w' R s s.size self v m := by
  have H := Lib.hid h
  have h0 := h.c0
  have h1 := h.c1
  have hf := h.fz 1
  clear h
  have HIx := Lib.hid (fun W => Tryz.strings_IndexByte (s.extract k s.size) (q.toNat : Int) W)
  have hx := ix_drop q s.data.toList k (by rw [C.size_list]; exact hk)
  rw [if_neg (by rw [C.size_list]; exact hq)] at hx
  rw [byte_back, C.ext_tail, hx] at HIx
  clear hx hq
  have hk0 : (0 : Int) ≤ (k : Int) := by omega
  have hk1 : (k : Int) ≤ (s.size : Int) := by omega
  go_enter Tryz.func115, Tryz.ntmps115
  go_wp2_with (go_at_call 33; refine (HIx.out _).mono ?_; rintro e w' ⟨rfl, rfl⟩)
  go_ret
  exact ⟨rfl, (Mv.start H.out).at_ s.size⟩

/-- What value hands back, and where it goes to, from behind an attribute's name. -/
def ValOf (s : ByteArray) (k : Nat) (t : ByteArray) (n : Nat) : Prop :=
  if s.data.toList[skp s.data.toList k]? = some 61 then (match valG s.data.toList (skp s.data.toList (skp s.data.toList k + 1)) with | some r => t = r.1 ∧ n = r.2 | none => n = s.size ∧ t.size ≤ s.size)
  else t = ByteArray.empty ∧ n = skp s.data.toList k
def RetValue (w : World) (R : Nat) (s : ByteArray) (k : Nat) (self : Bool) (v m : Value) (e : Ending) (w' : World) : Prop :=
  ∃ t n, e = .returned (.string t) ∧ ValOf s k t n ∧ Mv w w' R s n self v m
theorem valG_quote {l : List UInt8} {i : Nat} {q : UInt8} (h : l[i]? = some q) (hq : q = 34 ∨ q = 39) : valG l i = if run (· != q) l (i + 1) < l.length then some (cut l (i + 1) (run (· != q) l (i + 1)), run (· != q) l (i + 1) + 1) else none := by
  obtain ⟨hi, e⟩ := List.getElem?_eq_some_iff.1 h
  unfold valG
  rw [dif_pos hi, if_pos (by rw [e]; exact hq), e]
theorem valG_bare {l : List UInt8} {i : Nat} (hi : i < l.length) (h1 : l[i]? ≠ some 34) (h2 : l[i]? ≠ some 39) : valG l i = some (cut l i (run stopV l i), run stopV l i) := by
  unfold valG
  rw [List.getElem?_eq_getElem hi] at h1 h2
  rw [dif_pos hi, if_neg (fun h => by rcases h with h | h <;> rw [h] at h1 h2 <;> simp at h1 h2)]
theorem valG_over {l : List UInt8} {i : Nat} (hi : ¬ i < l.length) : valG l i = none := by unfold valG; rw [dif_neg hi]
theorem hitB_iff {s : ByteArray} {k : Nat} {c : UInt8} : hitB s k c = true ↔ s.data.toList[k]? = some c := by unfold hitB; rw [beq_iff_eq]
theorem hitB_no {s : ByteArray} {k : Nat} {c : UInt8} : hitB s k c = false ↔ s.data.toList[k]? ≠ some c := by rw [← Bool.not_eq_true, hitB_iff]
theorem hit_lt {s : ByteArray} {k : Nat} {c : UInt8} (h : hitB s k c = true) : k < s.size := by
  have := (List.getElem?_eq_some_iff.1 (hitB_iff.1 h)).1
  rw [C.size_list] at this; exact this
theorem up_gt : upP [62] = stopV := by
  funext c
  unfold upP stopV
  congr 1
  unfold Lib.indexByte Lib.indexByte
  by_cases h : c = 62
  · subst h; rfl
  · have h1 : ((62 : UInt8) == c) = false := by simpa using (fun e => h e.symm)
    have h2 : (c != 62) = true := by simpa using h
    rw [h1, h2]; rfl

set_option maxHeartbeats 1600000 in
theorem value_any (w : World) (h : RB w R s k self v m) (hk : k ≤ s.size) (hs : s.size ≤ 1000000) : Calls Tryz.prog 103 #[.pointer (some ⟨R, 0, none⟩)] w (RetValue w R s k self v m) := by
  have HS := Lib.hid (spaces_any w h hk hs)
  clear h
  have hk2 := run_le spC s.data.toList k (by rw [C.size_list]; exact hk)
  rw [C.size_list] at hk2
  obtain ⟨k2, e2⟩ : ∃ k2, k2 = skp s.data.toList k := ⟨_, rfl⟩
  rw [← e2] at HS
  have hk2' : k2 ≤ s.size := by rw [e2]; exact hk2
  have HV : Hid (∀ t n, (if s.data.toList[k2]? = some 61 then (match valG s.data.toList (skp s.data.toList (k2 + 1)) with | some r => t = r.1 ∧ n = r.2 | none => n = s.size ∧ t.size ≤ s.size) else t = ByteArray.empty ∧ n = k2) → ValOf s k t n) := Lib.hid (fun t n h => by unfold ValOf; rw [← e2]; exact h)
  clear e2 hk2
  go_enter Tryz.func103, Tryz.ntmps103
  go_wp2_with fail
  refine HS.out.mono ?_
  rintro e w1 ⟨rfl, hm⟩
  have HM := Lib.hid hm
  have HP := Lib.hid (pass_any 61 w1 hm.1 hk2' hs)
  clear hm
  by_cases hq : hitB s k2 61 = true
  · have hlt := hit_lt hq
    rw [if_pos hq, hq] at HP
    have HQ := Lib.hid (hitB_iff.1 hq)
    clear hq
    go_wp2_with fail
    refine HP.out.mono ?_
    rintro e w2 ⟨rfl, hm⟩
    have HS2 := Lib.hid (spaces_any w2 hm.1 (by omega) hs)
    have HM2 := Lib.hid (HM.out.then hm)
    clear hm
    have hk3 := run_le spC s.data.toList (k2 + 1) (by rw [C.size_list]; omega)
    rw [C.size_list] at hk3
    obtain ⟨k3, e3⟩ : ∃ k3, k3 = skp s.data.toList (k2 + 1) := ⟨_, rfl⟩
    rw [← e3] at HS2
    have hk3' : k3 ≤ s.size := by rw [e3]; exact hk3
    have HV2 : Hid (∀ t n, (match valG s.data.toList k3 with | some r => t = r.1 ∧ n = r.2 | none => n = s.size ∧ t.size ≤ s.size) → ValOf s k t n) := Lib.hid (fun t n h => HV.out t n (by rw [if_pos HQ.out, ← e3]; exact h))
    clear e3 hk3
    go_wp2_with fail
    refine HS2.out.mono ?_
    rintro e w3 ⟨rfl, hm⟩
    have HP3 := Lib.hid (pass_any 34 w3 hm.1 hk3' hs)
    have HM3 := Lib.hid (HM2.out.then hm)
    clear hm
    by_cases hq1 : hitB s k3 34 = true
    · rw [if_pos hq1, hq1] at HP3
      have hlt3 := hit_lt hq1
      have HValQ := Lib.hid (valG_quote (hitB_iff.1 hq1) (.inl rfl))
      clear hq1
      go_wp2_with fail
      refine HP3.out.mono ?_
      rintro e w4 ⟨rfl, hm⟩
      have HMb := Lib.hid (HM3.out.then hm)
      by_cases hr : run (· != 34) s.data.toList (k3 + 1) < s.size
      · have HQt := Lib.hid (quoted_hit 34 w4 hm.1 (by omega) hs hr)
        have HF := Lib.hid (HV2.out (cut s.data.toList (k3 + 1) (run (· != 34) s.data.toList (k3 + 1))) (run (· != 34) s.data.toList (k3 + 1) + 1) (by rw [HValQ.out, if_pos (by rw [C.size_list]; exact hr)]; exact ⟨rfl, rfl⟩))
        clear hm hr
        go_wp2_with fail
        refine HQt.out.mono ?_
        rintro e w5 ⟨rfl, hm⟩
        have HMc := Lib.hid (HMb.out.then hm)
        clear hm
        go_wp2
        go_ret
        exact ⟨_, _, rfl, HF.out, HMc.out⟩
      · have HQt := Lib.hid (quoted_miss 34 w4 hm.1 (by omega) hs hr)
        have HF := Lib.hid (HV2.out (s.extract (k3 + 1) s.size) s.size (by rw [HValQ.out, if_neg (by rw [C.size_list]; exact hr)]; exact ⟨rfl, by rw [ByteArray.size_extract]; omega⟩))
        clear hm hr
        go_wp2_with fail
        refine HQt.out.mono ?_
        rintro e w5 ⟨rfl, hm⟩
        have HMc := Lib.hid (HMb.out.then hm)
        clear hm
        go_wp2
        go_ret
        exact ⟨_, _, rfl, HF.out, HMc.out⟩
    · have hq2 : hitB s k3 34 = false := by simpa using hq1
      rw [if_neg hq1, hq2] at HP3
      have HN1 := Lib.hid (hitB_no.1 hq2)
      clear hq1 hq2
      go_wp2_with fail
      refine HP3.out.mono ?_
      rintro e w4 ⟨rfl, hm⟩
      have HP4 := Lib.hid (pass_any 39 w4 hm.1 hk3' hs)
      have HM4 := Lib.hid (HM3.out.then hm)
      clear hm
      by_cases hq3 : hitB s k3 39 = true
      · rw [if_pos hq3, hq3] at HP4
        have hlt3 := hit_lt hq3
        have HValQ := Lib.hid (valG_quote (hitB_iff.1 hq3) (.inr rfl))
        clear hq3
        go_wp2_with fail
        refine HP4.out.mono ?_
        rintro e w5 ⟨rfl, hm⟩
        have HMb := Lib.hid (HM4.out.then hm)
        by_cases hr : run (· != 39) s.data.toList (k3 + 1) < s.size
        · have HQt := Lib.hid (quoted_hit 39 w5 hm.1 (by omega) hs hr)
          have HF := Lib.hid (HV2.out (cut s.data.toList (k3 + 1) (run (· != 39) s.data.toList (k3 + 1))) (run (· != 39) s.data.toList (k3 + 1) + 1) (by rw [HValQ.out, if_pos (by rw [C.size_list]; exact hr)]; exact ⟨rfl, rfl⟩))
          clear hm hr
          go_wp2_with fail
          refine HQt.out.mono ?_
          rintro e w6 ⟨rfl, hm⟩
          have HMc := Lib.hid (HMb.out.then hm)
          clear hm
          go_wp2
          go_ret
          exact ⟨_, _, rfl, HF.out, HMc.out⟩
        · have HQt := Lib.hid (quoted_miss 39 w5 hm.1 (by omega) hs hr)
          have HF := Lib.hid (HV2.out (s.extract (k3 + 1) s.size) s.size (by rw [HValQ.out, if_neg (by rw [C.size_list]; exact hr)]; exact ⟨rfl, by rw [ByteArray.size_extract]; omega⟩))
          clear hm hr
          go_wp2_with fail
          refine HQt.out.mono ?_
          rintro e w6 ⟨rfl, hm⟩
          have HMc := Lib.hid (HMb.out.then hm)
          clear hm
          go_wp2
          go_ret
          exact ⟨_, _, rfl, HF.out, HMc.out⟩
      · have hq4 : hitB s k3 39 = false := by simpa using hq3
        rw [if_neg hq3, hq4] at HP4
        have HN2 := Lib.hid (hitB_no.1 hq4)
        clear hq3 hq4
        go_wp2_with fail
        refine HP4.out.mono ?_
        rintro e w5 ⟨rfl, hm⟩
        have HM5 := Lib.hid (HM4.out.then hm)
        have HU := Lib.hid (upTo_any ⟨#[62]⟩ w5 hm.1 hk3' hs)
        have e62 : ((⟨#[62]⟩ : ByteArray).data.toList) = [62] := rfl
        rw [e62, up_gt] at HU
        have HF : Hid (ValOf s k (cut s.data.toList k3 (run stopV s.data.toList k3)) (run stopV s.data.toList k3)) := Lib.hid (HV2.out _ _ (by
          by_cases hl : k3 < s.data.toList.length
          · rw [valG_bare hl HN1.out HN2.out]; exact ⟨rfl, rfl⟩
          · rw [valG_over hl]
            have e1 := run_end stopV s.data.toList k3 (by omega)
            rw [C.size_list] at hl
            rw [e1, cut_of]
            exact ⟨by omega, by rw [ByteArray.size_extract]; omega⟩))
        clear hm e62
        go_wp2_with fail
        refine HU.out.mono ?_
        rintro e w6 ⟨rfl, hm⟩
        have HM6 := Lib.hid (HM5.out.then hm)
        clear hm
        go_wp2
        go_ret
        exact ⟨_, _, rfl, HF.out, HM6.out⟩
  · have hq2 : hitB s k2 61 = false := by simpa using hq
    rw [if_neg hq, hq2] at HP
    have HF := Lib.hid (HV.out ByteArray.empty k2 (by rw [if_neg (hitB_no.1 hq2)]; exact ⟨rfl, rfl⟩))
    clear hq hq2
    go_wp2_with fail
    refine HP.out.mono ?_
    rintro e w2 ⟨rfl, hm⟩
    have HM2 := Lib.hid (HM.out.then hm)
    clear hm
    go_wp2
    go_ret
    exact ⟨_, _, rfl, HF.out, HM2.out⟩
end
end Go.Proofs.YtceelfomgcbkiaaGreatDoor.T

/-
  The walk of attribute.
-/
namespace Go.Proofs.YtceelfomgcbkiaaGreatDoor.T
open Go.RowKit Go.Maps Go.WideMaps
open Go.Proofs.YtceelfomgcbkiaaGreatDoor.I (lowS lower_any)
open Go.Proofs.YtceelfomgcbkiaaGreatDoor.A (ret_bool ret_int At addL getB eqS clA eqS_iff own_below wpList_append_attrs one_attrs grown_below)
open Go.Proofs.YtceelfomgcbkiaaGreatDoor.C (StAt decode_any decS)

theorem law9 : Keyed Tryz.prog 9 := string_keyed Tryz.underlying9
theorem zeroU (w : World) : (zeroValue 106).run Tryz.prog w = .ok (.agg #[]) w := by kernel_rfl
def keyS (x : ByteArray) : Lit := .string x.data.toList
theorem keyS_of {x : ByteArray} (h : x.size ≤ 1000000) : keyOf Tryz.prog 9 (.string x) = some (keyS x) := keyOf_string_mk Tryz.underlying9 (by unfold maxLen; omega)
theorem keyS_key (x : ByteArray) : WideAt.IsKeyLit (keyS x) := trivial
theorem keyS_inj {x y : ByteArray} (h : keyS x = keyS y) : x = y := by
  unfold keyS at h
  injection h with h
  exact C.eq_of_list h
/-- The map in block M holds just those that f tells. -/
def SetS (w : World) (M n : Nat) (f : ByteArray → Bool) : Prop :=
  ∃ D : DataW Unit, w.ownsMap Tryz.prog 9 unitElem M n D ∧ IsMap D ∧ ∀ x, Maps.has D (keyS x) = f x
theorem SetS.kept {w w' : World} {M n : Nat} {f : ByteArray → Bool} (h : SetS w M n f) {row : Option Nat} (hg : w.grownBy w' row) (hne : some M ≠ row) : SetS w' M n f := by
  obtain ⟨D, h1, h2⟩ := h
  exact ⟨D, h1.kept hg hne, h2⟩
theorem SetS.lt {w : World} {M n : Nat} {f : ByteArray → Bool} (h : SetS w M n f) : M < w.heap.size := by
  obtain ⟨D, h1, _⟩ := h
  exact h1.lt
theorem SetS.below {w w' : World} {M n : Nat} {f : ByteArray → Bool} (h : SetS w M n f) (hb : Below w.heap.size w w') : SetS w' M n f :=
  h.kept (row := none) ⟨hb.os, hb.tape, hb.output, hb.size, fun i hi _ => hb.block i hi⟩ (by simp)
theorem SetS.mono {w : World} {M n n' : Nat} {f : ByteArray → Bool} (h : SetS w M n f) (hn : n ≤ n') : SetS w M n' f := by
  obtain ⟨D, h1, h2⟩ := h
  exact ⟨D, h1.mono hn, h2⟩
theorem SetS.congr {w : World} {M n : Nat} {f g : ByteArray → Bool} (h : SetS w M n f) (e : ∀ x, f x = g x) : SetS w M n g := by
  have : f = g := funext e
  subst this; exact h
theorem SetS.made (w : World) : SetS (w.alloc (.map #[] 0)) w.heap.size 0 (fun _ => false) :=
  ⟨.map [], World.ownsMap_made w Tryz.prog 9 unitElem, ⟨[], rfl⟩, fun _ => rfl⟩
theorem getB_snoc (l : List At) (a : At) (x : ByteArray) : getB x (l ++ [a]) = (getB x l || eqS x a.1) := by
  rw [Bool.eq_iff_iff, Bool.or_eq_true]
  constructor
  · intro h
    by_cases h1 : getB x l = true
    · exact .inl h1
    · right
      have h2 := A.getB_no.1 (by simpa using h1)
      have hp := A.pos_hit x (l ++ [a]) (A.getB_iff.1 h)
      rcases Nat.lt_or_ge (A.pos x (l ++ [a])) l.length with h3 | h3
      · rw [List.getElem_append_left h3] at hp
        exact absurd hp (h2 _ (List.getElem_mem h3))
      · rw [List.getElem_append_right h3] at hp
        simp at hp
        exact eqS_iff.2 hp.symm
  · intro h
    apply A.getB_iff.2
    rcases Nat.lt_or_ge (A.pos x (l ++ [a])) (l ++ [a]).length with h3 | h3
    · exact h3
    · exfalso
      have h4 := A.pos_miss.1 (Nat.le_antisymm (A.pos_le x (l ++ [a])) h3)
      rcases h with h | h
      · have h5 := A.getB_iff.1 h
        exact h4 _ (List.mem_append_left _ (List.getElem_mem h5)) (A.pos_hit x l h5)
      · exact h4 a (by simp) (eqS_iff.1 h).symm
theorem put_set {w : World} {M n : Nat} {l : List At} {a : At} (D : DataW Unit) (hD : IsMap D) (h3 : ∀ x, Maps.has D (keyS x) = getB x l) (h1 : w.ownsMap Tryz.prog 9 unitElem M n (D.put (keyS a.1) (.agg []))) : SetS w M n (fun x => getB x (l ++ [a])) := by
  refine ⟨_, h1, hD.put _ _, fun x => ?_⟩
  show _ = getB x (l ++ [a])
  rw [getB_snoc]
  by_cases e : x = a.1
  · subst e
    rw [has_put_same hD (keyS_key a.1), eqS_iff.2 rfl, Bool.or_true]
  · rw [has_put_other (fun e2 => e (keyS_inj e2)), h3 x, A.eqS_no.2 e, Bool.or_false]
/-- The reader's state: where it is, Self, its attributes; what it leads to is the call's own, from block base on. -/
def Rd (w : World) (base R M : Nat) (s : ByteArray) (k : Nat) (self : Bool) (xs : List At) : Prop :=
  ∃ v, RB w R s k self v (.map (some M)) ∧ w.ownsRow base 51 2 v xs.length (clA xs) ∧ SetS w M xs.length (fun x => getB x xs) ∧ base ≤ R ∧ base ≤ M ∧ xs.length ≤ k
theorem own_ne {w : World} {base size n R : Nat} {e t : TypeId} {v : Value} {xs : List Value} {cs : Array Value} (h : w.ownsRow base e size v n xs) (hR : w.heap[R]? = some (.cells cs t (0, 0))) (hne : e ≠ t) : v.ownBlock ≠ some R := by
  rcases h.2 with ⟨rfl, _⟩ | ⟨g, cap, cur, rfl, _, hh, _⟩
  · simp [Value.ownBlock]
  · intro he
    have : g = R := by simpa [Value.ownBlock] using he
    subst this
    rw [hh] at hR
    injection hR with hR
    injection hR with _ ht
    exact hne ht
theorem set_ne {w : World} {M n R : Nat} {f : ByteArray → Bool} {cs : Array Value} {t : TypeId} (h : SetS w M n f) (hR : w.heap[R]? = some (.cells cs t (0, 0))) : M ≠ R := by
  obtain ⟨D, ⟨es, cl, hb, _⟩, _⟩ := h
  rintro rfl
  rw [hb] at hR; cases hR
/-- A method that moves the reader alone. -/
theorem Rd.mv {w w' : World} {base R M : Nat} {s : ByteArray} {k k' : Nat} {self : Bool} {xs : List At} {v : Value} (hown : w.ownsRow base 51 2 v xs.length (clA xs)) (hset : SetS w M xs.length (fun x => getB x xs)) (hR : RB w R s k self v (.map (some M))) (hb : base ≤ R) (hm : base ≤ M) (hl : xs.length ≤ k')
    (h : Mv w w' R s k' self v (.map (some M))) : Rd w' base R M s k' self xs :=
  ⟨v, h.1, hown.kept h.2 (.inr (own_ne hown hR (by decide))), hset.kept h.2 (fun e => set_ne hset hR (by injection e)), hb, hm, hl⟩
theorem mv_below {w w' : World} {b R : Nat} {s : ByteArray} {k' : Nat} {self : Bool} {v m : Value} {w0 : World} (h0 : Below b w0 w) (hs : b ≤ w.heap.size) (hR : b ≤ R) (h : Mv w w' R s k' self v m) : Below b w0 w' :=
  h0.grown h.2 hs (fun k hk => by cases hk; exact hR)

theorem cut_size (s : ByteArray) (i j : Nat) : (cut s.data.toList i j).size ≤ s.size := by
  rw [cut_of, ByteArray.size_extract]; omega
theorem valG_size {s : ByteArray} {i n : Nat} {t : ByteArray} (h : valG s.data.toList i = some (t, n)) : t.size ≤ s.size := by
  unfold valG at h
  split at h
  · split at h
    · split at h
      · injection h with h; injection h with h1 _; rw [← h1]; exact cut_size s _ _
      · cases h
    · injection h with h; injection h with h1 _; rw [← h1]; exact cut_size s _ _
  · cases h
theorem val_bd {s : ByteArray} {k n : Nat} {t : ByteArray} (h : ValOf s k t n) (hk : k ≤ s.size) : k ≤ n ∧ n ≤ s.size ∧ t.size ≤ s.size := by
  have h1 := run_ge I.spC s.data.toList k
  have h2 := run_le I.spC s.data.toList k (by rw [C.size_list]; exact hk)
  rw [C.size_list] at h2
  unfold ValOf at h
  split at h
  · rename_i e
    split at h
    · rename_i r hr
      obtain ⟨rt, rn⟩ := r
      obtain ⟨rfl, rfl⟩ := h
      have h3 := valG_bd hr
      rw [C.size_list] at h3
      have h4 := run_ge I.spC s.data.toList (skp s.data.toList k + 1)
      simp only [skp] at *
      exact ⟨by omega, h3.2, valG_size hr⟩
    · obtain ⟨rfl, h3⟩ := h
      exact ⟨hk, Nat.le_refl _, h3⟩
  · obtain ⟨rfl, rfl⟩ := h
    exact ⟨h1, h2, Nat.zero_le _⟩
theorem atr_val {s : ByteArray} {k n : Nat} {t : ByteArray} (h : ValOf s (run stopA s.data.toList (k + 1)) t n) :
    match atr s.data.toList k with | some r => r = ((lowS (cut s.data.toList k (run stopA s.data.toList (k + 1))), decT t), n) | none => n = s.size := by
  unfold ValOf at h
  unfold atr
  split at h
  · rename_i e
    rw [if_pos e]
    split at h
    · rename_i r hr
      rw [hr]
      obtain ⟨rfl, rfl⟩ := h
      rfl
    · rename_i hr
      rw [hr]
      exact h.1
  · rename_i e
    rw [if_neg e]
    obtain ⟨rfl, rfl⟩ := h
    rfl
theorem up_attr : upP [47, 62, 61] = stopA := by
  funext c
  unfold upP stopA
  rw [Bool.and_assoc, Bool.and_assoc]
  congr 1
  unfold Lib.indexByte Lib.indexByte Lib.indexByte Lib.indexByte
  by_cases h1 : c = 47
  · subst h1; rfl
  · by_cases h2 : c = 62
    · subst h2; rfl
    · by_cases h3 : c = 61
      · subst h3; rfl
      · have e1 : ((47 : UInt8) == c) = false := by simpa using (fun e => h1 e.symm)
        have e2 : ((62 : UInt8) == c) = false := by simpa using (fun e => h2 e.symm)
        have e3 : ((61 : UInt8) == c) = false := by simpa using (fun e => h3 e.symm)
        have f1 : (c != 47) = true := by simpa using h1
        have f2 : (c != 62) = true := by simpa using h2
        have f3 : (c != 61) = true := by simpa using h3
        rw [e1, e2, e3, f1, f2, f3]; rfl
theorem up_name : upP [47, 62] = stopN := by
  funext c
  unfold upP stopN
  rw [Bool.and_assoc]
  congr 1
  unfold Lib.indexByte Lib.indexByte Lib.indexByte
  by_cases h1 : c = 47
  · subst h1; rfl
  · by_cases h2 : c = 62
    · subst h2; rfl
    · have e1 : ((47 : UInt8) == c) = false := by simpa using (fun e => h1 e.symm)
      have e2 : ((62 : UInt8) == c) = false := by simpa using (fun e => h2 e.symm)
      have f1 : (c != 47) = true := by simpa using h1
      have f2 : (c != 62) = true := by simpa using h2
      rw [e1, e2, f1, f2]; rfl
theorem own_ne_map {w : World} {base size n M : Nat} {e : TypeId} {v : Value} {xs : List Value} {k : Nat} {f : ByteArray → Bool} (h : w.ownsRow base e size v n xs) (hM : SetS w M k f) : v.ownBlock ≠ some M := by
  obtain ⟨D, ⟨es, cl, hb, _⟩, _⟩ := hM
  rcases h.2 with ⟨rfl, _⟩ | ⟨g, cap, cur, rfl, _, hh, _⟩
  · simp [Value.ownBlock]
  · intro he
    have : g = M := by simpa [Value.ownBlock] using he
    subst this
    rw [hh] at hb; cases hb
theorem stAt_base {w w' : World} {base : Nat} (h : StAt w) (hb : Below base w w') (hT : 1 < base) : StAt w' := fun j hj =>
  (hb.cell (p := ⟨1, j, none⟩) hT).trans (h j hj)
theorem drewB1 {b : Nat} {w wr : World} (h : Below b w wr) : Below b w wr.drew := ⟨h.os, h.tape, h.output, h.size, h.block⟩
theorem appended {w w0 w9 : World} {base R M n k : Nat} {s : ByteArray} {self : Bool} {v m : Value} {xs : List At} {f : ByteArray → Bool} (cs : Array Value) (hO : w.ownsRow base 51 2 v xs.length (clA xs)) (hR : RB w R s n self v m)
    (hS : SetS w M k f) (hB : Below base w0 w) (hz : base ≤ w.heap.size) (hg : (w.alloc (.cells cs 51)).grownBy w9 v.ownBlock) : RB w9 R s n self v m ∧ SetS w9 M k f ∧ Below base w0 w9 := by
  have hO1 := hO.alloc (.cells cs 51)
  have hR1 := hR.below ((Below.refl _ _).alloc (Nat.le_refl _) (.cells cs 51)) hR.lt
  have hS1 := hS.kept (World.grownBy_alloc w (.cells cs 51) none) (by simp)
  exact ⟨hR1.of (hg.block R hR1.lt (fun e => own_ne hO1 hR1 (by decide) e.symm)), hS1.kept hg (fun e => own_ne_map hO1 hS1 e.symm), grown_below (hB.alloc hz _) (Nat.le_refl _) (by simp; omega) hO1 hg⟩
theorem Rd.self_ {w : World} {base R M : Nat} {s : ByteArray} {k : Nat} {self : Bool} {xs : List At} (h : Rd w base R M s k self xs) (b : Bool) : Rd (w.setCell ⟨R, 2, none⟩ (.bool b)) base R M s k b xs := by
  obtain ⟨v, hR, hown, hset, h1, h2, h3⟩ := h
  exact ⟨v, hR.self_ b, hown.kept (grown_set _ _ _ _) (.inr (own_ne hown hR (by decide))), hset.kept (grown_set _ _ _ _) (fun e => set_ne hset hR (by injection e)), h1, h2, h3⟩
theorem Rd.below {w w' : World} {base R M : Nat} {s : ByteArray} {k : Nat} {self : Bool} {xs : List At} (h : Rd w base R M s k self xs) (hb : Below w.heap.size w w') : Rd w' base R M s k self xs := by
  obtain ⟨v, hR, hown, hset, h1, h2, h3⟩ := h
  exact ⟨v, hR.below hb hR.lt, own_below hown hb, hset.below hb, h1, h2, h3⟩
/-- append of attributes, as one step of a region that draws its order. -/
theorem step_append_attrs {ops : Array Oper} {o : Oper} {a : Act} {w : World} {K : Act → World → Prop} {Q : Exit → Act → World → Prop} {E : Prop} (hgd : o.guard = none) (s x : Operand)
    (ho : o.op = .call { callee := .builtin .append, args := #[s, x], argTypes := #[32, 32] })
    (base : Nat) (v : Value) (l : List At) (hs : a.eval s = v) (hown : w.ownsRow base 51 2 v l.length (clA l)) (X : Option Addr) (c : Nat) (m : List At) (hx : a.eval x = .slice X m.length c) (hm : A.AttrsAt w X m)
    (h : l.length + m.length ≤ 3000000) (hbase : base ≤ w.heap.size)
    (hK : ∀ v' w', w'.ownsRow base 51 2 v' (l ++ m).length (clA (l ++ m)) → w.grownBy w' v.ownBlock → K (a.put o.dst v') w') :
    if Region.wanted o (yielded ops a.tmps) = true then Oper.wp Tryz.prog o a w K Q else E := by
  have hw : Region.wanted o (yielded ops a.tmps) = true := by simp [Region.wanted, hgd]
  rw [if_pos hw]
  obtain ⟨v', w', hr, h2, h3, _⟩ := A.run_append_attrs w base o.type v l hown X c m hm h hbase
  unfold Oper.wp execOp
  simp only [ho, resolve, invoke, builtin, Sem.run_bind, Sem.run_pure, Result.andThen_ok, List.map_toArray, List.map_cons, List.map_nil, hs, hx, hr]
  exact hK v' w' h2 h3
/-- What attribute leaves. -/
def RetAttr (w : World) (base R M : Nat) (s : ByteArray) (k : Nat) (self : Bool) (xs : List At) (e : Ending) (w' : World) : Prop :=
  ∃ n ys, e = .returned (.tuple #[]) ∧ Rd w' base R M s n self ys ∧ Below base w w' ∧ n ≤ s.size ∧
    match atr s.data.toList k with | some r => ys = addL xs r.1 ∧ n = r.2 | none => n = s.size
theorem att_there {s : ByteArray} {k n : Nat} {t : ByteArray} {xs : List At} (h : ValOf s (run stopA s.data.toList (k + 1)) t n) (hg : getB (lowS (cut s.data.toList k (run stopA s.data.toList (k + 1)))) xs = true) :
    match atr s.data.toList k with | some r => xs = addL xs r.1 ∧ n = r.2 | none => n = s.size := by
  have h1 := atr_val h
  split at h1
  · rename_i r hr
    subst h1
    exact ⟨by unfold addL; rw [if_pos hg], rfl⟩
  · exact h1
theorem att_new {s : ByteArray} {k n : Nat} {t : ByteArray} {xs : List At} (h : ValOf s (run stopA s.data.toList (k + 1)) t n) (hg : getB (lowS (cut s.data.toList k (run stopA s.data.toList (k + 1)))) xs = false) :
    match atr s.data.toList k with | some r => xs ++ [(lowS (cut s.data.toList k (run stopA s.data.toList (k + 1))), decT t)] = addL xs r.1 ∧ n = r.2 | none => n = s.size := by
  have h1 := atr_val h
  split at h1
  · rename_i r hr
    subst h1
    exact ⟨by unfold addL; rw [if_neg (by rw [hg]; decide)], rfl⟩
  · exact h1

set_option maxRecDepth 100000 in
set_option maxHeartbeats 3200000 in
theorem attribute_any (w : World) (base R M : Nat) (s : ByteArray) (k : Nat) (self : Bool) (xs : List At) (hT : StAt w) (hTb : 1 < base) (hbw : base ≤ w.heap.size) (h : Rd w base R M s k self xs) (hk : k < s.size) (hs : s.size ≤ 10000) :
    Calls Tryz.prog 81 #[.pointer (some ⟨R, 0, none⟩)] w (RetAttr w base R M s k self xs) := by
  obtain ⟨v, hR, hown, hset, hb, hm, hl⟩ := h
  have HR := Lib.hid hR
  have HO := Lib.hid hown
  have HSt := Lib.hid hset
  have h1 := hR.c1
  have hf1 := hR.fz 1
  have hR1 := hR.at_ (k + 1)
  have HU := Lib.hid (upTo_any ⟨#[47, 62, 61]⟩ _ hR1 (by omega) (by omega))
  have e3 : ((⟨#[47, 62, 61]⟩ : ByteArray).data.toList) = [47, 62, 61] := rfl
  rw [e3, up_attr] at HU
  have HM0 : Hid (Mv w (w.setCell ⟨R, 1, none⟩ (.int .i64 ((k + 1 : Nat) : Int))) R s (k + 1) self v (.map (some M))) := Lib.hid ((Mv.start hR).at_ (k + 1))
  have ek : ((k + 1 : Nat) : Int) = (k : Int) + 1 := by omega
  rw [ek] at HU HM0
  clear hR hown hset hR1 e3 ek
  have hkn := run_le stopA s.data.toList (k + 1) (by rw [C.size_list]; omega)
  have hkg := run_ge stopA s.data.toList (k + 1)
  rw [C.size_list] at hkn
  have HTh := Lib.hid (fun t n (hv : ValOf s (run stopA s.data.toList (k + 1)) t n) hg => att_there (xs := xs) hv hg)
  have HNw := Lib.hid (fun t n (hv : ValOf s (run stopA s.data.toList (k + 1)) t n) hg => att_new (xs := xs) hv hg)
  rw [cut_of] at HTh HNw
  have HVb := Lib.hid (fun t n (hv : ValOf s (run stopA s.data.toList (k + 1)) t n) => val_bd hv hkn)
  generalize run stopA s.data.toList (k + 1) = kn at *
  have HT := Lib.hid hT
  clear hT
  go_enter Tryz.func81, Tryz.ntmps81
  go_wp2_with fail
  refine HU.out.mono ?_
  rintro e w1 ⟨rfl, hmv⟩
  have HM1 := Lib.hid (HM0.out.then hmv)
  have c0 := hmv.1.c0
  have c1 := hmv.1.c1
  clear hmv h1 hf1
  have hi0 : (0 : Int) ≤ (k : Int) := by omega
  have hi1 : (k : Int) ≤ (kn : Int) := by omega
  have hi2 : (kn : Int) ≤ (s.size : Int) := by omega
  go_wp2_with fail
  go_still_tail 10, (by kernel_rfl)
  change wpList _ _ _ _ _ w1.drew
  have hm1 : Mv w w1.drew R s kn self v (.map (some M)) := ⟨HM1.out.1, ⟨HM1.out.2.os, HM1.out.2.tape, HM1.out.2.output, HM1.out.2.size, HM1.out.2.block⟩⟩
  replace HM1 := Lib.hid hm1
  clear hm1 c0 c1
  generalize w1.drew = w2 at *
  have HB2 := Lib.hid (mv_below (b := base) (Below.refl _ _) hbw hb HM1.out)
  have HLw := Lib.hid (lower_any (s.extract k kn) w2 (by rw [ByteArray.size_extract]; unfold maxLen; omega))
  have hnz : (lowS (s.extract k kn)).size ≤ 1000000 := by rw [I.lowS_size, ByteArray.size_extract]; omega
  generalize lowS (s.extract k kn) = nm at *
  go_wp2_with fail
  refine HLw.out.mono ?_
  rintro e w3 ⟨rfl, hbl⟩
  have hR3 := HM1.out.1.below hbl HM1.out.1.lt
  have hO3 := (HO.out.kept HM1.out.2 (.inr (own_ne HO.out HR.out (by decide))))
  have hS3 := (HSt.out.kept HM1.out.2 (fun e => set_ne HSt.out HR.out (by injection e)))
  have HO3 := Lib.hid (own_below hO3 hbl)
  have HS3 := Lib.hid (hS3.below hbl)
  have HB3 : Hid (Below base w w3) := Lib.hid (HB2.out.trans (hbl.mono HM1.out.2.size |>.mono hbw))
  have HV := Lib.hid (value_any w3 hR3 hkn (by omega))
  have HR3 := Lib.hid hR3
  clear hbl hR3 hO3 hS3
  go_wp2_with fail
  refine HV.out.mono ?_
  rintro e w4 ⟨t, n, rfl, hval, hmv⟩
  obtain ⟨hv1, hv2, hv3⟩ := HVb.out t n hval
  have HVal := Lib.hid hval
  have HO4 := Lib.hid (HO3.out.kept hmv.2 (.inr (own_ne HO3.out HR3.out (by decide))))
  have HS4 := Lib.hid (HS3.out.kept hmv.2 (fun e => set_ne HS3.out HR3.out (by injection e)))
  have HB4 := Lib.hid (mv_below HB3.out (Nat.le_trans hbw HB3.out.size) hb hmv)
  have c4 := hmv.1.c4
  have HR4 := Lib.hid hmv.1
  clear hmv hval
  obtain ⟨D, hown, hD2, hD3⟩ := HS4.out
  have HOw := Lib.hid hown
  have HD2 := Lib.hid hD2
  have HD3 := Lib.hid hD3
  have hh : Maps.has D (keyS nm) = getB nm xs := hD3 nm
  have HK := Lib.hid (keyS_of hnz)
  clear hown hD2 hD3
  by_cases hg : getB nm xs = true
  · have HF := Lib.hid (HTh.out t n HVal.out hg)
    rw [hg] at hh
    clear hg
    go_wp2_with (at_lookup; refine wpList_lookup_own_unit _ rfl _ _ 74 rfl 9 106 law9 Tryz.underlying74 (zeroU _) M xs.length _ rfl HOw.out _ _ rfl HK.out ?_)
    refine bodyPost_ret (results_none rfl _ _ _) rfl ?_
    exact ⟨n, xs, rfl, ⟨v, HR4.out.below ((Below.refl _ _).alloc (Nat.le_refl _) _) HR4.out.lt, HO4.out.alloc _, HS4.out.kept (World.grownBy_alloc _ _ none) (by simp), hb, hm, by omega⟩, HB4.out.alloc (Nat.le_trans hbw HB4.out.size) _, hv2, HF.out⟩
  · have hg2 : getB nm xs = false := by simpa using hg
    have HF := Lib.hid (HNw.out t n HVal.out hg2)
    rw [hg2] at hh
    clear hg hg2
    have HR5 := Lib.hid (HR4.out.below ((Below.refl _ _).alloc (Nat.le_refl _) (.cells #[] 106)) HR4.out.lt)
    have HO5 := Lib.hid (HO4.out.alloc (.cells #[] 106))
    have HS5 := Lib.hid (HS4.out.kept (World.grownBy_alloc w4 (.cells #[] 106) none) (by simp))
    have HB5 := Lib.hid (HB4.out.alloc (Nat.le_trans hbw HB4.out.size) (.cells #[] 106))
    have d4 := HR5.out.c4
    go_wp2_with (first
      | (at_lookup; refine wpList_lookup_own_unit _ rfl _ _ 74 rfl 9 106 law9 Tryz.underlying74 (zeroU _) M xs.length _ rfl HOw.out _ _ rfl HK.out ?_)
      | (at_mapUpdate; refine wpList_mapUpdate_own _ rfl _ _ _ 74 rfl 9 106 law9 Tryz.underlying74 (unitElem (H := Unit)) M xs.length _ rfl (HOw.out.alloc _) (by unfold maxLen; omega) _ _ _ rfl rfl HK.out _ [] unitElem_mk ?_; intro w6 hown6 hgrow6))
    have HR6 := Lib.hid (HR5.out.of (hgrow6.block R HR5.out.lt (fun e => set_ne HS5.out HR5.out (by injection e with e; exact e.symm))))
    have HO6 := Lib.hid (HO5.out.kept hgrow6 (.inr (own_ne_map HO5.out HS5.out)))
    have HS6 : Hid (SetS w6 M (xs.length + 1) (fun x => getB x (xs ++ [(nm, decT t)]))) := Lib.hid (put_set D HD2.out HD3.out hown6)
    have HB6 := Lib.hid (HB5.out.grown hgrow6 (Nat.le_trans hbw HB5.out.size) (fun j hj => by cases hj; exact hm))
    clear hown6 hgrow6 c4 d4 hh
    have c3 := HR6.out.c3
    have hz6 := Nat.le_trans hbw HB6.out.size
    have edc : decS true t = decT t := rfl
    have HDc := Lib.hid (decode_any t true w6.drew (stAt_base HT.out (drewB1 HB6.out) hTb) (by omega))
    rw [edc] at HDc
    generalize decT t = d at *
    clear edc
    go_region_law ((first
      | (refine step_append_attrs rfl _ _ rfl base _ xs (by rfl) (HO8.out.alloc _) (some ⟨w8.heap.size, 0, none⟩) 1 [(nm, d)] (by rfl) (one_attrs w8 (nm, d)) (by simp; omega) (by simp; omega) ?_
         intro v9 w9 hown9 hgrow9
         obtain ⟨hr10, hs10, hb10⟩ := appended #[.string nm, .string d] HO8.out HR8.out HS8.out HB8.out hz8 hgrow9
         have HR10 := Lib.hid hr10
         have HS10 := Lib.hid hs10
         have HB10 := Lib.hid hb10
         clear hr10 hs10 hb10
         have HO10 := Lib.hid hown9
         obtain ⟨a9, c9, hc9, rfl, hat9⟩ := A.own_attrs hown9
         have g3 := HR10.out.c3
         have gf := HR10.out.fz 3
         clear hown9 hgrow9 hat9 hc9)
      | (go_simp
         go_at_call 22
         refine HDc.out.mono ?_
         rintro e w8 ⟨rfl, hbl⟩
         have HR8 := Lib.hid ((show RB w6.drew R s n self v (.map (some M)) from HR6.out).below hbl HR6.out.lt)
         have HO8 := Lib.hid (own_below (show w6.drew.ownsRow base 51 2 v xs.length (clA xs) from HO6.out) hbl)
         have HS8 := Lib.hid ((show SetS w6.drew M (xs.length + 1) (fun x => getB x (xs ++ [(nm, d)])) from HS6.out).below hbl)
         have HB8 : Hid (Below base w w8) := Lib.hid ((drewB1 HB6.out).trans (hbl.mono hz6))
         have hz8 := Nat.le_trans hbw HB8.out.size
         have k3 := HR8.out.c3
         have k3' := (HR8.out.below ((Below.refl _ _).alloc (Nat.le_refl _) (.cells #[.string nm, .string d] 51)) HR8.out.lt).c3
         clear hbl)))
    all_goals
      go_end0
      exact ⟨n, xs ++ [(nm, d)], rfl, ⟨_, HR10.out.attrs_ _, by simpa using HO10.out.kept (grown_set w9 R 3 (.slice a9 (xs.length + 1) c9)) (.inr (own_ne HO10.out HR10.out (by decide))), (HS10.out.kept (grown_set _ _ _ _) (fun e => set_ne HS10.out HR10.out (by injection e))).mono (by simp), hb, hm, by simp; omega⟩, HB10.out.grown (grown_set _ _ _ _) (Nat.le_trans hbw HB10.out.size) (fun j hj => by cases hj; exact hb), hv2, HF.out⟩
end Go.Proofs.YtceelfomgcbkiaaGreatDoor.T
