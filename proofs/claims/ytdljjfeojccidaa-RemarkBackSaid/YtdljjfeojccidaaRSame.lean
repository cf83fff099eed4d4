/-
  The walks of Same on two tokens that are the same, and of awake, some answers that the document fixes.
-/
import Derived.Test.YtdljjfeojccidaaRRead2
import Derived.Deep.CutBlock
namespace Go.Proofs.Ytdljjfeojccidaa.R
open Go.RowKit

theorem same_none (w : World) : Calls Try.prog 31 #[.slice none 0 0, .slice none 0 0] w fun e w' => e = .returned (.bool true) ∧ w = w' := by
  go_enter Try.func31, Try.ntmps31
  go_wp2
  go_loop [5] (fun v => v = .int .i64 0) (fun _ => 0)
  case atStart => rfl
  case round =>
    obtain rfl := hrel
    go_wp2
    go_ret
    exact ⟨rfl, rfl⟩
theorem two_below (w : World) (x y : Obj) : Below w.heap.size w ((w.alloc x).alloc y) := ((Below.refl _ _).alloc (Nat.le_refl _) _).alloc (by simp) _
set_option maxHeartbeats 1600000 in
theorem same_any (t : Rem) (w : World) : Calls Try.prog 11 #[remV t, remV t] w fun e w' => e = .returned (.bool true) ∧ Below w.heap.size w w' := by
  obtain ⟨k, nm, d, n, ok⟩ := t
  unfold remV
  simp only
  have HS := Lib.hid same_none
  have HB := Lib.hid (two_below w (.cells (tokC k nm d) 25) (.cells (tokC k nm d) 25))
  go_enter Try.func11, Try.ntmps11
  go_wp2_with (go_at_call 31; refine (HS.out _).mono ?_; rintro e w' ⟨rfl, rfl⟩)
  go_ret
  exact ⟨rfl, HB.out⟩

/-- A token that a law keeps in a cell of its own. -/
def Kept (w : World) (B : Nat) (t : Rem) : Prop := w.heap[B]? = some (.cells (tokC t.kind t.name t.data) 25 (0, 0))
theorem Kept.keep {w w1 : World} {B : Nat} {t : Rem} (h : Kept w B t) (hb : Below w.heap.size w w1) : Kept w1 B t := heap_keep hb h
theorem Kept.made (w : World) (t : Rem) : Kept (w.alloc (.cells (tokC t.kind t.name t.data) 25)) w.heap.size t := heap_alloc_new w _
theorem Kept.alloc {w : World} {B : Nat} {t : Rem} (h : Kept w B t) (o : Obj) : Kept (w.alloc o) B t := h.keep ((Below.refl _ _).alloc (Nat.le_refl _) _)
theorem Kept.row {w : World} {B : Nat} {t : Rem} (h : Kept w B t) : w.cell? ⟨B, 0, none⟩ = some (.int .i64 t.kind) ∧ w.cell? ⟨B, 1, none⟩ = some (.string t.name) ∧ w.cell? ⟨B, 2, none⟩ = some (.slice none 0 0) ∧ w.cell? ⟨B, 3, none⟩ = some (.bool false) ∧ w.cell? ⟨B, 4, none⟩ = some (.string t.data) := row_of h
/-- The world behind one call of Read, and the token kept. -/
def K1 (w : World) (t : Rem) : World := w.alloc (.cells (tokC t.kind t.name t.data) 25)
theorem k1_below {w w1 : World} (h : Hid (Below w.heap.size w w1)) (t : Rem) : Hid (Below w.heap.size w (K1 w1 t)) := Lib.hid (h.out.alloc h.out.size _)

def litA : ByteArray := ⟨#[60, 33, 45, 45, 97, 45, 45, 45, 62, 98]⟩
def litB : ByteArray := ⟨#[60, 63, 120, 62]⟩
def litC : ByteArray := ⟨#[60, 33, 91, 67, 68, 65, 84, 65, 91, 60, 93, 93, 62]⟩
def remA : Rem := ⟨4, ByteArray.empty, ⟨#[97, 45]⟩, 9, true⟩
def remB : Rem := ⟨4, ByteArray.empty, ⟨#[63, 120]⟩, 4, true⟩
def remC : Rem := ⟨3, ByteArray.empty, ⟨#[60]⟩, 13, true⟩
theorem lit_A : rem litA.data.toList false = remA := by kernel_rfl
theorem lit_B : rem litB.data.toList false = remB := by kernel_rfl
theorem lit_C : rem litC.data.toList true = remC := by kernel_rfl
set_option maxRecDepth 100000 in
set_option maxHeartbeats 3200000 in
theorem awake_any (w : World) (hM : MaxAt w) : Calls Try.prog 8 #[] w fun e w' => e = .returned (.bool true) ∧ Below w.heap.size w w' := by
  have HM := Lib.hid hM
  have HA := Lib.hid (fun W (h : MaxAt W) => read_any litA false W h (by decide))
  have HB := Lib.hid (fun W (h : MaxAt W) => read_any litB false W h (by decide))
  have HC := Lib.hid (fun W (h : MaxAt W) => read_any litC true W h (by decide))
  rw [lit_A] at HA
  rw [lit_B] at HB
  rw [lit_C] at HC
  unfold litA at HA
  unfold litB at HB
  unfold litC at HC
  clear hM
  go_enter Try.func8, Try.ntmps8
  go_wp2_with fail
  refine (HA.out _ HM.out).mono ?_
  rintro e w1 ⟨rfl, hbl⟩
  have HB1 : Hid (Below w.heap.size w w1) := Lib.hid hbl
  have HB2 := k1_below HB1 remA
  have HK2 := Lib.hid (Kept.made w1 remA)
  clear hbl HA
  unfold remV
  go_upto_region 2 with fail
  show Code.wp _ _ _ _ (K1 w1 remA)
  obtain ⟨w2, ew⟩ : ∃ w2, w2 = K1 w1 remA := ⟨_, rfl⟩
  rw [show w1.alloc (.cells (tokC remA.kind remA.name remA.data) 25) = w2 from ew.symm] at HK2
  rw [← ew] at HB2 ⊢
  clear ew
  go_wp2_with fail
  refine (HB.out _ (HM.out.below HB2.out)).mono ?_
  rintro e w3 ⟨rfl, hbl⟩
  have HB3 := below_step HB2 hbl
  have HK3 := Lib.hid (HK2.out.keep hbl)
  have HB4 := k1_below HB3 remB
  have HK4 := Lib.hid (HK3.out.alloc (.cells (tokC remB.kind remB.name remB.data) 25))
  have HL4 := Lib.hid (Kept.made w3 remB)
  clear hbl HB HB1 HB2 HK2 HK3 HB3
  unfold remV
  go_upto_region 3 with fail
  show Code.wp _ _ _ _ (K1 w3 remB)
  obtain ⟨w4, ew⟩ : ∃ w4, w4 = K1 w3 remB := ⟨_, rfl⟩
  rw [show w3.alloc (.cells (tokC remB.kind remB.name remB.data) 25) = w4 from ew.symm] at HK4 HL4
  rw [← ew] at HB4 ⊢
  clear ew
  go_wp2_with fail
  refine (HC.out _ (HM.out.below HB4.out)).mono ?_
  rintro e w5 ⟨rfl, hbl⟩
  have HB5 := below_step HB4 hbl
  have HK5 := Lib.hid (HK4.out.keep hbl)
  have HL5 := Lib.hid (HL4.out.keep hbl)
  have HB6 := k1_below HB5 remC
  have HK6 := Lib.hid (HK5.out.alloc (.cells (tokC remC.kind remC.name remC.data) 25))
  have HL6 := Lib.hid (HL5.out.alloc (.cells (tokC remC.kind remC.name remC.data) 25))
  have HN6 := Lib.hid (Kept.made w5 remC)
  clear hbl HC HB4 HK4 HL4 HK5 HL5 HB5
  unfold remV
  go_upto_region 4 with fail
  show Code.wp _ _ _ _ (K1 w5 remC)
  obtain ⟨w6, ew⟩ : ∃ w6, w6 = K1 w5 remC := ⟨_, rfl⟩
  rw [show w5.alloc (.cells (tokC remC.kind remC.name remC.data) 25) = w6 from ew.symm] at HK6 HL6 HN6
  rw [← ew] at HB6 ⊢
  clear ew
  obtain ⟨_, _, _, _, c4⟩ := HK6.out.row
  obtain ⟨_, _, _, _, d4⟩ := HL6.out.row
  obtain ⟨e0, _, _, _, e4⟩ := HN6.out.row
  unfold remA at *
  unfold remB at *
  unfold remC at *
  simp only at c4 d4 e0 e4
  clear HK6 HL6 HN6
  go_wp2
  go_ret
  exact ⟨rfl, HB6.out⟩
end Go.Proofs.Ytdljjfeojccidaa.R
