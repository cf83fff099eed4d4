/-
  The walk of awake: some answers that the document fixes.
-/
import Derived.Test.YtceelfomgcbkiaaGreatDoorLAllZ
namespace Go.Proofs.YtceelfomgcbkiaaGreatDoor
open Go.RowKit
open Go.Proofs.YtceelfomgcbkiaaGreatDoor.A (At AttrsAt)
open Go.Proofs.YtceelfomgcbkiaaGreatDoor.R (row_of free_of heap_keep MaxAt)
open Go.Proofs.YtceelfomgcbkiaaGreatDoor.C (StAt)

set_option maxRecDepth 100000 in
theorem awake_all : allD ((⟨#[97, 60, 98, 62, 99]⟩ : ByteArray).size + 1) ⟨#[97, 60, 98, 62, 99]⟩ = [txtL ⟨#[97]⟩, ⟨1, ⟨#[98]⟩, [], false, ⟨#[]⟩⟩, txtL ⟨#[99]⟩, endL] := by kernel_rfl
set_option maxRecDepth 100000 in
theorem awake_next : nxL ⟨#[120, 60, 47, 116, 105, 116, 108, 101, 62]⟩ ⟨#[116, 105, 116, 108, 101]⟩ 1 false = (txtL ⟨#[120]⟩, ⟨#[60, 47, 116, 105, 116, 108, 101, 62]⟩) := by kernel_rfl
theorem TR.at {w : World} {a : Option Addr} {c : Nat} {l : List TA} (h : TR w (.slice a l.length c) l) (hne : l ≠ []) : ∃ g, a = some ⟨g, 0, none⟩ ∧ g < w.heap.size ∧ ∀ (i : Nat) u, (clT l)[i]? = some u → w.cell? ⟨g, i, none⟩ = some u := by
  rcases h.1.2 with ⟨_, h0⟩ | ⟨g, cap, cur, e, _, hg, _, _, _, _⟩
  · exact absurd (List.eq_nil_of_length_eq_zero h0) hne
  · injection e with e1 e2 e3
    subst e1
    refine ⟨g, rfl, (Array.getElem?_eq_some_iff.1 hg).1, fun i u hu => ?_⟩
    have := h.1.cells (g := g) rfl i u hu
    rw [show (⟨g, 0, none⟩ : Addr).add i = ⟨g, i, none⟩ by unfold Addr.add; split <;> simp_all] at this
    exact this
theorem four_of {acc : List TA} {a b c d : LTok} (h : [a, b, c, d] = acc.map (·.1)) : ∃ x y z u, acc = [(a, x), (b, y), (c, z), (d, u)] := by
  match acc, h with
  | [p, q, r, s], h =>
    simp at h
    obtain ⟨rfl, rfl, rfl, rfl⟩ := h
    exact ⟨p.2, q.2, r.2, s.2, rfl⟩

set_option maxRecDepth 100000 in
set_option maxHeartbeats 3200000 in
theorem awake_any (w : World) (hT : StAt w) (hM : MaxAt w) : Calls Tryz.prog 5 #[] w fun e w' => e = .returned (.bool true) ∧ Below w.heap.size w w' := by
  have HTM : Hid (∀ W, Below w.heap.size w W → StAt W ∧ MaxAt W) := Lib.hid (fun W h => ⟨hT.below h, hM.below h⟩)
  have HA := Lib.hid (all_any ⟨#[97, 60, 98, 62, 99]⟩ w hT hM (by decide))
  rw [awake_all] at HA
  clear hT hM
  go_enter Tryz.func5, Tryz.ntmps5
  go_wp2_with fail
  refine HA.out.mono ?_
  rintro e w1 ⟨a, c, acc, hacc, rfl, hc, htr, _, hb1⟩
  obtain ⟨x0, x1, x2, x3, rfl⟩ := four_of hacc
  obtain ⟨g, rfl, hg, hcl⟩ := htr.at (by simp)
  have HB1 := Lib.hid hb1
  have HC1 := Lib.hid hcl
  have HG1 := Lib.hid hg
  clear hacc htr hb1 hcl hg
  go_wp2_with fail
  refine (new_any _ w1).mono ?_
  rintro e w2 ⟨rfl, ew⟩
  have hL2 : LB 43 w2 w1.heap.size ⟨#[120, 60, 47, 116, 105, 116, 108, 101, 62]⟩ := by rw [← ew]; exact heap_alloc_new w1 _
  have hb2 : Below w1.heap.size w1 w2 := by rw [← ew]; exact (Below.refl _ _).alloc (Nat.le_refl _) _
  have hBw : Below w.heap.size w w2 := HB1.out.trans (hb2.mono HB1.out.size)
  have HN := Lib.hid (next_any w1.heap.size _ ⟨#[116, 105, 116, 108, 101]⟩ 1 false w2 hL2 (by decide) (by decide) (fun w' hg' => HTM.out _ (grown_below hBw hg' (Nat.le_refl _) HB1.out.size)))
  rw [awake_next] at HN
  have HB2 := Lib.hid hBw
  have HB12 := Lib.hid hb2
  clear ew hL2 hb2 hBw HTM HA
  go_wp2_with fail
  refine HN.out.mono ?_
  rintro e w3 ⟨ta, cap, hcap, he, _, hlb, hgr⟩
  unfold tkV txtL at he
  subst he
  have HB3 : Hid (Below w.heap.size w w3) := Lib.hid (grown_below HB2.out hgr (Nat.le_refl _) HB1.out.size)
  have HC3 : Hid (∀ (i : Nat) u, (clT [(txtL ⟨#[97]⟩, x0), ((⟨1, ⟨#[98]⟩, [], false, ⟨#[]⟩⟩ : LTok), x1), (txtL ⟨#[99]⟩, x2), (endL, x3)])[i]? = some u → w3.cell? ⟨g, i, none⟩ = some u) := Lib.hid (fun i u hu =>
    (World.cell?_of_block (a := ⟨g, i, none⟩) ((hgr.block g (Nat.lt_of_lt_of_le HG1.out HB12.out.size) (fun e => by have := HG1.out; cases e; omega)).trans (HB12.out.block g HG1.out))).trans (HC1.out i u hu))
  have HL3 : Hid (LB 43 w3 w1.heap.size ⟨#[60, 47, 116, 105, 116, 108, 101, 62]⟩) := Lib.hid hlb
  have hg3 : g < w3.heap.size := Nat.lt_of_lt_of_le (Nat.lt_of_lt_of_le HG1.out HB12.out.size) hgr.size
  have HG3 := Lib.hid hg3
  clear hgr hlb hcap HB1 HB2 HB12 HC1 HN HG1 hg3
  have hb : Below w3.heap.size w3 (w3.alloc (.cells #[.int .i64 3, .string ⟨#[]⟩, .slice ta 0 cap, .bool false, .string ⟨#[120]⟩] 34)) := (Below.refl _ _).alloc (Nat.le_refl _) _
  have HH4 := Lib.hid (heap_alloc_new w3 (.cells #[.int .i64 3, .string ⟨#[]⟩, .slice ta 0 cap, .bool false, .string ⟨#[120]⟩] 34))
  have HB4 : Hid (Below w.heap.size w _) := Lib.hid (HB3.out.trans (hb.mono HB3.out.size))
  have HL4 := Lib.hid (HL3.out.below hb)
  have y0 := (hb.cell (p := ⟨g, 4, none⟩) HG3.out).trans (HC3.out 4 _ rfl)
  have y1 := (hb.cell (p := ⟨g, 6, none⟩) HG3.out).trans (HC3.out 6 _ rfl)
  have y2 := (hb.cell (p := ⟨g, 15, none⟩) HG3.out).trans (HC3.out 15 _ rfl)
  clear hb
  go_upto_region 4 with fail
  obtain ⟨w4, ew⟩ : ∃ w4, w4 = w3.alloc (.cells #[.int .i64 3, .string ⟨#[]⟩, .slice ta 0 cap, .bool false, .string ⟨#[120]⟩] 34) := ⟨_, rfl⟩
  rw [← ew] at HH4 HB4 HL4 y0 y1 y2 ⊢
  clear ew HC3 HL3 HB3
  obtain ⟨c0, c1, c2, c3, c4⟩ := row_of HH4.out
  dsimp only [txtL, endL] at y0 y1 y2
  go_wp2_with (go_at_call 10; refine (left_any _ _ _ _ HL4.out).mono ?_; rintro e w5 ⟨rfl, rfl⟩)
  go_ret
  exact ⟨rfl, HB4.out⟩
end Go.Proofs.YtceelfomgcbkiaaGreatDoor
