/-
  The walk of behind at lists of nodes.
-/
import Derived.Test.YtkkngflpmdcfjaaNNodes
import Derived.Deep.CutBlock
import Derived.Deep.DeepCutAuto
namespace Go.Proofs.Ytkkngflpmdcfjaa
open Go.RowKit

def RetMoreN (v : Value) (l : List Nd) (x : Nd) (w : World) (e : Ending) (w' : World) : Prop :=
  ∃ v', e = .returned v' ∧ NR w' v' (l ++ [x]) ∧ w.grownBy w' v.ownBlock ∧ (v'.ownBlock = v.ownBlock ∨ ∃ g, v'.ownBlock = some g ∧ w.heap.size ≤ g)
def roomN : Nd := ⟨0, 0, ⟨#[]⟩, .slice none 0 0, ⟨#[]⟩, -9223372036854775808, .slice none 0 0, [], []⟩

set_option maxRecDepth 100000 in
theorem unusedN_any (x : Nd) (w : World) : Calls Try.prog 133 #[x.val] w fun e w' => e = .returned (.bool (x.up == -9223372036854775808)) ∧ Below w.heap.size w w' := by
  unfold Nd.val
  go_enter Try.func133, Try.ntmps133
  go_wp2
  go_ret
  exact ⟨rfl, below_box _ _⟩

/-- The world behind the two boxes of behind. -/
def B2 (w : World) (x : Nd) : World := (w.alloc (.cells #[.int .i64 x.kind, .int .i64 x.space, .string x.name, x.av, .string x.data, .int .i64 x.up, x.kv] 66)).alloc (.cells #[.int .i64 0, .int .i64 0, .string ⟨#[]⟩, .slice none 0 0, .string ⟨#[]⟩, .int .i64 (-9223372036854775808), .slice none 0 0] 66)
set_option maxRecDepth 100000 in
theorem b2_below (w : World) (x : Nd) : Below w.heap.size w (B2 w x) := (below_box w _).alloc (by simp) _
set_option maxRecDepth 100000 in
theorem b2_size (w : World) (x : Nd) : (B2 w x).heap.size = w.heap.size + 2 := by simp [B2]
set_option maxRecDepth 100000 in
theorem b2_one (w : World) (x : Nd) : NodeAt (B2 w x) w.heap.size 0 x := (box_at w x).below (below_box _ _)
set_option maxRecDepth 100000 in
theorem b2_two (w : World) (x : Nd) : NodeAt (B2 w x) (w.heap.size + 1) 0 roomN := by
  have h := box_at (w.alloc (box x)) roomN
  rw [show (w.alloc (box x)).heap.size = w.heap.size + 1 by simp] at h
  exact h

set_option maxRecDepth 100000 in
theorem room_fine : roomN.fine := ⟨⟨_, _, _, rfl⟩, ⟨_, _, _, rfl⟩⟩
set_option maxRecDepth 100000 in
/-- A row of the spare room, as a store meets it. -/
theorem row_spare {w : World} {g cap : Nat} {l : List Nd} {x : Nd} (h : NR w (.slice (some ⟨g, 0, none⟩) (l.length + 1) cap) (l ++ [x])) {k : Nat} (hk : l.length + 1 + k < cap) :
    (∃ z0 z1 z2 z3 z4 z5 z6 : Value, w.cell? ⟨g, (l.length + 1) * 7 + k * 7, none⟩ = some z0 ∧ w.cell? ⟨g, (l.length + 1) * 7 + k * 7 + 1, none⟩ = some z1 ∧ w.cell? ⟨g, (l.length + 1) * 7 + k * 7 + 2, none⟩ = some z2 ∧ w.cell? ⟨g, (l.length + 1) * 7 + k * 7 + 3, none⟩ = some z3 ∧ w.cell? ⟨g, (l.length + 1) * 7 + k * 7 + 4, none⟩ = some z4 ∧ w.cell? ⟨g, (l.length + 1) * 7 + k * 7 + 5, none⟩ = some z5 ∧ w.cell? ⟨g, (l.length + 1) * 7 + k * 7 + 6, none⟩ = some z6) ∧
      ∀ i, w.frozen? ⟨g, (l.length + 1) * 7 + k * 7 + i, none⟩ = false := by
  obtain ⟨g', cap', e, _, _, _, _, hs, hf⟩ := h.form (by simp)
  injection e with e1 e2 e3
  injection e1 with e1
  injection e1 with e1
  subst e1 e3
  obtain ⟨y, hy⟩ := hs (l.length + 1 + k) hk
  have e : (l.length + 1 + k) * 7 = (l.length + 1) * 7 + k * 7 := by omega
  rw [e] at hy
  obtain ⟨c0, c1, c2, c3, c4, c5, c6⟩ := (show NodeAt w g _ y from hy).c7
  exact ⟨⟨_, _, _, _, _, _, _, c0, c1, c2, c3, c4, c5, c6⟩, fun i => hf _⟩
/-- The world behind a store of a node, cell by cell. -/
def setN (w : World) (g o : Nat) (x : Nd) : World :=
  ((((((w.setCell ⟨g, o, none⟩ (.int .i64 x.kind)).setCell ⟨g, o + 1, none⟩ (.int .i64 x.space)).setCell ⟨g, o + 2, none⟩ (.string x.name)).setCell ⟨g, o + 3, none⟩ x.av).setCell ⟨g, o + 4, none⟩ (.string x.data)).setCell ⟨g, o + 5, none⟩ (.int .i64 x.up)).setCell ⟨g, o + 6, none⟩ x.kv
set_option maxRecDepth 100000 in
theorem row_store {w : World} {g n cap : Nat} {l : List Nd} {x : Nd} (h : NR w (.slice (some ⟨g, 0, none⟩) n cap) (l ++ [x])) {k : Nat} (y : Nd) (hf : y.fine) :
    NR (setN w g ((l.length + 1) * 7 + k * 7) y) (.slice (some ⟨g, 0, none⟩) n cap) (l ++ [x]) ∧ w.grownBy (setN w g ((l.length + 1) * 7 + k * 7) y) (some g) := by
  have hl : (l ++ [x]).length = l.length + 1 := by simp
  have ok : ∀ i, i < 7 → ∀ u, y.cells[i]? = some u → nOk (((l.length + 1) * 7 + k * 7 + i) % 7) u := fun i hi u hu => by
    have := fine_ok hf i u hu
    rwa [Nat.mod_eq_of_lt hi, show i = ((l.length + 1) * 7 + k * 7 + i) % 7 by omega] at this
  obtain ⟨a0, b0⟩ := h.spare ((l.length + 1) * 7 + k * 7) (by omega) _ (ok 0 (by omega) _ rfl)
  obtain ⟨a1, b1⟩ := a0.spare ((l.length + 1) * 7 + k * 7 + 1) (by omega) _ (ok 1 (by omega) _ rfl)
  obtain ⟨a2, b2⟩ := a1.spare ((l.length + 1) * 7 + k * 7 + 2) (by omega) _ (ok 2 (by omega) _ rfl)
  obtain ⟨a3, b3⟩ := a2.spare ((l.length + 1) * 7 + k * 7 + 3) (by omega) _ (ok 3 (by omega) _ rfl)
  obtain ⟨a4, b4⟩ := a3.spare ((l.length + 1) * 7 + k * 7 + 4) (by omega) _ (ok 4 (by omega) _ rfl)
  obtain ⟨a5, b5⟩ := a4.spare ((l.length + 1) * 7 + k * 7 + 5) (by omega) _ (ok 5 (by omega) _ rfl)
  obtain ⟨a6, b6⟩ := a5.spare ((l.length + 1) * 7 + k * 7 + 6) (by omega) _ (ok 6 (by omega) _ rfl)
  exact ⟨a6, (((((b0.trans b1).trans b2).trans b3).trans b4).trans b5).trans b6⟩

set_option maxRecDepth 100000 in
set_option maxHeartbeats 1600000 in
theorem behindN_any (v : Value) (l : List Nd) (x : Nd) (w : World) (hK : NR w v l) (hne : 0 < l.length) (hf : x.fine) (hs : l.length ≤ 100000) :
    Calls Try.prog 132 #[v, x.val, roomN.val, .func (.func 133) #[] #[]] w (RetMoreN v l x w) := by
  obtain ⟨g, cap, rfl, hle, hm, hg, hcell, hsp, _⟩ := hK.form hne
  unfold maxLen at hm
  have HK := Lib.hid hK
  have HFn := Lib.hid hf
  have HU := Lib.hid (fun y W => unusedN_any y W)
  have HB0 := Lib.hid (b2_below w x)
  have HX1 := Lib.hid (b2_one w x)
  have HX2 := Lib.hid (b2_two w x)
  have HSZ := Lib.hid (b2_size w x)
  have h1 : IntKind.i64.wrap ((l.length : Int) + 1) = (l.length : Int) + 1 := IntWalk.i64_in _ (by omega)
  have H1 := Lib.hid h1
  clear h1
  by_cases hroom : l.length < cap
  · obtain ⟨y, hy⟩ := hsp l.length hroom
    have hy0 : NodeAt w g (l.length * 7) y := hy
    have HY := Lib.hid (hy0.below HB0.out)
    have HUz := Lib.hid (fun W => HU.out y W)
    clear hK hcell hsp HU hy hy0 hf
    unfold Nd.val at HUz
    by_cases hq : y.up = -9223372036854775808
    · have hb : (y.up == -9223372036854775808) = true := by simp [hq]
      rw [hb] at HUz
      have HYu := Lib.hid hq
      clear hb hq
      unfold Nd.val
      dsimp only [roomN]
      go_enter Try.func132, Try.ntmps132
      go_upto_region 1 with fail
      show Code.wp _ _ _ _ (B2 w x)
      obtain ⟨w1, ew⟩ : ∃ w1, w1 = B2 w x := ⟨_, rfl⟩
      rw [← ew] at HB0 HX1 HX2 HSZ HY ⊢
      clear ew
      obtain ⟨y0, y1, y2, y3, y4, y5, y6⟩ := HY.out.c7
      go_wp2_with fail
      refine (HUz.out _).mono ?_
      rintro e w2 ⟨rfl, hb1⟩
      have HB2 : Hid (Below w.heap.size w w2) := Lib.hid (HB0.out.trans (hb1.mono HB0.out.size))
      have HX := Lib.hid (HX1.out.below hb1)
      obtain ⟨x0, x1, x2, x3, x4, x5, x6⟩ := HX.out.c7
      clear hb1 y0 y1 y2 y3 y4 y5 y6 HY HX2 HX1 HUz HSZ
      obtain ⟨w3, hr, hk1, hgr⟩ := run_append_fitN (w2.alloc (box x)) 22 g cap l ((HK.out.below HB2.out).below (below_box _ _)) w2.heap.size x (box_at w2 x) HFn.out hroom (by omega)
      have HR := Lib.hid hr
      have HF : Hid (RetMoreN (.slice (some ⟨g, 0, none⟩) l.length cap) l x w (.returned (.slice (some ⟨g, 0, none⟩) (l.length + 1) cap)) w3) := Lib.hid ⟨_, rfl, hk1, (show w.grownBy w2 (some g) from ⟨HB2.out.os, HB2.out.tape, HB2.out.output, HB2.out.size, fun k hk _ => HB2.out.block k hk⟩).trans ((World.grownBy_alloc w2 _ _).trans hgr), .inl rfl⟩
      clear hr hk1 hgr
      go_wp2_with (at_builtin; refine Lib.wpList_append_run _ rfl _ _ _ _ rfl _ _ rfl rfl _ _ HR.out ?_)
      go_ret
      exact HF.out
    · have hb : (y.up == -9223372036854775808) = false := by simp [hq]
      rw [hb] at HUz
      clear hb hq
      unfold Nd.val
      dsimp only [roomN]
      go_enter Try.func132, Try.ntmps132
      go_upto_region 1 with fail
      show Code.wp _ _ _ _ (B2 w x)
      obtain ⟨w1, ew⟩ : ∃ w1, w1 = B2 w x := ⟨_, rfl⟩
      rw [← ew] at HB0 HX1 HX2 HSZ HY ⊢
      clear ew
      obtain ⟨y0, y1, y2, y3, y4, y5, y6⟩ := HY.out.c7
      go_wp2_with fail
      refine (HUz.out _).mono ?_
      rintro e w2 ⟨rfl, hb1⟩
      have HB2 : Hid (Below w.heap.size w w2) := Lib.hid (HB0.out.trans (hb1.mono HB0.out.size))
      have HX := Lib.hid (HX1.out.below hb1)
      have HXr := Lib.hid (HX2.out.below hb1)
      obtain ⟨x0, x1, x2, x3, x4, x5, x6⟩ := HX.out.c7
      have HSz : Hid (w.heap.size + 2 ≤ w2.heap.size) := Lib.hid (by have := hb1.size; rw [HSZ.out] at this; exact this)
      clear hb1 y0 y1 y2 y3 y4 y5 y6 HY HX2 HX1 HUz HSZ
      obtain ⟨cap2, w3, hr, hk1, hc1, hc2, hgr⟩ := run_append_fullN (w2.drew.alloc (box x)) 22 g cap l ((HK.out.below (drewB1 HB2.out)).below (below_box _ _)) w2.heap.size x (box_at w2.drew x) HFn.out (by omega)
      have hz2 : (w2.drew.alloc (box x)).heap.size = w2.heap.size + 1 := by simp
      rw [hz2] at hr hk1
      have HR := Lib.hid hr
      have HK2 := Lib.hid hk1
      have HB3 : Hid (Below w.heap.size w w3) := Lib.hid (((drewB1 HB2.out).alloc HB2.out.size (box x)).trans ⟨hgr.os, hgr.tape, hgr.output, hgr.size, fun k hk => hgr.block k (by rw [hz2]; have := HB2.out.size; omega) (by simp)⟩)
      have HX3 : Hid (NodeAt w3 (w.heap.size + 1) 0 roomN) := Lib.hid (((show NodeAt w2.drew (w.heap.size + 1) 0 roomN from HXr.out).below (below_box _ _)).block (hgr.block _ (by rw [hz2]; have := HSz.out; omega) (by simp)))
      unfold maxLen at hc2
      clear hr hk1 hz2 hgr
      go_wp2
      have H1o := H1.out
      go_region_law (refine step_append_run rfl _ _ _ _ rfl _ _ rfl rfl _ _ HR.out ?_)
      all_goals
        clear H1o
        have hz : w.heap.size + 1 ≠ w2.heap.size + 1 := by have := HSz.out; omega
        have HZ := Lib.hid hz
        clear hz x0 x1 x2 x3 x4 x5 x6
        have HE : Hid (∀ wr, w3.grownBy wr (some (w2.heap.size + 1)) → NR wr (.slice (some ⟨w2.heap.size + 1, 0, none⟩) (l.length + 1) cap2) (l ++ [x]) → RetMoreN (.slice (some ⟨g, 0, none⟩) l.length cap) l x w (.returned (.slice (some ⟨w2.heap.size + 1, 0, none⟩) (l.length + 1) cap2)) wr) := Lib.hid (fun wr hg2 hk2 => by
          have hsz := HSz.out
          exact ⟨_, rfl, hk2, ⟨hg2.os.trans HB3.out.os, hg2.tape.trans HB3.out.tape, hg2.output.trans HB3.out.output, Nat.le_trans HB3.out.size hg2.size, fun k hk _ => (hg2.block k (Nat.lt_of_lt_of_le hk HB3.out.size) (by intro e; injection e with e; omega)).trans (HB3.out.block k hk)⟩, .inr ⟨w2.heap.size + 1, rfl, by omega⟩⟩)
        by_cases hfull : cap2 = l.length + 1
        · subst hfull
          go_wp2
          go_loopw [48] (fun q wr => q = .int .i64 0 ∧ w3 = wr) (fun _ _ => 0)
          case atStart => exact ⟨rfl, rfl⟩
          case round =>
            obtain ⟨rfl, rfl⟩ := hrel
            go_wp2
            go_ret
            exact HE.out _ (World.grownBy.refl _ _) HK2.out
        · have hgt : l.length + 1 < cap2 := by omega
          have hgi : (l.length : Int) + 1 ≤ (cap2 : Int) := by omega
          clear hc1 hfull
          go_wp2
          go_loopw [48] (fun q wr => ∃ k : Nat, k ≤ cap2 - (l.length + 1) ∧ q = .int .i64 k ∧ NR wr (.slice (some ⟨w2.heap.size + 1, 0, none⟩) (l.length + 1) cap2) (l ++ [x]) ∧ w3.grownBy wr (some (w2.heap.size + 1))) (fun q _ => cap2 - (l.length + 1) - (intOf q).toNat)
          case atStart => exact ⟨0, Nat.zero_le _, rfl, HK2.out, World.grownBy.refl _ _⟩
          case round =>
            obtain ⟨k, hk, rfl, hkr, hgr⟩ := hrel
            have HKr := Lib.hid hkr
            have HGr := Lib.hid hgr
            clear hkr hgr
            by_cases hlt : k < cap2 - (l.length + 1)
            · have HXk := Lib.hid (HX3.out.block (HGr.out.block _ HX3.out.lt (by intro e; injection e with e; exact HZ.out e)))
              obtain ⟨x0, x1, x2, x3, x4, x5, x6⟩ := HXk.out.c7
              dsimp only [roomN] at x0 x1 x2 x3 x4 x5 x6
              have hlt2 : (k : Int) < ((cap2 - (l.length + 1) : Nat) : Int) := by omega
              obtain ⟨⟨z0, z1, z2, z3, z4, z5, z6, c0, c1, c2, c3, c4, c5, c6⟩, fz⟩ := row_spare HKr.out (k := k) (by omega)
              have f0 : wr.frozen? ⟨w2.heap.size + 1, (l.length + 1) * 7 + k * 7, none⟩ = false := fz 0
              have f1 := fz 1
              have f2 := fz 2
              have f3 := fz 3
              have f4 := fz 4
              have f5 := fz 5
              have f6 := fz 6
              have HSt := Lib.hid (row_store HKr.out (k := k) roomN room_fine)
              clear fz
              go_wp2
              go_roundw
              case rel => exact ⟨k + 1, by omega, by go_num, HSt.out.1, HGr.out.trans HSt.out.2⟩
              case measure => simp [intOf]; omega
            · go_wp2
              go_ret
              exact HE.out _ HGr.out HKr.out
  · obtain rfl : l.length = cap := by omega
    clear hK hcell hsp HU hle hf
    unfold Nd.val
    dsimp only [roomN]
    go_enter Try.func132, Try.ntmps132
    go_upto_region 1 with fail
    show Code.wp _ _ _ _ (B2 w x)
    obtain ⟨w2, ew⟩ : ∃ w1, w1 = B2 w x := ⟨_, rfl⟩
    rw [← ew] at HB0 HX1 HX2 HSZ ⊢
    clear ew
    have HB2 := HB0
    have HXr := HX2
    have HSz : Hid (w.heap.size + 2 ≤ w2.heap.size) := Lib.hid (by rw [HSZ.out]; exact Nat.le_refl _)
    obtain ⟨x0, x1, x2, x3, x4, x5, x6⟩ := HX1.out.c7
    obtain ⟨cap2, w3, hr, hk1, hc1, hc2, hgr⟩ := run_append_fullN (w2.drew.alloc (box x)) 22 g l.length l ((HK.out.below (drewB1 HB2.out)).below (below_box _ _)) w2.heap.size x (box_at w2.drew x) HFn.out (by omega)
    have hz2 : (w2.drew.alloc (box x)).heap.size = w2.heap.size + 1 := by simp
    rw [hz2] at hr hk1
    have HR := Lib.hid hr
    have HK2 := Lib.hid hk1
    have HB3 : Hid (Below w.heap.size w w3) := Lib.hid (((drewB1 HB2.out).alloc HB2.out.size (box x)).trans ⟨hgr.os, hgr.tape, hgr.output, hgr.size, fun k hk => hgr.block k (by rw [hz2]; have := HB2.out.size; omega) (by simp)⟩)
    have HX3 : Hid (NodeAt w3 (w.heap.size + 1) 0 roomN) := Lib.hid (((show NodeAt w2.drew (w.heap.size + 1) 0 roomN from HXr.out).below (below_box _ _)).block (hgr.block _ (by rw [hz2]; have := HSz.out; omega) (by simp)))
    unfold maxLen at hc2
    clear hr hk1 hz2 hgr
    go_wp2
    have H1o := H1.out
    go_region_law (refine step_append_run rfl _ _ _ _ rfl _ _ rfl rfl _ _ HR.out ?_)
    all_goals
      clear H1o
      have hz : w.heap.size + 1 ≠ w2.heap.size + 1 := by have := HSz.out; omega
      have HZ := Lib.hid hz
      clear hz x0 x1 x2 x3 x4 x5 x6
      have HE : Hid (∀ wr, w3.grownBy wr (some (w2.heap.size + 1)) → NR wr (.slice (some ⟨w2.heap.size + 1, 0, none⟩) (l.length + 1) cap2) (l ++ [x]) → RetMoreN (.slice (some ⟨g, 0, none⟩) l.length l.length) l x w (.returned (.slice (some ⟨w2.heap.size + 1, 0, none⟩) (l.length + 1) cap2)) wr) := Lib.hid (fun wr hg2 hk2 => by
        have hsz := HSz.out
        exact ⟨_, rfl, hk2, ⟨hg2.os.trans HB3.out.os, hg2.tape.trans HB3.out.tape, hg2.output.trans HB3.out.output, Nat.le_trans HB3.out.size hg2.size, fun k hk _ => (hg2.block k (Nat.lt_of_lt_of_le hk HB3.out.size) (by intro e; injection e with e; omega)).trans (HB3.out.block k hk)⟩, .inr ⟨w2.heap.size + 1, rfl, by omega⟩⟩)
      by_cases hfull : cap2 = l.length + 1
      · subst hfull
        go_wp2
        go_loopw [48] (fun q wr => q = .int .i64 0 ∧ w3 = wr) (fun _ _ => 0)
        case atStart => exact ⟨rfl, rfl⟩
        case round =>
          obtain ⟨rfl, rfl⟩ := hrel
          go_wp2
          go_ret
          exact HE.out _ (World.grownBy.refl _ _) HK2.out
      · have hgt : l.length + 1 < cap2 := by omega
        have hgi : (l.length : Int) + 1 ≤ (cap2 : Int) := by omega
        clear hc1 hfull
        go_wp2
        go_loopw [48] (fun q wr => ∃ k : Nat, k ≤ cap2 - (l.length + 1) ∧ q = .int .i64 k ∧ NR wr (.slice (some ⟨w2.heap.size + 1, 0, none⟩) (l.length + 1) cap2) (l ++ [x]) ∧ w3.grownBy wr (some (w2.heap.size + 1))) (fun q _ => cap2 - (l.length + 1) - (intOf q).toNat)
        case atStart => exact ⟨0, Nat.zero_le _, rfl, HK2.out, World.grownBy.refl _ _⟩
        case round =>
          obtain ⟨k, hk, rfl, hkr, hgr⟩ := hrel
          have HKr := Lib.hid hkr
          have HGr := Lib.hid hgr
          clear hkr hgr
          by_cases hlt : k < cap2 - (l.length + 1)
          · have HXk := Lib.hid (HX3.out.block (HGr.out.block _ HX3.out.lt (by intro e; injection e with e; exact HZ.out e)))
            obtain ⟨x0, x1, x2, x3, x4, x5, x6⟩ := HXk.out.c7
            dsimp only [roomN] at x0 x1 x2 x3 x4 x5 x6
            have hlt2 : (k : Int) < ((cap2 - (l.length + 1) : Nat) : Int) := by omega
            obtain ⟨⟨z0, z1, z2, z3, z4, z5, z6, c0, c1, c2, c3, c4, c5, c6⟩, fz⟩ := row_spare HKr.out (k := k) (by omega)
            have f0 : wr.frozen? ⟨w2.heap.size + 1, (l.length + 1) * 7 + k * 7, none⟩ = false := fz 0
            have f1 := fz 1
            have f2 := fz 2
            have f3 := fz 3
            have f4 := fz 4
            have f5 := fz 5
            have f6 := fz 6
            have HSt := Lib.hid (row_store HKr.out (k := k) roomN room_fine)
            clear fz
            go_wp2
            go_roundw
            case rel => exact ⟨k + 1, by omega, by go_num, HSt.out.1, HGr.out.trans HSt.out.2⟩
            case measure => simp [intOf]; omega
          · go_wp2
            go_ret
            exact HE.out _ HGr.out HKr.out
end Go.Proofs.Ytkkngflpmdcfjaa
