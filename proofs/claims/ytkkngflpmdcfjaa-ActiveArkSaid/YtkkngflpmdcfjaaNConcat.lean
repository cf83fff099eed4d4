/-
  The walks of slices.Grow and slices.Concat at lists of numbers.
-/
import Derived.Test.YtkkngflpmdcfjaaNInts
namespace Go.Proofs.Ytkkngflpmdcfjaa
open Go.RowKit

/-- What a function that makes a list of numbers leaves. -/
def RetInts (xs : List Int) (w : World) (e : Ending) (w' : World) : Prop :=
  ∃ v, e = .returned v ∧ KR w' v xs ∧ (∀ k, v.ownBlock = some k → w.heap.size ≤ k) ∧ Below w.heap.size w w'

set_option maxRecDepth 100000 in
set_option maxHeartbeats 1600000 in
theorem grow_any (n : Nat) (w : World) (hn : n ≤ 3000000) :
    Calls Try.prog 160 #[.slice none 0 0, .int .i64 n] w (RetInts [] w) := by
  by_cases h0 : n = 0
  · subst h0
    go_enter Try.func160, Try.ntmps160
    go_wp2
    go_ret
    exact ⟨_, rfl, KR.nil w, (fun k hk => by cases hk), Below.refl _ _⟩
  · obtain ⟨i0, hi, hz0, hz1, hz2⟩ := info_parts int_info
    have hpos : 0 < n := by omega
    have hr := Lib.run_append_nil_zeros (P := Try.prog) w 29 3 29 3 i0 (.int .i64 0) .i64 .i64 Try.underlying29 Try.underlying3 hi hz0 n hpos (by rw [hz1]; omega) (by omega) (by rw [hz2]; omega)
    have HR := Lib.hid hr
    have h1 : decide ((0 : Int) < (n : Int)) = true := by simp; omega
    have hge := grownCap_ge w n 0 3
    have hcm := grownCap_le_maxLen w n 0 3 (by unfold maxLen; omega)
    have HO : Hid (KR (w.drew.alloc (.cells (Builtin.zeroCells (Value.int .i64 0).cells n ++ Builtin.zeroCells (Value.int .i64 0).cells (grownCap w n 0 3 - n)) 3)) (.slice (some ⟨w.heap.size, 0, none⟩) 0 (grownCap w n 0 3)) []) := Lib.hid ⟨World.ownsRow_made w.drew _ _ (Nat.zero_le _) hcm (by
        rw [Array.size_append, size_zeroCells, size_zeroCells]; show n * 1 + (_ - n) * 1 = _ * 1; omega), okRow.allocD fun j u hu => by
        rw [Array.getElem?_append] at hu
        split at hu
        · have := zero_at _ _ _ _ hu
          exact zero_iok _ _ this
        · have := zero_at _ _ _ _ hu
          have h := zero_iok _ _ this
          exact h⟩
    unfold maxLen at hcm
    have hc63 : grownCap w n 0 3 ≤ 9223372036854775807 := by omega
    clear hr hi hz0 hz1 hz2 h0 hcm
    generalize Builtin.zeroCells (Value.int .i64 0).cells n ++ Builtin.zeroCells (Value.int .i64 0).cells (grownCap w n 0 3 - n) = zs at *
    generalize grownCap w n 0 3 = gc at *
    go_enter Try.func160, Try.ntmps160
    go_wp2_with (at_builtin; refine Lib.wpList_append_run _ rfl _ _ _ _ rfl _ _ rfl rfl _ _ HR.out ?_)
    go_ret
    exact ⟨_, rfl, HO.out, (fun k hk => by simp [Value.ownBlock] at hk; omega), (drewB1 (Below.refl _ _)).alloc (Nat.le_refl _) _⟩

/-- The slices that are put together. -/
abbrev Part := Option Addr × Nat × List Int
def PartsAt (w : World) (B : Nat) (ps : List Part) : Prop := B < w.heap.size ∧ ∀ k (h : k < ps.length), w.cell? ⟨B, k, none⟩ = some (.slice ps[k].1 ps[k].2.2.length ps[k].2.1) ∧ IntsAt w ps[k].1 ps[k].2.2
def joined (ps : List Part) : List Int := ps.flatMap fun p => p.2.2
set_option maxRecDepth 100000 in
theorem joined_take (ps : List Part) (k : Nat) (h : k < ps.length) : joined (ps.take (k + 1)) = joined (ps.take k) ++ ps[k].2.2 := by
  rw [List.take_succ_eq_append_getElem h]; unfold joined; rw [List.flatMap_append]; simp
set_option maxRecDepth 100000 in
theorem joined_le (ps : List Part) (k : Nat) : (joined (ps.take k)).length ≤ (joined ps).length := by
  conv => rhs; rw [← List.take_append_drop k ps]
  unfold joined; rw [List.flatMap_append, List.length_append]; omega
set_option maxRecDepth 100000 in
theorem PartsAt.below {w w' : World} {B : Nat} {ps : List Part} (h : PartsAt w B ps) (hb : Below w.heap.size w w') : PartsAt w' B ps :=
  ⟨Nat.lt_of_lt_of_le h.1 hb.size, fun k hk => ⟨(hb.cell (p := ⟨B, k, none⟩) h.1).trans (h.2 k hk).1, (h.2 k hk).2.below hb⟩⟩

set_option maxRecDepth 100000 in
set_option maxHeartbeats 1600000 in
theorem concat_any (B m c : Nat) (ps : List Part) (w : World) (hm : ps.length = m) (hm8 : m ≤ 8) (hP : PartsAt w B ps) (hsz : (joined ps).length ≤ 3000000) :
    Calls Try.prog 136 #[.slice (some ⟨B, 0, none⟩) m c] w (RetInts (joined ps) w) := by
  have HP := Lib.hid hP
  have HM := Lib.hid hm
  have HG : Hid (∀ n : Nat, n ≤ 3000000 → Calls Try.prog 160 #[.slice none 0 0, .int .i64 n] w (RetInts [] w)) := Lib.hid fun n hn => grow_any n w hn
  clear hP hm
  go_enter Try.func136, Try.ntmps136
  go_wp2
  go_loop [3, 11] (fun t q => ∃ k : Nat, k ≤ m ∧ q = .int .i64 k ∧ t = .int .i64 ((joined (ps.take k)).length : Int)) (fun _ q => m - (intOf q).toNat)
  case atStart => exact ⟨0, Nat.zero_le _, rfl, rfl⟩
  case round =>
    obtain ⟨k, hk, rfl, rfl⟩ := hrel
    have hle := joined_le ps k
    by_cases hlt : k < m
    · have hkp : k < ps.length := by rw [HM.out]; exact hlt
      have hj : (joined (ps.take (k + 1))).length = (joined (ps.take k)).length + ps[k].2.2.length := by rw [joined_take ps k hkp, List.length_append]
      have HJ := Lib.hid hj
      have hle2 := joined_le ps (k + 1)
      have hck := (HP.out.2 k hkp).1
      clear hj
      generalize ps[k] = p at *
      obtain ⟨pa, pc, py⟩ := p
      have hsum : (joined (ps.take k)).length + py.length ≤ 3000000 := by have := HJ.out; simp only at this; omega
      have HJ2 : Hid ((joined (ps.take (k + 1))).length = (joined (ps.take k)).length + py.length) := Lib.hid HJ.out
      clear HJ hle2
      generalize (joined (ps.take k)).length = s1 at *
      go_wp2
      go_round
      case rel => exact ⟨k + 1, by omega, by go_num, by rw [HJ2.out]; go_num⟩
      case measure => simp [intOf]; omega
    · obtain rfl : k = m := by omega
      have hall : joined (ps.take k) = joined ps := by rw [List.take_of_length_le (by rw [HM.out]; exact Nat.le_refl _)]
      rw [hall] at *
      clear hall hle
      have HGn := Lib.hid (HG.out (joined ps).length hsz)
      go_wp2_with fail
      refine HGn.out.mono ?_
      rintro e w1 ⟨v1, rfl, hK1, hown1, hb1⟩
      have HK1 := Lib.hid hK1
      have HO1 := Lib.hid hown1
      have HB1 := Lib.hid hb1
      clear hK1 hown1 hb1
      go_wp2
      go_loopw [6, 27] (fun t q wr => ∃ j : Nat, j ≤ k ∧ q = .int .i64 j ∧ KR wr t (joined (ps.take j)) ∧ (∀ g, t.ownBlock = some g → w.heap.size ≤ g) ∧ Below w.heap.size w wr) (fun _ q _ => k - (intOf q).toNat)
      case atStart => exact ⟨0, Nat.zero_le _, rfl, HK1.out, HO1.out, HB1.out⟩
      case round =>
        obtain ⟨j, hj, rfl, hKr, hownr, hbr⟩ := hrel
        have HKr := Lib.hid hKr
        have HOr := Lib.hid hownr
        have HBr := Lib.hid hbr
        clear hKr hownr hbr
        by_cases hlt : j < k
        · have hjp : j < ps.length := by rw [HM.out]; exact hlt
          have HJ := Lib.hid (joined_take ps j hjp)
          have hle2 := joined_le ps (j + 1)
          have HPj := (HP.out.below HBr.out).2 j hjp
          have hck := HPj.1
          have HY := Lib.hid HPj.2
          clear HPj
          generalize ps[j] = p at *
          obtain ⟨pa, pc, py⟩ := p
          have hsum : (joined (ps.take j)).length + py.length ≤ 3000000 := by
            have e := HJ.out
            rw [e, List.length_append] at hle2; simp only at hle2; omega
          have HJ2 : Hid (joined (ps.take (j + 1)) = joined (ps.take j) ++ py) := Lib.hid HJ.out
          clear HJ hle2
          go_wp2_with (at_builtin; refine wpList_append_ints _ rfl _ _ rfl _ _ rfl HKr.out pa pc py rfl HY.out hsum ?_; intro v2 w2 hK2 hgrow2 hat2)
          go_roundw
          case rel =>
            refine ⟨j + 1, by omega, by go_num, by rw [HJ2.out]; exact hK2, fun g hg => ?_, HBr.out.grown hgrow2 HBr.out.size HOr.out⟩
            rcases hat2 with e | e
            · exact HOr.out g (e ▸ hg)
            · rw [e] at hg; injection hg with hg; have := HBr.out.size; omega
          case measure => simp [intOf]; omega
        · obtain rfl : j = k := by omega
          go_wp2
          go_ret
          exact ⟨_, rfl, by have h := HKr.out; rwa [List.take_of_length_le (by rw [HM.out]; exact Nat.le_refl _)] at h, HOr.out, HBr.out⟩
end Go.Proofs.Ytkkngflpmdcfjaa
