/-
  At, Swap, Drop, Into.
-/
import Derived.Test.YtkkngflpmdcfjaaYInsert
namespace Go.Proofs.Ytkkngflpmdcfjaa
open Go.RowKit

set_option maxRecDepth 100000 in
set_option maxHeartbeats 1600000 in
theorem clone_ints (a : Option Addr) (cap : Nat) (xs : List Int) (w : World) (hA : IntsAt w a xs) (hl : xs.length ≤ 1000000) :
    Calls Try.prog 74 #[.slice a xs.length cap] w (RetI xs w) := by
  have hq : ∀ (w : World) (a : Option Addr) (n c n' c' : Nat), (binOp .eql 29 (.slice a n c) (.slice none n' c')).run Try.prog w = .ok (.bool a.isNone) w := fun w a n c n' c' => Lib.run_eql_slice_nil w _ _ a n c n' c' Try.underlying29
  cases a with
  | none =>
    have h0 : xs = [] := Classical.byContradiction fun h => by obtain ⟨b, off, e, _⟩ := hA h; cases e
    subst h0
    clear hA hl
    go_enter Try.func74, Try.ntmps74
    go_wp2
    go_ret
    exact ⟨_, rfl, KR.nil w, fun g h => (by cases h), Below.refl _ _⟩
  | some ad =>
    have HA := Lib.hid (hA.below (below_box w (.cells #[] 3)))
    have HO : Hid (KR (w.alloc (.cells #[] 3)) (.slice (some ⟨w.heap.size, 0, none⟩) 0 0) []) := Lib.hid ⟨World.ownsRow_lit w #[] 0 (Nat.zero_le _) (Nat.zero_le _) rfl, okRow.alloc fun j u h => by simp at h⟩
    clear hA
    go_enter Try.func74, Try.ntmps74
    go_wp2_with (at_builtin; refine wpList_append_ints _ rfl _ _ rfl _ _ rfl HO.out (some ad) cap xs rfl HA.out (by simp; omega) ?_; intro v1 w1 hk1 hgrow1 hat1)
    go_ret
    refine ⟨_, rfl, hk1, fun g hg => ?_, (below_box w _).grown hgrow1 (by simp) (fun k hk => by cases hk; exact Nat.le_refl _)⟩
    have hg' : v1.ownBlock = some g := hg
    rcases hat1 with e | e
    · rw [e] at hg'; cases hg'; exact Nat.le_refl _
    · rw [e] at hg'; injection hg' with hg'; simp at hg'; omega

set_option maxRecDepth 100000 in
set_option maxHeartbeats 1600000 in
theorem index_ints (a : Option Addr) (cap : Nat) (xs : List Int) (x : Int) (w : World) (hA : IntsAt w a xs) (hl : xs.length ≤ 1000000) :
    Calls Try.prog 126 #[.slice a xs.length cap, .int .i64 x] w fun e w' => e = .returned (.int .i64 (idxI x xs)) ∧ w' = w := by
  have HA := Lib.hid hA
  have hl2 : (xs.length : Int) ≤ 1000000 := by omega
  have HI : Hid (idxI x xs = idxR x (xs.drop 0) 0) := Lib.hid rfl
  clear hA
  generalize idxI x xs = R at *
  go_enter Try.func126, Try.ntmps126
  go_wp2
  go_loopw [8] (fun v8 wr => ∃ k : Nat, k ≤ xs.length ∧ v8 = .int .i64 k ∧ wr = w ∧ R = idxR x (xs.drop k) k) (fun v8 _ => xs.length - (intOf v8).toNat)
  case atStart => exact ⟨0, Nat.zero_le _, rfl, rfl, HI.out⟩
  case round =>
    clear HI
    obtain ⟨k, hk, rfl, rfl, hr⟩ := hrel
    by_cases hlt : k < xs.length
    · obtain ⟨b, off, rfl, _, hc⟩ := HA.out (fun e => by rw [e] at hlt; simp at hlt)
      have hcz := hc k hlt
      rw [idxR_drop x xs k hlt] at hr
      have hi0 : (0 : Int) ≤ (k : Int) := by omega
      have hi1 : (k : Int) < (xs.length : Int) := by omega
      clear hc
      generalize xs[k] = z at *
      by_cases he : x = z
      · rw [if_pos he] at hr
        have hb : (x == z) = true := by simp [he]
        have HR := Lib.hid hr
        clear he hr
        go_wp2
        go_ret
        exact ⟨ret_int HR.out.symm, rfl⟩
      · rw [if_neg he] at hr
        have hb : (x == z) = false := by simp [he]
        have HR := Lib.hid hr
        clear he hr
        go_wp2
        go_roundw
        case rel => exact ⟨k + 1, by omega, by go_num, by first | trivial | rfl, HR.out⟩
        case measure => simp [intOf]; omega
    · have e : k = xs.length := by omega
      subst e
      rw [idxR_end x xs _ (Nat.le_refl _)] at hr
      have HR := Lib.hid hr
      clear hr
      go_wp2
      go_ret
      exact ⟨ret_int HR.out.symm, rfl⟩
set_option maxRecDepth 100000 in
theorem contains_ints (a : Option Addr) (cap : Nat) (xs : List Int) (x : Int) (w : World) (hA : IntsAt w a xs) (hl : xs.length ≤ 1000000) :
    Calls Try.prog 75 #[.slice a xs.length cap, .int .i64 x] w fun e w' => e = .returned (.bool (decide (0 ≤ idxI x xs))) ∧ w' = w := by
  have HI := Lib.hid (index_ints a cap xs x w hA hl)
  generalize idxI x xs = r at *
  clear hA
  go_enter Try.func75, Try.ntmps75
  go_wp2_with fail
  refine HI.out.mono ?_
  rintro e w1 ⟨rfl, rfl⟩
  go_wp2
  go_ret
  exact ⟨rfl, rfl⟩
set_option maxRecDepth 100000 in
theorem at_any (a : Option Addr) (cap : Nat) (xs : List Int) (x : Int) (w : World) (hA : IntsAt w a xs) (hl : xs.length ≤ 1000000) :
    Calls Try.prog 70 #[.slice a xs.length cap, .int .i64 x] w fun e w' => e = .returned (.int .i64 (idxI x xs)) ∧ w' = w := by
  have HI := Lib.hid (index_ints a cap xs x w hA hl)
  generalize idxI x xs = r at *
  clear hA
  go_enter Try.func70, Try.ntmps70
  go_wp2_with fail
  refine HI.out.mono ?_
  rintro e w1 ⟨rfl, rfl⟩
  go_wp2
  go_ret
  exact ⟨rfl, rfl⟩
/-- A store into a row. -/
theorem KR.store {w : World} {g n c : Nat} {xs : List Int} (h : KR w (.slice (some ⟨g, 0, none⟩) n c) xs) (j : Nat) (z : Int) :
    KR (w.setCell ⟨g, j, none⟩ (.int .i64 z)) (.slice (some ⟨g, 0, none⟩) n c) (xs.set j z) ∧ w.grownBy (w.setCell ⟨g, j, none⟩ (.int .i64 z)) (some g) := by
  have h1 := h.1
  have hn := h.len.1
  rw [hn] at h1 ⊢
  obtain ⟨s1, s2⟩ := h1.stored j (.int .i64 z)
  refine ⟨⟨?_, ?_⟩, s2⟩
  · have e : (xs.set j z).map (Value.int .i64) = (xs.map (Value.int .i64)).set j (.int .i64 z) := by rw [List.map_set]
    rw [e, List.length_set]; exact s1
  · intro g' c' t fz hg hc i u hu
    simp only [Value.ownBlock, Option.some.injEq] at hg
    subst hg
    obtain ⟨cur, hcur⟩ : ∃ cur, w.heap[g]? = some (.cells cur 3 (0, 0)) := by
      rcases h1.2 with ⟨e2, _⟩ | ⟨g2, cap, cur, e2, _, hh, _⟩
      · cases e2
      · injection e2 with e1; cases e1; exact ⟨cur, hh⟩
    rw [heap_setCell_same w g j cur _ (.int .i64 z) hcur] at hc
    cases hc
    rw [Array.getElem?_setIfInBounds] at hu
    split at hu
    · split at hu
      · exact ⟨z, by simpa using hu.symm⟩
      · cases hu
    · exact h.2 g cur _ _ rfl hcur i u hu
def swP (i by_ : Int) (z : Int) : Int := if z = i then by_ else z

set_option maxRecDepth 100000 in
set_option maxHeartbeats 2000000 in
theorem swap_any (a : Option Addr) (cap : Nat) (xs : List Int) (i by_ : Int) (w : World) (hA : IntsAt w a xs) (hl : xs.length ≤ 1000000) :
    Calls Try.prog 68 #[.slice a xs.length cap, .int .i64 i, .int .i64 by_] w (RetI (xs.map (swP i by_)) w) := by
  have HC := Lib.hid (clone_ints a cap xs w hA hl)
  have HA := Lib.hid hA
  have hl2 : (xs.length : Int) ≤ 1000000 := by omega
  clear hA
  go_enter Try.func68, Try.ntmps68
  go_wp2_with fail
  refine HC.out.mono ?_
  rintro e w1 ⟨v1, rfl, hk, ho, hb⟩
  have HK1 := Lib.hid hk
  have HO1 := Lib.hid ho
  have HB1 := Lib.hid hb
  obtain ⟨a1, c1, rfl, _, hm1, _⟩ := hk.form
  have hc1 : (c1 : Int) ≤ 9223372036854775807 := by unfold maxLen at hm1; omega
  clear hk ho hb HC
  go_wp2
  go_loopw [14] (fun v14 wr => ∃ k : Nat, k ≤ xs.length ∧ v14 = .int .i64 k ∧ KR wr (.slice a1 xs.length c1) ((xs.take k).map (swP i by_) ++ xs.drop k) ∧ Below w.heap.size w wr) (fun v14 _ => xs.length - (intOf v14).toNat)
  case atStart => exact ⟨0, Nat.zero_le _, rfl, by simpa using HK1.out, HB1.out⟩
  case round =>
    clear HK1 HB1
    obtain ⟨k, hk, rfl, hkr, hb⟩ := hrel
    have HK := Lib.hid hkr
    have HB := Lib.hid hb
    by_cases hlt : k < xs.length
    · obtain ⟨b, off, rfl, hbl, hc⟩ := HA.out (fun e => by rw [e] at hlt; simp at hlt)
      have hcz := (hb.cell (p := ⟨b, off + k, none⟩) hbl).trans (hc k hlt)
      have hi0 : (0 : Int) ≤ (k : Int) := by omega
      have hi1 : (k : Int) < (xs.length : Int) := by omega
      have hst : ((xs.take k).map (swP i by_) ++ xs.drop k).set k (swP i by_ xs[k]) = (xs.take (k + 1)).map (swP i by_) ++ xs.drop (k + 1) := by
        rw [List.drop_eq_getElem_cons hlt, List.set_append_right _ _ (by simp; omega)]
        have e : k - ((xs.take k).map (swP i by_)).length = 0 := by simp; omega
        have e2 : xs.take (k + 1) = xs.take k ++ [xs[k]] := by rw [List.take_add_one, List.getElem?_eq_getElem hlt]; rfl
        rw [e, List.set_cons_zero, e2, List.map_append, List.append_assoc]; rfl
      have HSt := Lib.hid hst
      have hsame : ¬ xs[k] = i → ((xs.take k).map (swP i by_) ++ xs.drop k).set k (swP i by_ xs[k]) = (xs.take k).map (swP i by_) ++ xs.drop k := fun hne => by
        have : swP i by_ xs[k] = xs[k] := by unfold swP; rw [if_neg hne]
        rw [this, List.drop_eq_getElem_cons hlt, List.set_append_right _ _ (by simp; omega)]
        have e : k - ((xs.take k).map (swP i by_)).length = 0 := by simp; omega
        rw [e, List.set_cons_zero]
      have HSame := Lib.hid hsame
      clear hst hsame hc hb
      cases a1 with
      | none =>
        have := hkr.len.1
        obtain ⟨_, _, e, h1, _, h2, _⟩ := hkr.form
        injection e with e1 e2 e3
        have := h2 e1.symm
        omega
      | some ad =>
        obtain ⟨_, _, e, _, _, _, h2⟩ := hkr.form
        injection e with e1 e2 e3
        obtain ⟨g, rfl, hg, hcc, _, hfz⟩ := h2 ad e1.symm
        obtain ⟨z9, hcg⟩ : ∃ z, wr.cell? ⟨g, k, none⟩ = some (.int .i64 z) := ⟨_, hcc k (by simp; omega)⟩
        have hfk := hfz k
        have hkc : (k : Int) < (c1 : Int) := by have := hkr.len; omega
        clear hkr hcc hfz h2 e1 e2 e3
        by_cases he : xs[k] = i
        · have hb1 : (xs[k] == i) = true := by simp [he]
          have hsw : swP i by_ xs[k] = by_ := by unfold swP; rw [if_pos he]
          rw [hsw] at HSt
          clear he hsw HSame
          generalize xs[k] = z at *
          go_wp2
          go_roundw
          case rel =>
            obtain ⟨k1, k2⟩ := HK.out.store k by_
            rw [HSt.out] at k1
            exact ⟨k + 1, by omega, by go_num, k1, HB.out.setCell (p := ⟨g, k, none⟩) (HO1.out g rfl) _⟩
          case measure => simp [intOf]; omega
        · have hb1 : (xs[k] == i) = false := by simp [he]
          have HF : Hid ((xs.take k).map (swP i by_) ++ xs.drop k = (xs.take (k + 1)).map (swP i by_) ++ xs.drop (k + 1)) := Lib.hid ((HSame.out he).symm.trans HSt.out)
          clear he HSame HSt
          generalize xs[k] = z at *
          go_wp2
          go_roundw
          case rel => exact ⟨k + 1, by omega, by go_num, by rw [← HF.out]; exact HK.out, HB.out⟩
          case measure => simp [intOf]; omega
    · have e : k = xs.length := by omega
      subst e
      have HF : Hid (KR wr (.slice a1 xs.length c1) (xs.map (swP i by_))) := Lib.hid (by have h := HK.out; rw [List.take_length, List.drop_length, List.append_nil] at h; exact h)
      clear hkr hb
      go_wp2
      go_ret
      exact ⟨_, rfl, HF.out, HO1.out, HB.out⟩

theorem woN_drop (d : Int) (xs : List Int) : ∀ k, k ≤ xs.length → woN (dropG d) xs k = (xs.take k).filter fun z => !(decide (0 ≤ d) && decide (z = d))
  | 0, _ => by simp [woN]
  | k + 1, h => by
    unfold woN
    have e : xs.getD k 0 = xs[k]'(by omega) := by rw [List.getD_eq_getElem?_getD, List.getElem?_eq_getElem (by omega)]; rfl
    rw [woN_drop d xs k (by omega), List.take_add_one, List.getElem?_eq_getElem (by omega), List.filter_append, e]
    congr 1
    unfold dropG
    show _ = List.filter _ [xs[k]'(by omega)]
    split
    · rename_i h1; rw [List.filter_cons_of_neg (by simpa using h1)]; rfl
    · rename_i h1
      rw [Bool.not_eq_true] at h1
      rw [List.filter_cons_of_pos (by rw [h1]; rfl)]; rfl
def dropP (d : Int) (xs : List Int) : List Int := xs.filter fun z => !(decide (0 ≤ d) && decide (z = d))
set_option maxRecDepth 100000 in
theorem drop_any (a : Option Addr) (cap : Nat) (xs : List Int) (d : Int) (w : World) (hA : IntsAt w a xs) (hl : xs.length ≤ 1000000) :
    Calls Try.prog 66 #[.slice a xs.length cap, .int .i64 d] w (RetI (dropP d xs) w) := by
  have HB0 := Lib.hid (below_box w (.cells #[.int .i64 d] 3))
  have hc0 : (w.alloc (.cells #[.int .i64 d] 3)).cell? ⟨w.heap.size, 0, none⟩ = some (.int .i64 d) := cell_of_row _ w.heap.size 0 _ _ (0, 0) (heap_alloc_new w _)
  have HW := Lib.hid (without_drop a cap xs d w.heap.size (w.alloc (.cells #[.int .i64 d] 3)) hl (hA.below HB0.out) (by simp) hc0)
  rw [woN_drop d xs _ (Nat.le_refl _), List.take_length] at HW
  clear hA hc0
  go_enter Try.func66, Try.ntmps66
  go_wp2_with fail
  refine HW.out.mono ?_
  rintro e w1 ⟨v, rfl, hk, ho, hb⟩
  have HK := Lib.hid hk
  have HO := Lib.hid ho
  have HB := below_step HB0 hb
  clear hk ho hb
  go_wp2
  go_ret
  exact ⟨_, rfl, HK.out, fun g hg => by have := HO.out g hg; simp at this; omega, HB.out⟩
/-- The place at which Into puts: the nearest one. -/
def nearK (at_ : Int) (n : Nat) : Nat := (min (max at_ 0) n).toNat
def intoP (at_ x : Int) (xs : List Int) : List Int := xs.take (nearK at_ xs.length) ++ x :: xs.drop (nearK at_ xs.length)
theorem insertI_any (v : Value) (xs : List Int) (i : Nat) (ii x : Int) (vb : Nat) (w : World) (hii : ii = (i : Int)) (hK : KR w v xs) (hi : i ≤ xs.length) (hl : xs.length ≤ 1000000) (hlit : w.heap[vb]? = some (.cells #[.int .i64 x] 3 (0, 0))) (hne : v.ownBlock ≠ some vb) :
    Calls Try.prog 127 #[v, .int .i64 ii, .slice (some ⟨vb, 0, none⟩) 1 1] w (RetIn v (xs.take i ++ x :: xs.drop i) w) := by
  subst hii; exact insert_any v xs i x vb w hK hi hl hlit hne

set_option maxRecDepth 100000 in
set_option maxHeartbeats 2000000 in
theorem into_any (a : Option Addr) (cap : Nat) (xs : List Int) (at_ x : Int) (w : World) (hA : IntsAt w a xs) (hl : xs.length ≤ 1000000) :
    Calls Try.prog 72 #[.slice a xs.length cap, .int .i64 at_, .int .i64 x] w (RetI (intoP at_ x xs) w) := by
  have HC := Lib.hid (clone_ints a cap xs w hA hl)
  have hn0 : (0 : Int) ≤ (xs.length : Int) := by omega
  have hln : (xs.length : Int) ≤ 1000000 := by omega
  have hii : min (max at_ 0) (xs.length : Int) = (nearK at_ xs.length : Nat) := by unfold nearK; omega
  have hk : nearK at_ xs.length ≤ xs.length := by unfold nearK; omega
  have HI : Hid (∀ (v : Value) (vb : Nat) (W : World), KR W v xs → W.heap[vb]? = some (.cells #[.int .i64 x] 3 (0, 0)) → v.ownBlock ≠ some vb → Calls Try.prog 127 #[v, .int .i64 (min (max at_ 0) (xs.length : Int)), .slice (some ⟨vb, 0, none⟩) 1 1] W (RetIn v (intoP at_ x xs) W)) := Lib.hid (fun v vb W h1 h2 h3 => insertI_any v xs _ _ x vb W hii h1 hk hl h2 h3)
  clear hA hii hk
  generalize intoP at_ x xs = R at *
  go_enter Try.func72, Try.ntmps72
  go_wp2_with fail
  refine HC.out.mono ?_
  rintro e w1 ⟨v1, rfl, hk1, ho1, hb1⟩
  have HB1 := Lib.hid hb1
  have HO1 := Lib.hid ho1
  have HIn := Lib.hid (HI.out v1 w1.heap.size (w1.alloc (.cells #[.int .i64 x] 3)) (hk1.alloc _) (heap_alloc_new w1 _) (fun e => by have := hk1.lt _ e; omega))
  obtain ⟨a1, c1, rfl, _⟩ := hk1.form
  clear hk1 ho1 hb1 HI HC
  have fin : ∀ (e : Ending) (w2 : World), RetIn (.slice a1 xs.length c1) R (w1.alloc (.cells #[.int .i64 x] 3)) e w2 → RetI R w e w2 := fun e w2 h => by
    obtain ⟨v2, rfl, hk2, ho2, hg2⟩ := h
    refine ⟨v2, rfl, hk2, fun g hg => ?_, (HB1.out.alloc HB1.out.size _).grown hg2 (by have := HB1.out.size; simp; omega) HO1.out⟩
    rcases ho2 g hg with h | h
    · exact HO1.out g h
    · have := HB1.out.size; simp at h; omega
  have HFin := Lib.hid fin
  clear fin
  go_wp2_with fail
  refine HIn.out.mono ?_
  rintro e w2 h
  obtain ⟨v2, rfl, hk2⟩ := HFin.out e w2 h
  clear h HIn HFin
  have HK := Lib.hid hk2
  clear hk2
  go_wp2
  go_ret
  exact ⟨_, rfl, HK.out⟩
end Go.Proofs.Ytkkngflpmdcfjaa
