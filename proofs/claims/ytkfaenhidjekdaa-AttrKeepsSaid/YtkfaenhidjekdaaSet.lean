/-
  The walks of Set and Drop, and of the document's own.
-/
import Derived.Test.YtkfaenhidjekdaaAdd
namespace Go.Proofs.Ytkfaenhidjekdaa
open Go.RowKit

theorem clA_set : ∀ (l : List At) (p : Nat) (x : At) (h : p < l.length), l[p].1 = x.1 → (clA l).set (p * 2 + 1) (.string x.2) = clA (l.set p x)
  | [], p, x, h, _ => by simp at h
  | a :: l, 0, x, _, e => by
    have e1 : a.1 = x.1 := e
    show [Value.string a.1, .string x.2] ++ clA l = [Value.string x.1, .string x.2] ++ clA l
    rw [e1]
  | a :: l, p + 1, x, h, e => by
    have ih := clA_set l p x (by simpa using h) e
    rw [show (p + 1) * 2 + 1 = (p * 2 + 1) + 1 + 1 by omega]
    show (Value.string a.1 :: Value.string a.2 :: clA l).set ((p * 2 + 1) + 1 + 1) _ = Value.string a.1 :: Value.string a.2 :: clA (l.set p x)
    rw [List.set_cons_succ, List.set_cons_succ, ih]
/-- The store of a value into a list of the call's own. -/
theorem own_store {w : World} {base g cap : Nat} {l : List At} {p : Nat} {x : At} (hown : w.ownsRow base 24 2 (.slice (some ⟨g, 0, none⟩) l.length cap) l.length (clA l)) (hp : p < l.length) (e : l[p].1 = x.1) :
    (w.setCell ⟨g, p * 2 + 1, none⟩ (.string x.2)).ownsRow base 24 2 (.slice (some ⟨g, 0, none⟩) l.length cap) (l.set p x).length (clA (l.set p x)) ∧
      w.grownBy (w.setCell ⟨g, p * 2 + 1, none⟩ (.string x.2)) (some g) ∧ w.frozen? ⟨g, p * 2 + 1, none⟩ = false ∧ w.cell? ⟨g, p * 2 + 1, none⟩ = some (.string l[p].2) := by
  have h1 := hown.stored (p * 2 + 1) (.string x.2)
  rw [clA_set l p x hp e] at h1
  refine ⟨by rw [List.length_set]; exact h1.1, h1.2, hown.frozenAt _, ?_⟩
  rw [hown.cellAt (p * 2 + 1) (by omega)]
  exact (clA_at l p hp).2
theorem setL_hit {l : List At} {x : At} (h : getB x.1 l = true) : setL l x = l.set (pos x.1 l) x := by unfold setL; rw [if_pos h]
theorem setL_miss {l : List At} {x : At} (h : getB x.1 l = false) : setL l x = l ++ [x] ∧ addL l x = l ++ [x] := by unfold setL addL; rw [h]; exact ⟨rfl, rfl⟩

set_option maxHeartbeats 1600000 in
theorem set_any (a : Option Addr) (cap : Nat) (l : List At) (x : At) (w : World) (hl : l.length ≤ 1000000) (hA : AttrsAt w a l) :
    Calls Try.prog 15 #[.slice a l.length cap, atV x] w (OwnAttrs (setL l x) w) := by
  have HFd := Lib.hid (find_any a cap l x.1 (w.alloc (.cells #[.string x.1, .string x.2] 24)) (by omega) (hA.alloc _))
  have HO : Hid (∀ W, Below w.heap.size w W → Calls Try.prog 23 #[.slice a l.length cap] W (OwnAttrs l W)) := Lib.hid (fun W hW => own_any a cap l W hl (hA.below hW))
  have HAd : Hid (∀ W, Below w.heap.size w W → Calls Try.prog 13 #[.slice a l.length cap, atV x] W (OwnAttrs (addL l x) W)) := Lib.hid (fun W hW => add_any a cap l x W hl (hA.below hW))
  obtain ⟨hb1, hb2⟩ := boxed w x
  have HX1 := Lib.hid hb1
  have HX2 := Lib.hid hb2
  have hc0 := hb1
  have HA1 := Lib.hid ((Below.refl w.heap.size w).alloc (Nat.le_refl _) (.cells #[.string x.1, .string x.2] 24))
  unfold atV at HAd
  unfold atV
  clear hA hb1 hb2 hc0
  by_cases hg : getB x.1 l = true
  · obtain ⟨hp, hlt⟩ := posI_hit hg
    have HR := Lib.hid (setL_hit hg)
    have HE := Lib.hid (pos_hit x.1 l hlt)
    rw [hp] at HFd
    clear hp hg
    generalize pos x.1 l = p at *
    go_enter Try.func15, Try.ntmps15
    go_wp2_with fail
    refine HFd.out.mono ?_
    rintro e w1 ⟨rfl, hb⟩
    have HY2 := Lib.hid (cell_keep hb HX2.out)
    have HB : Hid (Below w.heap.size w w1) := Lib.hid (HA1.out.trans (hb.mono (by simp)))
    clear hb
    go_wp2_with fail
    refine (HO.out w1 HB.out).mono ?_
    rintro e w2 ⟨v, rfl, hown, hb⟩
    have hc2 := cell_keep hb HY2.out
    have HB2 := below_step HB hb
    clear hb
    obtain ⟨g, cap2, rfl, hcp, hgs⟩ := hown.form (by omega)
    have hgb := (hown.lt g rfl).1
    obtain ⟨h1, h2, h3, h4⟩ := own_store hown hlt HE.out
    have HS := Lib.hid h1
    have HT := Lib.hid h2
    clear h1 h2
    have hne : w.heap.size ≠ g := by have := World.block_lt_of_cell? w1 _ HY2.out; dsimp only at this; omega
    go_wp2
    go_ret
    exact ⟨_, rfl, by rw [HR.out]; exact own_base (by simpa using HS.out) HB.out.size, HB2.out.grown HT.out HB2.out.size (fun k hk => by cases hk; exact Nat.le_trans HB.out.size hgb)⟩
  · have hg2 : getB x.1 l = false := by simpa using hg
    obtain ⟨e1, e2⟩ := setL_miss hg2
    have HR : Hid (addL l x = setL l x) := Lib.hid (by rw [e1, e2])
    rw [posI_miss hg2] at HFd
    clear hg hg2 e1 e2
    go_enter Try.func15, Try.ntmps15
    go_wp2_with fail
    refine HFd.out.mono ?_
    rintro e w1 ⟨rfl, hb⟩
    have hc1 := cell_keep hb HX1.out
    have hc2 := cell_keep hb HX2.out
    have HB : Hid (Below w.heap.size w w1) := Lib.hid (HA1.out.trans (hb.mono (by simp)))
    clear hb
    go_wp2_with fail
    refine (HAd.out w1 HB.out).mono ?_
    rintro e w2 ⟨v, rfl, hown, hb⟩
    have HV := Lib.hid (own_base hown HB.out.size)
    have HB2 := below_step HB hb
    clear hb hown
    go_wp2
    go_ret
    exact ⟨v, rfl, by rw [← HR.out]; exact HV.out, HB2.out⟩
theorem pos_seen {l : List At} {n : ByteArray} {k : Nat} (hk : k < l.length) (h : l[k].1 = n) (hb : ∀ j (hj : j < l.length), j < k → l[j].1 ≠ n) : pos n l = k ∧ getB n l = true := by
  have := pos_is hk h (fun j hj => hb j (by omega) hj)
  exact ⟨this, getB_iff.2 (by omega)⟩
theorem none_seen {l : List At} {n : ByteArray} {k : Nat} (hk : l.length ≤ k) (hb : ∀ j (hj : j < l.length), j < k → l[j].1 ≠ n) : getB n l = false := getB_no.2 (fun a ha => by
  obtain ⟨j, hj, rfl⟩ := List.mem_iff_getElem.1 ha
  exact hb j hj (by omega))
theorem seen_more {l : List At} {n : ByteArray} {k : Nat} (hk : k < l.length) (h : l[k].1 ≠ n) (hb : ∀ j (hj : j < l.length), j < k → l[j].1 ≠ n) : ∀ j (hj : j < l.length), j < k + 1 → l[j].1 ≠ n := fun j hj h2 => by
  by_cases e : j = k
  · subst e; exact h
  · exact hb j hj (by omega)
theorem ownAt {w : World} {base : Nat} {v : Value} {l : List At} (h : w.ownsRow base 24 2 v l.length (clA l)) {k : Nat} (hk : k < l.length) : ∃ g cap, v = .slice (some ⟨g, 0, none⟩) l.length cap ∧ base ≤ g ∧ w.cell? ⟨g, k * 2, none⟩ = some (.string l[k].1) ∧ w.cell? ⟨g, k * 2 + 1, none⟩ = some (.string l[k].2) := by
  obtain ⟨g, cap, rfl, hb, _⟩ := h.form (by omega)
  refine ⟨g, cap, rfl, hb, ?_, ?_⟩
  · rw [h.cellAt (k * 2) (by omega)]; exact (clA_at l k hk).1
  · rw [h.cellAt (k * 2 + 1) (by omega)]; exact (clA_at l k hk).2

theorem drewB {b : Nat} {w wr : World} (h : Below b w wr) (n : Nat) : Below b w (wr.drewN n) := ⟨h.os, h.tape, h.output, h.size, h.block⟩

set_option maxHeartbeats 3200000 in
theorem rset_any (a : Option Addr) (cap : Nat) (l : List At) (x : At) (w : World) (hl : l.length ≤ 1000000) (hA : AttrsAt w a l) :
    Calls Try.prog 16 #[.slice a l.length cap, atV x] w (OwnAttrs (setL l x) w) := by
  obtain ⟨hb1, hb2⟩ := w2_cells w x
  have HX1 := Lib.hid hb1
  have HX2 := Lib.hid hb2
  have HA2 := Lib.hid (hA.below (w2_below w x))
  have HB0 := Lib.hid (w2_below w x)
  have HW := Lib.hid (w2_own w x)
  have HS := Lib.hid (w2_size w x)
  unfold atV
  clear hA hb1 hb2
  go_enter Try.func16, Try.ntmps16
  go_wp2_with (at_builtin; refine wpList_append_attrs (W2 w x) rfl _ _ rfl (w.heap.size + 1) _ [] rfl HW.out a cap l rfl HA2.out (by simp; omega) (by rw [HS.out]; omega) ?_; intro v1 w1 hown1 hgrow1; have HC1 := Lib.hid (own_cell HW.out hgrow1 (Nat.lt_succ_self _) HX1.out); have HC2 := Lib.hid (own_cell HW.out hgrow1 (Nat.lt_succ_self _) HX2.out); have HB : Hid (Below w.heap.size w w1) := Lib.hid (grown_below HB0.out (Nat.le_succ _) HB0.out.size HW.out hgrow1); have HV := Lib.hid hown1; clear hown1 hgrow1)
  rw [List.nil_append] at HV
  obtain ⟨a1, c1, hac, rfl, hat⟩ := own_attrs HV.out
  clear hat
  go_loopw [6] (fun i wr => ∃ k : Nat, k ≤ l.length ∧ i = .int .i64 k ∧ (∀ j (hj : j < l.length), j < k → l[j].1 ≠ x.1) ∧ wr.ownsRow (w.heap.size + 1) 24 2 (.slice a1 l.length c1) l.length (clA l) ∧ Below w.heap.size w wr ∧ wr.cell? ⟨w.heap.size, 0, none⟩ = some (.string x.1) ∧ wr.cell? ⟨w.heap.size, 1, none⟩ = some (.string x.2)) (fun i _ => l.length - (intOf i).toNat)
  case atStart => exact ⟨0, Nat.zero_le _, rfl, fun j _ h => absurd h (by omega), HV.out, HB.out, HC1.out, HC2.out⟩
  case round =>
    obtain ⟨k, hk, rfl, hh, hown, hbel, hx1, hx2⟩ := hrel
    have HH := Lib.hid hh
    have HV := Lib.hid hown
    have HB := Lib.hid hbel
    clear hh hown hbel
    by_cases hlt : k < l.length
    · obtain ⟨g, cap2, he, hgb, hc1, hc2⟩ := ownAt HV.out hlt
      obtain ⟨rfl, rfl⟩ : a1 = some ⟨g, 0, none⟩ ∧ c1 = cap2 := by injection he with h1 _ h2; exact ⟨h1, h2⟩
      clear he
      have hi1 : (0 : Int) ≤ (k : Int) := by omega
      have hi2 : (k : Int) < (l.length : Int) := by omega
      by_cases hq : l[k].1 = x.1
      · obtain ⟨e1, e2⟩ := pos_seen hlt hq HH.out
        have HR : Hid (setL l x = l.set k x) := Lib.hid (by rw [setL_hit e2, e1])
        have hs : (l[k].1.toList == x.1.toList) = true := eqS_iff.2 hq
        obtain ⟨h1, h2, h3, h4⟩ := own_store HV.out hlt hq
        have HS := Lib.hid (fun n => (own_store (w := wr.drewN n) HV.out hlt hq).1)
        have HT := Lib.hid (fun n => (own_store (w := wr.drewN n) HV.out hlt hq).2.1)
        have hne : w.heap.size ≠ g := by omega
        clear hq e1 e2 h1 h2 h4
        generalize l[k] = y at *
        go_wp2
        go_quiet (fail)
        go_wp2
        go_ret
        exact ⟨_, rfl, by rw [HR.out]; exact own_base (by simpa using HS.out _) (Nat.le_succ _), (drewB HB.out _).grown (HT.out _) HB.out.size (fun k hk => by cases hk; omega)⟩
      · have HF := Lib.hid (seen_more hlt hq HH.out)
        have hs : (l[k].1.toList == x.1.toList) = false := eqS_no.2 hq
        clear hq
        generalize l[k] = y at *
        go_wp2
        go_quiet (fail)
        go_wp2
        go_roundw
        case rel => exact ⟨k + 1, by omega, by go_num, HF.out, HV.out, drewB HB.out _, hx1, hx2⟩
        case measure => simp [intOf]; omega
    · have HR := Lib.hid (setL_miss (none_seen (by omega) HH.out)).1
      go_wp2_with (at_builtin; refine wpList_append_attrs _ rfl _ _ rfl w.heap.size _ l rfl ((own_base HV.out (Nat.le_succ _)).alloc _) (some ⟨wr.heap.size, 0, none⟩) 1 [x] rfl (one_attrs wr x) (by simp; omega) (by have := HB.out.size; simp; omega) ?_; intro v3 w3 hown3 hgrow3)
      go_ret
      exact ⟨v3, rfl, by rw [HR.out]; exact hown3, grown_below (HB.out.alloc HB.out.size _) (Nat.le_refl _) (by have := HB.out.size; simp; omega) ((own_base HV.out (Nat.le_succ _)).alloc _) hgrow3⟩

theorem dropL_yes {l : List At} {n : ByteArray} {k : Nat} (hk : k < l.length) (h : l[k].1 = n) : dropL n (l.drop k) = dropL n (l.drop (k + 1)) := by rw [dropL_at n l k hk, if_pos (eqS_iff.2 h)]
theorem dropL_no {l : List At} {n : ByteArray} {k : Nat} (hk : k < l.length) (h : l[k].1 ≠ n) : dropL n (l.drop k) = l[k] :: dropL n (l.drop (k + 1)) := by rw [dropL_at n l k hk, if_neg (fun e => h (eqS_iff.1 e))]

set_option maxHeartbeats 3200000 in
theorem rdrop_any (a : Option Addr) (cap : Nat) (l : List At) (n : ByteArray) (w : World) (hl : l.length ≤ 1000000) (hA : AttrsAt w a l) :
    Calls Try.prog 18 #[.slice a l.length cap, .string n] w (OwnAttrs (dropL n l) w) := by
  have HA := Lib.hid hA
  clear hA
  go_enter Try.func18, Try.ntmps18
  go_wp2
  go_loopw [5, 6] (fun v i wr => ∃ (k : Nat) (acc : List At), k ≤ l.length ∧ acc.length ≤ k ∧ i = .int .i64 k ∧ dropL n l = acc ++ dropL n (l.drop k) ∧ wr.ownsRow w.heap.size 24 2 v acc.length (clA acc) ∧ Below w.heap.size w wr) (fun _ i _ => l.length - (intOf i).toNat)
  case atStart => exact ⟨0, [], Nat.zero_le _, Nat.le_refl _, rfl, rfl, World.ownsRow_nil _ _ _ _, Below.refl _ _⟩
  case round =>
    obtain ⟨k, acc, hk, hacc, rfl, hh, hown, hbel⟩ := hrel
    have HH := Lib.hid hh
    have HV := Lib.hid hown
    have HB := Lib.hid hbel
    clear hh hown hbel
    by_cases hlt : k < l.length
    · obtain ⟨b, off, rfl, hbk, hcl⟩ := HA.out (fun e => by rw [e] at hlt; simp at hlt)
      have hck1 : wr.cell? ⟨b, off + k * 2, none⟩ = some (.string l[k].1) := (HB.out.cell (p := ⟨b, off + k * 2, none⟩) hbk).trans (hcl k hlt).1
      have hck2 : wr.cell? ⟨b, off + k * 2 + 1, none⟩ = some (.string l[k].2) := (HB.out.cell (p := ⟨b, off + k * 2 + 1, none⟩) hbk).trans (hcl k hlt).2
      clear hcl
      by_cases hq : l[k].1 = n
      · have HF : Hid (dropL n l = acc ++ dropL n (l.drop (k + 1))) := Lib.hid (by rw [HH.out, dropL_yes hlt hq])
        have hs : (l[k].1.toList == n.toList) = true := eqS_iff.2 hq
        have hs2 : (l[k].1.toList != n.toList) = false := by rw [bne, hs]; rfl
        clear hq
        generalize l[k] = y at *
        go_wp2
        go_roundw
        case rel => exact ⟨k + 1, acc, by omega, by omega, by go_num, HF.out, HV.out, HB.out⟩
        case measure => simp [intOf]; omega
      · have HF : Hid (dropL n l = (acc ++ [l[k]]) ++ dropL n (l.drop (k + 1))) := Lib.hid (by rw [HH.out, dropL_no hlt hq]; simp)
        have hs : (l[k].1.toList == n.toList) = false := eqS_no.2 hq
        have hs2 : (l[k].1.toList != n.toList) = true := by rw [bne, hs]; rfl
        clear hq
        generalize l[k] = y at *
        go_wp2_with (at_builtin; refine wpList_append_attrs _ rfl _ _ rfl w.heap.size _ acc rfl (HV.out.alloc _) (some ⟨wr.heap.size, 0, none⟩) 1 [y] rfl (one_attrs wr y) (by simp; omega) (by have := HB.out.size; simp; omega) ?_; intro v3 w3 hown3 hgrow3; have HV3 := Lib.hid hown3; have HB3 : Hid (Below w.heap.size w w3) := Lib.hid (grown_below (HB.out.alloc HB.out.size _) (Nat.le_refl _) (by have := HB.out.size; simp; omega) (HV.out.alloc _) hgrow3); clear hown3 hgrow3)
        go_roundw
        case rel => exact ⟨k + 1, acc ++ [y], by omega, by simp; omega, by go_num, HF.out, HV3.out, HB3.out⟩
        case measure => simp [intOf]; omega
    · have HF : Hid (dropL n l = acc) := Lib.hid (by rw [HH.out, List.drop_eq_nil_of_le (by omega)]; simp [dropL])
      go_wp2
      go_ret
      exact ⟨_, rfl, by rw [HF.out]; exact HV.out, HB.out⟩

set_option maxHeartbeats 3200000 in
theorem drop_any (a : Option Addr) (cap : Nat) (l : List At) (n : ByteArray) (w : World) (hl : l.length ≤ 1000000) (hA : AttrsAt w a l) :
    Calls Try.prog 17 #[.slice a l.length cap, .string n] w (OwnAttrs (dropL n l) w) := by
  have HA := Lib.hid hA
  clear hA
  go_enter Try.func17, Try.ntmps17
  go_wp2
  go_loopw [5, 10] (fun v i wr => ∃ (k : Nat) (acc : List At), k ≤ l.length ∧ acc.length ≤ k ∧ i = .int .i64 k ∧ dropL n l = acc ++ dropL n (l.drop k) ∧ wr.ownsRow w.heap.size 24 2 v acc.length (clA acc) ∧ Below w.heap.size w wr) (fun _ i _ => l.length - (intOf i).toNat)
  case atStart => exact ⟨0, [], Nat.zero_le _, Nat.le_refl _, rfl, rfl, World.ownsRow_nil _ _ _ _, Below.refl _ _⟩
  case round =>
    obtain ⟨k, acc, hk, hacc, rfl, hh, hown, hbel⟩ := hrel
    have HH := Lib.hid hh
    have HV := Lib.hid hown
    have HB := Lib.hid hbel
    clear hh hown hbel
    by_cases hlt : k < l.length
    · obtain ⟨b, off, rfl, hbk, hcl⟩ := HA.out (fun e => by rw [e] at hlt; simp at hlt)
      have hck1 : wr.cell? ⟨b, off + k * 2, none⟩ = some (.string l[k].1) := (HB.out.cell (p := ⟨b, off + k * 2, none⟩) hbk).trans (hcl k hlt).1
      have hck2 : wr.cell? ⟨b, off + k * 2 + 1, none⟩ = some (.string l[k].2) := (HB.out.cell (p := ⟨b, off + k * 2 + 1, none⟩) hbk).trans (hcl k hlt).2
      clear hcl
      by_cases hq : l[k].1 = n
      · have HF : Hid (dropL n l = acc ++ dropL n (l.drop (k + 1))) := Lib.hid (by rw [HH.out, dropL_yes hlt hq])
        have hs : (l[k].1.toList == n.toList) = true := eqS_iff.2 hq
        have hs2 : (l[k].1.toList != n.toList) = false := by rw [bne, hs]; rfl
        clear hq
        generalize l[k] = y at *
        go_wp2
        go_roundw
        case rel => exact ⟨k + 1, acc, by omega, by omega, by go_num, HF.out, HV.out.alloc _, HB.out.alloc HB.out.size _⟩
        case measure => simp [intOf]; omega
      · have HF : Hid (dropL n l = (acc ++ [l[k]]) ++ dropL n (l.drop (k + 1))) := Lib.hid (by rw [HH.out, dropL_no hlt hq]; simp)
        have hs : (l[k].1.toList == n.toList) = false := eqS_no.2 hq
        have hs2 : (l[k].1.toList != n.toList) = true := by rw [bne, hs]; rfl
        have HZ := Lib.hid (one_attrs (wr.alloc (.cells #[.string l[k].1, .string l[k].2] 24)) l[k])
        rw [show (wr.alloc (.cells #[.string l[k].1, .string l[k].2] 24)).heap.size = wr.heap.size + 1 by simp] at HZ
        clear hq
        generalize l[k] = y at *
        go_wp2_with (at_builtin; refine wpList_append_attrs _ rfl _ _ rfl w.heap.size _ acc rfl ((HV.out.alloc _).alloc _) (some ⟨wr.heap.size + 1, 0, none⟩) 1 [y] rfl HZ.out (by simp; omega) (by have := HB.out.size; simp; omega) ?_; intro v3 w3 hown3 hgrow3; have HV3 := Lib.hid hown3; have HB3 : Hid (Below w.heap.size w w3) := Lib.hid (grown_below ((HB.out.alloc HB.out.size _).alloc (by have := HB.out.size; simp; omega) _) (Nat.le_refl _) (by have := HB.out.size; simp; omega) ((HV.out.alloc _).alloc _) hgrow3); clear hown3 hgrow3)
        go_roundw
        case rel => exact ⟨k + 1, acc ++ [y], by omega, by simp; omega, by go_num, HF.out, HV3.out, HB3.out⟩
        case measure => simp [intOf]; omega
    · have HF : Hid (dropL n l = acc) := Lib.hid (by rw [HH.out, List.drop_eq_nil_of_le (by omega)]; simp [dropL])
      go_wp2
      go_ret
      exact ⟨_, rfl, by rw [HF.out]; exact HV.out, HB.out⟩
end Go.Proofs.Ytkfaenhidjekdaa
