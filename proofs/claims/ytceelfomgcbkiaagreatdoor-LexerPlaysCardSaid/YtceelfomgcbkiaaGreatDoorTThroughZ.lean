/-
  The walk of through: a tag is gone through by goto, between two labels.
-/
import Derived.Test.YtceelfomgcbkiaaGreatDoorGTZ
import Derived.WalkMore
import Derived.ScopeJumps
namespace Go
/-- As Q; by a goto to label l: J l. -/
def Exit.jumps (J : Nat → Act → World → Prop) (Q : Exit → Act → World → Prop) : Exit → Act → World → Prop
  | .goto l, a, w => J l a w
  | e, a, w => Q e a w
/-- A scope with several labels: what holds at every jump, and a number that every pass from a label lowers. -/
theorem wp_scope_many {P : Program} {a : Act} {w : World} {Q : Exit → Act → World → Prop} {c : Code} (J : Nat → Nat → Act → World → Prop)
    (first : c.wp P (Exit.jumps (fun l a w => ∃ g, J g l a w) Q) a w)
    (pass : ∀ g l a w, J g l a w → ∃ r, findLabel c l = some r ∧ r.wp P (Exit.jumps (fun l' a' w' => ∃ g', g' < g ∧ J g' l' a' w') Q) a w) : (Code.scope c).wp P Q a w := by
  intro b k cs
  have key : ∀ g l a w, J g l a w → ∃ r, findLabel c l = some r ∧ ∃ e a' w', Q e a' w' ∧ Arrives P (lone (b.at a (.code r :: .inScope c :: k)) cs w) b k cs e a' w' := by
    intro g
    induction g using Nat.strongRecOn with
    | _ g ih =>
      intro l a w hJ
      obtain ⟨r, hf, hp⟩ := pass g l a w hJ
      refine ⟨r, hf, ?_⟩
      obtain ⟨e, a1, w1, hq, harr⟩ := hp b (.inScope c :: k) cs
      cases e with
      | normal => exact ⟨.normal, a1, w1, hq, Steps.trans harr (.one step_inScope)⟩
      | exit id => exact ⟨.exit id, a1, w1, hq, fun k' hk => harr k' (by simp [exitTo, hk])⟩
      | goto l' =>
        obtain ⟨g', hlt, hJ'⟩ := hq
        obtain ⟨r', hf', e2, a2, w2, hq2, harr2⟩ := ih g' hlt l' a1 w1 hJ'
        exact ⟨e2, a2, w2, hq2, .of_steps (harr _ (by simp [gotoIn, hf'])) harr2⟩
      | ret => exact ⟨_, a1, w1, hq, harr⟩
      | panic ch => exact ⟨_, a1, w1, hq, harr⟩
      | outgrown => exact ⟨_, a1, w1, hq, harr⟩
  obtain ⟨e, a1, w1, hq, harr⟩ := first b (.inScope c :: k) cs
  cases e with
  | normal => exact ⟨.normal, a1, w1, hq, .head step_scope (Steps.trans harr (.one step_inScope))⟩
  | exit id => exact ⟨.exit id, a1, w1, hq, fun k' hk => .head step_scope (harr k' (by simp [exitTo, hk]))⟩
  | goto l' =>
    obtain ⟨g', hJ'⟩ := hq
    obtain ⟨r', hf', e2, a2, w2, hq2, harr2⟩ := key g' l' a1 w1 hJ'
    exact ⟨e2, a2, w2, hq2, .of_steps (.head step_scope (harr _ (by simp [gotoIn, hf']))) harr2⟩
  | ret => exact ⟨_, a1, w1, hq, .of_steps (.one step_scope) harr⟩
  | panic ch => exact ⟨_, a1, w1, hq, .of_steps (.one step_scope) harr⟩
  | outgrown => exact ⟨_, a1, w1, hq, .of_steps (.one step_scope) harr⟩
end Go
namespace Go.Proofs.YtceelfomgcbkiaaGreatDoor.T
open Go.RowKit Go.Maps
open Go.Proofs.YtceelfomgcbkiaaGreatDoor.A (ret_bool At addL)
open Go.Proofs.YtceelfomgcbkiaaGreatDoor.C (StAt)

theorem tg_step (l : List UInt8) (f i : Nat) (acc : List At) : tg l (f + 1) i acc =
    if l[skp l i]? = none then none
    else if l[skp l i]? = some 62 then some (acc, false, skp l i + 1)
    else if l[skp l i]? = some 47 then (if l[skp l i + 1]? = some 62 then some (acc, true, skp l i + 1 + 1) else tg l f (skp l i + 1) acc)
    else match atr l (skp l i) with
      | none => none
      | some (a, n) => tg l f n (addL acc a) := by
  conv => lhs; unfold tg
  rfl
theorem tg_over {l : List UInt8} {f n : Nat} {acc : List At} (h : l.length ≤ n) : tg l (f + 1) n acc = none := by
  have e := run_end I.spC l n h
  rw [tg_step, if_pos (List.getElem?_eq_none (by show l.length ≤ run I.spC l n; omega))]
theorem get_some {l : List UInt8} {j : Nat} (h : j < l.length) : ¬ l[j]? = none := by rw [List.getElem?_eq_getElem h]; simp
/-- Behind an attribute. -/
theorem tg_next (l : List UInt8) (f j n : Nat) (acc ys : List At) (hj : j < l.length) (hn : n ≤ l.length) (hf : l.length - j < f + 1)
    (h : match atr l j with | some r => ys = addL acc r.1 ∧ n = r.2 | none => n = l.length) :
    l.length - n < f ∧ (match atr l j with | none => none | some (a, k) => tg l f k (addL acc a)) = tg l f n ys := by
  obtain ⟨f, rfl⟩ : ∃ m, f = m + 1 := ⟨f - 1, by omega⟩
  cases ha : atr l j with
  | none =>
    rw [ha] at h
    obtain rfl : n = l.length := h
    exact ⟨by omega, (tg_over (Nat.le_refl _)).symm⟩
  | some r =>
    obtain ⟨a, k⟩ := r
    rw [ha] at h
    obtain ⟨rfl, rfl⟩ : ys = addL acc a ∧ n = k := h
    have := atr_bd hj ha
    exact ⟨by omega, rfl⟩
theorem drewNB {b : Nat} {w wr : World} (h : Below b w wr) (n : Nat) : Below b w (wr.drewN n) := ⟨h.os, h.tape, h.output, h.size, h.block⟩
/-- What holds at a jump. -/
def JT (w : World) (base R M : Nat) (s : ByteArray) (F k : Nat) (g l : Nat) (a : Act) (w' : World) : Prop :=
  (∃ u3 u4 u5 u6 u7 u8 u9 u10 u11 u12 u13 u14 u15 u16 u17 : Value, a = { tmps := #[.pointer (some ⟨R, 0, none⟩), undef, .bool false, u3, u4, u5, u6, u7, u8, u9, u10, u11, u12, u13, u14, u15, u16, u17], defers := [] }) ∧
    ∃ f i acc, Rd w' base R M s i false acc ∧ Below base w w' ∧ i ≤ s.size ∧ s.size - i < f ∧
      ((l = 0 ∧ g = 2 * f ∧ tg s.data.toList F k [] = tg s.data.toList f i acc) ∨
       (l = 1 ∧ g = 2 * f + 1 ∧ tg s.data.toList F k [] = if s.data.toList[i]? = some 62 then some (acc, true, i + 1) else tg s.data.toList f i acc))
/-- What through leaves. -/
def RetThrough (w : World) (base R M : Nat) (s : ByteArray) (F k : Nat) (e : Ending) (w' : World) : Prop :=
  ∃ b n sf ys, e = .returned (.bool b) ∧ Rd w' base R M s n sf ys ∧ Below base w w' ∧ n ≤ s.size ∧
    match tg s.data.toList F k [] with | some r => b = true ∧ ys = r.1 ∧ sf = r.2.1 ∧ n = r.2.2 | none => b = false

set_option maxRecDepth 100000 in
set_option maxHeartbeats 6400000 in
theorem through_any (w : World) (base R M : Nat) (s : ByteArray) (k : Nat) (hT : StAt w) (hTb : 1 < base) (hbw : base ≤ w.heap.size) (h : Rd w base R M s k false []) (hk : k ≤ s.size) (hs : s.size ≤ 10000) :
    Calls Tryz.prog 43 #[.pointer (some ⟨R, 0, none⟩)] w (RetThrough w base R M s (s.data.toList.length + 1) k) := by
  have HSt := Lib.hid hT
  have HRd := Lib.hid h
  clear hT h
  obtain ⟨F, hF⟩ : ∃ F, F = s.data.toList.length + 1 := ⟨_, rfl⟩
  have hF2 : s.size - k < F := by rw [hF, C.size_list]; omega
  rw [← hF]
  clear hF
  go_enter Tryz.func43, Tryz.ntmps43
  go_wp2
  refine wp_scope_many (JT w base R M s F k) ?_ ?_
  · refine wp_seq (wp_label ?_)
    obtain ⟨f, rfl⟩ : ∃ f, F = f + 1 := ⟨F - 1, by omega⟩
    obtain ⟨i, acc, w0, hi, hf, htg, hrd, hbel, ew⟩ : ∃ i acc w0, i ≤ s.size ∧ s.size - i < f + 1 ∧ tg s.data.toList (f + 1) k [] = tg s.data.toList (f + 1) i acc ∧ Rd w0 base R M s i false acc ∧ Below base w w0 ∧ w0 = w :=
      ⟨k, [], w, hk, hF2, rfl, HRd.out, Below.refl _ _, rfl⟩
    subst ew
    clear HRd
    obtain ⟨v, hR, hown, hset, hbR, hbM, hla⟩ := hrd
    have HR := Lib.hid hR
    have HO := Lib.hid hown
    have HS := Lib.hid hset
    have HSp := Lib.hid (spaces_any w0 hR hi (by omega))
    have HB := Lib.hid hbel
    have HT := Lib.hid htg
    clear hR hown hset hbel htg
    have hk2 := run_le I.spC s.data.toList i (by rw [C.size_list]; exact hi)
    have hk3 := run_ge I.spC s.data.toList i
    rw [C.size_list] at hk2
    obtain ⟨j, ej⟩ : ∃ j, j = skp s.data.toList i := ⟨_, rfl⟩
    rw [← ej] at HSp
    have hj2 : j ≤ s.size := by rw [ej]; exact hk2
    have hj3 : i ≤ j := by rw [ej]; exact hk3
    have HTj := Lib.hid (tg_step s.data.toList f i acc)
    rw [← ej] at HTj
    clear ej hk2 hk3
    go_wp2_with fail
    refine HSp.out.mono ?_
    rintro e w1 ⟨rfl, hmv⟩
    have HM1 := Lib.hid hmv
    have HRd1 := Lib.hid (Rd.mv HO.out HS.out HR.out hbR hbM (by omega) hmv)
    have HB1 := Lib.hid (mv_below HB.out (Nat.le_trans hbw HB.out.size) hbR hmv)
    clear hmv
    by_cases hlt : j < s.size
    · have HOv := Lib.hid (over_no w1 HM1.out.1 hlt)
      go_wp2_with fail
      refine HOv.out.mono ?_
      rintro e w2' ⟨rfl, nq, rfl⟩
      have HP := Lib.hid (pass_any 62 _ (HM1.out.1.drewN nq) (by omega) (by omega))
      by_cases hq : hitB s j 62 = true
      · rw [if_pos hq, hq] at HP
        have HF := Lib.hid (hitB_iff.1 hq)
        clear hq
        go_wp2_with fail
        refine HP.out.mono ?_
        rintro e w3 ⟨rfl, hmv⟩
        have HRd3 := Lib.hid (Rd.mv HO.out HS.out HR.out hbR hbM (by omega) ((HM1.out.drewN nq).then hmv))
        have HB3 := Lib.hid (mv_below HB.out (Nat.le_trans hbw HB.out.size) hbR ((HM1.out.drewN nq).then hmv))
        clear hmv
        go_wp2
        simp only [Exit.jumps]
        go_ret
        exact ⟨true, j + 1, false, acc, rfl, HRd3.out, HB3.out, by omega, by rw [HT.out, HTj.out, if_neg (by rw [HF.out]; simp), if_pos HF.out]; exact ⟨rfl, rfl, rfl, rfl⟩⟩
      · have hq2 : hitB s j 62 = false := by simpa using hq
        rw [if_neg hq, hq2] at HP
        have HN := Lib.hid (hitB_no.1 hq2)
        clear hq hq2
        go_wp2_with fail
        refine HP.out.mono ?_
        rintro e w3 ⟨rfl, hmv⟩
        have HM3 := Lib.hid ((HM1.out.drewN nq).then hmv)
        have HP3 := Lib.hid (pass_any 47 w3 hmv.1 (by omega) (by omega))
        clear hmv
        by_cases hq : hitB s j 47 = true
        · rw [if_pos hq, hq] at HP3
          have HF := Lib.hid (hitB_iff.1 hq)
          clear hq
          go_wp2_with fail
          refine HP3.out.mono ?_
          rintro e w4 ⟨rfl, hmv⟩
          have HRd4 := Lib.hid (Rd.mv HO.out HS.out HR.out hbR hbM (by omega) (HM3.out.then hmv))
          have HB4 := Lib.hid (mv_below HB.out (Nat.le_trans hbw HB.out.size) hbR (HM3.out.then hmv))
          clear hmv
          go_wp2
          go_step3
          exact ⟨2 * f + 1, ⟨_, _, _, _, _, _, _, _, _, _, _, _, _, _, _, rfl⟩, f, j + 1, acc, HRd4.out, HB4.out, by omega, by omega, .inr ⟨rfl, rfl, by rw [HT.out, HTj.out, if_neg (by rw [HF.out]; simp), if_neg HN.out, if_pos HF.out]⟩⟩
        · have hq2 : hitB s j 47 = false := by simpa using hq
          rw [if_neg hq, hq2] at HP3
          have HN2 := Lib.hid (hitB_no.1 hq2)
          clear hq hq2
          go_wp2_with fail
          refine HP3.out.mono ?_
          rintro e w4 ⟨rfl, hmv⟩
          have hrd4 := Rd.mv HO.out HS.out HR.out hbR hbM (show acc.length ≤ j by omega) (HM3.out.then hmv)
          have HB4 := Lib.hid (mv_below HB.out (Nat.le_trans hbw HB.out.size) hbR (HM3.out.then hmv))
          have HAt := Lib.hid (attribute_any w4 base R M s j false acc (stAt_base HSt.out HB4.out hTb) hTb (Nat.le_trans hbw HB4.out.size) hrd4 hlt hs)
          clear hmv hrd4
          go_wp2_with fail
          refine HAt.out.mono ?_
          rintro e w5 ⟨n, ys, rfl, hrd5, hb5, hn, hat⟩
          have HRd5 := Lib.hid hrd5
          have HB5 := Lib.hid (HB4.out.trans hb5)
          have HAt5 := Lib.hid hat
          have HNx := Lib.hid (tg_next s.data.toList f j n acc ys (by rw [C.size_list]; exact hlt) (by rw [C.size_list]; exact hn) (by rw [C.size_list]; omega) (by rw [C.size_list]; exact hat))
          clear hrd5 hb5 hat
          go_wp2
          go_step3
          exact ⟨2 * f, ⟨_, _, _, _, _, _, _, _, _, _, _, _, _, _, _, rfl⟩, f, n, ys, HRd5.out, HB5.out, hn, by have := HNx.out.1; rw [C.size_list] at this; omega, .inl ⟨rfl, rfl, by rw [HT.out, HTj.out, if_neg (get_some (by rw [C.size_list]; exact hlt)), if_neg HN.out, if_neg HN2.out]; exact HNx.out.2⟩⟩
    · have HOv := Lib.hid (over_yes w1 HM1.out.1 (by omega))
      go_wp2_with fail
      refine HOv.out.mono ?_
      rintro e w2' ⟨rfl, nq, rfl⟩
      go_wp2
      simp only [Exit.jumps]
      go_ret
      exact ⟨false, j, false, acc, rfl, HRd1.out, drewNB HB1.out nq, by omega, by rw [HT.out, HTj.out, if_pos (List.getElem?_eq_none (by rw [C.size_list]; omega))]⟩
  · intro g l a w0 hJ
    obtain ⟨⟨u3, u4, u5, u6, u7, u8, u9, u10, u11, u12, u13, u14, u15, u16, u17, rfl⟩, f, i, acc, hrd, hbel, hi, hf, hc⟩ := hJ
    clear HRd
    rcases hc with ⟨rfl, rfl, htg⟩ | ⟨rfl, rfl, htg⟩
    · refine ⟨_, rfl, ?_⟩
      obtain ⟨f, rfl⟩ : ∃ f', f = f' + 1 := ⟨f - 1, by omega⟩
      obtain ⟨v, hR, hown, hset, hbR, hbM, hla⟩ := hrd
      have HR := Lib.hid hR
      have HO := Lib.hid hown
      have HS := Lib.hid hset
      have HSp := Lib.hid (spaces_any w0 hR hi (by omega))
      have HB := Lib.hid hbel
      have HT := Lib.hid htg
      clear hR hown hset hbel htg
      have hk2 := run_le I.spC s.data.toList i (by rw [C.size_list]; exact hi)
      have hk3 := run_ge I.spC s.data.toList i
      rw [C.size_list] at hk2
      obtain ⟨j, ej⟩ : ∃ j, j = skp s.data.toList i := ⟨_, rfl⟩
      rw [← ej] at HSp
      have hj2 : j ≤ s.size := by rw [ej]; exact hk2
      have hj3 : i ≤ j := by rw [ej]; exact hk3
      have HTj := Lib.hid (tg_step s.data.toList f i acc)
      rw [← ej] at HTj
      clear ej hk2 hk3
      go_wp2_with fail
      refine HSp.out.mono ?_
      rintro e w1 ⟨rfl, hmv⟩
      have HM1 := Lib.hid hmv
      have HRd1 := Lib.hid (Rd.mv HO.out HS.out HR.out hbR hbM (by omega) hmv)
      have HB1 := Lib.hid (mv_below HB.out (Nat.le_trans hbw HB.out.size) hbR hmv)
      clear hmv
      by_cases hlt : j < s.size
      · have HOv := Lib.hid (over_no w1 HM1.out.1 hlt)
        go_wp2_with fail
        refine HOv.out.mono ?_
        rintro e w2' ⟨rfl, nq, rfl⟩
        have HP := Lib.hid (pass_any 62 _ (HM1.out.1.drewN nq) (by omega) (by omega))
        by_cases hq : hitB s j 62 = true
        · rw [if_pos hq, hq] at HP
          have HF := Lib.hid (hitB_iff.1 hq)
          clear hq
          go_wp2_with fail
          refine HP.out.mono ?_
          rintro e w3 ⟨rfl, hmv⟩
          have HRd3 := Lib.hid (Rd.mv HO.out HS.out HR.out hbR hbM (by omega) ((HM1.out.drewN nq).then hmv))
          have HB3 := Lib.hid (mv_below HB.out (Nat.le_trans hbw HB.out.size) hbR ((HM1.out.drewN nq).then hmv))
          clear hmv
          go_wp2
          simp only [Exit.jumps]
          go_ret
          exact ⟨true, j + 1, false, acc, rfl, HRd3.out, HB3.out, by omega, by rw [HT.out, HTj.out, if_neg (by rw [HF.out]; simp), if_pos HF.out]; exact ⟨rfl, rfl, rfl, rfl⟩⟩
        · have hq2 : hitB s j 62 = false := by simpa using hq
          rw [if_neg hq, hq2] at HP
          have HN := Lib.hid (hitB_no.1 hq2)
          clear hq hq2
          go_wp2_with fail
          refine HP.out.mono ?_
          rintro e w3 ⟨rfl, hmv⟩
          have HM3 := Lib.hid ((HM1.out.drewN nq).then hmv)
          have HP3 := Lib.hid (pass_any 47 w3 hmv.1 (by omega) (by omega))
          clear hmv
          by_cases hq : hitB s j 47 = true
          · rw [if_pos hq, hq] at HP3
            have HF := Lib.hid (hitB_iff.1 hq)
            clear hq
            go_wp2_with fail
            refine HP3.out.mono ?_
            rintro e w4 ⟨rfl, hmv⟩
            have HRd4 := Lib.hid (Rd.mv HO.out HS.out HR.out hbR hbM (by omega) (HM3.out.then hmv))
            have HB4 := Lib.hid (mv_below HB.out (Nat.le_trans hbw HB.out.size) hbR (HM3.out.then hmv))
            clear hmv
            go_wp2
            go_step3
            exact ⟨2 * f + 1, by omega, ⟨_, _, _, _, _, _, _, _, _, _, _, _, _, _, _, rfl⟩, f, j + 1, acc, HRd4.out, HB4.out, by omega, by omega, .inr ⟨rfl, rfl, by rw [HT.out, HTj.out, if_neg (by rw [HF.out]; simp), if_neg HN.out, if_pos HF.out]⟩⟩
          · have hq2 : hitB s j 47 = false := by simpa using hq
            rw [if_neg hq, hq2] at HP3
            have HN2 := Lib.hid (hitB_no.1 hq2)
            clear hq hq2
            go_wp2_with fail
            refine HP3.out.mono ?_
            rintro e w4 ⟨rfl, hmv⟩
            have hrd4 := Rd.mv HO.out HS.out HR.out hbR hbM (show acc.length ≤ j by omega) (HM3.out.then hmv)
            have HB4 := Lib.hid (mv_below HB.out (Nat.le_trans hbw HB.out.size) hbR (HM3.out.then hmv))
            have HAt := Lib.hid (attribute_any w4 base R M s j false acc (stAt_base HSt.out HB4.out hTb) hTb (Nat.le_trans hbw HB4.out.size) hrd4 hlt hs)
            clear hmv hrd4
            go_wp2_with fail
            refine HAt.out.mono ?_
            rintro e w5 ⟨n, ys, rfl, hrd5, hb5, hn, hat⟩
            have HRd5 := Lib.hid hrd5
            have HB5 := Lib.hid (HB4.out.trans hb5)
            have HAt5 := Lib.hid hat
            have HNx := Lib.hid (tg_next s.data.toList f j n acc ys (by rw [C.size_list]; exact hlt) (by rw [C.size_list]; exact hn) (by rw [C.size_list]; omega) (by rw [C.size_list]; exact hat))
            clear hrd5 hb5 hat
            go_wp2
            go_step3
            exact ⟨2 * f, by omega, ⟨_, _, _, _, _, _, _, _, _, _, _, _, _, _, _, rfl⟩, f, n, ys, HRd5.out, HB5.out, hn, by have := HNx.out.1; rw [C.size_list] at this; omega, .inl ⟨rfl, rfl, by rw [HT.out, HTj.out, if_neg (get_some (by rw [C.size_list]; exact hlt)), if_neg HN.out, if_neg HN2.out]; exact HNx.out.2⟩⟩
      · have HOv := Lib.hid (over_yes w1 HM1.out.1 (by omega))
        go_wp2_with fail
        refine HOv.out.mono ?_
        rintro e w2' ⟨rfl, nq, rfl⟩
        go_wp2
        simp only [Exit.jumps]
        go_ret
        exact ⟨false, j, false, acc, rfl, HRd1.out, drewNB HB1.out nq, by omega, by rw [HT.out, HTj.out, if_pos (List.getElem?_eq_none (by rw [C.size_list]; omega))]⟩
    · refine ⟨_, rfl, ?_⟩
      obtain ⟨v, hR, hown, hset, hbR, hbM, hla⟩ := hrd
      have HR := Lib.hid hR
      have HO := Lib.hid hown
      have HS := Lib.hid hset
      have HB := Lib.hid hbel
      have HT := Lib.hid htg
      have HP := Lib.hid (pass_any 62 w0 hR hi (by omega))
      clear hR hown hset hbel htg
      by_cases hq : hitB s i 62 = true
      · have hlt := hit_lt hq
        rw [if_pos hq, hq] at HP
        have HF := Lib.hid (hitB_iff.1 hq)
        clear hq
        go_wp2_with fail
        refine HP.out.mono ?_
        rintro e w1 ⟨rfl, hmv⟩
        have HRd1 := Lib.hid (Rd.mv HO.out HS.out HR.out hbR hbM (by omega) hmv)
        have HB1 := Lib.hid (mv_below HB.out (Nat.le_trans hbw HB.out.size) hbR hmv)
        have c2 := hmv.1.c2
        have f2 := hmv.1.fz 2
        clear hmv
        go_wp2
        simp only [Exit.jumps]
        go_ret
        exact ⟨true, i + 1, true, acc, rfl, HRd1.out.self_ true, HB1.out.grown (grown_set _ _ _ _) (Nat.le_trans hbw HB1.out.size) (fun j hj => by cases hj; exact hbR), by omega, by rw [HT.out, if_pos HF.out]; exact ⟨rfl, rfl, rfl, rfl⟩⟩
      · have hq2 : hitB s i 62 = false := by simpa using hq
        rw [if_neg hq, hq2] at HP
        have HN := Lib.hid (hitB_no.1 hq2)
        clear hq hq2
        go_wp2_with fail
        refine HP.out.mono ?_
        rintro e w1 ⟨rfl, hmv⟩
        have HRd1 := Lib.hid (Rd.mv HO.out HS.out HR.out hbR hbM (by omega) hmv)
        have HB1 := Lib.hid (mv_below HB.out (Nat.le_trans hbw HB.out.size) hbR hmv)
        clear hmv
        go_wp2
        go_step3
        exact ⟨2 * f, by omega, ⟨_, _, _, _, _, _, _, _, _, _, _, _, _, _, _, rfl⟩, f, i, acc, HRd1.out, HB1.out, hi, hf, .inl ⟨rfl, rfl, by rw [HT.out, if_neg HN.out]⟩⟩
end Go.Proofs.YtceelfomgcbkiaaGreatDoor.T
