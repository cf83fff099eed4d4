/-
  What stands behind plays no part in what is read; a comment that is written is read: plain facts.
-/
import Derived.Test.YtdljjfeojccidaaRCom
namespace Go.Proofs.Ytdljjfeojccidaa.R
open Go.RowKit
open Go.Proofs.Ytdljjfeojccidaa.I (leI lowL lowB)

/-- Both begin with the same n bytes. -/
def ag (n : Nat) (l m : List UInt8) : Prop := n ≤ l.length ∧ n ≤ m.length ∧ l.take n = m.take n
theorem ag_get {n : Nat} {l m : List UInt8} (h : ag n l m) {k : Nat} (hk : k < n) : l[k]? = m[k]? := by
  have : (l.take n)[k]? = (m.take n)[k]? := by rw [h.2.2]
  rwa [List.getElem?_take, List.getElem?_take, if_pos hk, if_pos hk] at this
theorem ag_take {n : Nat} {l m : List UInt8} (h : ag n l m) {k : Nat} (hk : k ≤ n) : l.take k = m.take k := by
  have e : ∀ x : List UInt8, (x.take n).take k = x.take k := fun x => by rw [List.take_take]; congr 1; omega
  rw [← e l, ← e m, h.2.2]
theorem ag_drop {n : Nat} {l m : List UInt8} (h : ag n l m) (k : Nat) (hk : k ≤ n) : ag (n - k) (l.drop k) (m.drop k) := by
  have h1 := h.1; have h2 := h.2.1
  refine ⟨by rw [List.length_drop]; omega, by rw [List.length_drop]; omega, ?_⟩
  have e : ∀ x : List UInt8, (x.drop k).take (n - k) = (x.take n).drop k := fun x => by rw [List.drop_take]
  rw [e, e, h.2.2]
theorem ag_cut {n : Nat} {l m : List UInt8} (h : ag n l m) {i j : Nat} (hj : j ≤ n) : cut l i j = cut m i j := by
  unfold cut
  rw [ag_take h hj]
theorem pre_tk (p l : List UInt8) : pre p l = (decide (p.length ≤ l.length) && l.take p.length == p) := by
  have := Lib.hasPrefix_of_take l p
  exact this.symm
theorem ag_pre {n : Nat} {l m : List UInt8} (h : ag n l m) {p : List UInt8} (hp : p.length ≤ n) : pre p l = pre p m := by
  have h1 := h.1; have h2 := h.2.1
  rw [pre_tk, pre_tk, decide_eq_true (show p.length ≤ l.length by omega), decide_eq_true (show p.length ≤ m.length by omega), ag_take h hp]
theorem ag_preD {n : Nat} {l m : List UInt8} (h : ag n l m) {p : List UInt8} {j : Nat} (hp : j + p.length ≤ n) : pre p (l.drop j) = pre p (m.drop j) :=
  ag_pre (ag_drop h j (by omega)) (by omega)
/-- A sign that is not in p stands within where p would have to be. -/
theorem pre_sign {p l : List UInt8} {k : Nat} {c : UInt8} (hl : l[k]? = some c) (hc : c ∉ p) (hk : k < p.length) : pre p l = false := by
  cases h : pre p l with
  | false => rfl
  | true =>
    obtain ⟨x, rfl⟩ := List.isPrefixOf_iff_prefix.1 h
    rw [List.getElem?_append_left hk] at hl
    exact absurd (List.mem_of_getElem? hl) hc
theorem ag_sign {n : Nat} {l m : List UInt8} (h : ag n l m) (hn : 1 ≤ n) (hg : l[n - 1]? = some 62) {p : List UInt8} (hc : (62 : UInt8) ∉ p) : pre p l = pre p m := by
  rcases Nat.lt_or_ge (n - 1) p.length with hk | hk
  · rw [pre_sign hg hc hk, pre_sign ((ag_get h (show n - 1 < n by omega)).symm.trans hg) hc hk]
  · exact ag_pre h (by omega)
theorem fnd_same {n : Nat} {l m : List UInt8} (h : ag n l m) {p : List UInt8} (hp : p ≠ []) (hf : fnd p l + p.length ≤ n) : fnd p m = fnd p l := by
  have h1 := h.1; have h2 := h.2.1
  have hpl := List.length_pos_iff.2 hp
  refine fnd_is p m _ (by omega) (fun j hj => ?_) (.inr ?_)
  · rw [← ag_preD h (by omega)]; exact fnd_no p l j hj
  · rw [← ag_preD h hf]; exact fnd_at p l (by omega)
theorem fnd_far {n : Nat} {l m : List UInt8} (h : ag n l m) {p : List UInt8} (hp : p ≠ []) (hno : ∀ j, j + p.length ≤ n → pre p (l.drop j) = false) : n < fnd p m + p.length := by
  have h2 := h.2.1
  have hpl := List.length_pos_iff.2 hp
  rcases Nat.lt_or_ge n (fnd p m + p.length) with h3 | h3
  · exact h3
  · have := fnd_at p m (by omega)
    rw [← ag_preD h h3, hno _ h3] at this; cases this
theorem fndF_same {n : Nat} {l m : List UInt8} (h : ag n l m) {p : List UInt8} {k : Nat} (hp : p ≠ []) (hk : k ≤ n) (hf : fndF p l k + p.length ≤ n) : fndF p m k = fndF p l k := by
  unfold fndF at hf ⊢
  rw [fnd_same (ag_drop h k hk) hp (by omega)]
theorem fndF_far {n : Nat} {l m : List UInt8} (h : ag n l m) {p : List UInt8} {k : Nat} (hp : p ≠ []) (hk : k ≤ n) (hno : ∀ j, k ≤ j → j + p.length ≤ n → pre p (l.drop j) = false) : n < fndF p m k + p.length := by
  have := fnd_far (ag_drop h k hk) hp (fun j hj => by
    rw [List.drop_drop]; exact hno _ (by omega) (by omega))
  unfold fndF; omega
theorem pre_one (c : UInt8) (l : List UInt8) (k : Nat) : pre [c] (l.drop k) = true ↔ l[k]? = some c := by
  rw [List.isPrefixOf_iff_prefix]
  rcases Nat.lt_or_ge k l.length with h | h
  · rw [List.drop_eq_getElem_cons h, List.getElem?_eq_getElem h]
    constructor
    · rintro ⟨x, hx⟩
      injection hx with h1 _
      rw [h1]
    · intro e
      injection e with e
      exact ⟨l.drop (k + 1), by rw [e]; rfl⟩
  · rw [List.drop_eq_nil_of_le h, List.getElem?_eq_none h]
    simp
/-- Where > stands last, it is found. -/
theorem gt_found {n : Nat} {l : List UInt8} {k : Nat} (hk : k < n) (hg : l[n - 1]? = some 62) : fndF [62] l k + 1 ≤ n := by
  rcases Nat.lt_or_ge (n - 1) (fndF [62] l k) with h | h
  · have := fndF_no [62] l k (n - 1) (by omega) h
    rw [(pre_one 62 l (n - 1)).2 hg] at this; cases this
  · omega
theorem bog_same {n : Nat} {l m : List UInt8} (h : ag n l m) {k : Nat} (hk : k < n) (hg : l[n - 1]? = some 62) : bog m k = bog l k := by
  have h1 := gt_found hk hg
  have h2 := fndF_same h (p := [62]) (k := k) (by decide) (by omega) h1
  have h3 := h.1; have h4 := h.2.1
  have hm : min (fndF [62] l k + 1) l.length = fndF [62] l k + 1 := by omega
  have hm2 : min (fndF [62] l k + 1) m.length = fndF [62] l k + 1 := by omega
  unfold bog
  rw [h2, hm, hm2, ag_cut h (i := k) (j := fndF [62] l k) (by omega)]
theorem dt_sign {l : List UInt8} {k : Nat} (hk : k < 9) (hg : l[k]? = some 62) : dtB l = false := by
  cases h : dtB l with
  | false => rfl
  | true =>
    unfold dtB at h
    rw [Bool.and_eq_true, beq_iff_eq] at h
    have h2 : (lowL (l.take 9))[k]? = some 62 := by
      unfold I.lowL
      rw [List.getElem?_map, List.getElem?_take, if_pos hk, hg]; rfl
    rw [h.2] at h2
    have : (62 : UInt8) ∈ pDoc := List.mem_of_getElem? h2
    exact absurd this (by decide)
theorem dt_same {n : Nat} {l m : List UInt8} (h : ag n l m) (hn : 1 ≤ n) (hg : l[n - 1]? = some 62) : dtB l = dtB m := by
  rcases Nat.lt_or_ge n 9 with h9 | h9
  · rw [dt_sign (k := n - 1) (by omega) hg, dt_sign (k := n - 1) (by omega) ((ag_get h (show n - 1 < n by omega)).symm.trans hg)]
  · have h1 := h.1; have h2 := h.2.1
    unfold dtB
    rw [decide_eq_true (show 9 ≤ l.length by omega), decide_eq_true (show 9 ≤ m.length by omega), ag_take h h9]
theorem dt_long {n : Nat} {l : List UInt8} (hg : l[n - 1]? = some 62) (hd : dtB l = true) : 9 ≤ n - 1 := by
  rcases Nat.lt_or_ge (n - 1) 9 with h | h
  · rw [dt_sign h hg] at hd; cases hd
  · exact h
theorem dty_same {n : Nat} {l m : List UInt8} (h : ag n l m) (hk : 9 < n) (hg : l[n - 1]? = some 62) : dty m = dty l := by
  have h1 := gt_found hk hg
  have h2 := fndF_same h (p := [62]) (k := 9) (by decide) (by omega) h1
  have h3 := h.1; have h4 := h.2.1
  have hm : min (fndF [62] l 9 + 1) l.length = fndF [62] l 9 + 1 := by omega
  have hm2 : min (fndF [62] l 9 + 1) m.length = fndF [62] l 9 + 1 := by omega
  unfold dty
  rw [h2, hm, hm2, ag_take h (k := fndF [62] l 9) (by omega)]
theorem sec_n (l : List UInt8) : (sec l).n = min (fndF pS l 9 + 3) l.length := by
  unfold sec
  split
  · rename_i h; rw [h]; rfl
  · rfl
/-- Either it is the same, or the end was not found, and what is read goes further. -/
theorem sec_same {n : Nat} {l m : List UInt8} (h : ag n l m) (h9 : 9 ≤ n) (hn : (sec l).n = n) : sec m = sec l ∨ (n = l.length ∧ n ≤ (sec m).n) := by
  have h1 := h.1; have h2 := h.2.1
  have hb := fndF_bd pS l 9 (by omega)
  rw [sec_n] at hn
  have e3 : pS.length = 3 := rfl
  by_cases hf : fndF pS l 9 < l.length
  · have hr := fndF_room pS l 9 hf
    left
    have hs := fndF_same h (p := pS) (k := 9) (by decide) h9 (by omega)
    have hm : min (fndF pS l 9 + 3) l.length = fndF pS l 9 + 3 := by omega
    have hm2 : min (fndF pS l 9 + 3) m.length = fndF pS l 9 + 3 := by omega
    unfold sec
    rw [hs, hm, hm2, ag_cut h (i := 9) (j := fndF pS l 9) (by omega)]
    split
    · rename_i h9'
      rw [h9'] at hm hm2
      have a : min 12 m.length = 12 := by omega
      have b : min 12 l.length = 12 := by omega
      rw [a, b]
    · rfl
  · right
    have hnl : n = l.length := by omega
    refine ⟨hnl, ?_⟩
    have := fndF_far h (p := pS) (k := 9) (by decide) h9 (fun j hj hj2 => by
      refine fndF_no pS l 9 j hj (by omega))
    rw [sec_n]; omega
/-- The like of comments, behind <!--. -/
theorem comP_same {n : Nat} {l m : List UInt8} (h : ag n l m) (hn1 : 1 ≤ n) (hg : l[n - 1]? = some 62) (hn : (comP l).2 = n) : comP m = comP l ∨ (n = l.length ∧ n ≤ (comP m).2) := by
  have h1 := h.1; have h2 := h.2.1
  have e0 : pre [62] m = pre [62] l := (ag_pre h (p := [62]) hn1).symm
  cases q0 : pre [62] l with
  | true => left; rw [com_gt q0, com_gt (e0.trans q0)]
  | false =>
    have hne : n ≠ 1 := by
      intro e
      have : l[0]? = some 62 := by rw [e] at hg; exact hg
      have h3 := (pre_one 62 l 0).2 this
      rw [List.drop_zero, q0] at h3; cases h3
    have e1 : pre [45, 62] m = pre [45, 62] l := (ag_pre h (p := [45, 62]) (by show 2 ≤ n; omega)).symm
    cases q1 : pre [45, 62] l with
    | true => left; rw [com_dg q0 q1, com_dg (e0.trans q0) (e1.trans q1)]
    | false =>
      have eA : pA.length = 3 := rfl
      have eB : pB.length = 4 := rfl
      have la := fnd_le pA l
      have lb := fnd_le pB l
      have sl : comP l = if fnd pA l = l.length ∧ fnd pB l = l.length then (C.mkB (bare l), l.length) else if fnd pA l < fnd pB l then (C.mkB (l.take (fnd pA l)), fnd pA l + 3) else (C.mkB (l.take (fnd pB l)), fnd pB l + 4) := by
        conv => lhs; unfold comP
        rw [if_neg (by rw [q0]; decide), if_neg (by rw [q1]; decide)]
      have sm : comP m = if fnd pA m = m.length ∧ fnd pB m = m.length then (C.mkB (bare m), m.length) else if fnd pA m < fnd pB m then (C.mkB (m.take (fnd pA m)), fnd pA m + 3) else (C.mkB (m.take (fnd pB m)), fnd pB m + 4) := by
        conv => lhs; unfold comP
        rw [if_neg (by rw [e0, q0]; decide), if_neg (by rw [e1, q1]; decide)]
      by_cases hnone : fnd pA l = l.length ∧ fnd pB l = l.length
      · right
        rw [sl, if_pos hnone] at hn
        have hnl : n = l.length := hn.symm
        refine ⟨hnl, ?_⟩
        have fA := fnd_far h (p := pA) (by decide) (fun j _ => fnd_no pA l j (by omega))
        have fB := fnd_far h (p := pB) (by decide) (fun j _ => fnd_no pB l j (by omega))
        rw [sm]
        split
        · exact h2
        · split
          · show n ≤ fnd pA m + 3; omega
          · show n ≤ fnd pB m + 4; omega
      · rw [sl, if_neg hnone] at hn ⊢
        left
        by_cases hab : fnd pA l < fnd pB l
        · rw [if_pos hab] at hn ⊢
          have hn2 : fnd pA l + 3 = n := hn
          have hA := fnd_same h (p := pA) (by decide) (by omega)
          have hB : fnd pA l < fnd pB m := by
            rcases Nat.lt_or_ge (fnd pA l) (fnd pB m) with h3 | h3
            · exact h3
            · exfalso
              have h4 := fnd_at pB m (by omega)
              rcases Nat.lt_or_eq_of_le h3 with h5 | h5
              · rw [← ag_preD h (p := pB) (by omega), fnd_no pB l _ (by omega)] at h4; cases h4
              · have h6 := fnd_at pA m (by omega)
                rw [hA, ← h5] at h6
                rw [ab_not h6] at h4; cases h4
          rw [sm, if_neg (by omega), hA, if_pos hB, ag_take h (k := fnd pA l) (by omega)]
        · rw [if_neg hab] at hn ⊢
          have hn2 : fnd pB l + 4 = n := hn
          have hB := fnd_same h (p := pB) (by decide) (by omega)
          have hA : ¬ fnd pA m < fnd pB l := by
            intro h3
            have h4 := fnd_at pA m (by omega)
            rw [← ag_preD h (p := pA) (by omega), fnd_no pA l _ (by omega)] at h4; cases h4
          rw [sm, if_neg (by omega), hB, if_neg hA, ag_take h (k := fnd pB l) (by omega)]

theorem pre_far {p l : List UInt8} {n : Nat} (hg : l[n - 1]? = some 62) (hc : (62 : UInt8) ∉ p) (h : pre p l = true) : p.length ≤ n - 1 := by
  rcases Nat.lt_or_ge (n - 1) p.length with h2 | h2
  · rw [pre_sign hg hc h2] at h; cases h
  · exact h2
/-- What is read, and ends with a >, is the same, whatever stands behind; but where its end was not found, it may go further. -/
theorem rem_same {n : Nat} {l m : List UInt8} {f : Bool} (h : ag n l m) (hn : (rem l f).n = n) (h1 : 1 ≤ n) (hg : l[n - 1]? = some 62) : rem m f = rem l f ∨ (n = l.length ∧ n ≤ (rem m f).n) := by
  have e1 := ag_sign h h1 hg (p := [60, 33, 45, 45]) (by decide)
  have e2 := dt_same h h1 hg
  have e3 := ag_sign h h1 hg (p := pCd) (by decide)
  have e4 := ag_sign h h1 hg (p := [60, 33]) (by decide)
  have e5 := ag_sign h h1 hg (p := [60, 63]) (by decide)
  have e7 := ag_sign h h1 hg (p := [60, 47]) (by decide)
  unfold rem at hn ⊢
  rw [← e1, ← e2, ← e3, ← e4, ← e5, ← e7]
  by_cases q1 : pre [60, 33, 45, 45] l = true
  · rw [if_pos q1] at hn ⊢
    rw [if_pos q1]
    have h4 : 4 ≤ n - 1 := pre_far hg (by decide) q1
    have hn2 : 4 + (comP (l.drop 4)).2 = n := hn
    have hd := ag_drop h 4 (by omega)
    have hg2 : (l.drop 4)[n - 4 - 1]? = some 62 := by
      rw [List.getElem?_drop, show 4 + (n - 4 - 1) = n - 1 by omega]; exact hg
    rcases comP_same hd (by omega) hg2 (by omega) with h5 | ⟨h5, h6⟩
    · left
      unfold com
      rw [h5]
    · right
      rw [List.length_drop] at h5
      refine ⟨by omega, ?_⟩
      show n ≤ 4 + (comP (m.drop 4)).2
      omega
  · rw [if_neg q1] at hn ⊢
    rw [if_neg q1]
    by_cases q2 : dtB l = true
    · rw [if_pos q2] at hn ⊢
      rw [if_pos q2]
      have := dt_long hg q2
      exact .inl (dty_same h (by omega) hg)
    · rw [if_neg q2] at hn ⊢
      rw [if_neg q2]
      by_cases q3 : (f && pre pCd l) = true
      · rw [if_pos q3] at hn ⊢
        rw [if_pos q3]
        rw [Bool.and_eq_true] at q3
        have h9 : 9 ≤ n - 1 := pre_far hg (by decide) q3.2
        exact sec_same h (by omega) hn
      · rw [if_neg q3] at hn ⊢
        rw [if_neg q3]
        by_cases q4 : pre [60, 33] l = true
        · rw [if_pos q4, if_pos q4]
          have h2 : 2 ≤ n - 1 := pre_far hg (by decide) q4
          exact .inl (bog_same h (by omega) hg)
        · rw [if_neg q4] at hn ⊢
          rw [if_neg q4]
          by_cases q5 : pre [60, 63] l = true
          · rw [if_pos q5, if_pos q5]
            have h2 : 2 ≤ n - 1 := pre_far hg (by decide) q5
            exact .inl (bog_same h (by omega) hg)
          · rw [if_neg q5] at hn ⊢
            rw [if_neg q5]
            by_cases q6 : pre [60, 47, 62] l = true
            · rw [if_pos q6] at hn ⊢
              have h3 : 3 = n := hn
              have e6 := ag_pre h (p := [60, 47, 62]) (by show 3 ≤ n; omega)
              rw [if_pos (e6 ▸ q6)]
              exact .inl rfl
            · rw [if_neg q6] at hn ⊢
              by_cases q7 : (pre [60, 47] l && ntL l) = true
              · rw [if_pos q7]
                rw [Bool.and_eq_true] at q7
                have h2 : 2 ≤ n - 1 := pre_far hg (by decide) q7.1
                have e6 := ag_pre h (p := [60, 47, 62]) (by show 3 ≤ n; omega)
                have e8 : ntL m = ntL l := by unfold ntL; rw [ag_get h (k := 2) (by omega)]
                rw [if_neg (by rw [← e6]; exact q6), if_pos (by rw [e8, Bool.and_eq_true]; exact q7)]
                exact .inl (bog_same h (by omega) hg)
              · rw [if_neg q7] at hn
                have : 0 = n := hn
                omega
theorem pre_get {p l : List UInt8} {j i : Nat} (h : pre p (l.drop j) = true) (hi : i < p.length) : l[j + i]? = p[i]? := by
  obtain ⟨x, hx⟩ := List.isPrefixOf_iff_prefix.1 h
  have : (l.drop j)[i]? = p[i]? := by rw [← hx, List.getElem?_append_left hi]
  rw [List.getElem?_drop] at this; exact this
theorem fnd_end {p l : List UInt8} {k : Nat} (hl : p[p.length - 1]? = some 62) (h0 : 0 < p.length) (h : fndF p l k < l.length) : l[fndF p l k + p.length - 1]? = some 62 := by
  have := pre_get (fndF_at p l k h) (i := p.length - 1) (by omega)
  rw [show fndF p l k + (p.length - 1) = fndF p l k + p.length - 1 by omega, hl] at this; exact this
theorem fnd_end0 {p l : List UInt8} (hl : p[p.length - 1]? = some 62) (h0 : 0 < p.length) (h : fnd p l < l.length) : l[fnd p l + p.length - 1]? = some 62 := by
  have := pre_get (fnd_at p l h) (i := p.length - 1) (by omega)
  rw [show fnd p l + (p.length - 1) = fnd p l + p.length - 1 by omega, hl] at this; exact this
theorem bog_last {l : List UInt8} {k n : Nat} (hn : (bog l k).n = n) (h : n < l.length) : l[n - 1]? = some 62 := by
  have h2 : min (fndF [62] l k + 1) l.length = n := hn
  have h3 := fnd_end (p := [62]) (l := l) (k := k) rfl (by decide) (by omega)
  rw [show n - 1 = fndF [62] l k + [(62 : UInt8)].length - 1 by simp; omega]; exact h3
theorem comP_last {l : List UInt8} {n : Nat} (hn : (comP l).2 = n) (h : n < l.length) : l[n - 1]? = some 62 := by
  unfold comP at hn
  split at hn
  · rename_i q
    have h1 : 1 = n := hn
    have := (pre_one 62 l 0).1 (by rw [List.drop_zero]; exact q)
    rw [← h1]; exact this
  · split at hn
    · rename_i q
      have h1 : 2 = n := hn
      have := pre_get (p := [45, 62]) (l := l) (j := 0) (i := 1) (by rw [List.drop_zero]; exact q) (by decide)
      rw [← h1]; exact this
    · split at hn
      · have : l.length = n := hn
        omega
      · have la := fnd_le pA l
        have lb := fnd_le pB l
        have eA : pA.length = 3 := rfl
        have eB : pB.length = 4 := rfl
        split at hn
        · have h1 : fnd pA l + 3 = n := hn
          have h3 := fnd_end0 (p := pA) (l := l) rfl (by decide) (by omega)
          rw [show n - 1 = fnd pA l + pA.length - 1 by omega]; exact h3
        · have h1 : fnd pB l + 4 = n := hn
          have h3 := fnd_end0 (p := pB) (l := l) rfl (by decide) (by omega)
          rw [show n - 1 = fnd pB l + pB.length - 1 by omega]; exact h3
/-- What is read, and is not all, ends with a >. -/
theorem rem_last {n : Nat} {l : List UInt8} {f : Bool} (hn : (rem l f).n = n) (h1 : 1 ≤ n) (h : n < l.length) : l[n - 1]? = some 62 := by
  unfold rem at hn
  split at hn
  · rename_i q
    have hl := pre_len q
    simp at hl
    have hn2 : 4 + (comP (l.drop 4)).2 = n := hn
    have hb := (comP_bd (m := l.drop 4)).2 (by
      intro e
      have := congrArg List.length e
      rw [List.length_drop] at this
      simp at this; omega)
    have := comP_last (l := l.drop 4) (n := n - 4) (by omega) (by rw [List.length_drop]; omega)
    rw [List.getElem?_drop, show 4 + (n - 4 - 1) = n - 1 by omega] at this; exact this
  · split at hn
    · have h2 : min (fndF [62] l 9 + 1) l.length = n := hn
      have h3 := fnd_end (p := [62]) (l := l) (k := 9) rfl (by decide) (by omega)
      rw [show n - 1 = fndF [62] l 9 + [(62 : UInt8)].length - 1 by simp; omega]; exact h3
    · split at hn
      · rw [sec_n] at hn
        have eS : pS.length = 3 := rfl
        have h3 := fnd_end (p := pS) (l := l) (k := 9) rfl (by decide) (by omega)
        rw [show n - 1 = fndF pS l 9 + pS.length - 1 by omega]; exact h3
      · split at hn
        · exact bog_last hn h
        · split at hn
          · exact bog_last hn h
          · split at hn
            · rename_i q
              have h3 : 3 = n := hn
              have := pre_get (p := [60, 47, 62]) (l := l) (j := 0) (i := 2) (by rw [List.drop_zero]; exact q) (by decide)
              rw [← h3]; exact this
            · split at hn
              · exact bog_last hn h
              · have : 0 = n := hn
                omega

/-! ### a comment that is written -/
theorem has_no {l p : List UInt8} (hp : p ≠ []) (h : Lib.contains l p = false) (j : Nat) : pre p (l.drop j) = false := by
  unfold Lib.contains at h
  rw [decide_eq_false_iff_not] at h
  rcases Lib.index_spec l p with ⟨_, h2⟩ | ⟨i, h1, _⟩
  · rcases Nat.lt_or_ge l.length j with h3 | h3
    · rw [List.drop_eq_nil_of_le (by omega)]
      cases p with
      | nil => exact absurd rfl hp
      | cons c p => rfl
    · exact h2 j h3
  · rw [h1] at h; omega
/-- Within s nothing ends it; the first end is the one that was written. -/
theorem back_com (s b : List UInt8) (h0 : pre [62] s = false) (h1 : pre [45, 62] s = false) (hA : Lib.contains s pA = false) (hB : Lib.contains s pB = false) : comP (s ++ (pA ++ b)) = (C.mkB s, s.length + 3) := by
  have key : ∀ (p : List UInt8) (j : Nat), pre p ((s ++ (pA ++ b)).drop j) = true → j + p.length ≤ s.length → pre p (s.drop j) = true := by
    intro p j h hl
    rw [pre_tk, Bool.and_eq_true, decide_eq_true_eq, beq_iff_eq, List.length_drop]
    rw [pre_tk, Bool.and_eq_true, decide_eq_true_eq, beq_iff_eq] at h
    refine ⟨by omega, ?_⟩
    rw [List.drop_append_of_le_length (by omega), List.take_append_of_le_length (by rw [List.length_drop]; omega)] at h
    exact h.2
  have g : ∀ i, i < 3 → (s ++ (pA ++ b))[s.length + i]? = pA[i]? := by
    intro i hi
    rw [List.getElem?_append_right (by omega), show s.length + i - s.length = i by omega, List.getElem?_append_left (by simpa [pA] using hi)]
  have no : noAB (s ++ (pA ++ b)) s.length := by
    intro j hj
    constructor
    · cases hx : pre pA ((s ++ (pA ++ b)).drop j) with
      | false => rfl
      | true =>
        exfalso
        rcases Nat.lt_or_ge s.length (j + 3) with h | h
        · have h2 := pre_get hx (i := 2) (by decide)
          have e : j + 2 = s.length + (j + 2 - s.length) := by omega
          rw [e, g _ (by omega)] at h2
          rcases (show j + 2 - s.length = 0 ∨ j + 2 - s.length = 1 by omega) with h3 | h3 <;> rw [h3] at h2 <;> exact absurd h2 (by decide)
        · have := key pA j hx (by show j + 3 ≤ _; omega)
          rw [has_no (by decide) hA j] at this; cases this
    · cases hx : pre pB ((s ++ (pA ++ b)).drop j) with
      | false => rfl
      | true =>
        exfalso
        rcases Nat.lt_or_ge s.length (j + 4) with h | h
        · rcases Nat.lt_or_ge (j + 2) s.length with h4 | h4
          · have h2 := pre_get hx (i := 3) (by decide)
            have e : j + 3 = s.length + 0 := by omega
            rw [e, g 0 (by decide)] at h2
            exact absurd h2 (by decide)
          · have h2 := pre_get hx (i := 2) (by decide)
            have e : j + 2 = s.length + (j + 2 - s.length) := by omega
            rw [e, g _ (by omega)] at h2
            rcases (show j + 2 - s.length = 0 ∨ j + 2 - s.length = 1 by omega) with h3 | h3 <;> rw [h3] at h2 <;> exact absurd h2 (by decide)
        · have := key pB j hx (by show j + 4 ≤ _; omega)
          rw [has_no (by decide) hB j] at this; cases this
  have f0 : pre [62] (s ++ (pA ++ b)) = false := by
    cases s with
    | nil => rfl
    | cons c s =>
      cases hx : pre [62] (c :: s ++ (pA ++ b)) with
      | false => rfl
      | true =>
        have := key [62] 0 (by rw [List.drop_zero]; exact hx) (by simp)
        rw [List.drop_zero, h0] at this; cases this
  have f1 : pre [45, 62] (s ++ (pA ++ b)) = false := by
    match s, h1, key, g with
    | [], _, _, _ => rfl
    | [c], _, _, g =>
      cases hx : pre [45, 62] ([c] ++ (pA ++ b)) with
      | false => rfl
      | true =>
        have h2 := pre_get (j := 0) (i := 1) (by rw [List.drop_zero]; exact hx) (by decide)
        have h3 := g 0 (by decide)
        rw [show 0 + 1 = [c].length + 0 from rfl, h3] at h2
        exact absurd h2 (by decide)
    | c :: d :: s, h1, key, _ =>
      cases hx : pre [45, 62] (c :: d :: s ++ (pA ++ b)) with
      | false => rfl
      | true =>
        have := key [45, 62] 0 (by rw [List.drop_zero]; exact hx) (by simp)
        rw [List.drop_zero, h1] at this; cases this
  have hit : pre pA ((s ++ (pA ++ b)).drop s.length) = true := by
    rw [List.drop_left]
    exact List.isPrefixOf_iff_prefix.2 ⟨b, rfl⟩
  rw [com_A f0 f1 no hit, List.take_left]
theorem back_rem (s b : List UInt8) (h0 : pre [62] s = false) (h1 : pre [45, 62] s = false) (hA : Lib.contains s pA = false) (hB : Lib.contains s pB = false) :
    rem ([60, 33, 45, 45] ++ (s ++ (pA ++ b))) false = ⟨4, ByteArray.empty, C.mkB s, s.length + 7, true⟩ := by
  have e : rem ([60, 33, 45, 45] ++ (s ++ (pA ++ b))) false = com (s ++ (pA ++ b)) := by
    unfold rem
    rw [if_pos (List.isPrefixOf_iff_prefix.2 ⟨_, rfl⟩)]; rfl
  rw [e]
  unfold com
  rw [back_com s b h0 h1 hA hB]
  simp only
  rw [show 4 + (s.length + 3) = s.length + 7 by omega]
end Go.Proofs.Ytdljjfeojccidaa.R
