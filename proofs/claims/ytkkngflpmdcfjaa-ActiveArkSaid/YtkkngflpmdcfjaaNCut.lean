/-
  The walk of Cut.
-/
import Derived.Test.YtkkngflpmdcfjaaNStore
import Derived.Test.YtkkngflpmdcfjaaNConcat
import Derived.Test.YtkkngflpmdcfjaaNRplace
namespace Go.Proofs.Ytkkngflpmdcfjaa
open Go.RowKit

set_option maxRecDepth 100000 in
theorem placeP_cases {l : List Nd} {k : Nat} (hk : k < l.length) : placeP l k = -1 ∨ ∃ (i a : Nat) (hi : i < l.length), upI l k = (i : Int) ∧ placeP l k = (a : Int) ∧ a < l[i].kids.length := by
  unfold placeP
  rw [if_pos (inN_of hk)]
  by_cases hu : inN l.length (upI l k) = true
  · rw [if_pos hu]
    obtain ⟨i, hi, hil⟩ := inN_nat hu
    rw [hi, nodeI_at hil]
    rcases idxI_cases (k : Int) l[i].kids with h | ⟨a, h1, h2, _⟩
    · exact .inl h
    · exact .inr ⟨i, a, hil, rfl, h1, h2⟩
  · rw [if_neg hu]; exact .inl rfl
set_option maxRecDepth 100000 in
theorem treeAt_lt {w : World} {R : Nat → Prop} {p : Nat} {v : Value} {l : List Nd} (h : TreeAt w R p v l) : p < w.heap.size := h.nodes.lt p h.rp
set_option maxRecDepth 100000 in
theorem retTree_of {w w' : World} {R : Nat → Prop} {p : Nat} {v : Value} {l P : List Nd} (hk : Keeps R w w') (ht : TreeAt w' (RN R w w') p v l) (hp : l.map norm = P) : RetTree R p P w (.returned (.tuple #[])) w' := ⟨rfl, hk, v, l, ht, hp⟩
set_option maxRecDepth 100000 in
theorem TreeAt.wide {w' : World} {R R' : Nat → Prop} {p : Nat} {v : Value} {l : List Nd} (h : TreeAt w' R p v l) (hr : ∀ k, R k → R' k) (hl : ∀ k, R' k → k < w'.heap.size) : TreeAt w' R' p v l :=
  ⟨h.at_p, hr p h.rp, h.nodes.keep (Nat.le_refl _) (fun _ _ => rfl) hr hl⟩
set_option maxRecDepth 100000 in
theorem TreeAt.rn {w w' : World} {R : Nat → Prop} {p : Nat} {v : Value} {l : List Nd} (h : TreeAt w' R p v l) : TreeAt w' (RN R w w') p v l :=
  h.wide (fun _ h => .inl h) (fun k hk => by rcases hk with hk | hk; exact h.nodes.lt k hk; exact hk.2)
set_option maxRecDepth 100000 in
theorem eraseIdx_parts (ks : List Int) (a : Nat) : ks.eraseIdx a = ks.take a ++ ks.drop (a + 1) := List.eraseIdx_eq_take_drop_succ ks a
set_option maxRecDepth 100000 in
/-- The store of an Up, as the walk meets it. -/
theorem TreeAt.setUp {w : World} {R : Nat → Prop} {p g n c : Nat} {l : List Nd} (h : TreeAt w R p (.slice (some ⟨g, 0, none⟩) n c) l) (i : Nat) (u : Int) :
    TreeAt (w.setCell ⟨g, i * 7 + 5, none⟩ (.int .i64 u)) R p (.slice (some ⟨g, 0, none⟩) n c) (l.modify i (setUp u)) ∧ Keeps R w (w.setCell ⟨g, i * 7 + 5, none⟩ (.int .i64 u)) := by
  have hg : R g := h.nodes.rv g rfl
  have hne : p ≠ g := by obtain ⟨c', f', h3⟩ := h.nodes.nr.kind (g := g) rfl; exact kind_ne h.at_p h3 (by decide)
  exact ⟨⟨(setCell_other hne).trans h.at_p, h.rp, h.nodes.setUp i u⟩, ⟨rfl, rfl, rfl, by simp, fun k _ hr => setCell_other (fun (e : k = g) => hr (by rw [e]; exact hg))⟩⟩
set_option maxRecDepth 100000 in
/-- The store of new kids, as the walk meets it: w, then calls that make memory (w1), then the store. -/
theorem TreeAt.setKids {w w1 : World} {R : Nat → Prop} {p g n c : Nat} {l : List Nd} (h : TreeAt w R p (.slice (some ⟨g, 0, none⟩) n c) l) (hb : Below w.heap.size w w1) (i : Nat) (v : Value) (ks : List Int) (hv : KR w1 v ks) (hown : ∀ k, v.ownBlock = some k → w.heap.size ≤ k) :
    TreeAt (w1.setCell ⟨g, i * 7 + 6, none⟩ v) (RN R w w1) p (.slice (some ⟨g, 0, none⟩) n c) (l.modify i (setKids v ks)) ∧ Keeps R w (w1.setCell ⟨g, i * 7 + 6, none⟩ v) := by
  have h1 := (h.below hb).rn (w := w)
  have hg : R g := h.nodes.rv g rfl
  have hne : p ≠ g := by obtain ⟨c', f', h3⟩ := h1.nodes.nr.kind (g := g) rfl; exact kind_ne h1.at_p h3 (by decide)
  refine ⟨⟨(setCell_other hne).trans h1.at_p, h1.rp, h1.nodes.setKids i v ks hv fun k hk => ⟨.inr ⟨hown k hk, hv.lt k hk⟩, fun j hj e => ?_⟩⟩, ⟨hb.os, hb.tape, hb.output, by simpa using hb.size, fun k hk hr => (setCell_other (fun (e : k = g) => hr (by rw [e]; exact hg))).trans (hb.block k hk)⟩⟩
  have := h.nodes.lt k (h.nodes.rk j hj k e)
  have := hown k hk
  omega

set_option maxRecDepth 100000 in
theorem IntsAt.take {w : World} {a : Option Addr} {xs : List Int} (h : IntsAt w a xs) (n : Nat) : IntsAt w a (xs.take n) := fun hne => by
  obtain ⟨b, off, rfl, hlt, hc⟩ := h (fun e => hne (by rw [e]; simp))
  exact ⟨b, off, rfl, hlt, fun j hj => by
    have hj2 : j < xs.length := by simp at hj; omega
    rw [hc j hj2, List.getElem_take]⟩
set_option maxRecDepth 100000 in
theorem drop_ints {w : World} {q n m : Nat} {xs : List Int} (h : IntsAt w (some ⟨q, 0, none⟩) xs) (hm : m = n ∨ xs.drop n = []) : IntsAt w (some ⟨q, m, none⟩) (xs.drop n) := fun hne => by
  rcases hm with rfl | hm
  · obtain ⟨b, off, e, hlt, hc⟩ := h (fun e => hne (by rw [e]; simp))
    injection e with e
    injection e with e1 e2
    subst e1 e2
    exact ⟨q, m, rfl, hlt, fun j hj => by
      have hj2 : m + j < xs.length := by simp at hj; omega
      have := hc (m + j) hj2
      rw [Nat.zero_add] at this
      rw [this, List.getElem_drop]⟩
  · exact absurd hm hne
set_option maxRecDepth 100000 in
theorem below_drewN (w : World) : ∀ n, Below w.heap.size w (w.drewN n)
  | 0 => Below.refl _ _
  | n + 1 => (below_drewN w n).drew
set_option maxRecDepth 100000 in
theorem norm_up (l : List Nd) (k : Nat) (u : Int) : (l.modify k (setUp u)).map norm = (l.map norm).modify k (setUp u) := map_modify l k _ _ fun _ => rfl
set_option maxRecDepth 100000 in
theorem norm_kids (l : List Nd) (k : Nat) (v : Value) (ks : List Int) : (l.modify k (setKids v ks)).map norm = (l.map norm).modify k (putKids ks) := map_modify l k _ _ fun _ => rfl
set_option maxRecDepth 100000 in
theorem rn_rn {R : Nat → Prop} {w w1 w2 : World} (h2 : w1.heap.size ≤ w2.heap.size) : ∀ k, RN R w w1 k → RN R w w2 k := fun _ hk => hk.imp id fun h => ⟨h.1, Nat.lt_of_lt_of_le h.2 h2⟩
set_option maxRecDepth 100000 in
theorem rn_lt {R : Nat → Prop} {w w2 : World} (hR : ∀ k, R k → k < w2.heap.size) : ∀ k, RN R w w2 k → k < w2.heap.size := fun k hk => by
  rcases hk with hk | hk
  · exact hR k hk
  · exact hk.2
set_option maxRecDepth 100000 in
/-- What an Up's store at the end of a function leaves. -/
theorem ret_setUp {w wz : World} {R : Nat → Prop} {p g n c k : Nat} {l1 P : List Nd} {u : Int} (hR : ∀ k, R k → k < w.heap.size) (hk : Keeps R w wz) (ht : TreeAt wz (RN R w wz) p (.slice (some ⟨g, 0, none⟩) n c) l1) (hP : P = (l1.map norm).modify k (setUp u)) :
    RetTree R p P w (.returned (.tuple #[])) (wz.setCell ⟨g, k * 7 + 5, none⟩ (.int .i64 u)) := by
  obtain ⟨h1, h2⟩ := ht.setUp k u
  have hs : (wz.setCell ⟨g, k * 7 + 5, none⟩ (.int .i64 u)).heap.size = wz.heap.size := by simp
  exact retTree_of (hk.trans (RN.more R w wz) h2) (h1.wide (rn_rn (by rw [hs]; exact Nat.le_refl _)) (rn_lt fun k h => by rw [hs]; exact Nat.lt_of_lt_of_le (hR k h) hk.size)) (by rw [norm_up, hP])
set_option maxRecDepth 100000 in
/-- The cells of a node of a tree, as a store of its Up meets them. -/
theorem TreeAt.up_cell {w : World} {R : Nat → Prop} {p g c n k : Nat} {l : List Nd} (h : TreeAt w R p (.slice (some ⟨g, 0, none⟩) n c) l) (hk : k < l.length) : w.cell? ⟨g, k * 7 + 5, none⟩ = some (.int .i64 (upI l k)) ∧ w.cell? ⟨g, k * 7 + 6, none⟩ = some l[k].kv ∧ ∀ j, w.frozen? ⟨g, j, none⟩ = false := by
  obtain ⟨g', cap', e, _, _, _, hc, _, hf⟩ := h.nodes.nr.form (by omega)
  injection e with e1 e2 e3
  injection e1 with e1
  injection e1 with e1
  subst e1
  exact ⟨node_up hc hk, by rw [hc k hk 6 (by omega)]; rfl, hf⟩

set_option maxRecDepth 100000 in
set_option maxHeartbeats 3200000 in
theorem cut_any (R : Nat → Prop) (p : Nat) (P : List Nd) (kid : Int) (w : World) (hT : TreeP w R p P) (hks : ∀ x ∈ P, x.kids.length ≤ 100000) :
    Calls Try.prog 135 #[.pointer (some ⟨p, 0, none⟩), .int .i64 kid] w (RetTree R p (cutP P kid) w) := by
  obtain ⟨v, l, hT, rfl⟩ := hT
  have hkl : ∀ i (h : i < l.length), l[i].kids.length ≤ 100000 := fun i h => hks (norm l[i]) (List.mem_map.2 ⟨_, List.getElem_mem h, rfl⟩)
  obtain ⟨a, cap, rfl, hm, hle⟩ := hT.nodes.nr.slice
  unfold maxLen at hm
  have HT := Lib.hid hT
  have hp := hT.cell
  have hW := within_any a l.length cap kid w
  by_cases hk : inN l.length kid = true
  · rw [hk] at hW
    have HW := Lib.hid hW
    obtain ⟨k, rfl, hkn⟩ := inN_nat hk
    obtain ⟨g, cap', e, _, _, hgw, _⟩ := hT.nodes.nr.form (by omega)
    injection e with e1 e2 e3
    subst e1 e3
    have HPl : Hid (∀ W, Below w.heap.size w W → Calls Try.prog 159 #[.agg #[.slice (some ⟨g, 0, none⟩) l.length cap], .int .i64 (k : Int)] W fun e w' => e = .returned (.int .i64 (placeP l k)) ∧ Below W.heap.size W w') := Lib.hid fun W hW => place_any _ l k W (HT.out.nodes.below hW).nr (HT.out.nodes.below hW).kr
    have HQ : Hid (cutP (l.map norm) (k : Int) = (let l1 := if 0 ≤ placeP l k then (l.map norm).modify (upI l k).toNat (putKids ((nodeI (l.map norm) (upI l k)).kids.eraseIdx (placeP l k).toNat)) else l.map norm
        if (k : Int) = 0 then l1 else l1.modify k (setUp (-1)))) := Lib.hid (by unfold cutP; rw [List.length_map, if_pos hk, placeP_norm, upI_norm]; rfl)
    clear hW hT hks hk e2
    rcases placeP_cases hkn with hpl | ⟨i, at_, hin, hup, hpl, hat⟩
    · rw [hpl] at HPl HQ
      have HQ1 : Hid (cutP (l.map norm) (k : Int) = if (k : Int) = 0 then l.map norm else (l.map norm).modify k (setUp (-1))) := Lib.hid (HQ.out.trans (by simp))
      clear hpl HQ hkl
      go_enter Try.func135, Try.ntmps135
      go_wp2_with fail
      refine HW.out.mono ?_
      rintro e w1 ⟨rfl, hb1⟩
      have HB1 := Lib.hid hb1
      have hp1 := (HT.out.below hb1).cell
      clear hb1 hp
      go_wp2_with fail
      refine (HPl.out w1 HB1.out).mono ?_
      rintro e wz ⟨rfl, hb2⟩
      have HBz := below_step HB1 hb2
      clear hb2 hp1
      have HKz : Hid (Keeps R w wz) := Lib.hid (Keeps.of_below HBz.out)
      have HTz : Hid (TreeAt wz (RN R w wz) p (.slice (some ⟨g, 0, none⟩) l.length cap) l) := Lib.hid (HT.out.below HBz.out).rn
      have HQz : Hid (cutP (l.map norm) (k : Int) = if (k : Int) = 0 then l.map norm else (l.map norm).modify k (setUp (-1))) := HQ1
      have hl1 : k < l.length := hkn
      by_cases hk0 : k = 0
      · have hb : ((k : Int) != 0) = false := by simp [hk0]
        have HF : Hid (RetTree R p (cutP (l.map norm) (k : Int)) w (.returned (.tuple #[])) wz) := Lib.hid (retTree_of HKz.out HTz.out (by rw [HQz.out, if_pos (by omega)]))
        clear hk0
        go_wp2
        refine bodyPost_ret (results_none rfl _ _ _) rfl ?_
        exact HF.out
      · have hb : ((k : Int) != 0) = true := by simp [hk0]
        have HF : Hid (RetTree R p (cutP (l.map norm) (k : Int)) w (.returned (.tuple #[])) (wz.setCell ⟨g, k * 7 + 5, none⟩ (.int .i64 (-1)))) := Lib.hid (ret_setUp HT.out.nodes.lt HKz.out HTz.out (by rw [HQz.out, if_neg (by omega)]))
        have hpz := HTz.out.cell
        obtain ⟨hzu, _, hzf⟩ := HTz.out.up_cell hl1
        have hzf5 := hzf (k * 7 + 5)
        clear hk0 hzf
        generalize upI l (k : Int) = uz at *
        go_wp2
        refine bodyPost_ret (results_none rfl _ _ _) rfl ?_
        exact HF.out
    · rw [hup, hpl] at HQ
      rw [hpl] at HPl
      have hka := hkl i hin
      have hcu : w.cell? ⟨g, k * 7 + 5, none⟩ = some (.int .i64 (i : Int)) := by
        obtain ⟨g', cap', e, _, _, _, hc, _⟩ := HT.out.nodes.nr.form (by omega)
        injection e with e1 e2 e3
        injection e1 with e1
        injection e1 with e1
        subst e1
        rw [← hup]; exact node_up hc hkn
      have HCU := Lib.hid hcu
      have HQ1 : Hid (cutP (l.map norm) (k : Int) = if (k : Int) = 0 then (l.map norm).modify i (putKids (l[i].kids.eraseIdx at_)) else ((l.map norm).modify i (putKids (l[i].kids.eraseIdx at_))).modify k (setUp (-1))) := Lib.hid (HQ.out.trans (by
        rw [nodeI_norm, nodeI_at hin]
        simp only [Int.toNat_natCast, show (0 : Int) ≤ (at_ : Int) by omega, if_true]
        rfl))
      have HUp := Lib.hid hup
      clear hpl HQ hkl hcu hup
      obtain ⟨ka, kc, hkv, hkle, hkm, hknone, hkc⟩ := (HT.out.nodes.kr i hin).form
      cases ka with
      | none => have := hknone rfl; omega
      | some kad =>
        obtain ⟨q, rfl, hq, _⟩ := hkc kad rfl
        have HKR := Lib.hid (HT.out.nodes.kr i hin)
        rw [hkv] at HKR
        have HKV := Lib.hid hkv
        clear hknone hkc hkv
        unfold maxLen at hkm
        generalize hks2 : l[i].kids = ks at *
        clear hks2
        have hwr : IntKind.i64.wrap ((at_ : Int) + 1) = (at_ : Int) + 1 := IntWalk.i64_in _ (by omega)
        have HWr := Lib.hid hwr
        clear hwr
        by_cases hfull : at_ + 1 = kc
        · have hkl2 : ks.length = at_ + 1 := by omega
          subst hfull
          have HD2 : Hid (ks.drop (at_ + 1) = [] ∧ ks.length = at_ + 1) := Lib.hid ⟨List.drop_eq_nil_of_le (by omega), hkl2⟩
          clear hkl2
          go_enter Try.func135, Try.ntmps135
          go_wp2_with fail
          refine HW.out.mono ?_
          rintro e w1 ⟨rfl, hb1⟩
          have HB1 := Lib.hid hb1
          have hp1 := (HT.out.below hb1).cell
          clear hb1 hp
          go_wp2_with fail
          refine (HPl.out w1 HB1.out).mono ?_
          rintro e w2 ⟨rfl, hb2⟩
          have HB2 := below_step HB1 hb2
          clear hb2 hp1
          have HT2 := Lib.hid (HT.out.below HB2.out)
          have hp2 := HT2.out.cell
          obtain ⟨hcu, hcv, hcf⟩ := HT2.out.up_cell hkn
          rw [HUp.out] at hcu
          have hi1 : (0 : Int) ≤ (k : Int) := by omega
          have hi2 : (k : Int) < (l.length : Int) := by omega
          have hi3 : (0 : Int) ≤ (i : Int) := by omega
          have hi4 : (i : Int) < (l.length : Int) := by omega
          clear hcv hcf
          go_wp2
          go_quiet (fail)
          go_wp2
          have HB3 : Hid (Below w.heap.size w (w2.drewN nq)) := Lib.hid (HB2.out.trans ((below_drewN w2 nq).mono HB2.out.size))
          generalize w2.drewN nq = w3 at *
          clear hcu hp2 HT2 hi1 hi2 hi3 hi4
          have HT3 := Lib.hid (HT.out.below HB3.out)
          have hp3 := HT3.out.cell
          obtain ⟨_, hcv, _⟩ := HT3.out.up_cell hin
          rw [HKV.out] at hcv
          have HK3 := Lib.hid (HKR.out.below HB3.out)
          have HPa : Hid (PartsAt (w3.drew.alloc (.cells #[.slice (some ⟨q, 0, none⟩) at_ (at_ + 1), .slice (some ⟨q, 0, none⟩) 0 0] 29)) w3.heap.size [(some ⟨q, 0, none⟩, (at_ + 1), ks.take at_), (some ⟨q, 0, none⟩, 0, ks.drop (at_ + 1))]) := Lib.hid (by
            have hd := HD2.out.2
            refine ⟨by simp, fun j hj => ?_⟩
            have hbl : Below w3.heap.size w3 (w3.drew.alloc (.cells #[.slice (some ⟨q, 0, none⟩) at_ (at_ + 1), .slice (some ⟨q, 0, none⟩) 0 0] 29)) := (drewB1 (Below.refl _ _)).alloc (Nat.le_refl _) _
            match j, hj with
            | 0, _ =>
              refine ⟨?_, (HK3.out.ints.take at_).below hbl⟩
              show _ = some (Value.slice (some ⟨q, 0, none⟩) (ks.take at_).length (at_ + 1))
              rw [List.length_take, show min at_ ks.length = at_ by omega]
              simp [go_sem]
            | 1, _ =>
              refine ⟨?_, IntsAt.below ?_ hbl⟩
              · show _ = some (Value.slice (some ⟨q, 0, none⟩) (ks.drop (at_ + 1)).length 0)
                have hlen : (ks.drop (at_ + 1)).length = 0 := by first | (rw [List.length_drop]; done) | (rw [List.length_drop]; omega)
                rw [hlen]
                simp [go_sem]
              · exact drop_ints HK3.out.ints (by first | exact .inl rfl | exact .inr HD2.out.1))
          have HCo := Lib.hid (concat_any w3.heap.size 2 2 _ _ rfl (by omega) HPa.out (by unfold joined; simp; omega))
          have hcf := HT3.out.up_cell hin |>.2.2
          have hi3 : (0 : Int) ≤ (at_ : Int) := by omega
          have hi4 : (0 : Int) ≤ (at_ : Int) + 1 := by omega
          have hi5 : (at_ : Int) ≤ ((at_ : Int) + 1 : Int) := by have := HD2.out; omega
          have hi6 : (at_ : Int) + 1 ≤ (ks.length : Int) := by omega
          have hi7 : (ks.length : Int) ≤ ((at_ : Int) + 1 : Int) := by have := HD2.out; omega
          have hi8 : ((at_ : Int) + 1).toNat = at_ + 1 := by omega
          have hwr := HWr.out
          go_region_law ((go_simp; go_at_call 136; (refine HCo.out.mono ?_); rintro e w4 ⟨v4, rfl, hk4, hown4, hb4⟩
                          have HK4 := Lib.hid hk4
                          have HO4 := Lib.hid hown4
                          have HB4 : Hid (Below w.heap.size w w4) := Lib.hid (HB3.out.trans (((drewB1 (Below.refl w3.heap.size w3)).alloc (Nat.le_refl _) _ |>.trans (hb4.mono (by simp))).mono HB3.out.size))
                          have HS4 : Hid (w3.heap.size ≤ w4.heap.size) := Lib.hid (Nat.le_trans (by simp) hb4.size)
                          obtain ⟨a4, n4, c4, hv4⟩ : ∃ a n c, v4 = .slice a n c := by obtain ⟨a, c, e, _⟩ := hk4.form; exact ⟨_, _, _, e⟩
                          have h4v := (HT.out.below HB4.out).up_cell hin |>.2.1
                          have h4f := (HT.out.below HB4.out).up_cell hin |>.2.2 (i * 7 + 6)
                          subst hv4
                          clear hk4 hown4 hb4))
          all_goals
            clear hi3 hi4 hi5 hi6 hi7 hi8 hwr hp3 hcv hcf h4v h4f
            obtain ⟨hts, hks4⟩ := HT.out.setKids HB4.out i (.slice a4 n4 c4) _ HK4.out (fun k hk => by have := HO4.out k hk; have := HB3.out.size; simp at *; omega)
            have hQ4 : cutP (l.map norm) (k : Int) = if (k : Int) = 0 then (l.modify i (setKids (.slice a4 n4 c4) (joined [(some ⟨q, 0, none⟩, (at_ + 1), ks.take at_), (some ⟨q, 0, none⟩, 0, ks.drop (at_ + 1))]))).map norm else ((l.modify i (setKids (.slice a4 n4 c4) (joined [(some ⟨q, 0, none⟩, (at_ + 1), ks.take at_), (some ⟨q, 0, none⟩, 0, ks.drop (at_ + 1))]))).map norm).modify k (setUp (-1)) := by
              rw [HQ1.out, norm_kids, eraseIdx_parts]
              rw [show joined [(some ⟨q, 0, none⟩, (at_ + 1), ks.take at_), (some ⟨q, 0, none⟩, 0, ks.drop (at_ + 1))] = ks.take at_ ++ ks.drop (at_ + 1) by simp [joined]]
            have hlen4 : (l.modify i (setKids (.slice a4 n4 c4) (joined [(some ⟨q, 0, none⟩, (at_ + 1), ks.take at_), (some ⟨q, 0, none⟩, 0, ks.drop (at_ + 1))]))).length = l.length := by simp
            go_upto_region 5 with fail
            generalize hl4 : l.modify i (setKids (.slice a4 n4 c4) (joined [(some ⟨q, 0, none⟩, (at_ + 1), ks.take at_), (some ⟨q, 0, none⟩, 0, ks.drop (at_ + 1))])) = l4 at *
            clear hl4
            have hsz4 : (w4.setCell ⟨g, i * 7 + 6, none⟩ (.slice a4 n4 c4)).heap.size = w4.heap.size := by simp
            obtain ⟨wz, ew⟩ : ∃ wz, wz = w4.setCell ⟨g, i * 7 + 6, none⟩ (.slice a4 n4 c4) := ⟨_, rfl⟩
            rw [← ew] at hts hks4 hsz4 ⊢
            have HQz : Hid (cutP (l.map norm) (k : Int) = if (k : Int) = 0 then l4.map norm else (l4.map norm).modify k (setUp (-1))) := Lib.hid hQ4
            have HKz : Hid (Keeps R w wz) := Lib.hid hks4
            have HTz : Hid (TreeAt wz (RN R w wz) p (.slice (some ⟨g, 0, none⟩) l.length cap) l4) := Lib.hid (hts.wide (rn_rn (by omega)) (rn_lt fun k h => Nat.lt_of_lt_of_le (HT.out.nodes.lt k h) hks4.size))
            have hl1 : k < l4.length := by omega
            clear hQ4 hks4 hts hlen4 hsz4 ew
            by_cases hk0 : k = 0
            · have hb : ((k : Int) != 0) = false := by simp [hk0]
              have HF : Hid (RetTree R p (cutP (l.map norm) (k : Int)) w (.returned (.tuple #[])) wz) := Lib.hid (retTree_of HKz.out HTz.out (by rw [HQz.out, if_pos (by omega)]))
              clear hk0
              go_wp2
              refine bodyPost_ret (results_none rfl _ _ _) rfl ?_
              exact HF.out
            · have hb : ((k : Int) != 0) = true := by simp [hk0]
              have HF : Hid (RetTree R p (cutP (l.map norm) (k : Int)) w (.returned (.tuple #[])) (wz.setCell ⟨g, k * 7 + 5, none⟩ (.int .i64 (-1)))) := Lib.hid (ret_setUp HT.out.nodes.lt HKz.out HTz.out (by rw [HQz.out, if_neg (by omega)]))
              have hpz := HTz.out.cell
              obtain ⟨hzu, _, hzf⟩ := HTz.out.up_cell hl1
              have hzf5 := hzf (k * 7 + 5)
              clear hk0 hzf
              generalize upI l4 (k : Int) = uz at *
              go_wp2
              refine bodyPost_ret (results_none rfl _ _ _) rfl ?_
              exact HF.out
        · have HD2 : Hid (at_ + 1 < kc ∧ ks.length ≤ kc) := Lib.hid ⟨by omega, hkle⟩
          have hkx : at_ + 1 < kc := HD2.out.1
          have hkx2 : ¬ kc = at_ + 1 := by omega
          clear hfull
          go_enter Try.func135, Try.ntmps135
          go_wp2_with fail
          refine HW.out.mono ?_
          rintro e w1 ⟨rfl, hb1⟩
          have HB1 := Lib.hid hb1
          have hp1 := (HT.out.below hb1).cell
          clear hb1 hp
          go_wp2_with fail
          refine (HPl.out w1 HB1.out).mono ?_
          rintro e w2 ⟨rfl, hb2⟩
          have HB2 := below_step HB1 hb2
          clear hb2 hp1
          have HT2 := Lib.hid (HT.out.below HB2.out)
          have hp2 := HT2.out.cell
          obtain ⟨hcu, hcv, hcf⟩ := HT2.out.up_cell hkn
          rw [HUp.out] at hcu
          have hi1 : (0 : Int) ≤ (k : Int) := by omega
          have hi2 : (k : Int) < (l.length : Int) := by omega
          have hi3 : (0 : Int) ≤ (i : Int) := by omega
          have hi4 : (i : Int) < (l.length : Int) := by omega
          clear hcv hcf
          go_wp2
          go_quiet (fail)
          go_wp2
          have HB3 : Hid (Below w.heap.size w (w2.drewN nq)) := Lib.hid (HB2.out.trans ((below_drewN w2 nq).mono HB2.out.size))
          generalize w2.drewN nq = w3 at *
          clear hcu hp2 HT2 hi1 hi2 hi3 hi4
          have HT3 := Lib.hid (HT.out.below HB3.out)
          have hp3 := HT3.out.cell
          obtain ⟨_, hcv, _⟩ := HT3.out.up_cell hin
          rw [HKV.out] at hcv
          have HK3 := Lib.hid (HKR.out.below HB3.out)
          have HPa : Hid (PartsAt (w3.drew.alloc (.cells #[.slice (some ⟨q, 0, none⟩) at_ kc, .slice (some ⟨q, at_ + 1, none⟩) (ks.length - (at_ + 1)) (kc - (at_ + 1))] 29)) w3.heap.size [(some ⟨q, 0, none⟩, kc, ks.take at_), (some ⟨q, at_ + 1, none⟩, (kc - (at_ + 1)), ks.drop (at_ + 1))]) := Lib.hid (by
            have hd := HD2.out.2
            refine ⟨by simp, fun j hj => ?_⟩
            have hbl : Below w3.heap.size w3 (w3.drew.alloc (.cells #[.slice (some ⟨q, 0, none⟩) at_ kc, .slice (some ⟨q, at_ + 1, none⟩) (ks.length - (at_ + 1)) (kc - (at_ + 1))] 29)) := (drewB1 (Below.refl _ _)).alloc (Nat.le_refl _) _
            match j, hj with
            | 0, _ =>
              refine ⟨?_, (HK3.out.ints.take at_).below hbl⟩
              show _ = some (Value.slice (some ⟨q, 0, none⟩) (ks.take at_).length kc)
              rw [List.length_take, show min at_ ks.length = at_ by omega]
              simp [go_sem]
            | 1, _ =>
              refine ⟨?_, IntsAt.below ?_ hbl⟩
              · show _ = some (Value.slice (some ⟨q, at_ + 1, none⟩) (ks.drop (at_ + 1)).length (kc - (at_ + 1)))
                have hlen : (ks.drop (at_ + 1)).length = (ks.length - (at_ + 1)) := by first | (rw [List.length_drop]; done) | (rw [List.length_drop]; omega)
                rw [hlen]
                simp [go_sem]
              · exact drop_ints HK3.out.ints (by first | exact .inl rfl | exact .inr HD2.out.1))
          have HCo := Lib.hid (concat_any w3.heap.size 2 2 _ _ rfl (by omega) HPa.out (by unfold joined; simp; omega))
          have hcf := HT3.out.up_cell hin |>.2.2
          have hi3 : (0 : Int) ≤ (at_ : Int) := by omega
          have hi4 : (0 : Int) ≤ (at_ : Int) + 1 := by omega
          have hi5 : (at_ : Int) ≤ ((kc : Int) : Int) := by have := HD2.out; omega
          have hi6 : (at_ : Int) + 1 ≤ (ks.length : Int) := by omega
          have hi7 : (ks.length : Int) ≤ ((kc : Int) : Int) := by have := HD2.out; omega
          have hi8 : ((at_ : Int) + 1).toNat = at_ + 1 := by omega
          have hwr := HWr.out
          go_region_law ((go_simp; go_at_call 136; (refine HCo.out.mono ?_); rintro e w4 ⟨v4, rfl, hk4, hown4, hb4⟩
                          have HK4 := Lib.hid hk4
                          have HO4 := Lib.hid hown4
                          have HB4 : Hid (Below w.heap.size w w4) := Lib.hid (HB3.out.trans (((drewB1 (Below.refl w3.heap.size w3)).alloc (Nat.le_refl _) _ |>.trans (hb4.mono (by simp))).mono HB3.out.size))
                          have HS4 : Hid (w3.heap.size ≤ w4.heap.size) := Lib.hid (Nat.le_trans (by simp) hb4.size)
                          obtain ⟨a4, n4, c4, hv4⟩ : ∃ a n c, v4 = .slice a n c := by obtain ⟨a, c, e, _⟩ := hk4.form; exact ⟨_, _, _, e⟩
                          have h4v := (HT.out.below HB4.out).up_cell hin |>.2.1
                          have h4f := (HT.out.below HB4.out).up_cell hin |>.2.2 (i * 7 + 6)
                          subst hv4
                          clear hk4 hown4 hb4))
          all_goals
            clear hi3 hi4 hi5 hi6 hi7 hi8 hwr hp3 hcv hcf h4v h4f
            obtain ⟨hts, hks4⟩ := HT.out.setKids HB4.out i (.slice a4 n4 c4) _ HK4.out (fun k hk => by have := HO4.out k hk; have := HB3.out.size; simp at *; omega)
            have hQ4 : cutP (l.map norm) (k : Int) = if (k : Int) = 0 then (l.modify i (setKids (.slice a4 n4 c4) (joined [(some ⟨q, 0, none⟩, kc, ks.take at_), (some ⟨q, at_ + 1, none⟩, (kc - (at_ + 1)), ks.drop (at_ + 1))]))).map norm else ((l.modify i (setKids (.slice a4 n4 c4) (joined [(some ⟨q, 0, none⟩, kc, ks.take at_), (some ⟨q, at_ + 1, none⟩, (kc - (at_ + 1)), ks.drop (at_ + 1))]))).map norm).modify k (setUp (-1)) := by
              rw [HQ1.out, norm_kids, eraseIdx_parts]
              rw [show joined [(some ⟨q, 0, none⟩, kc, ks.take at_), (some ⟨q, at_ + 1, none⟩, (kc - (at_ + 1)), ks.drop (at_ + 1))] = ks.take at_ ++ ks.drop (at_ + 1) by simp [joined]]
            have hlen4 : (l.modify i (setKids (.slice a4 n4 c4) (joined [(some ⟨q, 0, none⟩, kc, ks.take at_), (some ⟨q, at_ + 1, none⟩, (kc - (at_ + 1)), ks.drop (at_ + 1))]))).length = l.length := by simp
            go_upto_region 5 with fail
            generalize hl4 : l.modify i (setKids (.slice a4 n4 c4) (joined [(some ⟨q, 0, none⟩, kc, ks.take at_), (some ⟨q, at_ + 1, none⟩, (kc - (at_ + 1)), ks.drop (at_ + 1))])) = l4 at *
            clear hl4
            have hsz4 : (w4.setCell ⟨g, i * 7 + 6, none⟩ (.slice a4 n4 c4)).heap.size = w4.heap.size := by simp
            obtain ⟨wz, ew⟩ : ∃ wz, wz = w4.setCell ⟨g, i * 7 + 6, none⟩ (.slice a4 n4 c4) := ⟨_, rfl⟩
            rw [← ew] at hts hks4 hsz4 ⊢
            have HQz : Hid (cutP (l.map norm) (k : Int) = if (k : Int) = 0 then l4.map norm else (l4.map norm).modify k (setUp (-1))) := Lib.hid hQ4
            have HKz : Hid (Keeps R w wz) := Lib.hid hks4
            have HTz : Hid (TreeAt wz (RN R w wz) p (.slice (some ⟨g, 0, none⟩) l.length cap) l4) := Lib.hid (hts.wide (rn_rn (by omega)) (rn_lt fun k h => Nat.lt_of_lt_of_le (HT.out.nodes.lt k h) hks4.size))
            have hl1 : k < l4.length := by omega
            clear hQ4 hks4 hts hlen4 hsz4 ew
            by_cases hk0 : k = 0
            · have hb : ((k : Int) != 0) = false := by simp [hk0]
              have HF : Hid (RetTree R p (cutP (l.map norm) (k : Int)) w (.returned (.tuple #[])) wz) := Lib.hid (retTree_of HKz.out HTz.out (by rw [HQz.out, if_pos (by omega)]))
              clear hk0
              go_wp2
              refine bodyPost_ret (results_none rfl _ _ _) rfl ?_
              exact HF.out
            · have hb : ((k : Int) != 0) = true := by simp [hk0]
              have HF : Hid (RetTree R p (cutP (l.map norm) (k : Int)) w (.returned (.tuple #[])) (wz.setCell ⟨g, k * 7 + 5, none⟩ (.int .i64 (-1)))) := Lib.hid (ret_setUp HT.out.nodes.lt HKz.out HTz.out (by rw [HQz.out, if_neg (by omega)]))
              have hpz := HTz.out.cell
              obtain ⟨hzu, _, hzf⟩ := HTz.out.up_cell hl1
              have hzf5 := hzf (k * 7 + 5)
              clear hk0 hzf
              generalize upI l4 (k : Int) = uz at *
              go_wp2
              refine bodyPost_ret (results_none rfl _ _ _) rfl ?_
              exact HF.out
  · have hk2 : inN l.length kid = false := by simpa using hk
    rw [hk2] at hW
    have HW := Lib.hid hW
    have HF : Hid (∀ w', Below w.heap.size w w' → RetTree R p (cutP (l.map norm) kid) w (.returned (.tuple #[])) w') := Lib.hid fun w' hb => retTree_of (Keeps.of_below hb) ((HT.out.below hb).rn) (by unfold cutP; rw [List.length_map, if_neg hk])
    clear hW hT hks hk hk2 hkl
    go_enter Try.func135, Try.ntmps135
    go_wp2_with fail
    refine HW.out.mono ?_
    rintro e w1 ⟨rfl, hb1⟩
    have HB1 := Lib.hid hb1
    clear hb1 hp
    go_wp2
    refine bodyPost_ret (results_none rfl _ _ _) rfl ?_
    exact HF.out _ HB1.out
end Go.Proofs.Ytkkngflpmdcfjaa
