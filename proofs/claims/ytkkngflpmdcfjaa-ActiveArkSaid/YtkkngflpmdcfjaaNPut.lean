/-
  The walk of Put.
-/
import Derived.Test.YtkkngflpmdcfjaaNCut
import Derived.Test.YtkkngflpmdcfjaaNBehind
namespace Go.Proofs.Ytkkngflpmdcfjaa
open Go.RowKit

set_option maxRecDepth 100000 in
/-- The store of kids that came by behind: the old row may have grown. -/
theorem TreeAt.setKidsIn {w w1 : World} {R : Nat → Prop} {p g n c : Nat} {l : List Nd} (h : TreeAt w R p (.slice (some ⟨g, 0, none⟩) n c) l) (i : Nat) (hi : i < l.length) (v : Value) (ks : List Int) (hb : w.grownBy w1 l[i].kv.ownBlock) (hv : KR w1 v ks) (hold : KR w1 l[i].kv l[i].kids)
    (hown : v.ownBlock = l[i].kv.ownBlock ∨ ∃ k, v.ownBlock = some k ∧ w.heap.size ≤ k) :
    TreeAt (w1.setCell ⟨g, i * 7 + 6, none⟩ v) (RN R w w1) p (.slice (some ⟨g, 0, none⟩) n c) (l.modify i (Go.Proofs.Ytkkngflpmdcfjaa.setKids v ks)) ∧ Keeps R w (w1.setCell ⟨g, i * 7 + 6, none⟩ v) := by
  have kv := h.nodes.kr i hi
  have nek : ∀ q c t f, w.heap[q]? = some (Obj.cells c t f) → t ≠ 3 → w1.heap[q]? = w.heap[q]? := fun q c t f hq ht => hb.block q (Array.getElem?_eq_some_iff.1 hq).1 (fun e => by obtain ⟨c', f', h3⟩ := kv.kind e.symm; exact kind_ne hq h3 ht rfl)
  have hn1 : NodesAt w1 (RN R w w1) (.slice (some ⟨g, 0, none⟩) n c) l := by
    refine ⟨h.nodes.nr.kept fun q hq => ?_, fun j hj => ?_, fun j hj => (h.nodes.ar j hj).kept (fun _ h => .inl h) (fun q cs fz _ hq => nek q cs _ fz hq (by decide)) hb.size, fun k hk => .inl (h.nodes.rv k hk), fun j hj k hk => .inl (h.nodes.rk j hj k hk), h.nodes.ne, rn_lt fun k hk => Nat.lt_of_lt_of_le (h.nodes.lt k hk) hb.size⟩
    · obtain ⟨c', f', h3⟩ := h.nodes.nr.kind hq
      exact nek q c' _ f' h3 (by decide)
    · by_cases hij : j = i
      · subst hij; exact hold
      · refine (h.nodes.kr j hj).kept fun q hq => hb.block q ((h.nodes.kr j hj).lt q hq) (fun e => hij (h.nodes.ne j i hj hi q hq e.symm))
  have hg : R g := h.nodes.rv g rfl
  have hp1 : w1.heap[p]? = some (.cells #[.slice (some ⟨g, 0, none⟩) n c] 24 (0, 0)) := (nek p _ _ _ h.at_p (by decide)).trans h.at_p
  have hne : p ≠ g := by obtain ⟨c', f', h3⟩ := hn1.nr.kind (g := g) rfl; exact kind_ne hp1 h3 (by decide)
  refine ⟨⟨(setCell_other hne).trans hp1, .inl h.rp, hn1.setKids i v ks hv fun k hk => ?_⟩, ⟨hb.os, hb.tape, hb.output, by simpa using hb.size, fun k hk hr => (setCell_other (fun (e : k = g) => hr (by rw [e]; exact hg))).trans (hb.block k hk (fun e => hr (h.nodes.rk i hi k e.symm)))⟩⟩
  rcases hown with e | ⟨k', e, hk'⟩
  · rw [e] at hk
    exact ⟨.inl (h.nodes.rk i hi k hk), fun j hj e2 => h.nodes.ne j i hj hi k e2 hk⟩
  · have hk2 := hv.lt k hk
    rw [e] at hk; injection hk with hk; subst hk
    refine ⟨.inr ⟨hk', hk2⟩, fun j hj e2 => ?_⟩
    have := h.nodes.lt k' (h.nodes.rk j hj k' e2)
    omega
set_option maxRecDepth 100000 in
theorem rn_through {R : Nat → Prop} {w w2 w5 wz : World} (h2 : w.heap.size ≤ w2.heap.size) (h25 : w2.heap.size ≤ w5.heap.size) (h5 : w5.heap.size ≤ wz.heap.size) : ∀ k, RN (RN R w w2) w2 w5 k → RN R w wz k := fun k hk => by
  rcases hk with (hk | hk) | hk
  · exact .inl hk
  · exact .inr ⟨hk.1, by omega⟩
  · exact .inr ⟨by omega, by omega⟩
set_option maxRecDepth 100000 in
theorem length_cutP (P : List Nd) (kid : Int) : (cutP P kid).length = P.length := by
  unfold cutP
  by_cases h : inN P.length kid = true
  · rw [if_pos h]; dsimp only
    by_cases h2 : kid = 0
    · rw [if_pos h2]; split <;> simp
    · rw [if_neg h2, List.length_modify]; split <;> simp
  · rw [if_neg h]
set_option maxRecDepth 100000 in
theorem small_modify {P : List Nd} {i : Nat} {f : Nd → Nd} {n : Nat} (hP : ∀ x ∈ P, x.kids.length ≤ n) (hf : ∀ x, x.kids.length ≤ n → (f x).kids.length ≤ n) : ∀ x ∈ P.modify i f, x.kids.length ≤ n := by
  intro x hx
  obtain ⟨j, hj, e⟩ := List.mem_iff_getElem.1 hx
  obtain ⟨h', e'⟩ := modify_at hj
  rw [← e, e']
  have := hP _ (List.getElem_mem h')
  split
  · exact hf _ this
  · exact this
set_option maxRecDepth 100000 in
theorem small_cutP {P : List Nd} {kid : Int} {n : Nat} (hP : ∀ x ∈ P, x.kids.length ≤ n) : ∀ x ∈ cutP P kid, x.kids.length ≤ n := by
  unfold cutP
  have h1 : ∀ x ∈ (if 0 ≤ placeP P kid then P.modify (upI P kid).toNat (putKids ((nodeI P (upI P kid)).kids.eraseIdx (placeP P kid).toNat)) else P), x.kids.length ≤ n := by
    split
    · refine small_modify hP fun x _ => ?_
      have hle : (nodeI P (upI P kid)).kids.length ≤ n := by
        unfold nodeI
        rw [List.getD_eq_getElem?_getD]
        cases e : P[(upI P kid).toNat]? with
        | none => exact Nat.zero_le _
        | some y => exact hP y (List.mem_of_getElem? e)
      exact Nat.le_trans (List.length_eraseIdx_le _ _) hle
    · exact hP
  split
  · dsimp only
    split
    · exact h1
    · exact small_modify h1 fun x hx => hx
  · exact hP
set_option maxRecDepth 100000 in
theorem nodeI_map_norm {l : List Nd} {i : Nat} (hi : i < l.length) : (nodeI (l.map norm) (i : Int)).kids = l[i].kids := by rw [nodeI_norm, nodeI_at hi]; rfl

set_option maxRecDepth 100000 in
set_option maxHeartbeats 3200000 in
theorem put_any (R : Nat → Prop) (p : Nat) (P : List Nd) (up at_ kid : Int) (w : World) (hT : TreeP w R p P) (hks : ∀ x ∈ P, x.kids.length ≤ 100000) :
    Calls Try.prog 83 #[.pointer (some ⟨p, 0, none⟩), .int .i64 up, .int .i64 at_, .int .i64 kid] w (RetTree R p (putP P up at_ kid) w) := by
  have HTP := Lib.hid hT
  obtain ⟨v, l, hTA, hlP⟩ := hT
  have HM := Lib.hid (may_any v l kid up p w hTA.nodes.nr hTA.cell)
  have hmay : mayP l kid up = mayP P kid up := by rw [← hlP, mayP_norm]
  rw [hmay] at HM
  have hstay : ∀ w', Below w.heap.size w w' → RetTree R p P w (.returned (.tuple #[])) w' := fun w' hb => retTree_of (Keeps.of_below hb) ((hTA.below hb).rn) hlP
  have HSt := Lib.hid hstay
  clear hstay hmay
  by_cases hk0 : kid = 0
  · subst hk0
    have HF : Hid (RetTree R p (putP P up at_ 0) w (.returned (.tuple #[])) w) := Lib.hid (by unfold putP; rw [if_neg (by simp)]; exact HSt.out _ (Below.refl _ _))
    clear hTA hlP hks HM
    go_enter Try.func83, Try.ntmps83
    go_wp2
    refine bodyPost_ret (results_none rfl _ _ _) rfl ?_
    exact HF.out
  · have hb : (kid == 0) = false := by simp [hk0]
    by_cases hm : mayP P kid up = true
    · have HQ : Hid (putP P up at_ kid = ((cutP P kid).modify up.toNat (putKids (insAt (nodeI (cutP P kid) up).kids at_ kid))).modify kid.toNat (setUp up)) := Lib.hid (by unfold putP; rw [if_pos ⟨hk0, hm⟩])
      rw [hm] at HM
      have hin : inN P.length kid = true ∧ inN P.length up = true := by unfold mayP at hm; simp at hm; exact hm.1
      obtain ⟨k, rfl, hkn⟩ := inN_nat hin.1
      obtain ⟨i, rfl, hil⟩ := inN_nat hin.2
      have HCut := Lib.hid (fun W (hW : TreeP W R p P) => cut_any R p P (k : Int) W hW hks)
      have HSm := Lib.hid (small_cutP (kid := (k : Int)) hks)
      have HLen := Lib.hid (length_cutP P (k : Int))
      have HTA := Lib.hid hTA
      have HLP := Lib.hid hlP
      clear hTA hlP hks hm hk0 hin
      rcases Int.lt_or_le at_ 0 with hneg | hneg
      · have HMx : Hid (at_.toNat = 0) := Lib.hid (by omega)
        go_enter Try.func83, Try.ntmps83
        go_wp2_with fail
        refine HM.out.mono ?_
        rintro e w1 ⟨rfl, hb1⟩
        have HB1 := Lib.hid hb1
        have HC1 := Lib.hid (HCut.out w1 ⟨v, l, HTA.out.below hb1, HLP.out⟩)
        clear hb1 hb
        go_wp2_with fail
        refine HC1.out.mono ?_
        rintro e w2 ⟨rfl, hk2, v2, l2, ht2, hl2⟩
        have HK2 : Hid (Keeps R w w2) := Lib.hid ((Keeps.of_below HB1.out).trans (More.refl R w) hk2)
        have HS1 := Lib.hid HB1.out.size
        have HT2 : Hid (TreeAt w2 (RN R w w2) p v2 l2) := Lib.hid (ht2.wide (fun k hk => by
          rcases hk with hk | hk
          · exact .inl hk
          · exact .inr ⟨by have := HS1.out; omega, hk.2⟩) (rn_lt fun k hk => Nat.lt_of_lt_of_le (HTA.out.nodes.lt k hk) HK2.out.size))
        have HL2 := Lib.hid hl2
        have hlen2 : l2.length = P.length := by rw [← List.length_map (f := norm), hl2, HLen.out]
        have hil2 : i < l2.length := by omega
        have hkn2 : k < l2.length := by omega
        have hkl2 : l2[i].kids.length ≤ 100000 := HSm.out (norm l2[i]) (by rw [← hl2]; exact List.mem_map.2 ⟨_, List.getElem_mem hil2, rfl⟩)
        have HKs : Hid ((nodeI (cutP P (k : Int)) (i : Int)).kids = l2[i].kids) := Lib.hid (by rw [← hl2]; exact nodeI_map_norm hil2)
        obtain ⟨g, cap, rfl, hcl, hcm, hrest⟩ := ht2.nodes.nr.form (by omega)
        clear hrest
        unfold maxLen at hcm
        clear hk2 ht2 hl2 hlen2
        have hp2 := HT2.out.cell
        obtain ⟨_, hcv, hcf⟩ := HT2.out.up_cell hil2
        obtain ⟨ka, kc, hkv, hkle, hkm, hknone, hkc⟩ := (HT2.out.nodes.kr i hil2).form
        have HKR := Lib.hid (HT2.out.nodes.kr i hil2)
        have HKV := Lib.hid hkv
        have HKN := Lib.hid hknone
        have HKC := Lib.hid hkc
        rw [hkv] at hcv HKR
        unfold maxLen at hkm
        have hi1 : (0 : Int) ≤ (i : Int) := by omega
        have hi2 : (i : Int) < (l2.length : Int) := by omega
        clear hknone hkc hkv hcf
        generalize hks2 : l2[i].kids = ks at *
        have HKs2 := Lib.hid hks2
        clear hks2
        by_cases hroom : 0 < ks.length
        · cases ka with
          | none => have := HKN.out rfl; omega
          | some kad =>
            obtain ⟨q, rfl, hq, hrest2⟩ := HKC.out kad rfl
            clear hrest2
            have hr2 : (0 : Int) < (ks.length : Int) := by omega
            go_upto_region 5 with fail
            have HPa : Hid (PartsAt ((w2.drew.alloc (.cells #[.int .i64 (k : Int)] 3)).alloc (.cells #[.slice (some ⟨q, 0, none⟩) 0 kc, .slice (some ⟨w2.heap.size, 0, none⟩) 1 1, .slice (some ⟨q, 0, none⟩) (ks.length - 0) (kc - 0)] 29)) (w2.heap.size + 1) [(some ⟨q, 0, none⟩, kc, ks.take 0), (some ⟨w2.heap.size, 0, none⟩, 1, [(k : Int)]), (some ⟨q, 0, none⟩, kc - 0, ks.drop 0)]) := Lib.hid (by
              have hb0 : Below w2.heap.size w2 (w2.drew.alloc (.cells #[.int .i64 (k : Int)] 3)) := (drewB1 (Below.refl _ _)).alloc (Nat.le_refl _) _
              have hbl : Below w2.heap.size w2 ((w2.drew.alloc (.cells #[.int .i64 (k : Int)] 3)).alloc (.cells #[.slice (some ⟨q, 0, none⟩) 0 kc, .slice (some ⟨w2.heap.size, 0, none⟩) 1 1, .slice (some ⟨q, 0, none⟩) (ks.length - 0) (kc - 0)] 29)) := hb0.alloc (by simp) _
              have hone := one_int w2.drew (k : Int)
              refine ⟨by simp, fun j hj => ?_⟩
              match j, hj with
              | 0, _ =>
                refine ⟨?_, (HKR.out.ints.take 0).below hbl⟩
                show _ = some (Value.slice (some ⟨q, 0, none⟩) (ks.take 0).length kc)
                rw [List.length_take, show min 0 ks.length = 0 by omega]
                simp [go_sem]
              | 1, _ =>
                refine ⟨?_, hone.below (below_box _ _)⟩
                show _ = some (Value.slice (some ⟨w2.heap.size, 0, none⟩) 1 1)
                simp [go_sem]
              | 2, _ =>
                refine ⟨?_, IntsAt.below (drop_ints HKR.out.ints (.inl rfl)) hbl⟩
                show _ = some (Value.slice (some ⟨q, 0, none⟩) (ks.drop 0).length (kc - 0))
                rw [List.length_drop]
                simp [go_sem])
            have HCo := Lib.hid (concat_any (w2.heap.size + 1) 3 3 _ _ rfl (by omega) HPa.out (by unfold joined; simp; omega))
            obtain ⟨_, hcv2, hcf⟩ := HT2.out.up_cell hil2
            have hi3 : (0 : Int) ≤ (0 : Int) := by omega
            have hi5 : (0 : Int) ≤ (kc : Int) := by omega
            have hi6 : (0 : Int) ≤ (ks.length : Int) := by omega
            have hi7 : (ks.length : Int) ≤ (kc : Int) := by omega
            have hi8 : ¬ kc = 0 := by omega
            have hgl : g < w2.heap.size := World.block_lt_of_cell? w2 _ hcv
            clear hcv2
            go_region_law ((go_simp; go_at_call 136; (refine HCo.out.mono ?_); rintro e w4 ⟨v4, rfl, hk4, hown4, hb4⟩
                            have HK4 := Lib.hid hk4
                            have HO4 := Lib.hid hown4
                            have HB4 : Hid (Below w2.heap.size w2 w4) := Lib.hid (((drewB1 (Below.refl w2.heap.size w2)).alloc (Nat.le_refl _) _ |>.alloc (by simp) _).trans (hb4.mono (by simp; omega)))
                            obtain ⟨a4, n4, c4, hv4⟩ : ∃ a n c, v4 = .slice a n c := by obtain ⟨a, c, e, _⟩ := hk4.form; exact ⟨_, _, _, e⟩
                            have h4v := (HT2.out.below HB4.out).up_cell hil2 |>.2.1
                            have h4f := (HT2.out.below HB4.out).up_cell hil2 |>.2.2 (i * 7 + 6)
                            subst hv4
                            clear hk4 hown4 hb4))
            all_goals
              clear hi3 hi5 hi6 hi7 hi8 hcv hcf h4v h4f
              have h25 : w2.heap.size ≤ w4.heap.size := HB4.out.size
              obtain ⟨hts, hks4⟩ := HT2.out.setKids HB4.out i (.slice a4 n4 c4) _ HK4.out (fun k hk => by have := HO4.out k hk; simp at this; omega)
              have hlen4 : (l2.modify i (setKids (.slice a4 n4 c4) (joined [(some ⟨q, 0, none⟩, kc, ks.take 0), (some ⟨w2.heap.size, 0, none⟩, 1, [(k : Int)]), (some ⟨q, 0, none⟩, kc - 0, ks.drop 0)]))).length = l2.length := by simp
              have hQ4 : putP P (i : Int) at_ (k : Int) = ((l2.modify i (setKids (.slice a4 n4 c4) (joined [(some ⟨q, 0, none⟩, kc, ks.take 0), (some ⟨w2.heap.size, 0, none⟩, 1, [(k : Int)]), (some ⟨q, 0, none⟩, kc - 0, ks.drop 0)]))).map norm).modify k (setUp (i : Int)) := by
                rw [HQ.out, norm_kids, HL2.out, HKs.out]
                simp only [Int.toNat_natCast]
                rw [show insAt ks at_ (k : Int) = (joined [(some ⟨q, 0, none⟩, kc, ks.take 0), (some ⟨w2.heap.size, 0, none⟩, 1, [(k : Int)]), (some ⟨q, 0, none⟩, kc - 0, ks.drop 0)]) by
                  unfold insAt
                  rw [HMx.out]
                  rw [show min 0 ks.length = 0 by omega]; simp [joined]]
              have hsz4 : (w4.setCell ⟨g, i * 7 + 6, none⟩ (.slice a4 n4 c4)).heap.size = w4.heap.size := by simp
              go_upto_region 7 with fail
              generalize hl3 : l2.modify i (setKids (.slice a4 n4 c4) (joined [(some ⟨q, 0, none⟩, kc, ks.take 0), (some ⟨w2.heap.size, 0, none⟩, 1, [(k : Int)]), (some ⟨q, 0, none⟩, kc - 0, ks.drop 0)])) = l3 at *
              clear hl3
              obtain ⟨wz, ew⟩ : ∃ wz, wz = w4.setCell ⟨g, i * 7 + 6, none⟩ (.slice a4 n4 c4) := ⟨_, rfl⟩
              rw [← ew] at hts hks4 hsz4 ⊢
              have HTz : Hid (TreeAt wz (RN R w wz) p (.slice (some ⟨g, 0, none⟩) l2.length cap) l3) := Lib.hid (hts.wide (rn_through HK2.out.size h25 (by omega)) (rn_lt fun k h => Nat.lt_of_lt_of_le (HTA.out.nodes.lt k h) (Nat.le_trans HK2.out.size hks4.size)))
              have HKz : Hid (Keeps R w wz) := Lib.hid (HK2.out.trans (RN.more R w w2) hks4)
              have hl1 : k < l3.length := by omega
              have HF : Hid (RetTree R p (putP P (i : Int) at_ (k : Int)) w (.returned (.tuple #[])) (wz.setCell ⟨g, k * 7 + 5, none⟩ (.int .i64 (i : Int)))) := Lib.hid (ret_setUp HTA.out.nodes.lt HKz.out HTz.out hQ4)
              have hpz := HTz.out.cell
              obtain ⟨hzu, _, hzf⟩ := HTz.out.up_cell hl1
              have hzf5 := hzf (k * 7 + 5)
              have hj1 : (0 : Int) ≤ (k : Int) := by omega
              have hj2 : (k : Int) < (l2.length : Int) := by omega
              clear hzf hks4 hts hlen4 hsz4 hQ4 ew
              generalize upI l3 (k : Int) = uz at *
              go_wp2
              refine bodyPost_ret (results_none rfl _ _ _) rfl ?_
              exact HF.out
        · have hr2 : ¬ (0 : Int) < (ks.length : Int) := by omega
          have HBe := Lib.hid (behind_any _ ks (k : Int) w2 HKR.out (by omega))
          go_wp2_with fail
          refine HBe.out.mono ?_
          rintro e w4 ⟨v4, rfl, hk4, hk4o, hg4, hv4⟩
          have HKs2' : Hid (l2[i].kids = ks ∧ l2[i].kv = .slice ka ks.length kc) := Lib.hid ⟨HKs2.out, HKV.out⟩
          obtain ⟨a4, n4, c4, hv4'⟩ : ∃ a n c, v4 = .slice a n c := by obtain ⟨a, c, e, _⟩ := hk4.form; exact ⟨_, _, _, e⟩
          subst hv4'
          have h25 : w2.heap.size ≤ w4.heap.size := hg4.size
          obtain ⟨hts, hks4⟩ := HT2.out.setKidsIn i hil2 (.slice a4 n4 c4) (ks ++ [(k : Int)]) (by rw [HKV.out]; exact hg4) hk4 (by rw [HKV.out, HKs2.out]; exact hk4o) (by rw [HKV.out]; exact hv4)
          have hgb : w4.heap[g]? = w2.heap[g]? := by
            obtain ⟨c', f', h3⟩ := HT2.out.nodes.nr.kind (g := g) rfl
            exact hg4.block g (Array.getElem?_eq_some_iff.1 h3).1 (fun e => by obtain ⟨c2, f2, h4⟩ := HKR.out.kind e.symm; exact kind_ne h3 h4 (by decide) rfl)
          have h4v : w4.cell? ⟨g, i * 7 + 6, none⟩ = some (.slice ka ks.length kc) := (World.cell?_of_block (a := ⟨g, i * 7 + 6, none⟩) hgb).trans hcv
          have h4f : w4.frozen? ⟨g, i * 7 + 6, none⟩ = false := (World.frozen?_of_block (a := ⟨g, i * 7 + 6, none⟩) hgb).trans ((HT2.out.up_cell hil2).2.2 _)
          clear hk4 hk4o hg4 hv4 hcv hgb
          have hlen4 : (l2.modify i (setKids (.slice a4 n4 c4) (ks ++ [(k : Int)]))).length = l2.length := by simp
          have hQ4 : putP P (i : Int) at_ (k : Int) = ((l2.modify i (setKids (.slice a4 n4 c4) (ks ++ [(k : Int)]))).map norm).modify k (setUp (i : Int)) := by
            rw [HQ.out, norm_kids, HL2.out, HKs.out]
            simp only [Int.toNat_natCast]
            rw [show insAt ks at_ (k : Int) = (ks ++ [(k : Int)]) by
              unfold insAt
              rw [HMx.out]
              rw [show min 0 ks.length = ks.length by omega, List.take_length, List.drop_length]]
          have hsz4 : (w4.setCell ⟨g, i * 7 + 6, none⟩ (.slice a4 n4 c4)).heap.size = w4.heap.size := by simp
          go_upto_region 7 with fail
          generalize hl3 : l2.modify i (setKids (.slice a4 n4 c4) (ks ++ [(k : Int)])) = l3 at *
          clear hl3
          obtain ⟨wz, ew⟩ : ∃ wz, wz = w4.setCell ⟨g, i * 7 + 6, none⟩ (.slice a4 n4 c4) := ⟨_, rfl⟩
          rw [← ew] at hts hks4 hsz4 ⊢
          have HTz : Hid (TreeAt wz (RN R w wz) p (.slice (some ⟨g, 0, none⟩) l2.length cap) l3) := Lib.hid (hts.wide (rn_through HK2.out.size h25 (by omega)) (rn_lt fun k h => Nat.lt_of_lt_of_le (HTA.out.nodes.lt k h) (Nat.le_trans HK2.out.size hks4.size)))
          have HKz : Hid (Keeps R w wz) := Lib.hid (HK2.out.trans (RN.more R w w2) hks4)
          have hl1 : k < l3.length := by omega
          have HF : Hid (RetTree R p (putP P (i : Int) at_ (k : Int)) w (.returned (.tuple #[])) (wz.setCell ⟨g, k * 7 + 5, none⟩ (.int .i64 (i : Int)))) := Lib.hid (ret_setUp HTA.out.nodes.lt HKz.out HTz.out hQ4)
          have hpz := HTz.out.cell
          obtain ⟨hzu, _, hzf⟩ := HTz.out.up_cell hl1
          have hzf5 := hzf (k * 7 + 5)
          have hj1 : (0 : Int) ≤ (k : Int) := by omega
          have hj2 : (k : Int) < (l2.length : Int) := by omega
          clear hzf hks4 hts hlen4 hsz4 hQ4 ew
          generalize upI l3 (k : Int) = uz at *
          go_wp2
          refine bodyPost_ret (results_none rfl _ _ _) rfl ?_
          exact HF.out
      · obtain ⟨a, rfl⟩ : ∃ a : Nat, at_ = (a : Int) := ⟨at_.toNat, by omega⟩
        have HMx : Hid ((a : Int).toNat = a) := Lib.hid (by omega)
        go_enter Try.func83, Try.ntmps83
        go_wp2_with fail
        refine HM.out.mono ?_
        rintro e w1 ⟨rfl, hb1⟩
        have HB1 := Lib.hid hb1
        have HC1 := Lib.hid (HCut.out w1 ⟨v, l, HTA.out.below hb1, HLP.out⟩)
        clear hb1 hb
        go_wp2_with fail
        refine HC1.out.mono ?_
        rintro e w2 ⟨rfl, hk2, v2, l2, ht2, hl2⟩
        have HK2 : Hid (Keeps R w w2) := Lib.hid ((Keeps.of_below HB1.out).trans (More.refl R w) hk2)
        have HS1 := Lib.hid HB1.out.size
        have HT2 : Hid (TreeAt w2 (RN R w w2) p v2 l2) := Lib.hid (ht2.wide (fun k hk => by
          rcases hk with hk | hk
          · exact .inl hk
          · exact .inr ⟨by have := HS1.out; omega, hk.2⟩) (rn_lt fun k hk => Nat.lt_of_lt_of_le (HTA.out.nodes.lt k hk) HK2.out.size))
        have HL2 := Lib.hid hl2
        have hlen2 : l2.length = P.length := by rw [← List.length_map (f := norm), hl2, HLen.out]
        have hil2 : i < l2.length := by omega
        have hkn2 : k < l2.length := by omega
        have hkl2 : l2[i].kids.length ≤ 100000 := HSm.out (norm l2[i]) (by rw [← hl2]; exact List.mem_map.2 ⟨_, List.getElem_mem hil2, rfl⟩)
        have HKs : Hid ((nodeI (cutP P (k : Int)) (i : Int)).kids = l2[i].kids) := Lib.hid (by rw [← hl2]; exact nodeI_map_norm hil2)
        obtain ⟨g, cap, rfl, hcl, hcm, hrest⟩ := ht2.nodes.nr.form (by omega)
        clear hrest
        unfold maxLen at hcm
        clear hk2 ht2 hl2 hlen2
        have hp2 := HT2.out.cell
        obtain ⟨_, hcv, hcf⟩ := HT2.out.up_cell hil2
        obtain ⟨ka, kc, hkv, hkle, hkm, hknone, hkc⟩ := (HT2.out.nodes.kr i hil2).form
        have HKR := Lib.hid (HT2.out.nodes.kr i hil2)
        have HKV := Lib.hid hkv
        have HKN := Lib.hid hknone
        have HKC := Lib.hid hkc
        rw [hkv] at hcv HKR
        unfold maxLen at hkm
        have hi1 : (0 : Int) ≤ (i : Int) := by omega
        have hi2 : (i : Int) < (l2.length : Int) := by omega
        clear hknone hkc hkv hcf
        generalize hks2 : l2[i].kids = ks at *
        have HKs2 := Lib.hid hks2
        clear hks2
        by_cases hroom : a < ks.length
        · cases ka with
          | none => have := HKN.out rfl; omega
          | some kad =>
            obtain ⟨q, rfl, hq, hrest2⟩ := HKC.out kad rfl
            clear hrest2
            have hr2 : ((a : Int) : Int) < (ks.length : Int) := by omega
            go_upto_region 5 with fail
            have HPa : Hid (PartsAt ((w2.drew.alloc (.cells #[.int .i64 (k : Int)] 3)).alloc (.cells #[.slice (some ⟨q, 0, none⟩) a kc, .slice (some ⟨w2.heap.size, 0, none⟩) 1 1, .slice (some ⟨q, a, none⟩) (ks.length - a) (kc - a)] 29)) (w2.heap.size + 1) [(some ⟨q, 0, none⟩, kc, ks.take a), (some ⟨w2.heap.size, 0, none⟩, 1, [(k : Int)]), (some ⟨q, a, none⟩, kc - a, ks.drop a)]) := Lib.hid (by
              have hb0 : Below w2.heap.size w2 (w2.drew.alloc (.cells #[.int .i64 (k : Int)] 3)) := (drewB1 (Below.refl _ _)).alloc (Nat.le_refl _) _
              have hbl : Below w2.heap.size w2 ((w2.drew.alloc (.cells #[.int .i64 (k : Int)] 3)).alloc (.cells #[.slice (some ⟨q, 0, none⟩) a kc, .slice (some ⟨w2.heap.size, 0, none⟩) 1 1, .slice (some ⟨q, a, none⟩) (ks.length - a) (kc - a)] 29)) := hb0.alloc (by simp) _
              have hone := one_int w2.drew (k : Int)
              refine ⟨by simp, fun j hj => ?_⟩
              match j, hj with
              | 0, _ =>
                refine ⟨?_, (HKR.out.ints.take a).below hbl⟩
                show _ = some (Value.slice (some ⟨q, 0, none⟩) (ks.take a).length kc)
                rw [List.length_take, show min a ks.length = a by omega]
                simp [go_sem]
              | 1, _ =>
                refine ⟨?_, hone.below (below_box _ _)⟩
                show _ = some (Value.slice (some ⟨w2.heap.size, 0, none⟩) 1 1)
                simp [go_sem]
              | 2, _ =>
                refine ⟨?_, IntsAt.below (drop_ints HKR.out.ints (.inl rfl)) hbl⟩
                show _ = some (Value.slice (some ⟨q, a, none⟩) (ks.drop a).length (kc - a))
                rw [List.length_drop]
                simp [go_sem])
            have HCo := Lib.hid (concat_any (w2.heap.size + 1) 3 3 _ _ rfl (by omega) HPa.out (by unfold joined; simp; omega))
            obtain ⟨_, hcv2, hcf⟩ := HT2.out.up_cell hil2
            have hi3 : (0 : Int) ≤ ((a : Int) : Int) := by omega
            have hi5 : ((a : Int) : Int) ≤ (kc : Int) := by omega
            have hi6 : ((a : Int) : Int) ≤ (ks.length : Int) := by omega
            have hi7 : (ks.length : Int) ≤ (kc : Int) := by omega
            have hi8 : ¬ kc = a := by omega
            have hgl : g < w2.heap.size := World.block_lt_of_cell? w2 _ hcv
            clear hcv2
            go_region_law ((go_simp; go_at_call 136; (refine HCo.out.mono ?_); rintro e w4 ⟨v4, rfl, hk4, hown4, hb4⟩
                            have HK4 := Lib.hid hk4
                            have HO4 := Lib.hid hown4
                            have HB4 : Hid (Below w2.heap.size w2 w4) := Lib.hid (((drewB1 (Below.refl w2.heap.size w2)).alloc (Nat.le_refl _) _ |>.alloc (by simp) _).trans (hb4.mono (by simp; omega)))
                            obtain ⟨a4, n4, c4, hv4⟩ : ∃ a n c, v4 = .slice a n c := by obtain ⟨a, c, e, _⟩ := hk4.form; exact ⟨_, _, _, e⟩
                            have h4v := (HT2.out.below HB4.out).up_cell hil2 |>.2.1
                            have h4f := (HT2.out.below HB4.out).up_cell hil2 |>.2.2 (i * 7 + 6)
                            subst hv4
                            clear hk4 hown4 hb4))
            all_goals
              clear hi3 hi5 hi6 hi7 hi8 hcv hcf h4v h4f
              have h25 : w2.heap.size ≤ w4.heap.size := HB4.out.size
              obtain ⟨hts, hks4⟩ := HT2.out.setKids HB4.out i (.slice a4 n4 c4) _ HK4.out (fun k hk => by have := HO4.out k hk; simp at this; omega)
              have hlen4 : (l2.modify i (setKids (.slice a4 n4 c4) (joined [(some ⟨q, 0, none⟩, kc, ks.take a), (some ⟨w2.heap.size, 0, none⟩, 1, [(k : Int)]), (some ⟨q, a, none⟩, kc - a, ks.drop a)]))).length = l2.length := by simp
              have hQ4 : putP P (i : Int) (a : Int) (k : Int) = ((l2.modify i (setKids (.slice a4 n4 c4) (joined [(some ⟨q, 0, none⟩, kc, ks.take a), (some ⟨w2.heap.size, 0, none⟩, 1, [(k : Int)]), (some ⟨q, a, none⟩, kc - a, ks.drop a)]))).map norm).modify k (setUp (i : Int)) := by
                rw [HQ.out, norm_kids, HL2.out, HKs.out]
                simp only [Int.toNat_natCast]
                rw [show insAt ks (a : Int) (k : Int) = (joined [(some ⟨q, 0, none⟩, kc, ks.take a), (some ⟨w2.heap.size, 0, none⟩, 1, [(k : Int)]), (some ⟨q, a, none⟩, kc - a, ks.drop a)]) by
                  unfold insAt
                  rw [HMx.out]
                  rw [show min a ks.length = a by omega]; simp [joined]]
              have hsz4 : (w4.setCell ⟨g, i * 7 + 6, none⟩ (.slice a4 n4 c4)).heap.size = w4.heap.size := by simp
              go_upto_region 7 with fail
              generalize hl3 : l2.modify i (setKids (.slice a4 n4 c4) (joined [(some ⟨q, 0, none⟩, kc, ks.take a), (some ⟨w2.heap.size, 0, none⟩, 1, [(k : Int)]), (some ⟨q, a, none⟩, kc - a, ks.drop a)])) = l3 at *
              clear hl3
              obtain ⟨wz, ew⟩ : ∃ wz, wz = w4.setCell ⟨g, i * 7 + 6, none⟩ (.slice a4 n4 c4) := ⟨_, rfl⟩
              rw [← ew] at hts hks4 hsz4 ⊢
              have HTz : Hid (TreeAt wz (RN R w wz) p (.slice (some ⟨g, 0, none⟩) l2.length cap) l3) := Lib.hid (hts.wide (rn_through HK2.out.size h25 (by omega)) (rn_lt fun k h => Nat.lt_of_lt_of_le (HTA.out.nodes.lt k h) (Nat.le_trans HK2.out.size hks4.size)))
              have HKz : Hid (Keeps R w wz) := Lib.hid (HK2.out.trans (RN.more R w w2) hks4)
              have hl1 : k < l3.length := by omega
              have HF : Hid (RetTree R p (putP P (i : Int) (a : Int) (k : Int)) w (.returned (.tuple #[])) (wz.setCell ⟨g, k * 7 + 5, none⟩ (.int .i64 (i : Int)))) := Lib.hid (ret_setUp HTA.out.nodes.lt HKz.out HTz.out hQ4)
              have hpz := HTz.out.cell
              obtain ⟨hzu, _, hzf⟩ := HTz.out.up_cell hl1
              have hzf5 := hzf (k * 7 + 5)
              have hj1 : (0 : Int) ≤ (k : Int) := by omega
              have hj2 : (k : Int) < (l2.length : Int) := by omega
              clear hzf hks4 hts hlen4 hsz4 hQ4 ew
              generalize upI l3 (k : Int) = uz at *
              go_wp2
              refine bodyPost_ret (results_none rfl _ _ _) rfl ?_
              exact HF.out
        · have hr2 : ¬ ((a : Int) : Int) < (ks.length : Int) := by omega
          have HBe := Lib.hid (behind_any _ ks (k : Int) w2 HKR.out (by omega))
          go_wp2_with fail
          refine HBe.out.mono ?_
          rintro e w4 ⟨v4, rfl, hk4, hk4o, hg4, hv4⟩
          have HKs2' : Hid (l2[i].kids = ks ∧ l2[i].kv = .slice ka ks.length kc) := Lib.hid ⟨HKs2.out, HKV.out⟩
          obtain ⟨a4, n4, c4, hv4'⟩ : ∃ a n c, v4 = .slice a n c := by obtain ⟨a, c, e, _⟩ := hk4.form; exact ⟨_, _, _, e⟩
          subst hv4'
          have h25 : w2.heap.size ≤ w4.heap.size := hg4.size
          obtain ⟨hts, hks4⟩ := HT2.out.setKidsIn i hil2 (.slice a4 n4 c4) (ks ++ [(k : Int)]) (by rw [HKV.out]; exact hg4) hk4 (by rw [HKV.out, HKs2.out]; exact hk4o) (by rw [HKV.out]; exact hv4)
          have hgb : w4.heap[g]? = w2.heap[g]? := by
            obtain ⟨c', f', h3⟩ := HT2.out.nodes.nr.kind (g := g) rfl
            exact hg4.block g (Array.getElem?_eq_some_iff.1 h3).1 (fun e => by obtain ⟨c2, f2, h4⟩ := HKR.out.kind e.symm; exact kind_ne h3 h4 (by decide) rfl)
          have h4v : w4.cell? ⟨g, i * 7 + 6, none⟩ = some (.slice ka ks.length kc) := (World.cell?_of_block (a := ⟨g, i * 7 + 6, none⟩) hgb).trans hcv
          have h4f : w4.frozen? ⟨g, i * 7 + 6, none⟩ = false := (World.frozen?_of_block (a := ⟨g, i * 7 + 6, none⟩) hgb).trans ((HT2.out.up_cell hil2).2.2 _)
          clear hk4 hk4o hg4 hv4 hcv hgb
          have hlen4 : (l2.modify i (setKids (.slice a4 n4 c4) (ks ++ [(k : Int)]))).length = l2.length := by simp
          have hQ4 : putP P (i : Int) (a : Int) (k : Int) = ((l2.modify i (setKids (.slice a4 n4 c4) (ks ++ [(k : Int)]))).map norm).modify k (setUp (i : Int)) := by
            rw [HQ.out, norm_kids, HL2.out, HKs.out]
            simp only [Int.toNat_natCast]
            rw [show insAt ks (a : Int) (k : Int) = (ks ++ [(k : Int)]) by
              unfold insAt
              rw [HMx.out]
              rw [show min a ks.length = ks.length by omega, List.take_length, List.drop_length]]
          have hsz4 : (w4.setCell ⟨g, i * 7 + 6, none⟩ (.slice a4 n4 c4)).heap.size = w4.heap.size := by simp
          go_upto_region 7 with fail
          generalize hl3 : l2.modify i (setKids (.slice a4 n4 c4) (ks ++ [(k : Int)])) = l3 at *
          clear hl3
          obtain ⟨wz, ew⟩ : ∃ wz, wz = w4.setCell ⟨g, i * 7 + 6, none⟩ (.slice a4 n4 c4) := ⟨_, rfl⟩
          rw [← ew] at hts hks4 hsz4 ⊢
          have HTz : Hid (TreeAt wz (RN R w wz) p (.slice (some ⟨g, 0, none⟩) l2.length cap) l3) := Lib.hid (hts.wide (rn_through HK2.out.size h25 (by omega)) (rn_lt fun k h => Nat.lt_of_lt_of_le (HTA.out.nodes.lt k h) (Nat.le_trans HK2.out.size hks4.size)))
          have HKz : Hid (Keeps R w wz) := Lib.hid (HK2.out.trans (RN.more R w w2) hks4)
          have hl1 : k < l3.length := by omega
          have HF : Hid (RetTree R p (putP P (i : Int) (a : Int) (k : Int)) w (.returned (.tuple #[])) (wz.setCell ⟨g, k * 7 + 5, none⟩ (.int .i64 (i : Int)))) := Lib.hid (ret_setUp HTA.out.nodes.lt HKz.out HTz.out hQ4)
          have hpz := HTz.out.cell
          obtain ⟨hzu, _, hzf⟩ := HTz.out.up_cell hl1
          have hzf5 := hzf (k * 7 + 5)
          have hj1 : (0 : Int) ≤ (k : Int) := by omega
          have hj2 : (k : Int) < (l2.length : Int) := by omega
          clear hzf hks4 hts hlen4 hsz4 hQ4 ew
          generalize upI l3 (k : Int) = uz at *
          go_wp2
          refine bodyPost_ret (results_none rfl _ _ _) rfl ?_
          exact HF.out
    · have hm2 : mayP P kid up = false := by simpa using hm
      have HF : Hid (∀ w', Below w.heap.size w w' → RetTree R p (putP P up at_ kid) w (.returned (.tuple #[])) w') := Lib.hid (fun w' hb => by unfold putP; rw [if_neg (by simp [hm2])]; exact HSt.out _ hb)
      rw [hm2] at HM
      clear hTA hlP hks hm hm2 hk0
      go_enter Try.func83, Try.ntmps83
      go_wp2_with fail
      refine HM.out.mono ?_
      rintro e w1 ⟨rfl, hb1⟩
      have HB1 := Lib.hid hb1
      clear hb1 hb
      go_wp2
      refine bodyPost_ret (results_none rfl _ _ _) rfl ?_
      exact HF.out _ HB1.out
end Go.Proofs.Ytkkngflpmdcfjaa
