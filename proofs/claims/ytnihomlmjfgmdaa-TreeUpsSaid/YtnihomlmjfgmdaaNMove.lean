/-
  The walk of Move.
-/
import Derived.Test.YtnihomlmjfgmdaaNPut
namespace Go.Proofs.Ytnihomlmjfgmdaa
open Go.RowKit

def stepUp (dst : Int) (l : List Nd) (k : Int) : List Nd := if inN l.length k = true then l.modify k.toNat (setUp dst) else l
def upsP (dst : Int) (l : List Nd) (ks : List Int) : List Nd := ks.foldl (stepUp dst) l
def moveP (l : List Nd) (src dst : Int) : List Nd :=
  if mayP l src dst = true then ((upsP dst l (nodeI l src).kids).modify dst.toNat (putKids ((nodeI l dst).kids ++ (nodeI l src).kids))).modify src.toNat (putKids []) else l
theorem stepUp_len (dst : Int) (l : List Nd) (k : Int) : (stepUp dst l k).length = l.length := by unfold stepUp; split <;> simp
theorem upsP_len (dst : Int) : ∀ (ks : List Int) (l : List Nd), (upsP dst l ks).length = l.length
  | [], _ => rfl
  | k :: r, l => by show (upsP dst (stepUp dst l k) r).length = _; rw [upsP_len dst r, stepUp_len]
theorem upsP_snoc (dst : Int) (l : List Nd) (ks : List Int) (k : Int) : upsP dst l (ks ++ [k]) = stepUp dst (upsP dst l ks) k := by unfold upsP; rw [List.foldl_append]; rfl
theorem upsP_take (dst : Int) (l : List Nd) (ks : List Int) (k : Nat) (h : k < ks.length) : upsP dst l (ks.take (k + 1)) = stepUp dst (upsP dst l (ks.take k)) ks[k] := by
  rw [List.take_succ_eq_append_getElem h, upsP_snoc]
/-- Ups alone are changed. -/
def sameBut (x y : Nd) : Prop := ∃ u, x = setUp u y
theorem stepUp_same (dst : Int) (l : List Nd) (k : Int) (i : Nat) (h : i < (stepUp dst l k).length) (h' : i < l.length) : (stepUp dst l k)[i].kv = l[i].kv ∧ (stepUp dst l k)[i].kids = l[i].kids := by
  unfold stepUp at h ⊢
  split
  · rw [List.getElem_modify]; split <;> exact ⟨rfl, rfl⟩
  · exact ⟨rfl, rfl⟩
theorem upsP_same (dst : Int) : ∀ (ks : List Int) (l : List Nd) (i : Nat) (h : i < (upsP dst l ks).length) (h' : i < l.length), (upsP dst l ks)[i].kv = l[i].kv ∧ (upsP dst l ks)[i].kids = l[i].kids
  | [], _, _, _, _ => ⟨rfl, rfl⟩
  | k :: r, l, i, h, h' => by
    have h2 : i < (stepUp dst l k).length := by rw [stepUp_len]; exact h'
    obtain ⟨a, b⟩ := upsP_same dst r (stepUp dst l k) i h h2
    obtain ⟨c, d⟩ := stepUp_same dst l k i h2 h'
    exact ⟨a.trans c, b.trans d⟩
theorem stepUp_norm (dst : Int) (l : List Nd) (k : Int) : (stepUp dst l k).map norm = stepUp dst (l.map norm) k := by
  unfold stepUp; rw [List.length_map]; split
  · exact norm_up l _ _
  · rfl
theorem upsP_norm (dst : Int) : ∀ (ks : List Int) (l : List Nd), (upsP dst l ks).map norm = upsP dst (l.map norm) ks
  | [], _ => rfl
  | k :: r, l => by show (upsP dst (stepUp dst l k) r).map norm = upsP dst (stepUp dst (l.map norm) k) r; rw [upsP_norm dst r, stepUp_norm]
theorem may_ne {P : List Nd} {i j : Nat} (hj : j < P.length) (hm : mayP P (j : Int) (i : Int) = true) : i ≠ j := fun e => by
  subst e
  have hh : holdsP P (i : Int) (i : Int) = true := by
    unfold holdsP
    rw [inN_of hj]
    obtain ⟨m, hm⟩ : ∃ m, P.length = m + 1 := ⟨P.length - 1, by omega⟩
    rw [hm, climb_hit _ rfl]; rfl
  unfold mayP at hm
  rw [hh] at hm
  simp at hm

set_option maxHeartbeats 3200000 in
theorem move_any (R : Nat → Prop) (p : Nat) (P : List Nd) (src dst : Int) (w : World) (hT : TreeP w R p P) (hks : ∀ x ∈ P, x.kids.length ≤ 100000) :
    Calls Try.prog 22 #[.pointer (some ⟨p, 0, none⟩), .int .i64 src, .int .i64 dst] w (RetTree R p (moveP P src dst) w) := by
  obtain ⟨v, l, hTA, hlP⟩ := hT
  have HM := Lib.hid (may_any v l src dst p w hTA.nodes.nr hTA.cell)
  have hmay : mayP l src dst = mayP P src dst := by rw [← hlP, mayP_norm]
  rw [hmay] at HM
  have HTA := Lib.hid hTA
  have HLP := Lib.hid hlP
  by_cases hm : mayP P src dst = true
  · have hin : inN P.length src = true ∧ inN P.length dst = true := by unfold mayP at hm; simp at hm; exact hm.1
    obtain ⟨j, rfl, hjn⟩ := inN_nat hin.1
    obtain ⟨i, rfl, hil⟩ := inN_nat hin.2
    have hne := may_ne hjn hm
    have hlen : l.length = P.length := by rw [← hlP, List.length_map]
    have hjl : j < l.length := by omega
    have hil2 : i < l.length := by omega
    have HQ : Hid (moveP P (j : Int) (i : Int) = ((upsP (i : Int) P l[j].kids).modify i (putKids (l[i].kids ++ l[j].kids))).modify j (putKids [])) := Lib.hid (by
      unfold moveP
      rw [if_pos hm, ← hlP, nodeI_map_norm hjl, nodeI_map_norm hil2]; rfl)
    rw [hm] at HM
    have hkj : l[j].kids.length ≤ 100000 := hks (norm l[j]) (by rw [← hlP]; exact List.mem_map.2 ⟨_, List.getElem_mem hjl, rfl⟩)
    have hki : l[i].kids.length ≤ 100000 := hks (norm l[i]) (by rw [← hlP]; exact List.mem_map.2 ⟨_, List.getElem_mem hil2, rfl⟩)
    obtain ⟨g, cap, rfl, hcl, hcm, hgw, hrest⟩ := hTA.nodes.nr.form (by omega)
    unfold maxLen at hcm
    have HW : Hid (∀ k W, Calls Try.prog 34 #[.agg #[.slice (some ⟨g, 0, none⟩) l.length cap], .int .i64 k] W fun e w' => e = .returned (.bool (inN l.length k)) ∧ Below W.heap.size W w') := Lib.hid (fun k W => within_any _ _ _ k W)
    have hi1 : (0 : Int) ≤ (j : Int) := by omega
    have hi2 : (j : Int) < (l.length : Int) := by omega
    obtain ⟨ka, kc, hkv, hkr⟩ := (hTA.nodes.kr j hjl).form
    have HKV := Lib.hid hkv
    have HNE := Lib.hid hne
    have HKI := Lib.hid hki
    have HLen := Lib.hid hlen
    clear hrest hkr hTA hlP hks hm hin hmay hne hki hkv hlen
    go_enter Try.func22, Try.ntmps22
    go_wp2_with fail
    refine HM.out.mono ?_
    rintro e w1 ⟨rfl, hb1⟩
    have HB1 := Lib.hid hb1
    have HT1 := Lib.hid (HTA.out.below hb1)
    have hp1 := HT1.out.cell
    obtain ⟨_, hck1, _⟩ := HT1.out.up_cell hjl
    rw [HKV.out] at hck1
    clear hb1
    go_wp2
    clear hp1 hck1
    go_loopw [24] (fun q wr => ∃ k : Nat, k ≤ l[j].kids.length ∧ q = .int .i64 k ∧ TreeAt wr (RN R w wr) p (.slice (some ⟨g, 0, none⟩) l.length cap) (upsP (i : Int) l (l[j].kids.take k)) ∧ Keeps R w wr) (fun q _ => l[j].kids.length - (intOf q).toNat)
    case atStart => exact ⟨0, Nat.zero_le _, rfl, HT1.out.rn, Keeps.of_below HB1.out⟩
    case round =>
      obtain ⟨k, hk, rfl, htr, hkr⟩ := hrel
      have HT := Lib.hid htr
      have HK := Lib.hid hkr
      clear htr hkr
      have hlu : (upsP (i : Int) l (l[j].kids.take k)).length = l.length := upsP_len _ _ _
      have HLu := Lib.hid hlu
      have hju : j < (upsP (i : Int) l (l[j].kids.take k)).length := by omega
      have hiu : i < (upsP (i : Int) l (l[j].kids.take k)).length := by omega
      obtain ⟨hsv, hsk⟩ := upsP_same (i : Int) (l[j].kids.take k) l j hju hjl
      have hkrj := HT.out.nodes.kr j hju
      rw [hsv, hsk, HKV.out] at hkrj
      have HKj := Lib.hid hkrj
      clear hsv hsk hkrj hlu
      by_cases hlt : k < l[j].kids.length
      · have HSt := Lib.hid (upsP_take (i : Int) l l[j].kids k hlt)
        obtain ⟨b, off, e, _, hcc⟩ := HKj.out.ints (fun e => by rw [e] at hlt; simp at hlt)
        subst e
        have hck := hcc k hlt
        have hk0 : (0 : Int) ≤ (k : Int) := by omega
        have hk1 : (k : Int) < (l[j].kids.length : Int) := by omega
        have hpr := HT.out.cell
        have HWk := Lib.hid (HW.out l[j].kids[k] wr)
        clear hcc
        by_cases hin : inN l.length l[j].kids[k] = true
        · rw [hin] at HWk
          obtain ⟨z, hz, hzl⟩ := inN_nat hin
          rw [hz] at HSt HWk hck
          have HS2 : Hid (upsP (i : Int) l (l[j].kids.take (k + 1)) = (upsP (i : Int) l (l[j].kids.take k)).modify z (setUp (i : Int))) := Lib.hid (by rw [HSt.out]; unfold stepUp; rw [if_pos (by rw [HLu.out]; exact inN_of hzl)]; rfl)
          have hz0 : (0 : Int) ≤ (z : Int) := by omega
          have hz1 : (z : Int) < (l.length : Int) := by omega
          have hzu : z < (upsP (i : Int) l (l[j].kids.take k)).length := by have := HLu.out; omega
          clear hin hz HSt
          go_wp2_with fail
          refine HWk.out.mono ?_
          rintro e w2 ⟨rfl, hb2⟩
          have HB2 := Lib.hid hb2
          have HT2 := Lib.hid (HT.out.below hb2)
          have hp2 := HT2.out.cell
          obtain ⟨hcu, _, hcf⟩ := HT2.out.up_cell hzu
          have hcf5 := hcf (z * 7 + 5)
          obtain ⟨hts, hks2⟩ := HT2.out.setUp z (i : Int)
          have HTs := Lib.hid hts
          have HKs : Hid (Keeps R w (w2.setCell ⟨g, z * 7 + 5, none⟩ (.int .i64 (i : Int)))) := Lib.hid ((HK.out.trans (RN.more R w wr) (Keeps.of_below hb2)).trans (RN.more R w wr) hks2)
          clear hb2 hcf hts hks2 hck hpr
          generalize upI (upsP (i : Int) l (l[j].kids.take k)) (z : Int) = uz at *
          go_wp2
          go_roundw
          case rel =>
            refine ⟨k + 1, by omega, by go_num, ?_, HKs.out⟩
            rw [HS2.out]
            have hs : (w2.setCell ⟨g, z * 7 + 5, none⟩ (.int .i64 (i : Int))).heap.size = w2.heap.size := by simp
            exact HTs.out.wide (rn_rn (by rw [hs]; exact HB2.out.size)) (rn_lt fun k h => by rw [hs]; exact Nat.lt_of_lt_of_le (Nat.lt_of_lt_of_le (HTA.out.nodes.lt k h) HK.out.size) HB2.out.size)
          case measure => simp [intOf]; omega
        · have hin2 : inN l.length l[j].kids[k] = false := by simpa using hin
          rw [hin2] at HWk
          have HS2 : Hid (upsP (i : Int) l (l[j].kids.take (k + 1)) = upsP (i : Int) l (l[j].kids.take k)) := Lib.hid (by rw [HSt.out]; unfold stepUp; rw [if_neg (by rw [HLu.out]; exact hin)])
          generalize l[j].kids[k] = z at *
          clear hin hin2 HSt
          go_wp2_with fail
          refine HWk.out.mono ?_
          rintro e w2 ⟨rfl, hb2⟩
          have HB2 := Lib.hid hb2
          clear hb2 hck hpr
          go_wp2
          go_roundw
          case rel => exact ⟨k + 1, by omega, by go_num, by rw [HS2.out]; exact (HT.out.below HB2.out).wide (rn_rn HB2.out.size) (rn_lt fun k h => Nat.lt_of_lt_of_le (Nat.lt_of_lt_of_le (HTA.out.nodes.lt k h) HK.out.size) HB2.out.size), HK.out.trans (RN.more R w wr) (Keeps.of_below HB2.out)⟩
          case measure => simp [intOf]; omega
      · obtain rfl : k = l[j].kids.length := by omega
        have hall : l[j].kids.take l[j].kids.length = l[j].kids := List.take_length
        rw [hall] at HT hju hiu HLu
        obtain ⟨hsv, hsk⟩ := upsP_same (i : Int) l[j].kids l i hiu hil2
        have hki2 := HT.out.nodes.kr i hiu
        rw [hsv, hsk] at hki2
        obtain ⟨ia, ic, hiv, hir⟩ := hki2.form
        have HKRi := Lib.hid hki2
        rw [hiv] at HKRi
        obtain ⟨_, hci, hcf⟩ := HT.out.up_cell hiu
        rw [hsv, hiv] at hci
        have hpr := HT.out.cell
        clear hir hall
        have hi3 : (0 : Int) ≤ (i : Int) := by omega
        have hi4 : (i : Int) < (l.length : Int) := by omega
        have hcf' := hcf
        clear hcf hki2
        have HIv := Lib.hid (And.intro hsv hiv)
        clear hsv hsk hiv
        generalize hul : upsP (i : Int) l l[j].kids = ul at *
        have HUl := Lib.hid hul
        clear hul
        generalize hkjs : l[j].kids = kj at *
        generalize hkis : l[i].kids = ki at *
        have HKjs := Lib.hid hkjs
        have HKis := Lib.hid hkis
        clear hkjs hkis
        have HPa : Hid (PartsAt (wr.drew.alloc (.cells #[.slice ia ki.length ic, .slice ka kj.length kc] 28)) wr.heap.size [(ia, ic, ki), (ka, kc, kj)]) := Lib.hid (by
          have hbl : Below wr.heap.size wr (wr.drew.alloc (.cells #[.slice ia ki.length ic, .slice ka kj.length kc] 28)) := (drewB1 (Below.refl _ _)).alloc (Nat.le_refl _) _
          refine ⟨by simp, fun n hn => ?_⟩
          match n, hn with
          | 0, _ =>
            refine ⟨?_, HKRi.out.ints.below hbl⟩
            show _ = some (Value.slice ia ki.length ic)
            simp [go_sem]
          | 1, _ =>
            refine ⟨?_, HKj.out.ints.below hbl⟩
            show _ = some (Value.slice ka kj.length kc)
            simp [go_sem])
        have HCo := Lib.hid (concat_any wr.heap.size 2 2 _ _ rfl (by omega) HPa.out (by have := HKI.out; unfold joined; simp; omega))
        have hpl : p < wr.heap.size := World.block_lt_of_cell? wr _ hpr
        have hgl : g < wr.heap.size := World.block_lt_of_cell? wr _ hci
        go_wp2
        go_region_law ((go_simp; go_at_call 31; (refine HCo.out.mono ?_); rintro e w4 ⟨v4, rfl, hk4, hown4, hb4⟩
                        have HK4 := Lib.hid hk4
                        have HO4 := Lib.hid hown4
                        have HB4 : Hid (Below wr.heap.size wr w4) := Lib.hid (((drewB1 (Below.refl wr.heap.size wr)).alloc (Nat.le_refl _) _).trans (hb4.mono (by simp)))
                        obtain ⟨a4, n4, c4, hv4⟩ : ∃ a n c, v4 = .slice a n c := by obtain ⟨a, c, e, _⟩ := hk4.form; exact ⟨_, _, _, e⟩
                        have h4v := (HT.out.below HB4.out).up_cell hiu |>.2.1
                        have h4p := (HT.out.below HB4.out).cell
                        have h4f := (HT.out.below HB4.out).up_cell hiu |>.2.2 (i * 7 + 6)
                        rw [HIv.out.1, HIv.out.2] at h4v
                        subst hv4
                        clear hk4 hown4 hb4))
        all_goals
          clear hi3 hi4 hci hcf' h4v h4f h4p hpr
          have h25 : wr.heap.size ≤ w4.heap.size := HB4.out.size
          obtain ⟨hts, hks4⟩ := HT.out.setKids HB4.out i (.slice a4 n4 c4) _ HK4.out (fun k hk => by have := HO4.out k hk; simp at this; omega)
          have hsz4 : (w4.setCell ⟨g, i * 7 + 6, none⟩ (.slice a4 n4 c4)).heap.size = w4.heap.size := by simp
          have hlen3 : (ul.modify i (setKids (.slice a4 n4 c4) (joined [(ia, ic, ki), (ka, kc, kj)]))).length = l.length := by rw [List.length_modify, HLu.out]
          have hQ3 : moveP P (j : Int) (i : Int) = ((ul.modify i (setKids (.slice a4 n4 c4) (joined [(ia, ic, ki), (ka, kc, kj)]))).map norm).modify j (putKids []) := by
            rw [HQ.out, norm_kids, ← HUl.out, upsP_norm, HLP.out]
            rw [show joined [(ia, ic, ki), (ka, kc, kj)] = ki ++ kj by simp [joined]]
          go_upto_region 9 with fail
          generalize hl3 : ul.modify i (setKids (.slice a4 n4 c4) (joined [(ia, ic, ki), (ka, kc, kj)])) = l3 at *
          clear hl3
          obtain ⟨wz, ew⟩ : ∃ wz, wz = w4.setCell ⟨g, i * 7 + 6, none⟩ (.slice a4 n4 c4) := ⟨_, rfl⟩
          rw [← ew] at hts hks4 hsz4 ⊢
          have HTz : Hid (TreeAt wz (RN R w wz) p (.slice (some ⟨g, 0, none⟩) l.length cap) l3) := Lib.hid (hts.wide (rn_through HK.out.size h25 (by omega)) (rn_lt fun k h => Nat.lt_of_lt_of_le (HTA.out.nodes.lt k h) (Nat.le_trans HK.out.size hks4.size)))
          have HKz : Hid (Keeps R w wz) := Lib.hid (HK.out.trans (RN.more R w wr) hks4)
          have hjz : j < l3.length := by omega
          have hpz := HTz.out.cell
          obtain ⟨_, hzk, hzf⟩ := HTz.out.up_cell hjz
          have hzf6 := hzf (j * 7 + 6)
          have hone : ∃ a n c, l3[j].kv = .slice a n c := by obtain ⟨a, c, e, _⟩ := (HTz.out.nodes.kr j hjz).form; exact ⟨_, _, _, e⟩
          obtain ⟨za, zn, zc, hzv⟩ := hone
          rw [hzv] at hzk
          obtain ⟨htf, hkf⟩ := HTz.out.setKids (Below.refl _ _) j (.slice none 0 0) [] (KR.nil _) (fun k hk => by cases hk)
          have HF : Hid (RetTree R p (moveP P (j : Int) (i : Int)) w (.returned (.tuple #[])) (wz.setCell ⟨g, j * 7 + 6, none⟩ (.slice none 0 0))) := Lib.hid (by
            have hs : (wz.setCell ⟨g, j * 7 + 6, none⟩ (.slice none 0 0)).heap.size = wz.heap.size := by simp
            refine retTree_of (HKz.out.trans (RN.more R w wz) hkf) (htf.wide (fun k hk => ?_) (rn_lt fun k h => by rw [hs]; exact Nat.lt_of_lt_of_le (HTA.out.nodes.lt k h) HKz.out.size)) (by rw [norm_kids, hQ3])
            rcases hk with hk | hk
            · exact rn_rn (by rw [hs]; exact Nat.le_refl _) k hk
            · omega)
          clear hzf hks4 hts hlen3 hsz4 hQ3 ew htf hkf hzv
          go_wp2
          refine bodyPost_ret (results_none rfl _ _ _) rfl ?_
          exact HF.out
  · have hm2 : mayP P src dst = false := by simpa using hm
    have HF : Hid (∀ w', Below w.heap.size w w' → RetTree R p (moveP P src dst) w (.returned (.tuple #[])) w') := Lib.hid (fun w' hb => by unfold moveP; rw [if_neg hm]; exact retTree_of (Keeps.of_below hb) ((HTA.out.below hb).rn) HLP.out)
    rw [hm2] at HM
    clear hTA hlP hks hm hm2 hmay
    go_enter Try.func22, Try.ntmps22
    go_wp2_with fail
    refine HM.out.mono ?_
    rintro e w1 ⟨rfl, hb1⟩
    have HB1 := Lib.hid hb1
    clear hb1
    go_wp2
    refine bodyPost_ret (results_none rfl _ _ _) rfl ?_
    exact HF.out _ HB1.out
end Go.Proofs.Ytnihomlmjfgmdaa
