/-
  The walk of the document's own Move.
-/
import Derived.Test.YtnihomlmjfgmdaaNRput
namespace Go.Proofs.Ytnihomlmjfgmdaa
open Go.RowKit

theorem kidSum_ups (u : Int) : ∀ (ks : List Int) (l : List Nd), kidSum (upsP u l ks) = kidSum l
  | [], _ => rfl
  | k :: r, l => by
    show kidSum (upsP u (stepUp u l k) r) = _
    rw [kidSum_ups u r]
    unfold stepUp; split
    · exact kidSum_up u l _
    · rfl
theorem step_append_ints {ops : Array Oper} {o : Oper} {a : Act} {w : World} {K : Act → World → Prop} {Q : Exit → Act → World → Prop} {E : Prop} (hg : o.guard = none) (s x : Operand)
    (ho : o.op = .call { callee := .builtin .append, args := #[s, x], argTypes := #[28, 28] }) (v : Value) (xs : List Int) (hs : a.eval s = v) (hK0 : KR w v xs) (A : Option Addr) (c : Nat) (m : List Int) (hx : a.eval x = .slice A m.length c) (hm : IntsAt w A m) (h : xs.length + m.length ≤ 3000000)
    (hK : ∀ v' w', KR w' v' (xs ++ m) → w.grownBy w' v.ownBlock → (v'.ownBlock = v.ownBlock ∨ v'.ownBlock = some w.heap.size) → K (a.put o.dst v') w') :
    if Region.wanted o (yielded ops a.tmps) = true then Oper.wp Try.prog o a w K Q else E := by
  obtain ⟨v', w', hr, h2, h3, h4⟩ := run_append_ints w o.type v xs hK0 A c m hm h
  exact step_append_run hg s x _ _ ho _ _ hs hx v' w' hr (hK v' w' h2 h3 h4)
theorem rholds_self {l : List Nd} {i : Nat} (h : i < l.length) : rholdsP l (i : Int) (i : Int) = true := by
  unfold rholdsP
  rw [inN_of h, climb_hit _ rfl]; rfl

set_option maxHeartbeats 1600000 in
theorem rmove_any (R : Nat → Prop) (p n S : Nat) (src dst : Int) (w : World) (hT : TreeQ w R p n S) (hS : S ≤ 100000) (hn : n ≤ 100000) :
    Calls Try.prog 23 #[.pointer (some ⟨p, 0, none⟩), .int .i64 src, .int .i64 dst] w (RetQT R p n S w) := by
  obtain ⟨v, l, hTA, hln, hSl⟩ := hT
  have HTA := Lib.hid hTA
  have HLn := Lib.hid hln
  have HSl := Lib.hid hSl
  have hp := hTA.cell
  obtain ⟨a, cap, rfl, hcm, hcl⟩ := hTA.nodes.nr.slice
  unfold maxLen at hcm
  have HF : Hid (∀ w', Below w.heap.size w w' → RetQT R p n S w (.returned (.tuple #[])) w') := Lib.hid (fun w' hb => ⟨rfl, Keeps.of_below hb, _, l, (HTA.out.below hb).rn, HLn.out, HSl.out⟩)
  have HU : Hid (∀ W, Calls Try.prog 24 #[.agg #[.slice a l.length cap], .int .i64 src] W fun e w' => e = .returned (.bool (inN l.length src)) ∧ Below W.heap.size W w') := Lib.hid (fun W => is_any _ _ _ _ W)
  have HKd : Hid (∀ W, Calls Try.prog 24 #[.agg #[.slice a l.length cap], .int .i64 dst] W fun e w' => e = .returned (.bool (inN l.length dst)) ∧ Below W.heap.size W w') := Lib.hid (fun W => is_any _ _ _ _ W)
  have HW : Hid (∀ k W, Calls Try.prog 24 #[.agg #[.slice a l.length cap], .int .i64 k] W fun e w' => e = .returned (.bool (inN l.length k)) ∧ Below W.heap.size W w') := Lib.hid (fun k W => is_any _ _ _ k W)
  have HHo : Hid (∀ W, Below w.heap.size w W → Calls Try.prog 8 #[.agg #[.slice a l.length cap], .int .i64 src, .int .i64 dst] W fun e w' => e = .returned (.bool (rholdsP l src dst)) ∧ Below W.heap.size W w') := Lib.hid (fun W hW => rholds_any _ l src dst W (by omega) (HTA.out.below hW).nodes.nr)
  clear hln hSl
  by_cases h1 : inN l.length src = true
  · rw [h1] at HU
    by_cases h2 : inN l.length dst = true
    · rw [h2] at HKd
      cases hh : rholdsP l src dst with
      | true =>
        rw [hh] at HHo
        clear hTA h1 h2 hh
        go_enter Try.func23, Try.ntmps23
        go_wp2_with fail
        refine (HU.out w).mono ?_
        rintro e w1 ⟨rfl, hb1⟩
        have HB1 := Lib.hid hb1
        have hp1 := (HTA.out.below hb1).cell
        clear hb1 hp
        go_wp2_with fail
        refine (HKd.out w1).mono ?_
        rintro e w2 ⟨rfl, hb2⟩
        have HB2 := below_step HB1 hb2
        have hp2 := (HTA.out.below HB2.out).cell
        clear hb2 hp1
        go_wp2_with fail
        refine (HHo.out w2 HB2.out).mono ?_
        rintro e w3 ⟨rfl, hb3⟩
        have HB3 := below_step HB2 hb3
        clear hb3 hp2
        go_wp2
        refine bodyPost_ret (results_none rfl _ _ _) rfl ?_
        exact HF.out _ HB3.out
      | false =>
        rw [hh] at HHo
        obtain ⟨j, rfl, hjl⟩ := inN_nat h1
        obtain ⟨i, rfl, hil2⟩ := inN_nat h2
        have HNE : Hid (i ≠ j) := Lib.hid (fun e => by subst e; rw [rholds_self hjl] at hh; cases hh)
        have HSij : Hid (l[i].kids.length + l[j].kids.length ≤ 100000) := Lib.hid (by have := kidSum_two l i j hil2 hjl HNE.out; have := HSl.out; omega)
        obtain ⟨g, cap', e, _, _, hgw, hrest⟩ := hTA.nodes.nr.form (by omega)
        injection e with e1 e2 e3
        subst e1 e3
        obtain ⟨ka, kc, hkv, hkr⟩ := (hTA.nodes.kr j hjl).form
        have HKV := Lib.hid hkv
        have hkj : l[j].kids.length ≤ 100000 := by have := HSij.out; omega
        clear hTA h1 h2 hh hrest e2 hkv hkr
        go_enter Try.func23, Try.ntmps23
        go_wp2_with fail
        refine (HU.out w).mono ?_
        rintro e w1 ⟨rfl, hb1⟩
        have HB1 := Lib.hid hb1
        have hp1 := (HTA.out.below hb1).cell
        clear hb1 hp
        go_wp2_with fail
        refine (HKd.out w1).mono ?_
        rintro e w2 ⟨rfl, hb2⟩
        have HB2 := below_step HB1 hb2
        have hp2 := (HTA.out.below HB2.out).cell
        clear hb2 hp1
        go_wp2_with fail
        refine (HHo.out w2 HB2.out).mono ?_
        rintro e w3 ⟨rfl, hb3⟩
        have HB3 := below_step HB2 hb3
        clear hb3 hp2
        have HT1 := Lib.hid (HTA.out.below HB3.out)
        have hp3 := HT1.out.cell
        obtain ⟨_, hck1, _⟩ := HT1.out.up_cell hjl
        rw [HKV.out] at hck1
        have hi1 : (0 : Int) ≤ (j : Int) := by omega
        have hi2 : (j : Int) < (l.length : Int) := by omega
        go_wp2
        clear hp3 hck1
        go_loopw [7] (fun q wr => ∃ k : Nat, k ≤ l[j].kids.length ∧ q = .int .i64 k ∧ TreeAt wr (RN R w wr) p (.slice (some ⟨g, 0, none⟩) l.length cap) (upsP (i : Int) l (l[j].kids.take k)) ∧ Keeps R w wr) (fun q _ => l[j].kids.length - (intOf q).toNat)
        case atStart => exact ⟨0, Nat.zero_le _, rfl, HT1.out.rn, Keeps.of_below HB3.out⟩
        case round =>
          obtain ⟨k, hk, rfl, htr, hkr⟩ := hrel
          have HT := Lib.hid htr
          have HK := Lib.hid hkr
          clear htr hkr
          have hlu : (upsP (i : Int) l (l[j].kids.take k)).length = l.length := upsP_len _ _ _
          have HLu := Lib.hid hlu
          have hju : j < (upsP (i : Int) l (l[j].kids.take k)).length := by omega
          have hiu : i < (upsP (i : Int) l (l[j].kids.take k)).length := by omega
          obtain ⟨hsv, hsk⟩ := upsP_same (i : Int) (l[j].kids.take k) l j hju hjl
          have hkrj := HT.out.nodes.kr j hju
          rw [hsv, hsk, HKV.out] at hkrj
          have HKj := Lib.hid hkrj
          clear hsv hsk hkrj hlu
          by_cases hlt : k < l[j].kids.length
          · have HSt := Lib.hid (upsP_take (i : Int) l l[j].kids k hlt)
            obtain ⟨b, off, e, hbl, hcc⟩ := HKj.out.ints (fun e => by rw [e] at hlt; simp at hlt)
            subst e
            have hck := hcc k hlt
            have hk0 : (0 : Int) ≤ (k : Int) := by omega
            have hk1 : (k : Int) < (l[j].kids.length : Int) := by omega
            have hpr := HT.out.cell
            have hB := Below.refl wr.heap.size wr
            have HWk := Lib.hid (fun W => HW.out l[j].kids[k] W)
            clear hcc
            by_cases hin : inN l.length l[j].kids[k] = true
            · rw [hin] at HWk
              obtain ⟨z, hz, hzl⟩ := inN_nat hin
              rw [hz] at HSt HWk hck
              have HS2 : Hid (upsP (i : Int) l (l[j].kids.take (k + 1)) = (upsP (i : Int) l (l[j].kids.take k)).modify z (setUp (i : Int))) := Lib.hid (by rw [HSt.out]; unfold stepUp; rw [if_pos (by rw [HLu.out]; exact inN_of hzl)]; rfl)
              have hz0 : (0 : Int) ≤ (z : Int) := by omega
              have hz1 : (z : Int) < (l.length : Int) := by omega
              have hzu : z < (upsP (i : Int) l (l[j].kids.take k)).length := by have := HLu.out; omega
              clear hin hz HSt
              go_wp2
              go_region_held3 (fun w' => w'.cell? ⟨p, 0, none⟩ = some (.slice (some ⟨g, 0, none⟩) l.length cap) ∧ w'.cell? ⟨b, off + k, none⟩ = some (.int .i64 (z : Int)) ∧ Below wr.heap.size wr w')
                ((go_split_ands; refine ⟨?_, ?_, ?_⟩ <;> first | assumption | go_keep | exact drewB1 (by assumption)))
                ((go_at_call 24; go_split_ands; (refine (HWk.out _).mono ?_); rintro e w4 ⟨rfl, hb4⟩; have hk1' := cell_keep hb4 (B := p) (o := 0) (by assumption); have hk2' := cell_keep hb4 (B := b) (o := off + k) (by assumption); have hk3' := below_trans (w := wr) (by assumption) hb4))
              have HB2 := Lib.hid hk3'
              have HT2 := Lib.hid (HT.out.below hk3')
              obtain ⟨hcu, _, hcf⟩ := HT2.out.up_cell hzu
              have hcf5 := hcf (z * 7 + 5)
              clear hB hb4 hk3' hcf hck hpr
              go_wp2
              generalize upI (upsP (i : Int) l (l[j].kids.take k)) (z : Int) = uz at *
              go_region
              all_goals
                obtain ⟨hts, hks2⟩ := HT2.out.drew.setUp z (i : Int)
                have hs : (w4.drew.setCell ⟨g, z * 7 + 5, none⟩ (.int .i64 (i : Int))).heap.size = w4.heap.size := by simp
                have HTs := Lib.hid (hts.wide (rn_rn (R := R) (w := w) (w1 := wr) (w2 := w4.drew.setCell ⟨g, z * 7 + 5, none⟩ (.int .i64 (i : Int))) (by rw [hs]; exact HB2.out.size)) (rn_lt fun k h => by rw [hs]; exact Nat.lt_of_lt_of_le (Nat.lt_of_lt_of_le (HTA.out.nodes.lt k h) HK.out.size) HB2.out.size))
                have HKs : Hid (Keeps R w (w4.drew.setCell ⟨g, z * 7 + 5, none⟩ (.int .i64 (i : Int)))) := Lib.hid ((HK.out.trans (RN.more R w wr) (Keeps.of_below (drewB1 HB2.out))).trans (RN.more R w wr) hks2)
                clear hts hks2 hs hk1' hk2' hcu hcf5
                go_wp2
                go_roundw
                case rel => exact ⟨k + 1, by omega, by go_num, by rw [HS2.out]; exact HTs.out, HKs.out⟩
                case measure => simp [intOf]; omega
            · have hin2 : inN l.length l[j].kids[k] = false := by simpa using hin
              rw [hin2] at HWk
              have HS2 : Hid (upsP (i : Int) l (l[j].kids.take (k + 1)) = upsP (i : Int) l (l[j].kids.take k)) := Lib.hid (by rw [HSt.out]; unfold stepUp; rw [if_neg (by rw [HLu.out]; exact hin)])
              generalize l[j].kids[k] = z at *
              clear hin hin2 HSt
              go_wp2
              go_region_held3 (fun w' => w'.cell? ⟨p, 0, none⟩ = some (.slice (some ⟨g, 0, none⟩) l.length cap) ∧ w'.cell? ⟨b, off + k, none⟩ = some (.int .i64 z) ∧ Below wr.heap.size wr w')
                ((go_split_ands; refine ⟨?_, ?_, ?_⟩ <;> first | assumption | go_keep | exact drewB1 (by assumption)))
                ((go_at_call 24; go_split_ands; (refine (HWk.out _).mono ?_); rintro e w4 ⟨rfl, hb4⟩; have hk1' := cell_keep hb4 (B := p) (o := 0) (by assumption); have hk2' := cell_keep hb4 (B := b) (o := off + k) (by assumption); have hk3' := below_trans (w := wr) (by assumption) hb4))
              have HB2 := Lib.hid hk3'
              clear hB hb4 hk3' hk1' hk2' hck hpr
              go_wp2
              go_roundw
              case rel => exact ⟨k + 1, by omega, by go_num, by rw [HS2.out]; exact (HT.out.below HB2.out).wide (rn_rn HB2.out.size) (rn_lt fun k h => Nat.lt_of_lt_of_le (Nat.lt_of_lt_of_le (HTA.out.nodes.lt k h) HK.out.size) HB2.out.size), HK.out.trans (RN.more R w wr) (Keeps.of_below HB2.out)⟩
              case measure => simp [intOf]; omega
          · obtain rfl : k = l[j].kids.length := by omega
            have hall : l[j].kids.take l[j].kids.length = l[j].kids := List.take_length
            rw [hall] at HT hju hiu HLu
            obtain ⟨hsv, hsk⟩ := upsP_same (i : Int) l[j].kids l i hiu hil2
            obtain ⟨_, hskj⟩ := upsP_same (i : Int) l[j].kids l j hju hjl
            have hki2 := HT.out.nodes.kr i hiu
            rw [hsv, hsk] at hki2
            obtain ⟨ia, ic, hiv, hir⟩ := hki2.form
            have HKRi := Lib.hid hki2
            rw [hiv] at HKRi
            obtain ⟨_, hci, hcf⟩ := HT.out.up_cell hiu
            rw [hsv, hiv] at hci
            have hpr := HT.out.cell
            have HUS : Hid (kidSum (upsP (i : Int) l l[j].kids) ≤ S) := Lib.hid (by rw [kidSum_ups]; exact HSl.out)
            have HK2i := Lib.hid (fun v ks => kidSum_kids v ks (upsP (i : Int) l l[j].kids) i hiu)
            have HIsk := Lib.hid hsk
            have HJsk := Lib.hid hskj
            have hcf' := hcf (i * 7 + 6)
            have HIv := Lib.hid (And.intro hsv hiv)
            clear hir hall hcf hki2 hsv hsk hskj hiv
            have hi3 : (0 : Int) ≤ (i : Int) := by omega
            have hi4 : (i : Int) < (l.length : Int) := by omega
            generalize hul : upsP (i : Int) l l[j].kids = ul at *
            clear hul
            generalize hkjs : l[j].kids = kj at *
            generalize hkis : l[i].kids = ki at *
            have HSum := HSij
            clear hkjs hkis
            have hpl : p < wr.heap.size := World.block_lt_of_cell? wr _ hpr
            have hgl : g < wr.heap.size := World.block_lt_of_cell? wr _ hci
            have hsum := HSum.out
            have HK5 : Hid (KR (wr.drew.alloc (.cells #[] 3)) (.slice (some ⟨wr.heap.size, 0, none⟩) 0 0) []) := Lib.hid ⟨World.ownsRow_lit wr.drew #[] 0 (Nat.zero_le _) (Nat.zero_le _) rfl, okRow.allocD fun j u h => by simp at h⟩
            have hb5a : Below wr.heap.size wr (wr.drew.alloc (.cells #[] 3)) := (drewB1 (Below.refl _ _)).alloc (Nat.le_refl _) _
            have HI5 := Lib.hid (HKRi.out.ints.below hb5a)
            have HB5a := Lib.hid hb5a
            clear hb5a
            go_wp2
            go_region_law (first
              | (refine step_append_ints rfl _ _ rfl _ _ (by rfl) HKv5.out ka kc kj (by rfl) HI6.out (by simp; omega) ?_; intro v6 w6 hk6 hg6 hat6
                 have HO6 : Hid (∀ q, v6.ownBlock = some q → wr.heap.size ≤ q) := Lib.hid (fun q hq => by
                   rcases hat6 with e | e
                   · exact HO5.out q (e ▸ hq)
                   · rw [e] at hq; injection hq with hq; have := HB5.out.size; omega)
                 have HB6 : Hid (Below wr.heap.size wr w6) := Lib.hid (HB5.out.grown hg6 HB5.out.size HO5.out)
                 have HK6 := Lib.hid hk6
                 obtain ⟨a6, n6, c6, ev6⟩ : ∃ a n c, v6 = .slice a n c := by obtain ⟨a, c, e, _⟩ := hk6.form; exact ⟨_, _, _, e⟩
                 subst ev6
                 have h6p := (HT.out.below HB6.out).cell
                 have h6v := (HT.out.below HB6.out).up_cell hiu |>.2.1
                 have h6f := (HT.out.below HB6.out).up_cell hiu |>.2.2 (i * 7 + 6)
                 rw [HIv.out.1, HIv.out.2] at h6v
                 clear hk6 hg6 hat6)
              | (refine step_append_ints rfl _ _ rfl _ _ (by rfl) HK5.out ia ic ki (by rfl) HI5.out (by simp; omega) ?_; intro v5 w5 hk5 hg5 hat5
                 have HO5 : Hid (∀ q, v5.ownBlock = some q → wr.heap.size ≤ q) := Lib.hid (fun q hq => by
                   rcases hat5 with e | e
                   · rw [e] at hq; cases hq; exact Nat.le_refl _
                   · rw [e] at hq; injection hq with hq; simp at hq; omega)
                 have HB5 : Hid (Below wr.heap.size wr w5) := Lib.hid (HB5a.out.grown hg5 HB5a.out.size (fun q hq => by cases hq; exact Nat.le_refl _))
                 have HKv5 := Lib.hid hk5
                 have HI6 := Lib.hid (HKj.out.ints.below HB5.out)
                 obtain ⟨a5, n5, c5, ev5⟩ : ∃ a n c, v5 = .slice a n c := by obtain ⟨a, c, e, _⟩ := hk5.form; exact ⟨_, _, _, e⟩
                 subst ev5
                 have h5p := (HT.out.below HB5.out).cell
                 have h5v := (HT.out.below HB5.out).up_cell hiu |>.2.1
                 rw [HIv.out.1, HIv.out.2] at h5v
                 clear hk5 hg5 hat5))
            all_goals
              clear hi3 hi4 hci hcf' hpr
              have h25 : wr.heap.size ≤ w6.heap.size := HB6.out.size
              obtain ⟨hts, hks4⟩ := HT.out.setKids HB6.out i (.slice a6 n6 c6) _ HK6.out HO6.out
              have hsz4 : (w6.setCell ⟨g, i * 7 + 6, none⟩ (.slice a6 n6 c6)).heap.size = w6.heap.size := by simp
              have hlen3 : (ul.modify i (setKids (.slice a6 n6 c6) ([] ++ ki ++ kj))).length = l.length := by rw [List.length_modify, HLu.out]
              have hsum3 : kidSum (ul.modify i (setKids (.slice a6 n6 c6) ([] ++ ki ++ kj))) ≤ S + kj.length := by have := HK2i.out (.slice a6 n6 c6) ([] ++ ki ++ kj); have := HUS.out; rw [HIsk.out] at *; simp at *; omega
              have hkj3 : ∀ (h : j < (ul.modify i (setKids (.slice a6 n6 c6) ([] ++ ki ++ kj))).length), (ul.modify i (setKids (.slice a6 n6 c6) ([] ++ ki ++ kj)))[j].kids = kj := fun h => by
                rw [List.getElem_modify, if_neg HNE.out]; exact HJsk.out
              go_upto_region 8 with fail
              generalize hl3 : ul.modify i (setKids (.slice a6 n6 c6) ([] ++ ki ++ kj)) = l3 at *
              clear hl3
              obtain ⟨wz, ew⟩ : ∃ wz, wz = w6.setCell ⟨g, i * 7 + 6, none⟩ (.slice a6 n6 c6) := ⟨_, rfl⟩
              rw [← ew] at hts hks4 hsz4 ⊢
              have HTz : Hid (TreeAt wz (RN R w wz) p (.slice (some ⟨g, 0, none⟩) l.length cap) l3) := Lib.hid (hts.wide (rn_through HK.out.size h25 (by omega)) (rn_lt fun k h => Nat.lt_of_lt_of_le (HTA.out.nodes.lt k h) (Nat.le_trans HK.out.size hks4.size)))
              have HKz : Hid (Keeps R w wz) := Lib.hid (HK.out.trans (RN.more R w wr) hks4)
              have hjz : j < l3.length := by omega
              have hpz := HTz.out.cell
              obtain ⟨_, hzk, hzf⟩ := HTz.out.up_cell hjz
              have hzf6 := hzf (j * 7 + 6)
              have hone : ∃ a n c, l3[j].kv = .slice a n c := by obtain ⟨a, c, e, _⟩ := (HTz.out.nodes.kr j hjz).form; exact ⟨_, _, _, e⟩
              obtain ⟨za, zn, zc, hzv⟩ := hone
              rw [hzv] at hzk
              obtain ⟨htf, hkf⟩ := HTz.out.setKids (Below.refl _ _) j (.slice none 0 0) [] (KR.nil _) (fun k hk => by cases hk)
              have hsumf : kidSum (l3.modify j (setKids (.slice none 0 0) [])) ≤ S := by have := kidSum_kids (.slice none 0 0) [] l3 j hjz; rw [hkj3 hjz] at this; simp at this; omega
              have HF2 : Hid (RetQT R p n S w (.returned (.tuple #[])) (wz.setCell ⟨g, j * 7 + 6, none⟩ (.slice none 0 0))) := Lib.hid (by
                have hs : (wz.setCell ⟨g, j * 7 + 6, none⟩ (.slice none 0 0)).heap.size = wz.heap.size := by simp
                refine ⟨rfl, HKz.out.trans (RN.more R w wz) hkf, _, _, htf.wide (fun k hk => ?_) (rn_lt fun k h => by rw [hs]; exact Nat.lt_of_lt_of_le (HTA.out.nodes.lt k h) HKz.out.size), by rw [List.length_modify, hlen3, HLn.out], hsumf⟩
                rcases hk with hk | hk
                · exact rn_rn (by rw [hs]; exact Nat.le_refl _) k hk
                · omega)
              clear hzf hks4 hts hlen3 hsz4 hsum3 hkj3 hsumf ew htf hkf hzv
              go_wp2
              refine bodyPost_ret (results_none rfl _ _ _) rfl ?_
              exact HF2.out
    · have h2' : inN l.length dst = false := by simpa using h2
      rw [h2'] at HKd
      clear hTA h1 h2 h2'
      go_enter Try.func23, Try.ntmps23
      go_wp2_with fail
      refine (HU.out w).mono ?_
      rintro e w1 ⟨rfl, hb1⟩
      have HB1 := Lib.hid hb1
      have hp1 := (HTA.out.below hb1).cell
      clear hb1 hp
      go_wp2_with fail
      refine (HKd.out w1).mono ?_
      rintro e w2 ⟨rfl, hb2⟩
      have HB2 := below_step HB1 hb2
      have hp2 := (HTA.out.below HB2.out).cell
      clear hb2 hp1
      clear hp2
      go_wp2
      refine bodyPost_ret (results_none rfl _ _ _) rfl ?_
      exact HF.out _ HB2.out
  · have h1' : inN l.length src = false := by simpa using h1
    rw [h1'] at HU
    clear hTA h1 h1'
    go_enter Try.func23, Try.ntmps23
    go_wp2_with fail
    refine (HU.out w).mono ?_
    rintro e w1 ⟨rfl, hb1⟩
    have HB1 := Lib.hid hb1
    have hp1 := (HTA.out.below hb1).cell
    clear hb1 hp
    clear hp1
    go_wp2
    refine bodyPost_ret (results_none rfl _ _ _) rfl ?_
    exact HF.out _ HB1.out
end Go.Proofs.Ytnihomlmjfgmdaa
