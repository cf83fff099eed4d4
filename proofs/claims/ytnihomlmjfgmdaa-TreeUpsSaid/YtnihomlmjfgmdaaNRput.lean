/-
  The walk of the document's own Put.
-/
import Derived.Test.YtnihomlmjfgmdaaNRwith
namespace Go.Proofs.Ytnihomlmjfgmdaa
open Go.RowKit

set_option maxHeartbeats 3200000 in
theorem rput_any (R : Nat → Prop) (p n S : Nat) (up at_ kid : Int) (w : World) (hT : TreeQ w R p n S) (hS : S ≤ 100000) (hn : n ≤ 100000) :
    Calls Try.prog 21 #[.pointer (some ⟨p, 0, none⟩), .int .i64 up, .int .i64 at_, .int .i64 kid] w (RetQT R p n (S + 1) w) := by
  obtain ⟨v, l, hTA, hln, hSl⟩ := hT
  have HTA := Lib.hid hTA
  have HLn := Lib.hid hln
  have HSl := Lib.hid hSl
  have hp := hTA.cell
  obtain ⟨a, cap, rfl, hcm, hcl⟩ := hTA.nodes.nr.slice
  unfold maxLen at hcm
  have HF : Hid (∀ w', Below w.heap.size w w' → RetQT R p n (S + 1) w (.returned (.tuple #[])) w') := Lib.hid (fun w' hb => ⟨rfl, Keeps.of_below hb, _, l, (HTA.out.below hb).rn, HLn.out, Nat.le_succ_of_le HSl.out⟩)
  have HU : Hid (∀ W, Calls Try.prog 24 #[.agg #[.slice a l.length cap], .int .i64 up] W fun e w' => e = .returned (.bool (inN l.length up)) ∧ Below W.heap.size W w') := Lib.hid (fun W => is_any _ _ _ _ W)
  have HKd : Hid (∀ W, Calls Try.prog 24 #[.agg #[.slice a l.length cap], .int .i64 kid] W fun e w' => e = .returned (.bool (inN l.length kid)) ∧ Below W.heap.size W w') := Lib.hid (fun W => is_any _ _ _ _ W)
  have HHo : Hid (∀ W, Below w.heap.size w W → Calls Try.prog 8 #[.agg #[.slice a l.length cap], .int .i64 kid, .int .i64 up] W fun e w' => e = .returned (.bool (rholdsP l kid up)) ∧ Below W.heap.size W w') := Lib.hid (fun W hW => rholds_any _ l kid up W (by omega) (HTA.out.below hW).nodes.nr)
  clear hln hSl
  by_cases h1 : inN l.length up = true
  · rw [h1] at HU
    by_cases h2 : inN l.length kid = true
    · rw [h2] at HKd
      by_cases h3 : kid = 0
      · have b3 : (kid == 0) = true := by simp [h3]
        clear hTA h1 h2 h3
        go_enter Try.func21, Try.ntmps21
        go_wp2_with fail
        refine (HU.out w).mono ?_
        rintro e w1 ⟨rfl, hb1⟩
        have HB1 := Lib.hid hb1
        have hp1 := (HTA.out.below hb1).cell
        clear hb1 hp
        go_wp2_with fail
        refine (HKd.out w1).mono ?_
        rintro e w2 ⟨rfl, hb2⟩
        have HB2 := below_step HB1 hb2
        have hp2 := (HTA.out.below HB2.out).cell
        clear hb2 hp1
        clear hp2
        go_wp2
        refine bodyPost_ret (results_none rfl _ _ _) rfl ?_
        exact HF.out _ HB2.out
      · have b3 : (kid == 0) = false := by simp [h3]
        cases hh : rholdsP l kid up with
        | true =>
          rw [hh] at HHo
          clear hTA h1 h2 h3 hh
          go_enter Try.func21, Try.ntmps21
          go_wp2_with fail
          refine (HU.out w).mono ?_
          rintro e w1 ⟨rfl, hb1⟩
          have HB1 := Lib.hid hb1
          have hp1 := (HTA.out.below hb1).cell
          clear hb1 hp
          go_wp2_with fail
          refine (HKd.out w1).mono ?_
          rintro e w2 ⟨rfl, hb2⟩
          have HB2 := below_step HB1 hb2
          have hp2 := (HTA.out.below HB2.out).cell
          clear hb2 hp1
          go_wp2_with fail
          refine (HHo.out w2 HB2.out).mono ?_
          rintro e w3 ⟨rfl, hb3⟩
          have HB3 := below_step HB2 hb3
          clear hb3 hp2
          go_wp2
          refine bodyPost_ret (results_none rfl _ _ _) rfl ?_
          exact HF.out _ HB3.out
        | false =>
          rw [hh] at HHo
          obtain ⟨i, rfl, hil⟩ := inN_nat h1
          obtain ⟨k, rfl, hkn⟩ := inN_nat h2
          clear hTA h1 h2 h3 hh
          go_enter Try.func21, Try.ntmps21
          go_wp2_with fail
          refine (HU.out w).mono ?_
          rintro e w1 ⟨rfl, hb1⟩
          have HB1 := Lib.hid hb1
          have hp1 := (HTA.out.below hb1).cell
          clear hb1 hp
          go_wp2_with fail
          refine (HKd.out w1).mono ?_
          rintro e w2 ⟨rfl, hb2⟩
          have HB2 := below_step HB1 hb2
          have hp2 := (HTA.out.below HB2.out).cell
          clear hb2 hp1
          go_wp2_with fail
          refine (HHo.out w2 HB2.out).mono ?_
          rintro e w3 ⟨rfl, hb3⟩
          have HB3 := below_step HB2 hb3
          clear hb3 hp2
          have HC3 := Lib.hid (rcut_any R p n S (k : Int) w3 ⟨_, l, HTA.out.below HB3.out, HLn.out, HSl.out⟩ hS)
          go_wp2_with fail
          refine HC3.out.mono ?_
          rintro e w4 ⟨rfl, hk4, v4, l4, ht4, hln4, hsl4⟩
          have HK4 : Hid (Keeps R w w4) := Lib.hid ((Keeps.of_below HB3.out).trans (More.refl R w) hk4)
          have HS3 := Lib.hid HB3.out.size
          have HT4 : Hid (TreeAt w4 (RN R w w4) p v4 l4) := Lib.hid (ht4.wide (fun k hk => by
            rcases hk with hk | hk
            · exact .inl hk
            · exact .inr ⟨by have := HS3.out; omega, hk.2⟩) (rn_lt fun k hk => Nat.lt_of_lt_of_le (HTA.out.nodes.lt k hk) HK4.out.size))
          have HLn4 := Lib.hid hln4
          have HSl4 := Lib.hid hsl4
          have hil4 : i < l4.length := by have := HLn.out; omega
          have hkn4 : k < l4.length := by have := HLn.out; omega
          obtain ⟨g4, c4, hv4, hcl4, hcm4, hrest⟩ := ht4.nodes.nr.form (by omega)
          subst hv4
          clear hrest hk4 ht4 hln4 hsl4
          unfold maxLen at hcm4
          obtain ⟨ka, kc, hkv, hkr⟩ := (HT4.out.nodes.kr i hil4).form
          have HKR := Lib.hid (HT4.out.nodes.kr i hil4)
          rw [hkv] at HKR
          have HKV := Lib.hid hkv
          have HKs := Lib.hid (fun v ks => kidSum_kids v ks l4 i hil4)
          have HKl : Hid (l4[i].kids.length ≤ 100000) := Lib.hid (by have := kidSum_at l4 i hil4; have := HSl4.out; omega)
          have hp4 := HT4.out.cell
          obtain ⟨_, hcv4, hcf4⟩ := HT4.out.up_cell hil4
          rw [hkv] at hcv4
          have hi1 : (0 : Int) ≤ (i : Int) := by omega
          have hi2 : (i : Int) < (l4.length : Int) := by omega
          clear hkv hkr hcf4
          generalize hks4 : l4[i].kids = ks4 at *
          have HKe := Lib.hid hks4
          clear hks4
          have hkl := HKl.out
          have HWi := Lib.hid (fun a => with_any _ ks4 a (k : Int) w4.drew (HKR.out.below (drewB1 (Below.refl _ _))) (by omega))
          have hpl : p < w4.heap.size := World.block_lt_of_cell? w4 _ hp4
          have hgl : g4 < w4.heap.size := World.block_lt_of_cell? w4 _ hcv4
          have hl0 : (0 : Int) ≤ (ks4.length : Int) := by omega
          clear hkl
          go_wp2
          rcases Int.lt_or_le at_ 0 with hneg | hneg
          · go_region_law ((go_simp; go_at_call 38; (refine (HWi.out _).mono ?_); rintro e w5 ⟨v5, ys, rfl, hk5, hyl5, hown5, hb5⟩
                            have HK5 := Lib.hid hk5
                            have HO5 : Hid (∀ k, v5.ownBlock = some k → w4.heap.size ≤ k) := Lib.hid hown5
                            have HB5 : Hid (Below w4.heap.size w4 w5) := Lib.hid ((drewB1 (Below.refl _ _)).trans hb5)
                            have HY5 := Lib.hid hyl5
                            obtain ⟨a5, n5, c5, hv5⟩ : ∃ a n c, v5 = .slice a n c := by obtain ⟨a, c, e, _⟩ := hk5.form; exact ⟨_, _, _, e⟩
                            have h5p := (HT4.out.below HB5.out).cell
                            have h5v := (HT4.out.below HB5.out).up_cell hil4 |>.2.1
                            have h5f := (HT4.out.below HB5.out).up_cell hil4 |>.2.2 (i * 7 + 6)
                            rw [HKV.out] at h5v
                            subst hv5
                            clear hk5 hyl5 hown5 hb5))
            all_goals
              clear hi1 hi2 hcv4 h5p h5v h5f hp4 hl0
              have h45 : w4.heap.size ≤ w5.heap.size := HB5.out.size
              obtain ⟨hts, hks5⟩ := HT4.out.setKids HB5.out i (.slice a5 n5 c5) ys HK5.out HO5.out
              have hsz5 : (w5.setCell ⟨g4, i * 7 + 6, none⟩ (.slice a5 n5 c5)).heap.size = w5.heap.size := by simp
              have hlen5 : (l4.modify i (setKids (.slice a5 n5 c5) ys)).length = n := by rw [List.length_modify, HLn4.out]
              have hsum5 : kidSum (l4.modify i (setKids (.slice a5 n5 c5) ys)) ≤ S + 1 := by have := HKs.out (.slice a5 n5 c5) ys; have := HY5.out; have := HSl4.out; omega
              go_upto_region 4 with fail
              generalize hl5 : l4.modify i (setKids (.slice a5 n5 c5) ys) = l5 at *
              clear hl5
              obtain ⟨wz, ew⟩ : ∃ wz, wz = w5.setCell ⟨g4, i * 7 + 6, none⟩ (.slice a5 n5 c5) := ⟨_, rfl⟩
              rw [← ew] at hts hks5 hsz5 ⊢
              have HTz : Hid (TreeAt wz (RN R w wz) p (.slice (some ⟨g4, 0, none⟩) l4.length c4) l5) := Lib.hid (hts.wide (rn_through HK4.out.size h45 (by omega)) (rn_lt fun k h => Nat.lt_of_lt_of_le (HTA.out.nodes.lt k h) (Nat.le_trans HK4.out.size hks5.size)))
              have HKz : Hid (Keeps R w wz) := Lib.hid (HK4.out.trans (RN.more R w w4) hks5)
              have hkz : k < l5.length := by have := HLn4.out; omega
              have HF2 : Hid (RetQT R p n (S + 1) w (.returned (.tuple #[])) (wz.setCell ⟨g4, k * 7 + 5, none⟩ (.int .i64 (i : Int)))) := Lib.hid (retQ_setUp HTA.out.nodes.lt HKz.out HTz.out hlen5 hsum5)
              have hpz := HTz.out.cell
              obtain ⟨hzu, _, hzf⟩ := HTz.out.up_cell hkz
              have hzf5 := hzf (k * 7 + 5)
              have hj1 : (0 : Int) ≤ (k : Int) := by omega
              have hj2 : (k : Int) < (l4.length : Int) := by omega
              clear hzf hts hks5 hsz5 hsum5 hlen5 ew
              generalize upI l5 (k : Int) = uz at *
              go_wp2
              all_goals (refine bodyPost_ret (results_none rfl _ _ _) rfl ?_; exact HF2.out)
          · rcases Int.lt_or_le (ks4.length : Int) at_ with hbig | hbig
            · go_region_law ((go_simp; go_at_call 38; (refine (HWi.out _).mono ?_); rintro e w5 ⟨v5, ys, rfl, hk5, hyl5, hown5, hb5⟩
                              have HK5 := Lib.hid hk5
                              have HO5 : Hid (∀ k, v5.ownBlock = some k → w4.heap.size ≤ k) := Lib.hid hown5
                              have HB5 : Hid (Below w4.heap.size w4 w5) := Lib.hid ((drewB1 (Below.refl _ _)).trans hb5)
                              have HY5 := Lib.hid hyl5
                              obtain ⟨a5, n5, c5, hv5⟩ : ∃ a n c, v5 = .slice a n c := by obtain ⟨a, c, e, _⟩ := hk5.form; exact ⟨_, _, _, e⟩
                              have h5p := (HT4.out.below HB5.out).cell
                              have h5v := (HT4.out.below HB5.out).up_cell hil4 |>.2.1
                              have h5f := (HT4.out.below HB5.out).up_cell hil4 |>.2.2 (i * 7 + 6)
                              rw [HKV.out] at h5v
                              subst hv5
                              clear hk5 hyl5 hown5 hb5))
              all_goals
                clear hi1 hi2 hcv4 h5p h5v h5f hp4 hl0
                have h45 : w4.heap.size ≤ w5.heap.size := HB5.out.size
                obtain ⟨hts, hks5⟩ := HT4.out.setKids HB5.out i (.slice a5 n5 c5) ys HK5.out HO5.out
                have hsz5 : (w5.setCell ⟨g4, i * 7 + 6, none⟩ (.slice a5 n5 c5)).heap.size = w5.heap.size := by simp
                have hlen5 : (l4.modify i (setKids (.slice a5 n5 c5) ys)).length = n := by rw [List.length_modify, HLn4.out]
                have hsum5 : kidSum (l4.modify i (setKids (.slice a5 n5 c5) ys)) ≤ S + 1 := by have := HKs.out (.slice a5 n5 c5) ys; have := HY5.out; have := HSl4.out; omega
                go_upto_region 4 with fail
                generalize hl5 : l4.modify i (setKids (.slice a5 n5 c5) ys) = l5 at *
                clear hl5
                obtain ⟨wz, ew⟩ : ∃ wz, wz = w5.setCell ⟨g4, i * 7 + 6, none⟩ (.slice a5 n5 c5) := ⟨_, rfl⟩
                rw [← ew] at hts hks5 hsz5 ⊢
                have HTz : Hid (TreeAt wz (RN R w wz) p (.slice (some ⟨g4, 0, none⟩) l4.length c4) l5) := Lib.hid (hts.wide (rn_through HK4.out.size h45 (by omega)) (rn_lt fun k h => Nat.lt_of_lt_of_le (HTA.out.nodes.lt k h) (Nat.le_trans HK4.out.size hks5.size)))
                have HKz : Hid (Keeps R w wz) := Lib.hid (HK4.out.trans (RN.more R w w4) hks5)
                have hkz : k < l5.length := by have := HLn4.out; omega
                have HF2 : Hid (RetQT R p n (S + 1) w (.returned (.tuple #[])) (wz.setCell ⟨g4, k * 7 + 5, none⟩ (.int .i64 (i : Int)))) := Lib.hid (retQ_setUp HTA.out.nodes.lt HKz.out HTz.out hlen5 hsum5)
                have hpz := HTz.out.cell
                obtain ⟨hzu, _, hzf⟩ := HTz.out.up_cell hkz
                have hzf5 := hzf (k * 7 + 5)
                have hj1 : (0 : Int) ≤ (k : Int) := by omega
                have hj2 : (k : Int) < (l4.length : Int) := by omega
                clear hzf hts hks5 hsz5 hsum5 hlen5 ew
                generalize upI l5 (k : Int) = uz at *
                go_wp2
                all_goals (refine bodyPost_ret (results_none rfl _ _ _) rfl ?_; exact HF2.out)
            · go_region_law ((go_simp; go_at_call 38; (refine (HWi.out _).mono ?_); rintro e w5 ⟨v5, ys, rfl, hk5, hyl5, hown5, hb5⟩
                              have HK5 := Lib.hid hk5
                              have HO5 : Hid (∀ k, v5.ownBlock = some k → w4.heap.size ≤ k) := Lib.hid hown5
                              have HB5 : Hid (Below w4.heap.size w4 w5) := Lib.hid ((drewB1 (Below.refl _ _)).trans hb5)
                              have HY5 := Lib.hid hyl5
                              obtain ⟨a5, n5, c5, hv5⟩ : ∃ a n c, v5 = .slice a n c := by obtain ⟨a, c, e, _⟩ := hk5.form; exact ⟨_, _, _, e⟩
                              have h5p := (HT4.out.below HB5.out).cell
                              have h5v := (HT4.out.below HB5.out).up_cell hil4 |>.2.1
                              have h5f := (HT4.out.below HB5.out).up_cell hil4 |>.2.2 (i * 7 + 6)
                              rw [HKV.out] at h5v
                              subst hv5
                              clear hk5 hyl5 hown5 hb5))
              all_goals
                clear hi1 hi2 hcv4 h5p h5v h5f hp4 hl0
                have h45 : w4.heap.size ≤ w5.heap.size := HB5.out.size
                obtain ⟨hts, hks5⟩ := HT4.out.setKids HB5.out i (.slice a5 n5 c5) ys HK5.out HO5.out
                have hsz5 : (w5.setCell ⟨g4, i * 7 + 6, none⟩ (.slice a5 n5 c5)).heap.size = w5.heap.size := by simp
                have hlen5 : (l4.modify i (setKids (.slice a5 n5 c5) ys)).length = n := by rw [List.length_modify, HLn4.out]
                have hsum5 : kidSum (l4.modify i (setKids (.slice a5 n5 c5) ys)) ≤ S + 1 := by have := HKs.out (.slice a5 n5 c5) ys; have := HY5.out; have := HSl4.out; omega
                go_upto_region 4 with fail
                generalize hl5 : l4.modify i (setKids (.slice a5 n5 c5) ys) = l5 at *
                clear hl5
                obtain ⟨wz, ew⟩ : ∃ wz, wz = w5.setCell ⟨g4, i * 7 + 6, none⟩ (.slice a5 n5 c5) := ⟨_, rfl⟩
                rw [← ew] at hts hks5 hsz5 ⊢
                have HTz : Hid (TreeAt wz (RN R w wz) p (.slice (some ⟨g4, 0, none⟩) l4.length c4) l5) := Lib.hid (hts.wide (rn_through HK4.out.size h45 (by omega)) (rn_lt fun k h => Nat.lt_of_lt_of_le (HTA.out.nodes.lt k h) (Nat.le_trans HK4.out.size hks5.size)))
                have HKz : Hid (Keeps R w wz) := Lib.hid (HK4.out.trans (RN.more R w w4) hks5)
                have hkz : k < l5.length := by have := HLn4.out; omega
                have HF2 : Hid (RetQT R p n (S + 1) w (.returned (.tuple #[])) (wz.setCell ⟨g4, k * 7 + 5, none⟩ (.int .i64 (i : Int)))) := Lib.hid (retQ_setUp HTA.out.nodes.lt HKz.out HTz.out hlen5 hsum5)
                have hpz := HTz.out.cell
                obtain ⟨hzu, _, hzf⟩ := HTz.out.up_cell hkz
                have hzf5 := hzf (k * 7 + 5)
                have hj1 : (0 : Int) ≤ (k : Int) := by omega
                have hj2 : (k : Int) < (l4.length : Int) := by omega
                clear hzf hts hks5 hsz5 hsum5 hlen5 ew
                generalize upI l5 (k : Int) = uz at *
                go_wp2
                all_goals (refine bodyPost_ret (results_none rfl _ _ _) rfl ?_; exact HF2.out)
    · have h2' : inN l.length kid = false := by simpa using h2
      rw [h2'] at HKd
      clear hTA h1 h2 h2'
      go_enter Try.func21, Try.ntmps21
      go_wp2_with fail
      refine (HU.out w).mono ?_
      rintro e w1 ⟨rfl, hb1⟩
      have HB1 := Lib.hid hb1
      have hp1 := (HTA.out.below hb1).cell
      clear hb1 hp
      go_wp2_with fail
      refine (HKd.out w1).mono ?_
      rintro e w2 ⟨rfl, hb2⟩
      have HB2 := below_step HB1 hb2
      have hp2 := (HTA.out.below HB2.out).cell
      clear hb2 hp1
      clear hp2
      go_wp2
      refine bodyPost_ret (results_none rfl _ _ _) rfl ?_
      exact HF.out _ HB2.out
  · have h1' : inN l.length up = false := by simpa using h1
    rw [h1'] at HU
    clear hTA h1 h1'
    go_enter Try.func21, Try.ntmps21
    go_wp2_with fail
    refine (HU.out w).mono ?_
    rintro e w1 ⟨rfl, hb1⟩
    have HB1 := Lib.hid hb1
    have hp1 := (HTA.out.below hb1).cell
    clear hb1 hp
    clear hp1
    go_wp2
    refine bodyPost_ret (results_none rfl _ _ _) rfl ?_
    exact HF.out _ HB1.out
end Go.Proofs.Ytnihomlmjfgmdaa
