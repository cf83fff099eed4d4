/-
  The law RemarkStops.
-/
import Derived.Test.YtdljjfeojccidaaRAgree
import Derived.Test.YtdljjfeojccidaaRReads
namespace Go.Proofs.Ytdljjfeojccidaa.R
open Go.RowKit

theorem ag_ext (s more : ByteArray) (n : Nat) (hn : n ≤ s.size) : ag n s.data.toList (s.extract 0 n ++ more).data.toList := by
  have e : (s.extract 0 n ++ more).data.toList = s.data.toList.take n ++ more.data.toList := by
    rw [ByteArray.data_append, Array.toList_append, C.ext_list, List.drop_zero]
  have hl : n ≤ s.data.toList.length := by rw [C.size_list]; exact hn
  refine ⟨hl, by rw [e, List.length_append, List.length_take]; omega, ?_⟩
  rw [e, List.take_append_of_le_length (by rw [List.length_take]; omega), List.take_take, Nat.min_self]

set_option maxRecDepth 100000 in
set_option maxHeartbeats 6400000 in
theorem stops_walk (s more : ByteArray) (f : Bool) (w : World) (hM : MaxAt w) (ws : s.size ≤ maxLen) (wn : more.size ≤ maxLen) :
    Calls Try.prog 4 #[.string s, .string more, .bool f] w fun e w' => e = .returned (.bool true) ∧ Below w.heap.size w w' := by
  unfold maxLen at ws wn
  have HM := Lib.hid hM
  clear hM
  have out : (400 : Int) < s.size ∨ (¬ (400 : Int) < s.size ∧ (200 : Int) < more.size) →
      Calls Try.prog 4 #[.string s, .string more, .bool f] w fun e w' => e = .returned (.bool true) ∧ Below w.heap.size w w' := by
    intro h
    rcases h with h1 | ⟨h1, h2⟩
    all_goals
      go_enter Try.func4, Try.ntmps4
      go_wp2_with fail
      refine (awake_any _ HM.out).mono ?_
      rintro e w1 ⟨rfl, hb⟩
      have HB := Lib.hid hb
      clear hb
      go_wp2
      go_ret
      exact ⟨rfl, HB.out⟩
  by_cases hout : (400 : Int) < s.size ∨ (200 : Int) < more.size
  · exact out (by omega)
  · clear out
    have h4 : ¬ (400 : Int) < s.size := by omega
    have h4' : ¬ (200 : Int) < more.size := by omega
    clear hout
    have HA := Lib.hid (read_any s f w HM.out (by omega))
    have HR2 := Lib.hid (fun u W (h : MaxAt W) (hu : u.size ≤ 600) => read_any u f W h (by omega))
    obtain ⟨t, ht⟩ : ∃ t, t = rem s.data.toList f := ⟨_, rfl⟩
    have hle := rem_le s.data.toList f
    have hze := rem_zero (l := s.data.toList) (f := f)
    rw [← ht] at HA hle hze
    rw [C.size_list] at hle
    have HT := Lib.hid ht
    have HS := Lib.hid (fun W => same_any t W)
    unfold remV at HS
    clear ht
    obtain ⟨k, nm, d, n, ok⟩ := t
    simp only at hle hze HS
    by_cases hn0 : n = 0
    · have hok : ok = false := hze hn0
      subst hok
      subst hn0
      clear hze HT HR2 HS
      go_enter Try.func4, Try.ntmps4
      go_wp2_with fail
      refine HA.out.mono ?_
      rintro e w1 ⟨rfl, hbl⟩
      have HB1 : Hid (Below w.heap.size w w1) := Lib.hid hbl
      have HB2 := k1_below HB1 ⟨k, nm, d, 0, false⟩
      clear hbl HA HB1
      unfold remV
      go_wp2_with fail
      refine (awake_any _ (HM.out.below HB2.out)).mono ?_
      rintro e w6 ⟨rfl, hbl⟩
      have HB6 := below_step HB2 hbl
      clear hbl
      go_wp2
      go_ret
      exact ⟨rfl, HB6.out⟩
    · have hn1 : 1 ≤ n := by omega
      clear hze hn0
      have hi0 : ¬ (n : Int) < 1 := by omega
      have hi1 : ¬ (s.size : Int) < (n : Int) := by omega
      have hi2 : (0 : Int) ≤ (n : Int) := by omega
      have hi3 : (n : Int) ≤ (s.size : Int) := by omega
      obtain ⟨u, hu⟩ : ∃ u, u = s.extract 0 n := ⟨_, rfl⟩
      have HU := Lib.hid hu.symm
      have hus : u.size ≤ 400 := by rw [hu, ByteArray.size_extract]; omega
      have hum : (u ++ more).size ≤ 600 := by rw [ByteArray.size_append]; omega
      have hz1 : ¬ 9223372036854775807 < u.size + more.size := by omega
      have hag := ag_ext s more n hle
      rw [← hu] at hag
      have HRn : Hid ((rem s.data.toList f).n = n) := Lib.hid (by rw [← HT.out])
      have HAg := Lib.hid (fun hg => rem_same (f := f) hag HRn.out hn1 hg)
      have HLast := Lib.hid (fun h => rem_last (l := s.data.toList) HRn.out hn1 h)
      rw [C.size_list] at HLast HAg
      clear hu hag HRn
      by_cases hall : n = s.size
      · have ea : ((n : Int) == (s.size : Int)) = true := by rw [beq_iff_eq]; omega
        obtain ⟨m, hm⟩ : ∃ m, m = n - 1 := ⟨_, rfl⟩
        have hml : m < s.size := by omega
        have em : (n : Int) - 1 = (m : Int) := by omega
        have hm0 : (0 : Int) ≤ (m : Int) := by omega
        have hm1 : (m : Int) < (s.size : Int) := by omega
        have hc := s[m].toNat_lt
        have HG := Lib.hid (C.get_at s m hml)
        by_cases h62 : ((s[m].toNat : Int) != 62) = true
        · clear HT HR2 HS HAg HLast hum hz1 hus HU hm hall HG
          go_enter Try.func4, Try.ntmps4
          go_wp2_with fail
          refine HA.out.mono ?_
          rintro e w1 ⟨rfl, hbl⟩
          have HB1 : Hid (Below w.heap.size w w1) := Lib.hid hbl
          have HB2 := k1_below HB1 ⟨k, nm, d, n, ok⟩
          clear hbl HA HB1
          unfold remV
          go_wp2_with fail
          refine (awake_any _ (HM.out.below HB2.out)).mono ?_
          rintro e w6 ⟨rfl, hbl⟩
          have HB6 := below_step HB2 hbl
          clear hbl
          go_wp2
          go_ret
          exact ⟨rfl, HB6.out⟩
        · have e62 : ((s[m].toNat : Int) != 62) = false := by simpa using h62
          have hg : s.data.toList[n - 1]? = some 62 := by
            rw [← hm, HG.out]
            have h5 : (s[m].toNat : Int) = 62 := by simpa using h62
            rw [I.byte_inj (a := s[m]) (b := 62) (by rw [h5]; rfl)]
          have hge : n ≤ (rem (u ++ more).data.toList f).n := by
            rcases HAg.out hg with h | ⟨_, h⟩
            · rw [h, ← HT.out]; exact Nat.le_refl _
            · exact h
          have HRR := Lib.hid (fun W h => HR2.out (u ++ more) W h hum)
          generalize rem (u ++ more).data.toList f = t2 at *
          obtain ⟨k2, nm2, d2, n2, ok2⟩ := t2
          have hge2 : (n : Int) ≤ (n2 : Int) := by simp only at hge; omega
          have hgd : decide ((n : Int) ≤ (n2 : Int)) = true := by simpa using hge2
          have eU : s.extract 0 n = u := HU.out
          clear HT HR2 HS HAg HLast hm hall HG h62 hg hge
          go_enter Try.func4, Try.ntmps4
          go_wp2_with fail
          refine HA.out.mono ?_
          rintro e w1 ⟨rfl, hbl⟩
          have HB1 : Hid (Below w.heap.size w w1) := Lib.hid hbl
          have HB2 := k1_below HB1 ⟨k, nm, d, n, ok⟩
          clear hbl HA HB1
          unfold remV
          go_upto_region 4 with fail
          show Code.wp _ _ _ _ (K1 w1 ⟨k, nm, d, n, ok⟩)
          obtain ⟨w2, ew⟩ : ∃ w2, w2 = K1 w1 ⟨k, nm, d, n, ok⟩ := ⟨_, rfl⟩
          rw [← ew] at HB2 ⊢
          clear ew
          go_wp2_with fail
          refine (HRR.out _ (HM.out.below HB2.out)).mono ?_
          rintro e w3 ⟨rfl, hbl⟩
          have HB3 := below_step HB2 hbl
          have HB4 := k1_below HB3 ⟨k2, nm2, d2, n2, ok2⟩
          clear hbl HRR HB2 HB3
          unfold remV
          go_wp2_with fail
          refine (awake_any _ (HM.out.below HB4.out)).mono ?_
          rintro e w6 ⟨rfl, hbl⟩
          have HB6 := below_step HB4 hbl
          clear hbl
          go_wp2
          go_ret
          exact ⟨rfl, HB6.out⟩
      · have ea : ((n : Int) == (s.size : Int)) = false := by rw [beq_eq_false_iff_ne]; omega
        have hsame : rem (u ++ more).data.toList f = ⟨k, nm, d, n, ok⟩ := by
          rcases HAg.out (HLast.out (by omega)) with h | ⟨h, _⟩
          · rw [h, ← HT.out]
          · omega
        have HRR := Lib.hid (fun W h => HR2.out (u ++ more) W h hum)
        rw [hsame] at HRR
        have eU : s.extract 0 n = u := HU.out
        clear HT HR2 HAg HLast hall hsame
        go_enter Try.func4, Try.ntmps4
        go_wp2_with fail
        refine HA.out.mono ?_
        rintro e w1 ⟨rfl, hbl⟩
        have HB1 : Hid (Below w.heap.size w w1) := Lib.hid hbl
        have HB2 := k1_below HB1 ⟨k, nm, d, n, ok⟩
        have HK2 := Lib.hid (Kept.made w1 ⟨k, nm, d, n, ok⟩)
        clear hbl HA HB1
        unfold remV
        go_upto_region 4 with fail
        show Code.wp _ _ _ _ (K1 w1 ⟨k, nm, d, n, ok⟩)
        obtain ⟨w2, ew⟩ : ∃ w2, w2 = K1 w1 ⟨k, nm, d, n, ok⟩ := ⟨_, rfl⟩
        rw [show w1.alloc (.cells (tokC k nm d) 25) = w2 from ew.symm] at HK2
        rw [← ew] at HB2 ⊢
        clear ew
        go_wp2_with fail
        refine (HRR.out _ (HM.out.below HB2.out)).mono ?_
        rintro e w3 ⟨rfl, hbl⟩
        have HB3 := below_step HB2 hbl
        have HK3 := Lib.hid (HK2.out.keep hbl)
        have HB4 := k1_below HB3 ⟨k, nm, d, n, ok⟩
        have HK4 := Lib.hid (HK3.out.alloc (.cells (tokC k nm d) 25))
        have HL4 := Lib.hid (Kept.made w3 ⟨k, nm, d, n, ok⟩)
        clear hbl HRR HB2 HB3 HK2 HK3
        unfold remV
        go_upto_region 9 with fail
        show Code.wp _ _ _ _ (K1 w3 ⟨k, nm, d, n, ok⟩)
        obtain ⟨w4, ew⟩ : ∃ w4, w4 = K1 w3 ⟨k, nm, d, n, ok⟩ := ⟨_, rfl⟩
        rw [show w3.alloc (.cells (tokC k nm d) 25) = w4 from ew.symm] at HK4 HL4
        rw [← ew] at HB4 ⊢
        clear ew
        obtain ⟨c0, c1, c2, c3, c4⟩ := HK4.out.row
        obtain ⟨d0, d1, d2, d3, d4⟩ := HL4.out.row
        simp only at c0 c1 c2 c3 c4 d0 d1 d2 d3 d4
        go_wp2_with fail
        refine (HS.out _).mono ?_
        rintro e w5 ⟨rfl, hbl⟩
        have HB5 := below_step HB4 hbl
        clear hbl c0 c1 c2 c3 c4 d0 d1 d2 d3 d4 HS HK4 HL4
        go_wp2_with fail
        refine (awake_any _ (HM.out.below HB5.out)).mono ?_
        rintro e w6 ⟨rfl, hbl⟩
        have HB6 := below_step HB5 hbl
        clear hbl
        go_wp2
        go_ret
        exact ⟨rfl, HB6.out⟩
end Go.Proofs.Ytdljjfeojccidaa.R
