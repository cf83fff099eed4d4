/-
  The walk of the document's number.
-/
import Derived.Test.YtkfaenhidjekdaaDoorCNumber
namespace Go.Proofs.YtkfaenhidjekdaaDoor.C
open Go.RowKit

set_option maxHeartbeats 3200000 in
theorem rnumberS_any (s : ByteArray) (w : World) (h0 : 2 ≤ s.size) (hs : s.size ≤ 1000000) (h2 : s.size ≤ 2) :
    Calls Tryd.prog 62 #[.string s] w (RefPost (rdNum s.data.toList) w) := by
  have HR := Lib.hid (rd_dec (fun h => absurd h (by omega)) : rdNum s.data.toList = rdNumB 10 2 s.data.toList)
  go_enter Tryd.func62, Tryd.ntmps62
  go_wp2
  go_loop [4, 6] (fun i n => ∃ (k : Nat) (m : Int), 2 ≤ k ∧ k ≤ s.size ∧ 0 ≤ m ∧ m ≤ 1114112 ∧ i = .int .i64 k ∧ n = .int .i64 m ∧ numG 10 0 (s.data.toList.drop 2) = ((numG 10 m (s.data.toList.drop k)).1, (numG 10 m (s.data.toList.drop k)).2 + (k - 2))) (fun i _ => s.size - (intOf i).toNat)
  case atStart => exact ⟨2, 0, Nat.le_refl _, by omega, by omega, by omega, rfl, rfl, by simp⟩
  case round =>
    obtain ⟨k, m, hk1, hk, hm0, hm1, rfl, rfl, hrel⟩ := hrel
    have HG := Lib.hid hrel
    clear hrel
    by_cases hgo : ∃ h : k < s.size, ¬ dg 10 s[k] < 0
    · obtain ⟨hlt, hd⟩ := hgo
      exfalso; omega
    · have HE : Hid (numG 10 0 (s.data.toList.drop 2) = (m, k - 2)) := Lib.hid (by
        by_cases h : k < s.size
        · exact num_stop HG.out h (by
            by_cases h3 : dg 10 s[k] < 0
            · exact h3
            · exact absurd ⟨h, h3⟩ hgo)
        · exact num_end HG.out (by rw [size_list]; omega))
      have HD : Hid (∀ h : k < s.size, dg 10 s[k] = -1) := Lib.hid (fun h => by
        have := dg_bd 10 s[k]
        by_cases h3 : dg 10 s[k] < 0
        · omega
        · exact absurd ⟨h, h3⟩ hgo)
      clear hgo
      by_cases hlt : k < s.size
      · exfalso; omega
      · have hke : k = s.size := by omega
        by_cases hkf : k = 2
        · have HF := Lib.hid (HR.out.trans (num_none HE.out hkf))
          have f1 : ((k : Int) == 2) = true := by subst hkf; rfl
          clear hkf hke
          go_wp2
          go_ret2
          exact ⟨ret_none HF.out, Below.refl _ _⟩
        · have f1 : ((k : Int) == 2) = false := by
            rw [beq_eq_false_iff_ne]; omega
          have hkf' : 2 < k := by omega
          have HF := Lib.hid (HR.out.trans (num_bare HE.out hkf' (by rw [List.getElem?_eq_none (by rw [size_list]; omega)]; simp)))
          clear hkf hke
          go_wp2_with fail
          refine (rnumbered_any m _ (by omega) (by omega)).mono ?_
          rintro e w3 ⟨rfl, hb⟩
          have HB3 := Lib.hid hb
          clear hb
          go_wp2
          go_ret2
          exact ⟨ret_ref (by rw [HF.out]) (by rw [HF.out]), HB3.out⟩

set_option maxHeartbeats 3200000 in
theorem rnumberD_any (s : ByteArray) (w : World) (h0 : 2 ≤ s.size) (hs : s.size ≤ 1000000) (h2 : 2 < s.size) (hx : s[2] ≠ 120) (hX : s[2] ≠ 88) :
    Calls Tryd.prog 62 #[.string s] w (RefPost (rdNum s.data.toList) w) := by
  have HR := Lib.hid (rd_dec (fun _ => ⟨hx, hX⟩) : rdNum s.data.toList = rdNumB 10 2 s.data.toList)
  obtain ⟨e1, e2⟩ := byte_no 120 rfl hx
  obtain ⟨e3, e4⟩ := byte_no 88 rfl hX
  go_enter Tryd.func62, Tryd.ntmps62
  go_wp2
  go_loop [4, 6] (fun i n => ∃ (k : Nat) (m : Int), 2 ≤ k ∧ k ≤ s.size ∧ 0 ≤ m ∧ m ≤ 1114112 ∧ i = .int .i64 k ∧ n = .int .i64 m ∧ numG 10 0 (s.data.toList.drop 2) = ((numG 10 m (s.data.toList.drop k)).1, (numG 10 m (s.data.toList.drop k)).2 + (k - 2))) (fun i _ => s.size - (intOf i).toNat)
  case atStart => exact ⟨2, 0, Nat.le_refl _, by omega, by omega, by omega, rfl, rfl, by simp⟩
  case round =>
    obtain ⟨k, m, hk1, hk, hm0, hm1, rfl, rfl, hrel⟩ := hrel
    have HG := Lib.hid hrel
    clear hrel
    by_cases hgo : ∃ h : k < s.size, ¬ dg 10 s[k] < 0
    · obtain ⟨hlt, hd⟩ := hgo
      have HS := Lib.hid (num_step HG.out hk1 hlt hd)
      have hdb := dg_bd 10 s[k]
      have hxb : hxI (s[k].toNat : Int) < 10 := by unfold dg at hd; split at hd <;> omega
      have hxe : dg 10 s[k] = hxI (s[k].toNat : Int) := by unfold dg; rw [if_pos hxb]
      rw [hxe] at HS hdb hd
      clear hxe
      obtain ⟨hd1, hd2⟩ := hdb
      have hd3 : 0 ≤ hxI (s[k].toNat : Int) := by omega
      have hc := s[k].toNat_lt
      by_cases hbig : m * 10 + hxI (s[k].toNat : Int) ≤ 1114112
      · have HM : Hid (min (m * 10 + hxI (s[k].toNat : Int)) 1114112 = m * 10 + hxI (s[k].toNat : Int)) := Lib.hid (Int.min_eq_left hbig)
        go_wp2_with (go_at_call 74; refine (rhex_any _ _ (by omega) (by omega)).mono ?_; rintro e w2 ⟨rfl, rfl⟩)
        go_round
        case rel => exact ⟨k + 1, m * 10 + hxI (s[k].toNat : Int), by omega, by omega, by omega, by omega, by go_num, by go_num, by rw [← HM.out]; exact HS.out⟩
        case measure => simp [intOf]; omega
      · have HM : Hid (min (m * 10 + hxI (s[k].toNat : Int)) 1114112 = 1114112) := Lib.hid (Int.min_eq_right (by omega))
        go_wp2_with (go_at_call 74; refine (rhex_any _ _ (by omega) (by omega)).mono ?_; rintro e w2 ⟨rfl, rfl⟩)
        go_round
        case rel => exact ⟨k + 1, 1114112, by omega, by omega, by omega, by omega, by go_num, by go_num, by rw [← HM.out]; exact HS.out⟩
        case measure => simp [intOf]; omega
    · have HE : Hid (numG 10 0 (s.data.toList.drop 2) = (m, k - 2)) := Lib.hid (by
        by_cases h : k < s.size
        · exact num_stop HG.out h (by
            by_cases h3 : dg 10 s[k] < 0
            · exact h3
            · exact absurd ⟨h, h3⟩ hgo)
        · exact num_end HG.out (by rw [size_list]; omega))
      have HD : Hid (∀ h : k < s.size, dg 10 s[k] = -1) := Lib.hid (fun h => by
        have := dg_bd 10 s[k]
        by_cases h3 : dg 10 s[k] < 0
        · omega
        · exact absurd ⟨h, h3⟩ hgo)
      clear hgo
      by_cases hlt : k < s.size
      · have hc := s[k].toNat_lt
        have hdm := HD.out hlt
        have hcase : hxI (s[k].toNat : Int) < 0 ∨ 10 ≤ hxI (s[k].toNat : Int) := by unfold dg at hdm; split at hdm <;> omega
        clear hdm
        rcases hcase with hneg | hneg
        all_goals
          by_cases hkf : k = 2
          · have HF := Lib.hid (HR.out.trans (num_none HE.out hkf))
            have f1 : ((k : Int) == 2) = true := by subst hkf; rfl
            clear hkf
            go_wp2_with (go_at_call 74; refine (rhex_any _ _ (by omega) (by omega)).mono ?_; rintro e w2 ⟨rfl, rfl⟩)
            go_ret2
            exact ⟨ret_none HF.out, Below.refl _ _⟩
          · have f1 : ((k : Int) == 2) = false := by
              rw [beq_eq_false_iff_ne]; omega
            have hkf' : 2 < k := by omega
            clear hkf
            by_cases h9 : s[k] = 59
            · have HF := Lib.hid (HR.out.trans (num_semi HE.out hkf' (by rw [get_at s k hlt, h9])))
              obtain ⟨q1, q2⟩ := byte_yes 59 rfl h9
              clear h9
              go_wp2_with (go_at_call 74; refine (rhex_any _ _ (by omega) (by omega)).mono ?_; rintro e w2 ⟨rfl, rfl⟩)
              refine (rnumbered_any m _ (by omega) (by omega)).mono ?_
              rintro e w3 ⟨rfl, hb⟩
              have HB3 := Lib.hid hb
              clear hb
              go_wp2
              go_ret2
              exact ⟨ret_ref (by rw [HF.out]) (by rw [HF.out]; go_num), HB3.out⟩
            · have HF := Lib.hid (HR.out.trans (num_bare HE.out hkf' (by rw [get_at s k hlt]; simpa using h9)))
              obtain ⟨q1, q2⟩ := byte_no 59 rfl h9
              clear h9
              go_wp2_with (go_at_call 74; refine (rhex_any _ _ (by omega) (by omega)).mono ?_; rintro e w2 ⟨rfl, rfl⟩)
              refine (rnumbered_any m _ (by omega) (by omega)).mono ?_
              rintro e w3 ⟨rfl, hb⟩
              have HB3 := Lib.hid hb
              clear hb
              go_wp2
              go_ret2
              exact ⟨ret_ref (by rw [HF.out]) (by rw [HF.out]), HB3.out⟩
      · have hke : k = s.size := by omega
        by_cases hkf : k = 2
        · have HF := Lib.hid (HR.out.trans (num_none HE.out hkf))
          have f1 : ((k : Int) == 2) = true := by subst hkf; rfl
          clear hkf hke
          go_wp2
          go_ret2
          exact ⟨ret_none HF.out, Below.refl _ _⟩
        · have f1 : ((k : Int) == 2) = false := by
            rw [beq_eq_false_iff_ne]; omega
          have hkf' : 2 < k := by omega
          have HF := Lib.hid (HR.out.trans (num_bare HE.out hkf' (by rw [List.getElem?_eq_none (by rw [size_list]; omega)]; simp)))
          clear hkf hke
          go_wp2_with fail
          refine (rnumbered_any m _ (by omega) (by omega)).mono ?_
          rintro e w3 ⟨rfl, hb⟩
          have HB3 := Lib.hid hb
          clear hb
          go_wp2
          go_ret2
          exact ⟨ret_ref (by rw [HF.out]) (by rw [HF.out]), HB3.out⟩

set_option maxHeartbeats 3200000 in
theorem rnumberx_any (s : ByteArray) (w : World) (h0 : 2 ≤ s.size) (hs : s.size ≤ 1000000) (h2 : 2 < s.size) (hx : s[2] = 120) :
    Calls Tryd.prog 62 #[.string s] w (RefPost (rdNum s.data.toList) w) := by
  have HR := Lib.hid (rd_hex h2 (.inl hx) : rdNum s.data.toList = rdNumB 16 3 s.data.toList)
  obtain ⟨e1, e2⟩ := byte_yes 120 rfl hx
  go_enter Tryd.func62, Tryd.ntmps62
  go_wp2
  go_loop [4, 6] (fun i n => ∃ (k : Nat) (m : Int), 3 ≤ k ∧ k ≤ s.size ∧ 0 ≤ m ∧ m ≤ 1114112 ∧ i = .int .i64 k ∧ n = .int .i64 m ∧ numG 16 0 (s.data.toList.drop 3) = ((numG 16 m (s.data.toList.drop k)).1, (numG 16 m (s.data.toList.drop k)).2 + (k - 3))) (fun i _ => s.size - (intOf i).toNat)
  case atStart => exact ⟨3, 0, Nat.le_refl _, by omega, by omega, by omega, rfl, rfl, by simp⟩
  case round =>
    obtain ⟨k, m, hk1, hk, hm0, hm1, rfl, rfl, hrel⟩ := hrel
    have HG := Lib.hid hrel
    clear hrel
    by_cases hgo : ∃ h : k < s.size, ¬ dg 16 s[k] < 0
    · obtain ⟨hlt, hd⟩ := hgo
      have HS := Lib.hid (num_step HG.out hk1 hlt hd)
      have hdb := dg_bd 16 s[k]
      have hxb : hxI (s[k].toNat : Int) < 16 := by unfold dg at hd; split at hd <;> omega
      have hxe : dg 16 s[k] = hxI (s[k].toNat : Int) := by unfold dg; rw [if_pos hxb]
      rw [hxe] at HS hdb hd
      clear hxe
      obtain ⟨hd1, hd2⟩ := hdb
      have hd3 : 0 ≤ hxI (s[k].toNat : Int) := by omega
      have hc := s[k].toNat_lt
      by_cases hbig : m * 16 + hxI (s[k].toNat : Int) ≤ 1114112
      · have HM : Hid (min (m * 16 + hxI (s[k].toNat : Int)) 1114112 = m * 16 + hxI (s[k].toNat : Int)) := Lib.hid (Int.min_eq_left hbig)
        go_wp2_with (go_at_call 74; refine (rhex_any _ _ (by omega) (by omega)).mono ?_; rintro e w2 ⟨rfl, rfl⟩)
        go_round
        case rel => exact ⟨k + 1, m * 16 + hxI (s[k].toNat : Int), by omega, by omega, by omega, by omega, by go_num, by go_num, by rw [← HM.out]; exact HS.out⟩
        case measure => simp [intOf]; omega
      · have HM : Hid (min (m * 16 + hxI (s[k].toNat : Int)) 1114112 = 1114112) := Lib.hid (Int.min_eq_right (by omega))
        go_wp2_with (go_at_call 74; refine (rhex_any _ _ (by omega) (by omega)).mono ?_; rintro e w2 ⟨rfl, rfl⟩)
        go_round
        case rel => exact ⟨k + 1, 1114112, by omega, by omega, by omega, by omega, by go_num, by go_num, by rw [← HM.out]; exact HS.out⟩
        case measure => simp [intOf]; omega
    · have HE : Hid (numG 16 0 (s.data.toList.drop 3) = (m, k - 3)) := Lib.hid (by
        by_cases h : k < s.size
        · exact num_stop HG.out h (by
            by_cases h3 : dg 16 s[k] < 0
            · exact h3
            · exact absurd ⟨h, h3⟩ hgo)
        · exact num_end HG.out (by rw [size_list]; omega))
      have HD : Hid (∀ h : k < s.size, dg 16 s[k] = -1) := Lib.hid (fun h => by
        have := dg_bd 16 s[k]
        by_cases h3 : dg 16 s[k] < 0
        · omega
        · exact absurd ⟨h, h3⟩ hgo)
      clear hgo
      by_cases hlt : k < s.size
      · have hc := s[k].toNat_lt
        have hdm := HD.out hlt
        have hcase : hxI (s[k].toNat : Int) < 0 ∨ 16 ≤ hxI (s[k].toNat : Int) := by unfold dg at hdm; split at hdm <;> omega
        clear hdm
        rcases hcase with hneg | hneg
        all_goals
          by_cases hkf : k = 3
          · have HF := Lib.hid (HR.out.trans (num_none HE.out hkf))
            have f1 : ((k : Int) == 3) = true := by subst hkf; rfl
            clear hkf
            go_wp2_with (go_at_call 74; refine (rhex_any _ _ (by omega) (by omega)).mono ?_; rintro e w2 ⟨rfl, rfl⟩)
            go_ret2
            exact ⟨ret_none HF.out, Below.refl _ _⟩
          · have f1 : ((k : Int) == 3) = false := by
              rw [beq_eq_false_iff_ne]; omega
            have hkf' : 3 < k := by omega
            clear hkf
            by_cases h9 : s[k] = 59
            · have HF := Lib.hid (HR.out.trans (num_semi HE.out hkf' (by rw [get_at s k hlt, h9])))
              obtain ⟨q1, q2⟩ := byte_yes 59 rfl h9
              clear h9
              go_wp2_with (go_at_call 74; refine (rhex_any _ _ (by omega) (by omega)).mono ?_; rintro e w2 ⟨rfl, rfl⟩)
              refine (rnumbered_any m _ (by omega) (by omega)).mono ?_
              rintro e w3 ⟨rfl, hb⟩
              have HB3 := Lib.hid hb
              clear hb
              go_wp2
              go_ret2
              exact ⟨ret_ref (by rw [HF.out]) (by rw [HF.out]; go_num), HB3.out⟩
            · have HF := Lib.hid (HR.out.trans (num_bare HE.out hkf' (by rw [get_at s k hlt]; simpa using h9)))
              obtain ⟨q1, q2⟩ := byte_no 59 rfl h9
              clear h9
              go_wp2_with (go_at_call 74; refine (rhex_any _ _ (by omega) (by omega)).mono ?_; rintro e w2 ⟨rfl, rfl⟩)
              refine (rnumbered_any m _ (by omega) (by omega)).mono ?_
              rintro e w3 ⟨rfl, hb⟩
              have HB3 := Lib.hid hb
              clear hb
              go_wp2
              go_ret2
              exact ⟨ret_ref (by rw [HF.out]) (by rw [HF.out]), HB3.out⟩
      · have hke : k = s.size := by omega
        by_cases hkf : k = 3
        · have HF := Lib.hid (HR.out.trans (num_none HE.out hkf))
          have f1 : ((k : Int) == 3) = true := by subst hkf; rfl
          clear hkf hke
          go_wp2
          go_ret2
          exact ⟨ret_none HF.out, Below.refl _ _⟩
        · have f1 : ((k : Int) == 3) = false := by
            rw [beq_eq_false_iff_ne]; omega
          have hkf' : 3 < k := by omega
          have HF := Lib.hid (HR.out.trans (num_bare HE.out hkf' (by rw [List.getElem?_eq_none (by rw [size_list]; omega)]; simp)))
          clear hkf hke
          go_wp2_with fail
          refine (rnumbered_any m _ (by omega) (by omega)).mono ?_
          rintro e w3 ⟨rfl, hb⟩
          have HB3 := Lib.hid hb
          clear hb
          go_wp2
          go_ret2
          exact ⟨ret_ref (by rw [HF.out]) (by rw [HF.out]), HB3.out⟩

set_option maxHeartbeats 3200000 in
theorem rnumberX_any (s : ByteArray) (w : World) (h0 : 2 ≤ s.size) (hs : s.size ≤ 1000000) (h2 : 2 < s.size) (hx : s[2] ≠ 120) (hX : s[2] = 88) :
    Calls Tryd.prog 62 #[.string s] w (RefPost (rdNum s.data.toList) w) := by
  have HR := Lib.hid (rd_hex h2 (.inr hX) : rdNum s.data.toList = rdNumB 16 3 s.data.toList)
  obtain ⟨e1, e2⟩ := byte_no 120 rfl hx
  obtain ⟨e3, e4⟩ := byte_yes 88 rfl hX
  go_enter Tryd.func62, Tryd.ntmps62
  go_wp2
  go_loop [4, 6] (fun i n => ∃ (k : Nat) (m : Int), 3 ≤ k ∧ k ≤ s.size ∧ 0 ≤ m ∧ m ≤ 1114112 ∧ i = .int .i64 k ∧ n = .int .i64 m ∧ numG 16 0 (s.data.toList.drop 3) = ((numG 16 m (s.data.toList.drop k)).1, (numG 16 m (s.data.toList.drop k)).2 + (k - 3))) (fun i _ => s.size - (intOf i).toNat)
  case atStart => exact ⟨3, 0, Nat.le_refl _, by omega, by omega, by omega, rfl, rfl, by simp⟩
  case round =>
    obtain ⟨k, m, hk1, hk, hm0, hm1, rfl, rfl, hrel⟩ := hrel
    have HG := Lib.hid hrel
    clear hrel
    by_cases hgo : ∃ h : k < s.size, ¬ dg 16 s[k] < 0
    · obtain ⟨hlt, hd⟩ := hgo
      have HS := Lib.hid (num_step HG.out hk1 hlt hd)
      have hdb := dg_bd 16 s[k]
      have hxb : hxI (s[k].toNat : Int) < 16 := by unfold dg at hd; split at hd <;> omega
      have hxe : dg 16 s[k] = hxI (s[k].toNat : Int) := by unfold dg; rw [if_pos hxb]
      rw [hxe] at HS hdb hd
      clear hxe
      obtain ⟨hd1, hd2⟩ := hdb
      have hd3 : 0 ≤ hxI (s[k].toNat : Int) := by omega
      have hc := s[k].toNat_lt
      by_cases hbig : m * 16 + hxI (s[k].toNat : Int) ≤ 1114112
      · have HM : Hid (min (m * 16 + hxI (s[k].toNat : Int)) 1114112 = m * 16 + hxI (s[k].toNat : Int)) := Lib.hid (Int.min_eq_left hbig)
        go_wp2_with (go_at_call 74; refine (rhex_any _ _ (by omega) (by omega)).mono ?_; rintro e w2 ⟨rfl, rfl⟩)
        go_round
        case rel => exact ⟨k + 1, m * 16 + hxI (s[k].toNat : Int), by omega, by omega, by omega, by omega, by go_num, by go_num, by rw [← HM.out]; exact HS.out⟩
        case measure => simp [intOf]; omega
      · have HM : Hid (min (m * 16 + hxI (s[k].toNat : Int)) 1114112 = 1114112) := Lib.hid (Int.min_eq_right (by omega))
        go_wp2_with (go_at_call 74; refine (rhex_any _ _ (by omega) (by omega)).mono ?_; rintro e w2 ⟨rfl, rfl⟩)
        go_round
        case rel => exact ⟨k + 1, 1114112, by omega, by omega, by omega, by omega, by go_num, by go_num, by rw [← HM.out]; exact HS.out⟩
        case measure => simp [intOf]; omega
    · have HE : Hid (numG 16 0 (s.data.toList.drop 3) = (m, k - 3)) := Lib.hid (by
        by_cases h : k < s.size
        · exact num_stop HG.out h (by
            by_cases h3 : dg 16 s[k] < 0
            · exact h3
            · exact absurd ⟨h, h3⟩ hgo)
        · exact num_end HG.out (by rw [size_list]; omega))
      have HD : Hid (∀ h : k < s.size, dg 16 s[k] = -1) := Lib.hid (fun h => by
        have := dg_bd 16 s[k]
        by_cases h3 : dg 16 s[k] < 0
        · omega
        · exact absurd ⟨h, h3⟩ hgo)
      clear hgo
      by_cases hlt : k < s.size
      · have hc := s[k].toNat_lt
        have hdm := HD.out hlt
        have hcase : hxI (s[k].toNat : Int) < 0 ∨ 16 ≤ hxI (s[k].toNat : Int) := by unfold dg at hdm; split at hdm <;> omega
        clear hdm
        rcases hcase with hneg | hneg
        all_goals
          by_cases hkf : k = 3
          · have HF := Lib.hid (HR.out.trans (num_none HE.out hkf))
            have f1 : ((k : Int) == 3) = true := by subst hkf; rfl
            clear hkf
            go_wp2_with (go_at_call 74; refine (rhex_any _ _ (by omega) (by omega)).mono ?_; rintro e w2 ⟨rfl, rfl⟩)
            go_ret2
            exact ⟨ret_none HF.out, Below.refl _ _⟩
          · have f1 : ((k : Int) == 3) = false := by
              rw [beq_eq_false_iff_ne]; omega
            have hkf' : 3 < k := by omega
            clear hkf
            by_cases h9 : s[k] = 59
            · have HF := Lib.hid (HR.out.trans (num_semi HE.out hkf' (by rw [get_at s k hlt, h9])))
              obtain ⟨q1, q2⟩ := byte_yes 59 rfl h9
              clear h9
              go_wp2_with (go_at_call 74; refine (rhex_any _ _ (by omega) (by omega)).mono ?_; rintro e w2 ⟨rfl, rfl⟩)
              refine (rnumbered_any m _ (by omega) (by omega)).mono ?_
              rintro e w3 ⟨rfl, hb⟩
              have HB3 := Lib.hid hb
              clear hb
              go_wp2
              go_ret2
              exact ⟨ret_ref (by rw [HF.out]) (by rw [HF.out]; go_num), HB3.out⟩
            · have HF := Lib.hid (HR.out.trans (num_bare HE.out hkf' (by rw [get_at s k hlt]; simpa using h9)))
              obtain ⟨q1, q2⟩ := byte_no 59 rfl h9
              clear h9
              go_wp2_with (go_at_call 74; refine (rhex_any _ _ (by omega) (by omega)).mono ?_; rintro e w2 ⟨rfl, rfl⟩)
              refine (rnumbered_any m _ (by omega) (by omega)).mono ?_
              rintro e w3 ⟨rfl, hb⟩
              have HB3 := Lib.hid hb
              clear hb
              go_wp2
              go_ret2
              exact ⟨ret_ref (by rw [HF.out]) (by rw [HF.out]), HB3.out⟩
      · have hke : k = s.size := by omega
        by_cases hkf : k = 3
        · have HF := Lib.hid (HR.out.trans (num_none HE.out hkf))
          have f1 : ((k : Int) == 3) = true := by subst hkf; rfl
          clear hkf hke
          go_wp2
          go_ret2
          exact ⟨ret_none HF.out, Below.refl _ _⟩
        · have f1 : ((k : Int) == 3) = false := by
            rw [beq_eq_false_iff_ne]; omega
          have hkf' : 3 < k := by omega
          have HF := Lib.hid (HR.out.trans (num_bare HE.out hkf' (by rw [List.getElem?_eq_none (by rw [size_list]; omega)]; simp)))
          clear hkf hke
          go_wp2_with fail
          refine (rnumbered_any m _ (by omega) (by omega)).mono ?_
          rintro e w3 ⟨rfl, hb⟩
          have HB3 := Lib.hid hb
          clear hb
          go_wp2
          go_ret2
          exact ⟨ret_ref (by rw [HF.out]) (by rw [HF.out]), HB3.out⟩

theorem rnumber_any (s : ByteArray) (w : World) (h0 : 2 ≤ s.size) (hs : s.size ≤ 1000000) :
    Calls Tryd.prog 62 #[.string s] w (RefPost (rdNum s.data.toList) w) := by
  by_cases h2 : s.size ≤ 2
  · exact rnumberS_any s w h0 hs h2
  · by_cases hx : (s[2]'(by omega)) = 120
    · exact rnumberx_any s w h0 hs (by omega) hx
    · by_cases hX : (s[2]'(by omega)) = 88
      · exact rnumberX_any s w h0 hs (by omega) hx hX
      · exact rnumberD_any s w h0 hs (by omega) hx hX
end Go.Proofs.YtkfaenhidjekdaaDoor.C
