/-
  The walk of readNumber.
-/
import Derived.Test.YtkfaenhidjekdaaDoorCNums
namespace Go.Proofs.YtkfaenhidjekdaaDoor.C
open Go.RowKit

def RefPost (r : Ref) (w : World) (e : Ending) (w' : World) : Prop := e = .returned (.tuple #[.string r.1, .int .i64 r.2]) ∧ Below w.heap.size w w'
theorem ret_ref {r : Ref} {a : ByteArray} {n : Int} (h : a = r.1) (h2 : n = (r.2 : Int)) : Ending.returned (.tuple #[.string a, .int .i64 n]) = .returned (.tuple #[.string r.1, .int .i64 r.2]) := by rw [h, h2]
theorem ret_none {r : Ref} (h : r = noRef) : Ending.returned (.tuple #[.string ⟨#[]⟩, .int .i64 0]) = .returned (.tuple #[.string r.1, .int .i64 r.2]) := by rw [h]; rfl
theorem num_none {base m : Int} {f k : Nat} {l : List UInt8} (h : numG base 0 (l.drop f) = (m, k - f)) (hk : k = f) : rdNumB base f l = noRef := by
  unfold rdNumB; rw [h]; simp [hk]
theorem num_semi {base m : Int} {f k : Nat} {l : List UInt8} (h : numG base 0 (l.drop f) = (m, k - f)) (hk : f < k) (h9 : l[k]? = some 59) : rdNumB base f l = (numS m, k + 1) := by
  unfold rdNumB; rw [h]
  have e : f + (k - f) = k := by omega
  simp only [e, h9]
  rw [if_neg (by omega)]; simp
theorem num_bare {base m : Int} {f k : Nat} {l : List UInt8} (h : numG base 0 (l.drop f) = (m, k - f)) (hk : f < k) (h9 : l[k]? ≠ some 59) : rdNumB base f l = (numS m, k) := by
  unfold rdNumB; rw [h]
  have e : f + (k - f) = k := by omega
  simp only [e]
  rw [if_neg (by omega), if_neg h9]; simp
theorem num_end {base m : Int} {f k : Nat} {l : List UInt8} (h : numG base 0 (l.drop f) = ((numG base m (l.drop k)).1, (numG base m (l.drop k)).2 + (k - f))) (hk : l.length ≤ k) : numG base 0 (l.drop f) = (m, k - f) := by
  rw [h, List.drop_eq_nil_of_le hk]; simp [numG]
theorem num_stop {base m : Int} {f k : Nat} {s : ByteArray} (h : numG base 0 (s.data.toList.drop f) = ((numG base m (s.data.toList.drop k)).1, (numG base m (s.data.toList.drop k)).2 + (k - f))) (hk : k < s.size) (hd : dg base s[k] < 0) : numG base 0 (s.data.toList.drop f) = (m, k - f) := by
  rw [h, drop_at s k hk, numG_no _ _ _ _ hd]; simp
theorem num_step {base m : Int} {f k : Nat} {s : ByteArray} (h : numG base 0 (s.data.toList.drop f) = ((numG base m (s.data.toList.drop k)).1, (numG base m (s.data.toList.drop k)).2 + (k - f))) (hf : f ≤ k) (hk : k < s.size) (hd : ¬ dg base s[k] < 0) :
    numG base 0 (s.data.toList.drop f) = ((numG base (min (m * base + dg base s[k]) 1114112) (s.data.toList.drop (k + 1))).1, (numG base (min (m * base + dg base s[k]) 1114112) (s.data.toList.drop (k + 1))).2 + (k + 1 - f)) := by
  rw [h, drop_at s k hk, numG_yes _ _ _ _ hd]
  simp only [Prod.mk.injEq, true_and]; omega
theorem rd_dec {s : ByteArray} (h : ∀ h : 2 < s.size, s[2] ≠ 120 ∧ s[2] ≠ 88) : rdNum s.data.toList = rdNumB 10 2 s.data.toList := by
  unfold rdNum
  by_cases h2 : 2 < s.size
  · obtain ⟨ha, hb⟩ := h h2
    rw [get_at s 2 h2]
    rw [if_neg (by simp [ha, hb])]
  · rw [List.getElem?_eq_none (by rw [size_list]; omega)]
    simp
theorem rd_hex {s : ByteArray} (h2 : 2 < s.size) (h : s[2] = 120 ∨ s[2] = 88) : rdNum s.data.toList = rdNumB 16 3 s.data.toList := by
  unfold rdNum
  rw [get_at s 2 h2]
  rw [if_pos (by simpa using h)]
theorem byte_no {b c : UInt8} (z : Int) (hz : (c.toNat : Int) = z) (h : b ≠ c) : ((b.toNat : Int) == z) = false ∧ ((b.toNat : Int) != z) = true := by
  have : (b.toNat : Int) ≠ z := fun e => h (UInt8.toNat_inj.1 (by omega))
  exact ⟨by simpa using this, by simpa using this⟩
theorem byte_yes {b c : UInt8} (z : Int) (hz : (c.toNat : Int) = z) (h : b = c) : ((b.toNat : Int) == z) = true ∧ ((b.toNat : Int) != z) = false := by
  subst h; rw [hz]; simp

set_option maxHeartbeats 3200000 in
theorem numberS_any (s : ByteArray) (w : World) (hT : StAt w) (h0 : 2 ≤ s.size) (hs : s.size ≤ 1000000) (h2 : s.size ≤ 2) :
    Calls Tryd.prog 72 #[.string s] w (RefPost (rdNum s.data.toList) w) := by
  have HR := Lib.hid (rd_dec (fun h => absurd h (by omega)) : rdNum s.data.toList = rdNumB 10 2 s.data.toList)
  have HN : Hid (∀ (n : Int), -9223372036854775808 ≤ n → n ≤ 9223372036854775807 → Calls Tryd.prog 81 #[.int .i64 n] w fun e w2 => e = .returned (.string (numS n)) ∧ w = w2) := Lib.hid (fun n h1 h2 => numbered_any n w hT h1 h2)
  clear hT
  go_enter Tryd.func72, Tryd.ntmps72
  go_wp2
  go_loop [6, 7] (fun n i => ∃ (k : Nat) (m : Int), 2 ≤ k ∧ k ≤ s.size ∧ 0 ≤ m ∧ m ≤ 1114112 ∧ i = .int .i64 k ∧ n = .int .i64 m ∧ numG 10 0 (s.data.toList.drop 2) = ((numG 10 m (s.data.toList.drop k)).1, (numG 10 m (s.data.toList.drop k)).2 + (k - 2))) (fun _ i => s.size - (intOf i).toNat)
  case atStart => exact ⟨2, 0, Nat.le_refl _, by omega, by omega, by omega, rfl, rfl, by simp⟩
  case round =>
    obtain ⟨k, m, hk1, hk, hm0, hm1, rfl, rfl, hrel⟩ := hrel
    have HG := Lib.hid hrel
    clear hrel
    by_cases hgo : ∃ h : k < s.size, ¬ dg 10 s[k] < 0
    · obtain ⟨hlt, hd⟩ := hgo
      have HS := Lib.hid (num_step HG.out hk1 hlt hd)
      have hdb := dg_bd 10 s[k]
      obtain ⟨hd1, hd2⟩ := hdb
      have hd3 : 0 ≤ dg 10 s[k] := by omega
      have hc := s[k].toNat_lt
      by_cases hbig : m * 10 + dg 10 s[k] ≤ 1114112
      · have HM : Hid (min (m * 10 + dg 10 s[k]) 1114112 = m * 10 + dg 10 s[k]) := Lib.hid (Int.min_eq_left hbig)
        go_wp2_with (go_at_call 80; refine (dg_any _ _ _ (by omega) (by omega)).mono ?_; rintro e w2 ⟨rfl, rfl⟩)
        go_round
        case rel => exact ⟨k + 1, m * 10 + dg 10 s[k], by omega, by omega, by omega, by omega, by go_num, by go_num, by rw [← HM.out]; exact HS.out⟩
        case measure => simp [intOf]; omega
      · have HM : Hid (min (m * 10 + dg 10 s[k]) 1114112 = 1114112) := Lib.hid (Int.min_eq_right (by omega))
        go_wp2_with (go_at_call 80; refine (dg_any _ _ _ (by omega) (by omega)).mono ?_; rintro e w2 ⟨rfl, rfl⟩)
        go_round
        case rel => exact ⟨k + 1, 1114112, by omega, by omega, by omega, by omega, by go_num, by go_num, by rw [← HM.out]; exact HS.out⟩
        case measure => simp [intOf]; omega
    · have HE : Hid (numG 10 0 (s.data.toList.drop 2) = (m, k - 2)) := Lib.hid (by
        by_cases h : k < s.size
        · exact num_stop HG.out h (by
            by_cases h3 : dg 10 s[k] < 0
            · exact h3
            · exact absurd ⟨h, h3⟩ hgo)
        · exact num_end HG.out (by rw [size_list]; omega))
      have HD : Hid (∀ h : k < s.size, dg 10 s[k] = -1) := Lib.hid (fun h => by
        have := dg_bd 10 s[k]
        by_cases h3 : dg 10 s[k] < 0
        · omega
        · exact absurd ⟨h, h3⟩ hgo)
      clear hgo
      by_cases hlt : k < s.size
      · have hc := s[k].toNat_lt
        have hdm := HD.out hlt
        have HDG := Lib.hid (dg_any 10 s[k] w (by omega) (by omega))
        rw [hdm] at HDG
        clear hdm
        by_cases hkf : k = 2
        · have HF := Lib.hid (HR.out.trans (num_none HE.out hkf))
          have f1 : ((k : Int) == 2) = true := by subst hkf; rfl
          clear hkf
          go_wp2_with (go_at_call 80; refine HDG.out.mono ?_; rintro e w2 ⟨rfl, rfl⟩)
          go_ret2
          exact ⟨ret_none HF.out, Below.refl _ _⟩
        · have f1 : ((k : Int) == 2) = false := by
            rw [beq_eq_false_iff_ne]; omega
          have hkf' : 2 < k := by omega
          clear hkf
          by_cases h9 : s[k] = 59
          · have HF := Lib.hid (HR.out.trans (num_semi HE.out hkf' (by rw [get_at s k hlt, h9])))
            obtain ⟨q1, q2⟩ := byte_yes 59 rfl h9
            clear h9
            go_wp2_with (first | (go_at_call 80; refine HDG.out.mono ?_; rintro e w2 ⟨rfl, rfl⟩) | (go_at_call 81; refine (HN.out _ (by omega) (by omega)).mono ?_; rintro e w2 ⟨rfl, rfl⟩))
            go_ret2
            exact ⟨ret_ref (by rw [HF.out]) (by rw [HF.out]; go_num), Below.refl _ _⟩
          · have HF := Lib.hid (HR.out.trans (num_bare HE.out hkf' (by rw [get_at s k hlt]; simpa using h9)))
            obtain ⟨q1, q2⟩ := byte_no 59 rfl h9
            clear h9
            go_wp2_with (first | (go_at_call 80; refine HDG.out.mono ?_; rintro e w2 ⟨rfl, rfl⟩) | (go_at_call 81; refine (HN.out _ (by omega) (by omega)).mono ?_; rintro e w2 ⟨rfl, rfl⟩))
            go_ret2
            exact ⟨ret_ref (by rw [HF.out]) (by rw [HF.out]), Below.refl _ _⟩
      · have hke : k = s.size := by omega
        by_cases hkf : k = 2
        · have HF := Lib.hid (HR.out.trans (num_none HE.out hkf))
          have f1 : ((k : Int) == 2) = true := by subst hkf; rfl
          clear hkf hke
          go_wp2
          go_ret2
          exact ⟨ret_none HF.out, Below.refl _ _⟩
        · have f1 : ((k : Int) == 2) = false := by
            rw [beq_eq_false_iff_ne]; omega
          have hkf' : 2 < k := by omega
          have HF := Lib.hid (HR.out.trans (num_bare HE.out hkf' (by rw [List.getElem?_eq_none (by rw [size_list]; omega)]; simp)))
          clear hkf hke
          go_wp2_with (go_at_call 81; refine (HN.out _ (by omega) (by omega)).mono ?_; rintro e w2 ⟨rfl, rfl⟩)
          go_ret2
          exact ⟨ret_ref (by rw [HF.out]) (by rw [HF.out]), Below.refl _ _⟩

set_option maxHeartbeats 3200000 in
theorem numberD_any (s : ByteArray) (w : World) (hT : StAt w) (h0 : 2 ≤ s.size) (hs : s.size ≤ 1000000) (h2 : 2 < s.size) (hx : s[2] ≠ 120) (hX : s[2] ≠ 88) :
    Calls Tryd.prog 72 #[.string s] w (RefPost (rdNum s.data.toList) w) := by
  have HR := Lib.hid (rd_dec (fun _ => ⟨hx, hX⟩) : rdNum s.data.toList = rdNumB 10 2 s.data.toList)
  obtain ⟨e1, e2⟩ := byte_no 120 rfl hx
  obtain ⟨e3, e4⟩ := byte_no 88 rfl hX
  have HN : Hid (∀ (n : Int), -9223372036854775808 ≤ n → n ≤ 9223372036854775807 → Calls Tryd.prog 81 #[.int .i64 n] w fun e w2 => e = .returned (.string (numS n)) ∧ w = w2) := Lib.hid (fun n h1 h2 => numbered_any n w hT h1 h2)
  clear hT
  go_enter Tryd.func72, Tryd.ntmps72
  go_wp2
  go_loop [6, 7] (fun n i => ∃ (k : Nat) (m : Int), 2 ≤ k ∧ k ≤ s.size ∧ 0 ≤ m ∧ m ≤ 1114112 ∧ i = .int .i64 k ∧ n = .int .i64 m ∧ numG 10 0 (s.data.toList.drop 2) = ((numG 10 m (s.data.toList.drop k)).1, (numG 10 m (s.data.toList.drop k)).2 + (k - 2))) (fun _ i => s.size - (intOf i).toNat)
  case atStart => exact ⟨2, 0, Nat.le_refl _, by omega, by omega, by omega, rfl, rfl, by simp⟩
  case round =>
    obtain ⟨k, m, hk1, hk, hm0, hm1, rfl, rfl, hrel⟩ := hrel
    have HG := Lib.hid hrel
    clear hrel
    by_cases hgo : ∃ h : k < s.size, ¬ dg 10 s[k] < 0
    · obtain ⟨hlt, hd⟩ := hgo
      have HS := Lib.hid (num_step HG.out hk1 hlt hd)
      have hdb := dg_bd 10 s[k]
      obtain ⟨hd1, hd2⟩ := hdb
      have hd3 : 0 ≤ dg 10 s[k] := by omega
      have hc := s[k].toNat_lt
      by_cases hbig : m * 10 + dg 10 s[k] ≤ 1114112
      · have HM : Hid (min (m * 10 + dg 10 s[k]) 1114112 = m * 10 + dg 10 s[k]) := Lib.hid (Int.min_eq_left hbig)
        go_wp2_with (go_at_call 80; refine (dg_any _ _ _ (by omega) (by omega)).mono ?_; rintro e w2 ⟨rfl, rfl⟩)
        go_round
        case rel => exact ⟨k + 1, m * 10 + dg 10 s[k], by omega, by omega, by omega, by omega, by go_num, by go_num, by rw [← HM.out]; exact HS.out⟩
        case measure => simp [intOf]; omega
      · have HM : Hid (min (m * 10 + dg 10 s[k]) 1114112 = 1114112) := Lib.hid (Int.min_eq_right (by omega))
        go_wp2_with (go_at_call 80; refine (dg_any _ _ _ (by omega) (by omega)).mono ?_; rintro e w2 ⟨rfl, rfl⟩)
        go_round
        case rel => exact ⟨k + 1, 1114112, by omega, by omega, by omega, by omega, by go_num, by go_num, by rw [← HM.out]; exact HS.out⟩
        case measure => simp [intOf]; omega
    · have HE : Hid (numG 10 0 (s.data.toList.drop 2) = (m, k - 2)) := Lib.hid (by
        by_cases h : k < s.size
        · exact num_stop HG.out h (by
            by_cases h3 : dg 10 s[k] < 0
            · exact h3
            · exact absurd ⟨h, h3⟩ hgo)
        · exact num_end HG.out (by rw [size_list]; omega))
      have HD : Hid (∀ h : k < s.size, dg 10 s[k] = -1) := Lib.hid (fun h => by
        have := dg_bd 10 s[k]
        by_cases h3 : dg 10 s[k] < 0
        · omega
        · exact absurd ⟨h, h3⟩ hgo)
      clear hgo
      by_cases hlt : k < s.size
      · have hc := s[k].toNat_lt
        have hdm := HD.out hlt
        have HDG := Lib.hid (dg_any 10 s[k] w (by omega) (by omega))
        rw [hdm] at HDG
        clear hdm
        by_cases hkf : k = 2
        · have HF := Lib.hid (HR.out.trans (num_none HE.out hkf))
          have f1 : ((k : Int) == 2) = true := by subst hkf; rfl
          clear hkf
          go_wp2_with (go_at_call 80; refine HDG.out.mono ?_; rintro e w2 ⟨rfl, rfl⟩)
          go_ret2
          exact ⟨ret_none HF.out, Below.refl _ _⟩
        · have f1 : ((k : Int) == 2) = false := by
            rw [beq_eq_false_iff_ne]; omega
          have hkf' : 2 < k := by omega
          clear hkf
          by_cases h9 : s[k] = 59
          · have HF := Lib.hid (HR.out.trans (num_semi HE.out hkf' (by rw [get_at s k hlt, h9])))
            obtain ⟨q1, q2⟩ := byte_yes 59 rfl h9
            clear h9
            go_wp2_with (first | (go_at_call 80; refine HDG.out.mono ?_; rintro e w2 ⟨rfl, rfl⟩) | (go_at_call 81; refine (HN.out _ (by omega) (by omega)).mono ?_; rintro e w2 ⟨rfl, rfl⟩))
            go_ret2
            exact ⟨ret_ref (by rw [HF.out]) (by rw [HF.out]; go_num), Below.refl _ _⟩
          · have HF := Lib.hid (HR.out.trans (num_bare HE.out hkf' (by rw [get_at s k hlt]; simpa using h9)))
            obtain ⟨q1, q2⟩ := byte_no 59 rfl h9
            clear h9
            go_wp2_with (first | (go_at_call 80; refine HDG.out.mono ?_; rintro e w2 ⟨rfl, rfl⟩) | (go_at_call 81; refine (HN.out _ (by omega) (by omega)).mono ?_; rintro e w2 ⟨rfl, rfl⟩))
            go_ret2
            exact ⟨ret_ref (by rw [HF.out]) (by rw [HF.out]), Below.refl _ _⟩
      · have hke : k = s.size := by omega
        by_cases hkf : k = 2
        · have HF := Lib.hid (HR.out.trans (num_none HE.out hkf))
          have f1 : ((k : Int) == 2) = true := by subst hkf; rfl
          clear hkf hke
          go_wp2
          go_ret2
          exact ⟨ret_none HF.out, Below.refl _ _⟩
        · have f1 : ((k : Int) == 2) = false := by
            rw [beq_eq_false_iff_ne]; omega
          have hkf' : 2 < k := by omega
          have HF := Lib.hid (HR.out.trans (num_bare HE.out hkf' (by rw [List.getElem?_eq_none (by rw [size_list]; omega)]; simp)))
          clear hkf hke
          go_wp2_with (go_at_call 81; refine (HN.out _ (by omega) (by omega)).mono ?_; rintro e w2 ⟨rfl, rfl⟩)
          go_ret2
          exact ⟨ret_ref (by rw [HF.out]) (by rw [HF.out]), Below.refl _ _⟩

set_option maxHeartbeats 3200000 in
theorem numberx_any (s : ByteArray) (w : World) (hT : StAt w) (h0 : 2 ≤ s.size) (hs : s.size ≤ 1000000) (h2 : 2 < s.size) (hx : s[2] = 120) :
    Calls Tryd.prog 72 #[.string s] w (RefPost (rdNum s.data.toList) w) := by
  have HR := Lib.hid (rd_hex h2 (.inl hx) : rdNum s.data.toList = rdNumB 16 3 s.data.toList)
  obtain ⟨e1, e2⟩ := byte_yes 120 rfl hx
  have HN : Hid (∀ (n : Int), -9223372036854775808 ≤ n → n ≤ 9223372036854775807 → Calls Tryd.prog 81 #[.int .i64 n] w fun e w2 => e = .returned (.string (numS n)) ∧ w = w2) := Lib.hid (fun n h1 h2 => numbered_any n w hT h1 h2)
  clear hT
  go_enter Tryd.func72, Tryd.ntmps72
  go_wp2
  go_loop [6, 7] (fun n i => ∃ (k : Nat) (m : Int), 3 ≤ k ∧ k ≤ s.size ∧ 0 ≤ m ∧ m ≤ 1114112 ∧ i = .int .i64 k ∧ n = .int .i64 m ∧ numG 16 0 (s.data.toList.drop 3) = ((numG 16 m (s.data.toList.drop k)).1, (numG 16 m (s.data.toList.drop k)).2 + (k - 3))) (fun _ i => s.size - (intOf i).toNat)
  case atStart => exact ⟨3, 0, Nat.le_refl _, by omega, by omega, by omega, rfl, rfl, by simp⟩
  case round =>
    obtain ⟨k, m, hk1, hk, hm0, hm1, rfl, rfl, hrel⟩ := hrel
    have HG := Lib.hid hrel
    clear hrel
    by_cases hgo : ∃ h : k < s.size, ¬ dg 16 s[k] < 0
    · obtain ⟨hlt, hd⟩ := hgo
      have HS := Lib.hid (num_step HG.out hk1 hlt hd)
      have hdb := dg_bd 16 s[k]
      obtain ⟨hd1, hd2⟩ := hdb
      have hd3 : 0 ≤ dg 16 s[k] := by omega
      have hc := s[k].toNat_lt
      by_cases hbig : m * 16 + dg 16 s[k] ≤ 1114112
      · have HM : Hid (min (m * 16 + dg 16 s[k]) 1114112 = m * 16 + dg 16 s[k]) := Lib.hid (Int.min_eq_left hbig)
        go_wp2_with (go_at_call 80; refine (dg_any _ _ _ (by omega) (by omega)).mono ?_; rintro e w2 ⟨rfl, rfl⟩)
        go_round
        case rel => exact ⟨k + 1, m * 16 + dg 16 s[k], by omega, by omega, by omega, by omega, by go_num, by go_num, by rw [← HM.out]; exact HS.out⟩
        case measure => simp [intOf]; omega
      · have HM : Hid (min (m * 16 + dg 16 s[k]) 1114112 = 1114112) := Lib.hid (Int.min_eq_right (by omega))
        go_wp2_with (go_at_call 80; refine (dg_any _ _ _ (by omega) (by omega)).mono ?_; rintro e w2 ⟨rfl, rfl⟩)
        go_round
        case rel => exact ⟨k + 1, 1114112, by omega, by omega, by omega, by omega, by go_num, by go_num, by rw [← HM.out]; exact HS.out⟩
        case measure => simp [intOf]; omega
    · have HE : Hid (numG 16 0 (s.data.toList.drop 3) = (m, k - 3)) := Lib.hid (by
        by_cases h : k < s.size
        · exact num_stop HG.out h (by
            by_cases h3 : dg 16 s[k] < 0
            · exact h3
            · exact absurd ⟨h, h3⟩ hgo)
        · exact num_end HG.out (by rw [size_list]; omega))
      have HD : Hid (∀ h : k < s.size, dg 16 s[k] = -1) := Lib.hid (fun h => by
        have := dg_bd 16 s[k]
        by_cases h3 : dg 16 s[k] < 0
        · omega
        · exact absurd ⟨h, h3⟩ hgo)
      clear hgo
      by_cases hlt : k < s.size
      · have hc := s[k].toNat_lt
        have hdm := HD.out hlt
        have HDG := Lib.hid (dg_any 16 s[k] w (by omega) (by omega))
        rw [hdm] at HDG
        clear hdm
        by_cases hkf : k = 3
        · have HF := Lib.hid (HR.out.trans (num_none HE.out hkf))
          have f1 : ((k : Int) == 3) = true := by subst hkf; rfl
          clear hkf
          go_wp2_with (go_at_call 80; refine HDG.out.mono ?_; rintro e w2 ⟨rfl, rfl⟩)
          go_ret2
          exact ⟨ret_none HF.out, Below.refl _ _⟩
        · have f1 : ((k : Int) == 3) = false := by
            rw [beq_eq_false_iff_ne]; omega
          have hkf' : 3 < k := by omega
          clear hkf
          by_cases h9 : s[k] = 59
          · have HF := Lib.hid (HR.out.trans (num_semi HE.out hkf' (by rw [get_at s k hlt, h9])))
            obtain ⟨q1, q2⟩ := byte_yes 59 rfl h9
            clear h9
            go_wp2_with (first | (go_at_call 80; refine HDG.out.mono ?_; rintro e w2 ⟨rfl, rfl⟩) | (go_at_call 81; refine (HN.out _ (by omega) (by omega)).mono ?_; rintro e w2 ⟨rfl, rfl⟩))
            go_ret2
            exact ⟨ret_ref (by rw [HF.out]) (by rw [HF.out]; go_num), Below.refl _ _⟩
          · have HF := Lib.hid (HR.out.trans (num_bare HE.out hkf' (by rw [get_at s k hlt]; simpa using h9)))
            obtain ⟨q1, q2⟩ := byte_no 59 rfl h9
            clear h9
            go_wp2_with (first | (go_at_call 80; refine HDG.out.mono ?_; rintro e w2 ⟨rfl, rfl⟩) | (go_at_call 81; refine (HN.out _ (by omega) (by omega)).mono ?_; rintro e w2 ⟨rfl, rfl⟩))
            go_ret2
            exact ⟨ret_ref (by rw [HF.out]) (by rw [HF.out]), Below.refl _ _⟩
      · have hke : k = s.size := by omega
        by_cases hkf : k = 3
        · have HF := Lib.hid (HR.out.trans (num_none HE.out hkf))
          have f1 : ((k : Int) == 3) = true := by subst hkf; rfl
          clear hkf hke
          go_wp2
          go_ret2
          exact ⟨ret_none HF.out, Below.refl _ _⟩
        · have f1 : ((k : Int) == 3) = false := by
            rw [beq_eq_false_iff_ne]; omega
          have hkf' : 3 < k := by omega
          have HF := Lib.hid (HR.out.trans (num_bare HE.out hkf' (by rw [List.getElem?_eq_none (by rw [size_list]; omega)]; simp)))
          clear hkf hke
          go_wp2_with (go_at_call 81; refine (HN.out _ (by omega) (by omega)).mono ?_; rintro e w2 ⟨rfl, rfl⟩)
          go_ret2
          exact ⟨ret_ref (by rw [HF.out]) (by rw [HF.out]), Below.refl _ _⟩

set_option maxHeartbeats 3200000 in
theorem numberX_any (s : ByteArray) (w : World) (hT : StAt w) (h0 : 2 ≤ s.size) (hs : s.size ≤ 1000000) (h2 : 2 < s.size) (hx : s[2] ≠ 120) (hX : s[2] = 88) :
    Calls Tryd.prog 72 #[.string s] w (RefPost (rdNum s.data.toList) w) := by
  have HR := Lib.hid (rd_hex h2 (.inr hX) : rdNum s.data.toList = rdNumB 16 3 s.data.toList)
  obtain ⟨e1, e2⟩ := byte_no 120 rfl hx
  obtain ⟨e3, e4⟩ := byte_yes 88 rfl hX
  have HN : Hid (∀ (n : Int), -9223372036854775808 ≤ n → n ≤ 9223372036854775807 → Calls Tryd.prog 81 #[.int .i64 n] w fun e w2 => e = .returned (.string (numS n)) ∧ w = w2) := Lib.hid (fun n h1 h2 => numbered_any n w hT h1 h2)
  clear hT
  go_enter Tryd.func72, Tryd.ntmps72
  go_wp2
  go_loop [6, 7] (fun n i => ∃ (k : Nat) (m : Int), 3 ≤ k ∧ k ≤ s.size ∧ 0 ≤ m ∧ m ≤ 1114112 ∧ i = .int .i64 k ∧ n = .int .i64 m ∧ numG 16 0 (s.data.toList.drop 3) = ((numG 16 m (s.data.toList.drop k)).1, (numG 16 m (s.data.toList.drop k)).2 + (k - 3))) (fun _ i => s.size - (intOf i).toNat)
  case atStart => exact ⟨3, 0, Nat.le_refl _, by omega, by omega, by omega, rfl, rfl, by simp⟩
  case round =>
    obtain ⟨k, m, hk1, hk, hm0, hm1, rfl, rfl, hrel⟩ := hrel
    have HG := Lib.hid hrel
    clear hrel
    by_cases hgo : ∃ h : k < s.size, ¬ dg 16 s[k] < 0
    · obtain ⟨hlt, hd⟩ := hgo
      have HS := Lib.hid (num_step HG.out hk1 hlt hd)
      have hdb := dg_bd 16 s[k]
      obtain ⟨hd1, hd2⟩ := hdb
      have hd3 : 0 ≤ dg 16 s[k] := by omega
      have hc := s[k].toNat_lt
      by_cases hbig : m * 16 + dg 16 s[k] ≤ 1114112
      · have HM : Hid (min (m * 16 + dg 16 s[k]) 1114112 = m * 16 + dg 16 s[k]) := Lib.hid (Int.min_eq_left hbig)
        go_wp2_with (go_at_call 80; refine (dg_any _ _ _ (by omega) (by omega)).mono ?_; rintro e w2 ⟨rfl, rfl⟩)
        go_round
        case rel => exact ⟨k + 1, m * 16 + dg 16 s[k], by omega, by omega, by omega, by omega, by go_num, by go_num, by rw [← HM.out]; exact HS.out⟩
        case measure => simp [intOf]; omega
      · have HM : Hid (min (m * 16 + dg 16 s[k]) 1114112 = 1114112) := Lib.hid (Int.min_eq_right (by omega))
        go_wp2_with (go_at_call 80; refine (dg_any _ _ _ (by omega) (by omega)).mono ?_; rintro e w2 ⟨rfl, rfl⟩)
        go_round
        case rel => exact ⟨k + 1, 1114112, by omega, by omega, by omega, by omega, by go_num, by go_num, by rw [← HM.out]; exact HS.out⟩
        case measure => simp [intOf]; omega
    · have HE : Hid (numG 16 0 (s.data.toList.drop 3) = (m, k - 3)) := Lib.hid (by
        by_cases h : k < s.size
        · exact num_stop HG.out h (by
            by_cases h3 : dg 16 s[k] < 0
            · exact h3
            · exact absurd ⟨h, h3⟩ hgo)
        · exact num_end HG.out (by rw [size_list]; omega))
      have HD : Hid (∀ h : k < s.size, dg 16 s[k] = -1) := Lib.hid (fun h => by
        have := dg_bd 16 s[k]
        by_cases h3 : dg 16 s[k] < 0
        · omega
        · exact absurd ⟨h, h3⟩ hgo)
      clear hgo
      by_cases hlt : k < s.size
      · have hc := s[k].toNat_lt
        have hdm := HD.out hlt
        have HDG := Lib.hid (dg_any 16 s[k] w (by omega) (by omega))
        rw [hdm] at HDG
        clear hdm
        by_cases hkf : k = 3
        · have HF := Lib.hid (HR.out.trans (num_none HE.out hkf))
          have f1 : ((k : Int) == 3) = true := by subst hkf; rfl
          clear hkf
          go_wp2_with (go_at_call 80; refine HDG.out.mono ?_; rintro e w2 ⟨rfl, rfl⟩)
          go_ret2
          exact ⟨ret_none HF.out, Below.refl _ _⟩
        · have f1 : ((k : Int) == 3) = false := by
            rw [beq_eq_false_iff_ne]; omega
          have hkf' : 3 < k := by omega
          clear hkf
          by_cases h9 : s[k] = 59
          · have HF := Lib.hid (HR.out.trans (num_semi HE.out hkf' (by rw [get_at s k hlt, h9])))
            obtain ⟨q1, q2⟩ := byte_yes 59 rfl h9
            clear h9
            go_wp2_with (first | (go_at_call 80; refine HDG.out.mono ?_; rintro e w2 ⟨rfl, rfl⟩) | (go_at_call 81; refine (HN.out _ (by omega) (by omega)).mono ?_; rintro e w2 ⟨rfl, rfl⟩))
            go_ret2
            exact ⟨ret_ref (by rw [HF.out]) (by rw [HF.out]; go_num), Below.refl _ _⟩
          · have HF := Lib.hid (HR.out.trans (num_bare HE.out hkf' (by rw [get_at s k hlt]; simpa using h9)))
            obtain ⟨q1, q2⟩ := byte_no 59 rfl h9
            clear h9
            go_wp2_with (first | (go_at_call 80; refine HDG.out.mono ?_; rintro e w2 ⟨rfl, rfl⟩) | (go_at_call 81; refine (HN.out _ (by omega) (by omega)).mono ?_; rintro e w2 ⟨rfl, rfl⟩))
            go_ret2
            exact ⟨ret_ref (by rw [HF.out]) (by rw [HF.out]), Below.refl _ _⟩
      · have hke : k = s.size := by omega
        by_cases hkf : k = 3
        · have HF := Lib.hid (HR.out.trans (num_none HE.out hkf))
          have f1 : ((k : Int) == 3) = true := by subst hkf; rfl
          clear hkf hke
          go_wp2
          go_ret2
          exact ⟨ret_none HF.out, Below.refl _ _⟩
        · have f1 : ((k : Int) == 3) = false := by
            rw [beq_eq_false_iff_ne]; omega
          have hkf' : 3 < k := by omega
          have HF := Lib.hid (HR.out.trans (num_bare HE.out hkf' (by rw [List.getElem?_eq_none (by rw [size_list]; omega)]; simp)))
          clear hkf hke
          go_wp2_with (go_at_call 81; refine (HN.out _ (by omega) (by omega)).mono ?_; rintro e w2 ⟨rfl, rfl⟩)
          go_ret2
          exact ⟨ret_ref (by rw [HF.out]) (by rw [HF.out]), Below.refl _ _⟩

theorem number_any (s : ByteArray) (w : World) (hT : StAt w) (h0 : 2 ≤ s.size) (hs : s.size ≤ 1000000) :
    Calls Tryd.prog 72 #[.string s] w (RefPost (rdNum s.data.toList) w) := by
  by_cases h2 : s.size ≤ 2
  · exact numberS_any s w hT h0 hs h2
  · by_cases hx : (s[2]'(by omega)) = 120
    · exact numberx_any s w hT h0 hs (by omega) hx
    · by_cases hX : (s[2]'(by omega)) = 88
      · exact numberX_any s w hT h0 hs (by omega) hx hX
      · exact numberD_any s w hT h0 hs (by omega) hx hX
end Go.Proofs.YtkfaenhidjekdaaDoor.C
