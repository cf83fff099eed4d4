/-
  The walks of the document's own write, Text, Value.
-/
import Derived.Test.YtgnfianpjhhofaaETexts
namespace Go.Proofs.Ytgnfianpjhhofaa.E
open Go.RowKit Go.Proofs.Ytgnfianpjhhofaa.C

theorem byte_no {c : UInt8} (n : Nat) (h : c.toNat ≠ n) : ((c.toNat : Int) == (n : Int)) = false := by rw [beq_eq_false_iff_ne]; omega
theorem app_list (o t : ByteArray) : (o ++ t).data.toList = o.data.toList ++ t.data.toList := by rw [ByteArray.data_append, Array.toList_append]
theorem ref_sgn {q : Bool} {s o t : ByteArray} {k : Nat} (hk : k < s.size) (hh : esc q s.data.toList = o.data.toList ++ esc q (s.data.toList.drop k)) (h : sgn q s[k] = some t.data.toList) :
    esc q s.data.toList = (o ++ t).data.toList ++ esc q (s.data.toList.drop (k + 1)) := by rw [hh, drop_at s k hk, esc_sgn h, app_list, List.append_assoc]
theorem ref_keep {q : Bool} {s o : ByteArray} {k : Nat} (hk : k < s.size) (hh : esc q s.data.toList = o.data.toList ++ esc q (s.data.toList.drop k)) (h : sgn q s[k] = none) (hn : s[k].toNat ≠ 194 ∨ (s.data.toList.drop (k + 1)).head? ≠ some 160) :
    esc q s.data.toList = (o ++ s.extract k (k + 1)).data.toList ++ esc q (s.data.toList.drop (k + 1)) := by
  have e : (s.extract k (k + 1)).data.toList = [s[k]] := by
    rw [ext_list, List.drop_take, drop_at s k hk]; simp
  rw [hh, app_list, e, drop_at s k hk, esc_keep h (hn.imp (fun h e2 => h (by rw [e2]; rfl)) id), List.append_assoc]; rfl
theorem ref_nbsp {q : Bool} {s o : ByteArray} {k : Nat} (hk : k < s.size) (hk1 : k + 1 < s.size) (hh : esc q s.data.toList = o.data.toList ++ esc q (s.data.toList.drop k)) (h0 : s[k].toNat = 194) (h1 : s[k + 1].toNat = 160) :
    esc q s.data.toList = (o ++ ⟨#[38, 110, 98, 115, 112, 59]⟩).data.toList ++ esc q (s.data.toList.drop (k + 1 + 1)) := by
  have e0 : s[k] = 194 := UInt8.toNat_inj.1 h0
  have e1 : s[k + 1] = 160 := UInt8.toNat_inj.1 h1
  rw [hh, app_list, drop_at s k hk, drop_at s (k + 1) hk1, e0, e1, esc_nbsp, List.append_assoc]; rfl
theorem sgn_no {q : Bool} {c : UInt8} (h1 : c.toNat ≠ 38) (h2 : c.toNat ≠ 60) (h3 : c.toNat ≠ 62) (h4 : c.toNat ≠ 34 ∨ q = false) : sgn q c = none := by
  unfold sgn
  rw [if_neg (fun e => h1 (by rw [e]; rfl)), if_neg (fun e => h2 (by rw [e]; rfl)), if_neg (fun e => h3 (by rw [e]; rfl)), if_neg]
  rintro ⟨e1, e2⟩
  rcases h4 with h | h
  · exact h (by rw [e1]; rfl)
  · rw [e2] at h; cases h
theorem head_no {s : ByteArray} {k : Nat} (h1 : k + 1 < s.size) (h : s[k + 1].toNat ≠ 160) : (s.data.toList.drop (k + 1)).head? ≠ some 160 := by
  rw [drop_at s (k + 1) h1]
  intro e; apply h
  have e2 : s[k + 1] = 160 := by simpa using e
  rw [e2]; rfl
theorem ref_small {q : Bool} {s o : ByteArray} {k : Nat} (hh : esc q s.data.toList = o.data.toList ++ esc q (s.data.toList.drop k)) : o.size ≤ 6 * s.size := by
  have := congrArg List.length hh
  rw [List.length_append, size_list] at this
  have h2 := esc_len q s.data.toList
  rw [size_list] at h2
  omega

set_option maxHeartbeats 6400000 in
theorem rwrite_any (q : Bool) (s : ByteArray) (w : World) (hs : s.size ≤ 1000000) :
    Calls Try.prog 35 #[.string s, .bool q] w fun e w' => e = .returned (.string (escS q s)) ∧ w = w' := by
  go_enter Try.func35, Try.ntmps35
  go_wp2
  go_loop [5, 6] (fun t i => ∃ (k : Nat) (o : ByteArray), k ≤ s.size ∧ t = .string o ∧ i = .int .i64 k ∧ esc q s.data.toList = o.data.toList ++ esc q (s.data.toList.drop k)) (fun _ i => s.size - (intOf i).toNat)
  case atStart => exact ⟨0, ⟨#[]⟩, Nat.zero_le _, rfl, rfl, by simp⟩
  case round =>
    obtain ⟨k, o, hk, rfl, rfl, hh⟩ := hrel
    have hsm := ref_small hh
    by_cases hlt : k < s.size
    · have hc := s[k].toNat_lt
      have HS : Hid (∀ t : ByteArray, sgn q s[k] = some t.data.toList → esc q s.data.toList = (o ++ t).data.toList ++ esc q (s.data.toList.drop (k + 1))) := Lib.hid (fun t ht => ref_sgn hlt hh ht)
      have HK : Hid (sgn q s[k] = none → (s[k].toNat ≠ 194 ∨ (s.data.toList.drop (k + 1)).head? ≠ some 160) → esc q s.data.toList = (o ++ s.extract k (k + 1)).data.toList ++ esc q (s.data.toList.drop (k + 1))) := Lib.hid (fun h1 h2 => ref_keep hlt hh h1 h2)
      have HN : Hid (∀ h1 : k + 1 < s.size, s[k].toNat = 194 → s[k + 1].toNat = 160 → esc q s.data.toList = (o ++ ⟨#[38, 110, 98, 115, 112, 59]⟩).data.toList ++ esc q (s.data.toList.drop (k + 1 + 1))) := Lib.hid (fun h1 a b => ref_nbsp hlt h1 hh a b)
      have hext : (s.extract k (k + 1)).size = 1 := by rw [ByteArray.size_extract]; omega
      have HEX := Lib.hid hext
      clear hh hext
      by_cases e38 : s[k].toNat = 38
      · have e8 : s[k] = 38 := UInt8.toNat_inj.1 e38
        have HF := Lib.hid (HS.out ⟨#[38, 97, 109, 112, 59]⟩ (by rw [e8]; rfl))
        have t38 : ((s[k].toNat : Int) == 38) = true := by rw [e38]; rfl
        clear e8 e38 HS HK HN
        go_wp2
        go_round
        case rel => exact ⟨k + 1, _, by omega, rfl, by go_num, HF.out⟩
        case measure => simp [intOf]; omega
      have t38 : ((s[k].toNat : Int) == 38) = false := byte_no 38 e38
      by_cases e60 : s[k].toNat = 60
      · have e8 : s[k] = 60 := UInt8.toNat_inj.1 e60
        have HF := Lib.hid (HS.out ⟨#[38, 108, 116, 59]⟩ (by rw [e8]; rfl))
        have t60 : ((s[k].toNat : Int) == 60) = true := by rw [e60]; rfl
        clear e8 e60 HS HK HN
        go_wp2
        go_round
        case rel => exact ⟨k + 1, _, by omega, rfl, by go_num, HF.out⟩
        case measure => simp [intOf]; omega
      have t60 : ((s[k].toNat : Int) == 60) = false := byte_no 60 e60
      by_cases e62 : s[k].toNat = 62
      · have e8 : s[k] = 62 := UInt8.toNat_inj.1 e62
        have HF := Lib.hid (HS.out ⟨#[38, 103, 116, 59]⟩ (by rw [e8]; rfl))
        have t62 : ((s[k].toNat : Int) == 62) = true := by rw [e62]; rfl
        clear e8 e62 HS HK HN
        go_wp2
        go_round
        case rel => exact ⟨k + 1, _, by omega, rfl, by go_num, HF.out⟩
        case measure => simp [intOf]; omega
      have t62 : ((s[k].toNat : Int) == 62) = false := byte_no 62 e62
      by_cases e34 : s[k].toNat = 34
      · have t34 : ((s[k].toNat : Int) == 34) = true := by rw [e34]; rfl
        cases q with
        | true =>
          have e8 : s[k] = 34 := UInt8.toNat_inj.1 e34
          have HF := Lib.hid (HS.out ⟨#[38, 113, 117, 111, 116, 59]⟩ (by rw [e8]; rfl))
          have t34b : ((s[k].toNat : Int) == 34) = true := by rw [e34]; rfl
          clear e8 e34 HS HK HN
          go_wp2
          go_round
          case rel => exact ⟨k + 1, _, by omega, rfl, by go_num, HF.out⟩
          case measure => simp [intOf]; omega
        | false =>
          have t194 : ((s[k].toNat : Int) == 194) = false := byte_no 194 (by omega)
          have HF := Lib.hid (HK.out (sgn_no e38 e60 e62 (.inr rfl)) (.inl (by omega)))
          clear e34 e38 e60 e62
          clear HS HK HN
          have hx1 := HEX.out
          go_wp2
          go_round
          case rel => exact ⟨k + 1, _, by omega, rfl, by go_num, HF.out⟩
          case measure => simp [intOf]; omega
      · have t34 : ((s[k].toNat : Int) == 34) = false := byte_no 34 e34
        by_cases e194 : s[k].toNat = 194
        · have t194 : ((s[k].toNat : Int) == 194) = true := by rw [e194]; rfl
          by_cases h1 : k + 1 < s.size
          · have hc1 := s[k + 1].toNat_lt
            have hk1 : ((k : Int) + 1) < (s.size : Int) := by omega
            by_cases e160 : s[k + 1].toNat = 160
            · have HF := Lib.hid (HN.out h1 e194 e160)
              have t160 : ((s[k + 1].toNat : Int) == 160) = true := by rw [e160]; rfl
              clear HS HK HN e34 e194 e160 e38 e60 e62
              go_wp2
              go_round
              case rel => exact ⟨k + 1 + 1, _, by omega, rfl, by go_num, HF.out⟩
              case measure => simp [intOf]; omega
            · have t160 : ((s[k + 1].toNat : Int) == 160) = false := byte_no 160 e160
              have HF := Lib.hid (HK.out (sgn_no e38 e60 e62 (.inl e34)) (.inr (head_no h1 e160)))
              clear e34 e194 e160 e38 e60 e62
              clear HS HK HN
              have hx1 := HEX.out
              go_wp2
              go_round
              case rel => exact ⟨k + 1, _, by omega, rfl, by go_num, HF.out⟩
              case measure => simp [intOf]; omega
          · have hk1 : ¬ ((k : Int) + 1) < (s.size : Int) := by omega
            have HF := Lib.hid (HK.out (sgn_no e38 e60 e62 (.inl e34)) (.inr (by rw [List.drop_eq_nil_of_le (by rw [size_list]; omega)]; simp)))
            clear e34 e194 e38 e60 e62
            clear HS HK HN
            have hx1 := HEX.out
            go_wp2
            go_round
            case rel => exact ⟨k + 1, _, by omega, rfl, by go_num, HF.out⟩
            case measure => simp [intOf]; omega
        · have t194 : ((s[k].toNat : Int) == 194) = false := byte_no 194 e194
          have HF := Lib.hid (HK.out (sgn_no e38 e60 e62 (.inl e34)) (.inl e194))
          clear e34 e194 e38 e60 e62
          clear HS HK HN
          have hx1 := HEX.out
          go_wp2
          go_round
          case rel => exact ⟨k + 1, _, by omega, rfl, by go_num, HF.out⟩
          case measure => simp [intOf]; omega
    · obtain rfl : k = s.size := by omega
      have hfin : o = escS q s := by
        apply eq_of_list
        rw [escS_list, hh, List.drop_eq_nil_of_le (by rw [size_list]; exact Nat.le_refl _), esc_nil, List.append_nil]
      clear hh
      have HF := Lib.hid hfin
      clear hfin
      go_wp2
      go_ret
      exact ⟨by rw [← HF.out]; rfl, rfl⟩

theorem rtext_any (s : ByteArray) (w : World) (hs : s.size ≤ 1000000) :
    Calls Try.prog 8 #[.string s] w fun e w' => e = .returned (.string (escS false s)) ∧ w = w' := by
  go_enter Try.func8, Try.ntmps8
  go_wp2_with fail
  refine (rwrite_any false s w hs).mono ?_
  rintro e w' ⟨rfl, rfl⟩
  go_wp2
  go_ret
  exact ⟨rfl, rfl⟩

theorem rvalue_any (s : ByteArray) (w : World) (hs : s.size ≤ 1000000) :
    Calls Try.prog 10 #[.string s] w fun e w' => e = .returned (.string (escS true s)) ∧ w = w' := by
  go_enter Try.func10, Try.ntmps10
  go_wp2_with fail
  refine (rwrite_any true s w hs).mono ?_
  rintro e w' ⟨rfl, rfl⟩
  go_wp2
  go_ret
  exact ⟨rfl, rfl⟩
end Go.Proofs.Ytgnfianpjhhofaa.E
