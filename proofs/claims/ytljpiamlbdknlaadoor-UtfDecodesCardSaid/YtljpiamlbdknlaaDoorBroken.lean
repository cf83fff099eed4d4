/-
  The walk of 'broken': how many bytes begin a character's bytes, where no whole character stands.
-/
import Derived.Test.YtljpiamlbdknlaaDoorFull
namespace Go.Proofs.YtljpiamlbdknlaaDoor
open Go.RowKit Go.Lib

set_option maxHeartbeats 1000000 in
theorem full_none (t : ByteArray) (w : World) (hT : Tabs w) (h2 : 2 ≤ t.size) (hs : t.size ≤ maxLen) (hx : firstT (t[0]'(by omega)).toNat = 241) :
    Calls Tryd.prog 41 #[.string t] w fun e w' => e = .returned (.bool true) ∧ Below w.heap.size w w' := by
  unfold maxLen at hs
  have hc := (t[0]'(by omega)).toNat_lt
  have hcell := hT.1 _ hc
  rw [hx] at hcell
  clear hT hx
  go_enter Tryd.func41, Tryd.ntmps41
  go_wp2
  go_ret
  exact ⟨rfl, Below.refl _ _⟩

theorem size_list (s : ByteArray) : s.data.toList.length = s.size := by simp
theorem sAt (s : ByteArray) (j : Nat) (h : j < s.size) : (s[j]'h).toNat = at0 s.data.toList j := by
  unfold at0
  rw [List.getD_eq_getElem?_getD, List.getElem?_eq_getElem (by simpa using h)]; rfl
theorem tAt (s : ByteArray) (k j : Nat) (hk : k ≤ s.size) (hj : j < (s.extract 0 k).size) : ((s.extract 0 k)[j]'hj).toNat = at0 s.data.toList j := by
  have hz : (s.extract 0 k).size = k := by rw [ByteArray.size_extract]; omega
  rw [← sAt s j (by omega)]
  have : (s.extract 0 k)[j]'hj = s[0 + j]'(by omega) := ByteArray.getElem_extract hj
  rw [this]; congr 1
  simp only [Nat.zero_add]
theorem one_of (s : ByteArray) (h : 0 < s.size) : oneL s.data.toList = oneN s.size (at0 s.data.toList 0) (at0 s.data.toList 1) (at0 s.data.toList 2) (at0 s.data.toList 3) := by
  cases hl : s.data.toList with
  | nil => have := size_list s; rw [hl] at this; simp at this; omega
  | cons c r =>
    have hz := size_list s
    rw [hl] at hz
    rw [oneL_N, ← hz, List.length_cons]
    rfl

theorem full_core (t : ByteArray) (w : World) (hT : Tabs w) (k n c b1 b2 b3 : Nat) (hz : t.size = k) (h2 : 2 ≤ k) (hk : k ≤ n) (hsz : t.size ≤ maxLen)
    (t0 : ∀ h : 0 < t.size, (t[0]'h).toNat = c) (t1 : ∀ h : 1 < t.size, (t[1]'h).toNat = b1) (t2 : ∀ h : 2 < t.size, (t[2]'h).toNat = b2) (hc : 128 ≤ c)
    (hbad : (oneN n c b1 b2 b3).2 = false) (hj : k ≤ (oneN n c b1 b2 b3).1 + 1) (R : Bool) (hR : R = decide ((oneN n c b1 b2 b3).1 < k)) :
    Calls Tryd.prog 41 #[.string t] w fun e w' => e = .returned (.bool R) ∧ Below w.heap.size w w' := by
  have hn : 1 < n := by omega
  unfold oneN at hbad hj hR
  have n1 : ¬ c < 128 := by omega
  rw [if_neg n1] at hbad hj hR
  rcases lead c with h | ⟨h, hm, hf, hcc⟩ | ⟨h, h3, hm, hl, hh, hf⟩ | ⟨h, h3, hm, hl⟩ | ⟨h, h3, hm, hl⟩
  · omega
  · rw [if_pos hm] at hj hR
    have : k = 2 := by simp at hj; omega
    subst this
    obtain rfl : R = true := by rw [hR]; rfl
    exact full_none t w hT (by omega) hsz (by rw [t0 (by omega)]; exact hf)
  · have n2 : ¬ moreOf c = 0 := by omega
    rw [if_neg n2] at hbad hj hR
    by_cases hq : 1 < n ∧ loOf c ≤ b1 ∧ b1 ≤ hiOf c
    · rw [if_pos hq, if_pos hm] at hbad; cases hbad
    · rw [if_neg hq] at hj hR
      have : k = 2 := by simp at hj; omega
      subst this
      obtain rfl : R = true := by rw [hR]; rfl
      exact full_two t w hT (by omega) hsz (by rw [t0 (by omega)]; exact hf)
  · have n2 : ¬ moreOf c = 0 := by omega
    have n3 : ¬ moreOf c = 1 := by omega
    rw [if_neg n2, if_neg n3] at hbad hj hR
    by_cases hq : 1 < n ∧ loOf c ≤ b1 ∧ b1 ≤ hiOf c
    · rw [if_pos hq] at hbad hj hR
      by_cases hq2 : 2 < n ∧ 128 ≤ b2 ∧ b2 ≤ 191
      · rw [if_pos hq2, if_pos hm] at hbad; cases hbad
      · rw [if_neg hq2] at hj hR
        have hk3 : k = 2 ∨ k = 3 := by simp at hj; omega
        rcases hk3 with rfl | rfl
        · obtain rfl : R = false := by rw [hR]; rfl
          have hR' : false = decide (∃ h : 2 < t.size, (t[2]'h).toNat < 128 ∨ 191 < (t[2]'h).toNat) := (decide_eq_false (by rintro ⟨q, _⟩; omega)).symm
          rcases hl with ⟨_, l1, l2, l3⟩ | ⟨_, l1, l2, l3⟩ | ⟨_, _, l1, l2, l3⟩
          · exact full_in_19 t w hT (by omega) (by omega) (by rw [t0 (by omega)]; exact l3) (by rw [t1 (by omega), ← l1, ← l2]; exact hq.2) _ hR'
          · exact full_in_35 t w hT (by omega) (by omega) (by rw [t0 (by omega)]; exact l3) (by rw [t1 (by omega), ← l1, ← l2]; exact hq.2) _ hR'
          · exact full_in_3 t w hT (by omega) (by omega) (by rw [t0 (by omega)]; exact l3) (by rw [t1 (by omega), ← l1, ← l2]; exact hq.2) _ hR'
        · obtain rfl : R = true := by rw [hR]; rfl
          rcases hl with ⟨_, _, _, l3⟩ | ⟨_, _, _, l3⟩ | ⟨_, _, _, _, l3⟩
          · exact full_enough t w hT 19 1 160 191 3 (.inl ⟨rfl, rfl, rfl, rfl, rfl⟩) (by omega) (by omega) hsz (by rw [t0 (by omega)]; exact l3)
          · exact full_enough t w hT 35 2 128 159 3 (.inr (.inl ⟨rfl, rfl, rfl, rfl, rfl⟩)) (by omega) (by omega) hsz (by rw [t0 (by omega)]; exact l3)
          · exact full_enough t w hT 3 0 128 191 3 (.inr (.inr (.inl ⟨rfl, rfl, rfl, rfl, rfl⟩))) (by omega) (by omega) hsz (by rw [t0 (by omega)]; exact l3)
    · rw [if_neg hq] at hj hR
      have : k = 2 := by simp at hj; omega
      subst this
      obtain rfl : R = true := by rw [hR]; rfl
      have hq' : b1 < loOf c ∨ hiOf c < b1 := by omega
      rcases hl with ⟨_, l1, l2, l3⟩ | ⟨_, l1, l2, l3⟩ | ⟨_, _, l1, l2, l3⟩
      · exact full_out_19 t w hT (by omega) (by omega) (by rw [t0 (by omega)]; exact l3) (by rw [t1 (by omega), ← l1, ← l2]; exact hq')
      · exact full_out_35 t w hT (by omega) (by omega) (by rw [t0 (by omega)]; exact l3) (by rw [t1 (by omega), ← l1, ← l2]; exact hq')
      · exact full_out_3 t w hT (by omega) (by omega) (by rw [t0 (by omega)]; exact l3) (by rw [t1 (by omega), ← l1, ← l2]; exact hq')
  · have n2 : ¬ moreOf c = 0 := by omega
    have n3 : ¬ moreOf c = 1 := by omega
    have n4 : ¬ moreOf c = 2 := by omega
    rw [if_neg n2, if_neg n3, if_neg n4] at hbad hj hR
    by_cases hq : 1 < n ∧ loOf c ≤ b1 ∧ b1 ≤ hiOf c
    · rw [if_pos hq] at hbad hj hR
      by_cases hq2 : 2 < n ∧ 128 ≤ b2 ∧ b2 ≤ 191
      · rw [if_pos hq2] at hbad hj hR
        by_cases hq3 : 3 < n ∧ 128 ≤ b3 ∧ b3 ≤ 191
        · rw [if_pos hq3] at hbad; cases hbad
        · rw [if_neg hq3] at hj hR
          have hk3 : k = 2 ∨ k = 3 ∨ k = 4 := by simp at hj; omega
          rcases hk3 with rfl | rfl | rfl
          · obtain rfl : R = false := by rw [hR]; rfl
            have hR' : false = decide (∃ h : 2 < t.size, (t[2]'h).toNat < 128 ∨ 191 < (t[2]'h).toNat) := (decide_eq_false (by rintro ⟨q, _⟩; omega)).symm
            rcases hl with ⟨_, l1, l2, l3⟩ | ⟨_, l1, l2, l3⟩ | ⟨_, _, l1, l2, l3⟩
            · exact full_in_52 t w hT (by omega) (by omega) (by rw [t0 (by omega)]; exact l3) (by rw [t1 (by omega), ← l1, ← l2]; exact hq.2) _ hR'
            · exact full_in_68 t w hT (by omega) (by omega) (by rw [t0 (by omega)]; exact l3) (by rw [t1 (by omega), ← l1, ← l2]; exact hq.2) _ hR'
            · exact full_in_4 t w hT (by omega) (by omega) (by rw [t0 (by omega)]; exact l3) (by rw [t1 (by omega), ← l1, ← l2]; exact hq.2) _ hR'
          · obtain rfl : R = false := by rw [hR]; rfl
            have hR' : false = decide (∃ h : 2 < t.size, (t[2]'h).toNat < 128 ∨ 191 < (t[2]'h).toNat) := (decide_eq_false (by rintro ⟨q, q2⟩; rw [t2 q] at q2; omega)).symm
            rcases hl with ⟨_, l1, l2, l3⟩ | ⟨_, l1, l2, l3⟩ | ⟨_, _, l1, l2, l3⟩
            · exact full_in_52 t w hT (by omega) (by omega) (by rw [t0 (by omega)]; exact l3) (by rw [t1 (by omega), ← l1, ← l2]; exact hq.2) _ hR'
            · exact full_in_68 t w hT (by omega) (by omega) (by rw [t0 (by omega)]; exact l3) (by rw [t1 (by omega), ← l1, ← l2]; exact hq.2) _ hR'
            · exact full_in_4 t w hT (by omega) (by omega) (by rw [t0 (by omega)]; exact l3) (by rw [t1 (by omega), ← l1, ← l2]; exact hq.2) _ hR'
          · obtain rfl : R = true := by rw [hR]; rfl
            rcases hl with ⟨_, _, _, l3⟩ | ⟨_, _, _, l3⟩ | ⟨_, _, _, _, l3⟩
            · exact full_enough t w hT 52 3 144 191 4 (.inr (.inr (.inr (.inl ⟨rfl, rfl, rfl, rfl, rfl⟩)))) (by omega) (by omega) hsz (by rw [t0 (by omega)]; exact l3)
            · exact full_enough t w hT 68 4 128 143 4 (.inr (.inr (.inr (.inr (.inl ⟨rfl, rfl, rfl, rfl, rfl⟩))))) (by omega) (by omega) hsz (by rw [t0 (by omega)]; exact l3)
            · exact full_enough t w hT 4 0 128 191 4 (.inr (.inr (.inr (.inr (.inr ⟨rfl, rfl, rfl, rfl, rfl⟩))))) (by omega) (by omega) hsz (by rw [t0 (by omega)]; exact l3)
      · rw [if_neg hq2] at hj hR
        have hk3 : k = 2 ∨ k = 3 := by simp at hj; omega
        rcases hk3 with rfl | rfl
        · obtain rfl : R = false := by rw [hR]; rfl
          have hR' : false = decide (∃ h : 2 < t.size, (t[2]'h).toNat < 128 ∨ 191 < (t[2]'h).toNat) := (decide_eq_false (by rintro ⟨q, _⟩; omega)).symm
          rcases hl with ⟨_, l1, l2, l3⟩ | ⟨_, l1, l2, l3⟩ | ⟨_, _, l1, l2, l3⟩
          · exact full_in_52 t w hT (by omega) (by omega) (by rw [t0 (by omega)]; exact l3) (by rw [t1 (by omega), ← l1, ← l2]; exact hq.2) _ hR'
          · exact full_in_68 t w hT (by omega) (by omega) (by rw [t0 (by omega)]; exact l3) (by rw [t1 (by omega), ← l1, ← l2]; exact hq.2) _ hR'
          · exact full_in_4 t w hT (by omega) (by omega) (by rw [t0 (by omega)]; exact l3) (by rw [t1 (by omega), ← l1, ← l2]; exact hq.2) _ hR'
        · obtain rfl : R = true := by rw [hR]; rfl
          have hR' : true = decide (∃ h : 2 < t.size, (t[2]'h).toNat < 128 ∨ 191 < (t[2]'h).toNat) := (decide_eq_true ⟨by omega, by rw [t2 (by omega)]; omega⟩).symm
          rcases hl with ⟨_, l1, l2, l3⟩ | ⟨_, l1, l2, l3⟩ | ⟨_, _, l1, l2, l3⟩
          · exact full_in_52 t w hT (by omega) (by omega) (by rw [t0 (by omega)]; exact l3) (by rw [t1 (by omega), ← l1, ← l2]; exact hq.2) _ hR'
          · exact full_in_68 t w hT (by omega) (by omega) (by rw [t0 (by omega)]; exact l3) (by rw [t1 (by omega), ← l1, ← l2]; exact hq.2) _ hR'
          · exact full_in_4 t w hT (by omega) (by omega) (by rw [t0 (by omega)]; exact l3) (by rw [t1 (by omega), ← l1, ← l2]; exact hq.2) _ hR'
    · rw [if_neg hq] at hj hR
      have : k = 2 := by simp at hj; omega
      subst this
      obtain rfl : R = true := by rw [hR]; rfl
      have hq' : b1 < loOf c ∨ hiOf c < b1 := by omega
      rcases hl with ⟨_, l1, l2, l3⟩ | ⟨_, l1, l2, l3⟩ | ⟨_, _, l1, l2, l3⟩
      · exact full_out_52 t w hT (by omega) (by omega) (by rw [t0 (by omega)]; exact l3) (by rw [t1 (by omega), ← l1, ← l2]; exact hq')
      · exact full_out_68 t w hT (by omega) (by omega) (by rw [t0 (by omega)]; exact l3) (by rw [t1 (by omega), ← l1, ← l2]; exact hq')
      · exact full_out_4 t w hT (by omega) (by omega) (by rw [t0 (by omega)]; exact l3) (by rw [t1 (by omega), ← l1, ← l2]; exact hq')

theorem full_pref (s : ByteArray) (w : World) (hT : Tabs w) (k : Nat) (h2 : 2 ≤ k) (hk : k ≤ s.size) (hs : s.size ≤ maxLen) (hc : 128 ≤ at0 s.data.toList 0)
    (hbad : (oneL s.data.toList).2 = false) (hj : k ≤ (oneL s.data.toList).1 + 1) (R : Bool) (hR : R = decide ((oneL s.data.toList).1 < k)) :
    Calls Tryd.prog 41 #[.string (s.extract 0 k)] w fun e w' => e = .returned (.bool R) ∧ Below w.heap.size w w' := by
  rw [one_of s (by omega)] at hbad hj hR
  have hz : (s.extract 0 k).size = k := by rw [ByteArray.size_extract]; omega
  exact full_core _ w hT k s.size _ _ _ _ hz h2 hk (by omega) (fun h => tAt s k 0 hk h) (fun h => tAt s k 1 hk h) (fun h => tAt s k 2 hk h) hc hbad hj R hR

set_option maxHeartbeats 1000000 in
theorem broken_any (s : ByteArray) (w : World) (hT : Tabs w) (h0 : 0 < s.size) (hs : s.size ≤ maxLen) (hbad : (oneL s.data.toList).2 = false) :
    Calls Tryd.prog 33 #[.string s] w fun e w' => e = .returned (.int .i64 ((oneL s.data.toList).1 : Nat)) ∧ Below w.heap.size w w' := by
  have hc : 128 ≤ at0 s.data.toList 0 := by
    rw [one_of s h0] at hbad
    unfold oneN at hbad
    split at hbad
    · cases hbad
    · omega
  have hJ1 := oneL_pos s.data.toList
  have hJ2 := oneL_le s.data.toList (by intro e; have := size_list s; rw [e] at this; simp at this; omega)
  rw [size_list] at hJ2
  have F := fun (W : World) (k : Nat) (hW : Tabs W) => full_pref s W hW k
  have HF : Hid (∀ (W : World) (k : Nat), Tabs W → 2 ≤ k → k ≤ s.size → k ≤ (oneL s.data.toList).1 + 1 → ∀ R : Bool, R = decide ((oneL s.data.toList).1 < k) → Calls Tryd.prog 41 #[.string (s.extract 0 k)] W fun e w' => e = .returned (.bool R) ∧ Below W.heap.size W w') :=
    Lib.hid (fun W k hW h2 hk hj R hR => F W k hW h2 hk hs hc hbad hj R hR)
  clear F hbad hc
  generalize (oneL s.data.toList).1 = J at *
  have HT := Lib.hid hT
  clear hT
  unfold maxLen at hs
  go_enter Tryd.func33, Tryd.ntmps33
  go_wp2
  go_loopw [3] (fun i wr => ∃ n : Nat, 1 ≤ n ∧ n ≤ J ∧ i = .int .i64 n ∧ Below w.heap.size w wr) (fun i _ => s.size - (intOf i).toNat)
  case atStart => exact ⟨1, Nat.le_refl _, hJ1, rfl, Below.refl _ _⟩
  case round =>
    obtain ⟨n, hn1, hnJ, rfl, hbel⟩ := hrel
    have HW : Hid (Tabs wr) := Lib.hid (tabs_below HT.out hbel (tabs_size HT.out))
    have HB := Lib.hid hbel
    clear hbel
    by_cases hlt : n < s.size
    · by_cases hnj : n < J
      · go_wp2_with (go_at_call 41; refine (HF.out wr (n + 1) HW.out (by omega) (by omega) (by omega) false (decide_eq_false (by omega)).symm).mono ?_; rintro e w1 ⟨rfl, hb1⟩; replace HB := Lib.hid (HB.out.trans (hb1.mono HB.out.size)); clear hb1)
        go_roundw
        case rel => exact ⟨n + 1, by omega, by omega, by go_num, HB.out⟩
        case measure => simp [intOf]; omega
      · obtain rfl : n = J := by omega
        go_wp2_with (go_at_call 41; refine (HF.out wr (n + 1) HW.out (by omega) (by omega) (by omega) true (decide_eq_true (by omega)).symm).mono ?_; rintro e w1 ⟨rfl, hb1⟩; replace HB := Lib.hid (HB.out.trans (hb1.mono HB.out.size)); clear hb1)
        go_ret
        exact ⟨rfl, HB.out⟩
    · obtain rfl : n = J := by omega
      go_wp2
      go_ret
      exact ⟨rfl, HB.out⟩
end Go.Proofs.YtljpiamlbdknlaaDoor
