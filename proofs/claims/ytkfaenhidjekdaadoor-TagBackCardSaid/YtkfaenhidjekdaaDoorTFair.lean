/-
  The walk of fair: may text be a name in small letters?
-/
import Derived.Test.YtkfaenhidjekdaaDoorTCloses
namespace Go.Proofs.YtkfaenhidjekdaaDoor.T
open Go.RowKit

def lcI (c : Int) : Bool := decide (97 ≤ c) && decide (c ≤ 122)
def fcI (c : Int) : Bool := lcI c || c == 45 || (decide (48 ≤ c) && decide (c ≤ 57))
def okI (first : Bool) (c : Int) : Bool := lcI c || (!first && fcI c)
def allF : Bool → List UInt8 → Bool
  | _, [] => true
  | f, c :: l => okI f (c.toNat : Int) && allF false l
def fairB (s : ByteArray) : Bool := allF true s.data.toList && !(s.size == 0) && decide (s.size ≤ 30)
theorem all_step (s : ByteArray) (k : Nat) (h : k < s.size) : allF (k == 0) (s.data.toList.drop k) = (okI (k == 0) (s[k].toNat : Int) && allF (k + 1 == 0) (s.data.toList.drop (k + 1))) := by
  have hl : k < s.data.toList.length := by rw [C.size_list]; exact h
  have e : s.data.toList[k] = s[k] := by
    have := C.get_at s k h
    rw [List.getElem?_eq_getElem hl] at this
    injection this
  rw [List.drop_eq_getElem_cons hl, allF, e]
  rfl
theorem fair_end {s : ByteArray} {k : Nat} (h : allF true s.data.toList = allF (k == 0) (s.data.toList.drop k)) (hk : s.size ≤ k) : fairB s = (!(s.size == 0) && decide (s.size ≤ 30)) := by
  unfold fairB
  rw [h, List.drop_eq_nil_of_le (by rw [C.size_list]; exact hk)]; rfl
theorem fair_no {s : ByteArray} {k : Nat} (h : allF true s.data.toList = allF (k == 0) (s.data.toList.drop k)) (hk : k < s.size) (hq : okI (k == 0) (s[k].toNat : Int) = false) : false = fairB s := by
  unfold fairB
  rw [h, all_step s k hk, hq]; rfl
theorem ok_low {f : Bool} {c : Int} (h1 : 97 ≤ c) (h2 : c ≤ 122) : okI f c = true := by simp [okI, lcI, h1, h2]
theorem ok_dash : okI false 45 = true := rfl
theorem ok_dig {c : Int} (h1 : 48 ≤ c) (h2 : c ≤ 57) : okI false c = true := by simp [okI, fcI, h1, h2]
theorem no_low {c : Int} (h : c < 97 ∨ 122 < c) : lcI c = false := by unfold lcI; rcases h with h | h <;> simp <;> omega
theorem ok_no {c : Int} (h : c < 97 ∨ 122 < c) (h1 : c ≠ 45) (h2 : c < 48 ∨ 57 < c) : okI false c = false := by
  unfold okI fcI
  rw [no_low h]
  rcases h2 with h2 | h2 <;> simp [h1] <;> omega
theorem ok_first {c : Int} (h : c < 97 ∨ 122 < c) : okI true c = false := by unfold okI; rw [no_low h]; rfl

set_option maxHeartbeats 3200000 in
theorem fair_any (s : ByteArray) (w : World) (hs : s.size ≤ maxLen) :
    Calls Tryd.prog 12 #[.string s] w fun e w' => e = .returned (.bool (fairB s)) ∧ w = w' := by
  unfold maxLen at hs
  go_enter Tryd.func12, Tryd.ntmps12
  go_wp2
  go_loop [3] (fun v => ∃ k : Nat, k ≤ s.size ∧ v = .int .i64 k ∧ allF true s.data.toList = allF (k == 0) (s.data.toList.drop k)) (fun v => s.size - (intOf v).toNat)
  case atStart => exact ⟨0, Nat.zero_le _, rfl, rfl⟩
  case round =>
    obtain ⟨k, hk, rfl, hh⟩ := hrel
    have HH := Lib.hid hh
    clear hh
    by_cases hlt : k < s.size
    · have hc := s[k].toNat_lt
      have HS := Lib.hid (all_step s k hlt)
      have HN := Lib.hid (fair_no HH.out hlt)
      obtain ⟨c, hce⟩ : ∃ c : Int, c = (s[k].toNat : Int) := ⟨_, rfl⟩
      by_cases hlo : (97 : Int) ≤ s[k].toNat ∧ (s[k].toNat : Int) ≤ 122
      · obtain ⟨l1, l2⟩ := hlo
        have HF : Hid (allF true s.data.toList = allF (k + 1 == 0) (s.data.toList.drop (k + 1))) := Lib.hid (by rw [HH.out, HS.out, ok_low l1 l2, Bool.true_and])
        have l3 : ¬ (s[k].toNat : Int) < 97 := by omega
        have l4 : ¬ (122 : Int) < s[k].toNat := by omega
        clear hce
        go_wp2
        go_round
        case rel => exact ⟨k + 1, by omega, by go_num, HF.out⟩
        case measure => simp [intOf]; omega
      · have hno : (s[k].toNat : Int) < 97 ∨ (122 : Int) < s[k].toNat := by omega
        clear hce hlo
        rcases Nat.eq_zero_or_pos k with hz | hz
        · have HF : Hid (false = fairB s) := Lib.hid (HN.out (by rw [show (k == 0) = true by simp [hz]]; exact ok_first hno))
          have hz1 : ((k : Int) == 0) = true := by simp [hz]
          clear hz
          rcases hno with hno | hno
          · go_wp2
            go_ret
            exact ⟨I.ret_bool HF.out, rfl⟩
          · have l3 : ¬ (s[k].toNat : Int) < 97 := by omega
            go_wp2
            go_ret
            exact ⟨I.ret_bool HF.out, rfl⟩
        · have hz1 : ((k : Int) == 0) = false := by simp; omega
          have hz2 : (k == 0) = false := by simp; omega
          rw [hz2] at HS HN
          have HZ := Lib.hid hz2
          clear hz2
          by_cases h45 : (s[k].toNat : Int) = 45
          · have HF : Hid (allF true s.data.toList = allF (k + 1 == 0) (s.data.toList.drop (k + 1))) := Lib.hid (by rw [HH.out, HZ.out, HS.out, h45, ok_dash, Bool.true_and])
            have l1 : (s[k].toNat : Int) < 97 := by omega
            have l2 : ((s[k].toNat : Int) != 45) = false := by rw [h45]; rfl
            clear h45 hno
            go_wp2
            go_round
            case rel => exact ⟨k + 1, by omega, by go_num, HF.out⟩
            case measure => simp [intOf]; omega
          · have l2 : ((s[k].toNat : Int) != 45) = true := by simpa using h45
            by_cases hd : (48 : Int) ≤ s[k].toNat ∧ (s[k].toNat : Int) ≤ 57
            · obtain ⟨d1, d2⟩ := hd
              have HF : Hid (allF true s.data.toList = allF (k + 1 == 0) (s.data.toList.drop (k + 1))) := Lib.hid (by rw [HH.out, HZ.out, HS.out, ok_dig d1 d2, Bool.true_and])
              have l1 : (s[k].toNat : Int) < 97 := by omega
              have d3 : ¬ (s[k].toNat : Int) < 48 := by omega
              have d4 : ¬ (57 : Int) < s[k].toNat := by omega
              clear h45 hno
              go_wp2
              go_round
              case rel => exact ⟨k + 1, by omega, by go_num, HF.out⟩
              case measure => simp [intOf]; omega
            · have HF : Hid (false = fairB s) := Lib.hid (HN.out (ok_no hno h45 (by omega)))
              have hcs : ((s[k].toNat : Int) < 48) ∨ ((57 : Int) < s[k].toNat ∧ (s[k].toNat : Int) < 97) ∨ ((122 : Int) < s[k].toNat) := by omega
              clear h45 hno hd
              rcases hcs with q | ⟨q1, q2⟩ | q
              · have l1 : (s[k].toNat : Int) < 97 := by omega
                go_wp2
                go_ret
                exact ⟨I.ret_bool HF.out, rfl⟩
              · have l1 : ¬ (s[k].toNat : Int) < 48 := by omega
                go_wp2
                go_ret
                exact ⟨I.ret_bool HF.out, rfl⟩
              · have l1 : ¬ (s[k].toNat : Int) < 48 := by omega
                have l3 : ¬ (s[k].toNat : Int) < 97 := by omega
                have l4 : (57 : Int) < s[k].toNat := by omega
                go_wp2
                go_ret
                exact ⟨I.ret_bool HF.out, rfl⟩
    · have HE := Lib.hid (fair_end HH.out (by omega))
      by_cases h0 : s.size = 0
      · obtain ⟨e1, e2⟩ := C.empty_yes h0
        have HF : Hid (false = fairB s) := Lib.hid (by rw [HE.out, h0]; rfl)
        clear h0
        go_wp2
        go_ret
        exact ⟨I.ret_bool HF.out, rfl⟩
      · obtain ⟨e1, e2⟩ := C.empty_no h0
        have HF : Hid (decide (s.size ≤ 30) = fairB s) := Lib.hid (by rw [HE.out, show (s.size == 0) = false by simpa using h0]; rfl)
        by_cases h30 : s.size ≤ 30
        · have HF2 : Hid (true = fairB s) := Lib.hid (by rw [← HF.out]; simpa using h30)
          have h31 : (s.size : Int) ≤ 30 := by omega
          clear h0
          go_wp2
          go_ret
          exact ⟨I.ret_bool HF2.out, rfl⟩
        · have HF2 : Hid (false = fairB s) := Lib.hid (by rw [← HF.out]; simpa using h30)
          have h31 : ¬ (s.size : Int) ≤ 30 := by omega
          clear h0
          go_wp2
          go_ret
          exact ⟨I.ret_bool HF2.out, rfl⟩
end Go.Proofs.YtkfaenhidjekdaaDoor.T
