/-
  The walk of the document's own 'one'.
-/
import Derived.Test.YtljpiamlbdknlaaDoorDecode
namespace Go.Proofs.YtljpiamlbdknlaaDoor
open Go.RowKit Go.Lib

/-- Bytes in a block, from a place on. -/
def BytesIn (w : World) (b off : Nat) (l : List UInt8) : Prop := ∀ j, j < l.length → w.cell? ⟨b, off + j, none⟩ = some (.int .u8 (at0 l j))

theorem at0_getElem (l : List UInt8) (j : Nat) (h : j < l.length) : at0 l j = (l[j]).toNat := by
  unfold at0; rw [List.getD_eq_getElem?_getD, List.getElem?_eq_getElem h]; rfl

def OnePost (l : List UInt8) (w : World) (e : Ending) (w' : World) : Prop :=
  e = .returned (.tuple #[.int .i64 ((oneL l).1 : Nat), .bool (oneL l).2]) ∧ w = w'

theorem runL_at (lo hi m i : Nat) (l : List UInt8) : runL lo hi (m + 1) i (l.drop i) = if i < l.length ∧ lo ≤ at0 l i ∧ at0 l i ≤ hi then runL 128 191 m (i + 1) (l.drop (i + 1)) else (i, false) := by
  rw [runL_more, at0_drop, List.length_drop, List.drop_drop, Nat.add_zero]
  by_cases h : i < l.length
  · simp only [show 0 < l.length - i from by omega, h, true_and]
  · simp only [show ¬ 0 < l.length - i from by omega, h, false_and, if_false]
/-- The bounds at the place i. -/
def loAt (lo i : Nat) : Nat := if i = 1 then lo else 128
def hiAt (hi i : Nat) : Nat := if i = 1 then hi else 191

set_option maxHeartbeats 4000000 in
set_option maxRecDepth 100000 in
theorem one_short (b off len cap c : Nat) (w : World) (R : Nat) (B : Bool) (h0 : w.cell? ⟨b, off, none⟩ = some (.int .u8 (c : Nat)))
    (hR : (c < 128 ∧ R = 1 ∧ B = true) ∨ ((128 ≤ c ∧ c < 194 ∧ R = 1 ∧ B = false)) ∨ (244 < c ∧ c < 256 ∧ R = 1 ∧ B = false)) (hne : 0 < len) :
    Calls Tryd.prog 21 #[.slice (some ⟨b, off, none⟩) len cap] w fun e w' => e = .returned (.tuple #[.int .i64 (R : Nat), .bool B]) ∧ w = w' := by
  rcases hR with ⟨h, rfl, rfl⟩ | ⟨h, h2, rfl, rfl⟩ | ⟨h, h2, rfl, rfl⟩
  all_goals
    go_enter Tryd.func21, Tryd.ntmps21
    go_wp2
    go_ret2
    exact ⟨rfl, rfl⟩

def LongLead (c m lo hi : Nat) : Prop :=
  (194 ≤ c ∧ c ≤ 223 ∧ m = 1 ∧ lo = 128 ∧ hi = 191) ∨ (c = 224 ∧ m = 2 ∧ lo = 160 ∧ hi = 191) ∨ (225 ≤ c ∧ c ≤ 236 ∧ m = 2 ∧ lo = 128 ∧ hi = 191) ∨ (c = 237 ∧ m = 2 ∧ lo = 128 ∧ hi = 159) ∨ (238 ≤ c ∧ c ≤ 239 ∧ m = 2 ∧ lo = 128 ∧ hi = 191) ∨
  (c = 240 ∧ m = 3 ∧ lo = 144 ∧ hi = 191) ∨ ((c = 241 ∨ c = 242 ∨ c = 243) ∧ m = 3 ∧ lo = 128 ∧ hi = 191) ∨ (c = 244 ∧ m = 3 ∧ lo = 128 ∧ hi = 143)

set_option maxHeartbeats 16000000 in
set_option maxRecDepth 100000 in
theorem one_long (b off len cap c m lo hi : Nat) (l : List UInt8) (w : World) (R : Nat × Bool) (hlen : l.length = len) (hA : BytesIn w b off l) (h0 : w.cell? ⟨b, off, none⟩ = some (.int .u8 (c : Nat)))
    (hL : LongLead c m lo hi) (hR : runL lo hi m 1 (l.drop 1) = R) (hne : 0 < len) :
    Calls Tryd.prog 21 #[.slice (some ⟨b, off, none⟩) len cap] w fun e w' => e = .returned (.tuple #[.int .i64 (R.1 : Nat), .bool R.2]) ∧ w = w' := by
  have HR := Lib.hid hR
  have HA := Lib.hid hA
  have HZ := Lib.hid hlen
  clear hR hA hlen
  rcases hL with ⟨h, h2, rfl, rfl, rfl⟩ | ⟨rfl, rfl, rfl, rfl⟩ | ⟨h, h2, rfl, rfl, rfl⟩ | ⟨rfl, rfl, rfl, rfl⟩ | ⟨h, h2, rfl, rfl, rfl⟩ | ⟨rfl, rfl, rfl, rfl⟩ | ⟨rfl | rfl | rfl, rfl, rfl, rfl⟩ | ⟨rfl, rfl, rfl, rfl⟩
  · go_enter Tryd.func21, Tryd.ntmps21
    go_wp2
    go_loop [6, 7, 8] (fun x y z => ∃ i : Nat, 1 ≤ i ∧ i ≤ 2 ∧ z = .int .i64 i ∧ x = .int .u8 (loAt 128 i : Nat) ∧ y = .int .u8 (hiAt 191 i : Nat) ∧ runL (loAt 128 i) (hiAt 191 i) (2 - i) i (l.drop i) = R) (fun _ _ z => 5 - (intOf z).toNat)
    case atStart => exact ⟨1, by omega, by omega, rfl, rfl, rfl, HR.out⟩
    case round =>
      obtain ⟨i, hi1, hi2, rfl, rfl, rfl, hrun⟩ := hrel
      by_cases hgo : i ≤ 1
      · rw [show 2 - i = (1 - i) + 1 by omega, runL_at] at hrun
        rw [HZ.out] at hrun
        by_cases hlt : i < len
        · have hc := HA.out i (by rw [HZ.out]; exact hlt)
          have hb := at0_lt l i
          have b1 : loAt 128 i ≤ 255 := by unfold loAt; split <;> omega
          have b2 : hiAt 191 i ≤ 255 := by unfold hiAt; split <;> omega
          by_cases hq : loAt 128 i ≤ at0 l i
          · by_cases hq2 : at0 l i ≤ hiAt 191 i
            · rw [if_pos ⟨hlt, hq, hq2⟩] at hrun
              have HX := Lib.hid hrun
              clear hrun
              generalize at0 l i = v at *
              generalize loAt 128 i = L at *
              generalize hiAt 191 i = H at *
              go_wp2
              go_round
              case rel => exact ⟨i + 1, by omega, by omega, by go_num, by unfold loAt; rw [if_neg (by omega)]; rfl, by unfold hiAt; rw [if_neg (by omega)]; rfl, by
                unfold loAt hiAt; rw [if_neg (by omega), if_neg (by omega), show 2 - (i + 1) = 1 - i by omega]; exact HX.out⟩
              case measure => simp [intOf]; omega
            · rw [if_neg (by omega)] at hrun
              subst hrun
              generalize at0 l i = v at *
              generalize loAt 128 i = L at *
              generalize hiAt 191 i = H at *
              go_wp2
              go_ret2
              exact ⟨rfl, rfl⟩
          · rw [if_neg (by omega)] at hrun
            subst hrun
            generalize at0 l i = v at *
            generalize loAt 128 i = L at *
            generalize hiAt 191 i = H at *
            go_wp2
            go_ret2
            exact ⟨rfl, rfl⟩
        · rw [if_neg (by omega)] at hrun
          subst hrun
          clear HA HR
          generalize loAt 128 i = L at *
          generalize hiAt 191 i = H at *
          go_wp2
          go_ret2
          exact ⟨rfl, rfl⟩
      · obtain rfl : i = 2 := by omega
        have e : R = (2, true) := by rw [← hrun]; rfl
        subst e
        clear hrun HR
        go_wp2
        go_ret2
        exact ⟨rfl, rfl⟩
  · go_enter Tryd.func21, Tryd.ntmps21
    go_wp2
    go_loop [6, 7, 8] (fun x y z => ∃ i : Nat, 1 ≤ i ∧ i ≤ 3 ∧ z = .int .i64 i ∧ x = .int .u8 (loAt 160 i : Nat) ∧ y = .int .u8 (hiAt 191 i : Nat) ∧ runL (loAt 160 i) (hiAt 191 i) (3 - i) i (l.drop i) = R) (fun _ _ z => 6 - (intOf z).toNat)
    case atStart => exact ⟨1, by omega, by omega, rfl, rfl, rfl, HR.out⟩
    case round =>
      obtain ⟨i, hi1, hi2, rfl, rfl, rfl, hrun⟩ := hrel
      by_cases hgo : i ≤ 2
      · rw [show 3 - i = (2 - i) + 1 by omega, runL_at] at hrun
        rw [HZ.out] at hrun
        by_cases hlt : i < len
        · have hc := HA.out i (by rw [HZ.out]; exact hlt)
          have hb := at0_lt l i
          have b1 : loAt 160 i ≤ 255 := by unfold loAt; split <;> omega
          have b2 : hiAt 191 i ≤ 255 := by unfold hiAt; split <;> omega
          by_cases hq : loAt 160 i ≤ at0 l i
          · by_cases hq2 : at0 l i ≤ hiAt 191 i
            · rw [if_pos ⟨hlt, hq, hq2⟩] at hrun
              have HX := Lib.hid hrun
              clear hrun
              generalize at0 l i = v at *
              generalize loAt 160 i = L at *
              generalize hiAt 191 i = H at *
              go_wp2
              go_round
              case rel => exact ⟨i + 1, by omega, by omega, by go_num, by unfold loAt; rw [if_neg (by omega)]; rfl, by unfold hiAt; rw [if_neg (by omega)]; rfl, by
                unfold loAt hiAt; rw [if_neg (by omega), if_neg (by omega), show 3 - (i + 1) = 2 - i by omega]; exact HX.out⟩
              case measure => simp [intOf]; omega
            · rw [if_neg (by omega)] at hrun
              subst hrun
              generalize at0 l i = v at *
              generalize loAt 160 i = L at *
              generalize hiAt 191 i = H at *
              go_wp2
              go_ret2
              exact ⟨rfl, rfl⟩
          · rw [if_neg (by omega)] at hrun
            subst hrun
            generalize at0 l i = v at *
            generalize loAt 160 i = L at *
            generalize hiAt 191 i = H at *
            go_wp2
            go_ret2
            exact ⟨rfl, rfl⟩
        · rw [if_neg (by omega)] at hrun
          subst hrun
          clear HA HR
          generalize loAt 160 i = L at *
          generalize hiAt 191 i = H at *
          go_wp2
          go_ret2
          exact ⟨rfl, rfl⟩
      · obtain rfl : i = 3 := by omega
        have e : R = (3, true) := by rw [← hrun]; rfl
        subst e
        clear hrun HR
        go_wp2
        go_ret2
        exact ⟨rfl, rfl⟩
  · go_enter Tryd.func21, Tryd.ntmps21
    go_wp2
    go_loop [6, 7, 8] (fun x y z => ∃ i : Nat, 1 ≤ i ∧ i ≤ 3 ∧ z = .int .i64 i ∧ x = .int .u8 (loAt 128 i : Nat) ∧ y = .int .u8 (hiAt 191 i : Nat) ∧ runL (loAt 128 i) (hiAt 191 i) (3 - i) i (l.drop i) = R) (fun _ _ z => 6 - (intOf z).toNat)
    case atStart => exact ⟨1, by omega, by omega, rfl, rfl, rfl, HR.out⟩
    case round =>
      obtain ⟨i, hi1, hi2, rfl, rfl, rfl, hrun⟩ := hrel
      by_cases hgo : i ≤ 2
      · rw [show 3 - i = (2 - i) + 1 by omega, runL_at] at hrun
        rw [HZ.out] at hrun
        by_cases hlt : i < len
        · have hc := HA.out i (by rw [HZ.out]; exact hlt)
          have hb := at0_lt l i
          have b1 : loAt 128 i ≤ 255 := by unfold loAt; split <;> omega
          have b2 : hiAt 191 i ≤ 255 := by unfold hiAt; split <;> omega
          by_cases hq : loAt 128 i ≤ at0 l i
          · by_cases hq2 : at0 l i ≤ hiAt 191 i
            · rw [if_pos ⟨hlt, hq, hq2⟩] at hrun
              have HX := Lib.hid hrun
              clear hrun
              generalize at0 l i = v at *
              generalize loAt 128 i = L at *
              generalize hiAt 191 i = H at *
              go_wp2
              go_round
              case rel => exact ⟨i + 1, by omega, by omega, by go_num, by unfold loAt; rw [if_neg (by omega)]; rfl, by unfold hiAt; rw [if_neg (by omega)]; rfl, by
                unfold loAt hiAt; rw [if_neg (by omega), if_neg (by omega), show 3 - (i + 1) = 2 - i by omega]; exact HX.out⟩
              case measure => simp [intOf]; omega
            · rw [if_neg (by omega)] at hrun
              subst hrun
              generalize at0 l i = v at *
              generalize loAt 128 i = L at *
              generalize hiAt 191 i = H at *
              go_wp2
              go_ret2
              exact ⟨rfl, rfl⟩
          · rw [if_neg (by omega)] at hrun
            subst hrun
            generalize at0 l i = v at *
            generalize loAt 128 i = L at *
            generalize hiAt 191 i = H at *
            go_wp2
            go_ret2
            exact ⟨rfl, rfl⟩
        · rw [if_neg (by omega)] at hrun
          subst hrun
          clear HA HR
          generalize loAt 128 i = L at *
          generalize hiAt 191 i = H at *
          go_wp2
          go_ret2
          exact ⟨rfl, rfl⟩
      · obtain rfl : i = 3 := by omega
        have e : R = (3, true) := by rw [← hrun]; rfl
        subst e
        clear hrun HR
        go_wp2
        go_ret2
        exact ⟨rfl, rfl⟩
  · go_enter Tryd.func21, Tryd.ntmps21
    go_wp2
    go_loop [6, 7, 8] (fun x y z => ∃ i : Nat, 1 ≤ i ∧ i ≤ 3 ∧ z = .int .i64 i ∧ x = .int .u8 (loAt 128 i : Nat) ∧ y = .int .u8 (hiAt 159 i : Nat) ∧ runL (loAt 128 i) (hiAt 159 i) (3 - i) i (l.drop i) = R) (fun _ _ z => 6 - (intOf z).toNat)
    case atStart => exact ⟨1, by omega, by omega, rfl, rfl, rfl, HR.out⟩
    case round =>
      obtain ⟨i, hi1, hi2, rfl, rfl, rfl, hrun⟩ := hrel
      by_cases hgo : i ≤ 2
      · rw [show 3 - i = (2 - i) + 1 by omega, runL_at] at hrun
        rw [HZ.out] at hrun
        by_cases hlt : i < len
        · have hc := HA.out i (by rw [HZ.out]; exact hlt)
          have hb := at0_lt l i
          have b1 : loAt 128 i ≤ 255 := by unfold loAt; split <;> omega
          have b2 : hiAt 159 i ≤ 255 := by unfold hiAt; split <;> omega
          by_cases hq : loAt 128 i ≤ at0 l i
          · by_cases hq2 : at0 l i ≤ hiAt 159 i
            · rw [if_pos ⟨hlt, hq, hq2⟩] at hrun
              have HX := Lib.hid hrun
              clear hrun
              generalize at0 l i = v at *
              generalize loAt 128 i = L at *
              generalize hiAt 159 i = H at *
              go_wp2
              go_round
              case rel => exact ⟨i + 1, by omega, by omega, by go_num, by unfold loAt; rw [if_neg (by omega)]; rfl, by unfold hiAt; rw [if_neg (by omega)]; rfl, by
                unfold loAt hiAt; rw [if_neg (by omega), if_neg (by omega), show 3 - (i + 1) = 2 - i by omega]; exact HX.out⟩
              case measure => simp [intOf]; omega
            · rw [if_neg (by omega)] at hrun
              subst hrun
              generalize at0 l i = v at *
              generalize loAt 128 i = L at *
              generalize hiAt 159 i = H at *
              go_wp2
              go_ret2
              exact ⟨rfl, rfl⟩
          · rw [if_neg (by omega)] at hrun
            subst hrun
            generalize at0 l i = v at *
            generalize loAt 128 i = L at *
            generalize hiAt 159 i = H at *
            go_wp2
            go_ret2
            exact ⟨rfl, rfl⟩
        · rw [if_neg (by omega)] at hrun
          subst hrun
          clear HA HR
          generalize loAt 128 i = L at *
          generalize hiAt 159 i = H at *
          go_wp2
          go_ret2
          exact ⟨rfl, rfl⟩
      · obtain rfl : i = 3 := by omega
        have e : R = (3, true) := by rw [← hrun]; rfl
        subst e
        clear hrun HR
        go_wp2
        go_ret2
        exact ⟨rfl, rfl⟩
  · go_enter Tryd.func21, Tryd.ntmps21
    go_wp2
    go_loop [6, 7, 8] (fun x y z => ∃ i : Nat, 1 ≤ i ∧ i ≤ 3 ∧ z = .int .i64 i ∧ x = .int .u8 (loAt 128 i : Nat) ∧ y = .int .u8 (hiAt 191 i : Nat) ∧ runL (loAt 128 i) (hiAt 191 i) (3 - i) i (l.drop i) = R) (fun _ _ z => 6 - (intOf z).toNat)
    case atStart => exact ⟨1, by omega, by omega, rfl, rfl, rfl, HR.out⟩
    case round =>
      obtain ⟨i, hi1, hi2, rfl, rfl, rfl, hrun⟩ := hrel
      by_cases hgo : i ≤ 2
      · rw [show 3 - i = (2 - i) + 1 by omega, runL_at] at hrun
        rw [HZ.out] at hrun
        by_cases hlt : i < len
        · have hc := HA.out i (by rw [HZ.out]; exact hlt)
          have hb := at0_lt l i
          have b1 : loAt 128 i ≤ 255 := by unfold loAt; split <;> omega
          have b2 : hiAt 191 i ≤ 255 := by unfold hiAt; split <;> omega
          by_cases hq : loAt 128 i ≤ at0 l i
          · by_cases hq2 : at0 l i ≤ hiAt 191 i
            · rw [if_pos ⟨hlt, hq, hq2⟩] at hrun
              have HX := Lib.hid hrun
              clear hrun
              generalize at0 l i = v at *
              generalize loAt 128 i = L at *
              generalize hiAt 191 i = H at *
              go_wp2
              go_round
              case rel => exact ⟨i + 1, by omega, by omega, by go_num, by unfold loAt; rw [if_neg (by omega)]; rfl, by unfold hiAt; rw [if_neg (by omega)]; rfl, by
                unfold loAt hiAt; rw [if_neg (by omega), if_neg (by omega), show 3 - (i + 1) = 2 - i by omega]; exact HX.out⟩
              case measure => simp [intOf]; omega
            · rw [if_neg (by omega)] at hrun
              subst hrun
              generalize at0 l i = v at *
              generalize loAt 128 i = L at *
              generalize hiAt 191 i = H at *
              go_wp2
              go_ret2
              exact ⟨rfl, rfl⟩
          · rw [if_neg (by omega)] at hrun
            subst hrun
            generalize at0 l i = v at *
            generalize loAt 128 i = L at *
            generalize hiAt 191 i = H at *
            go_wp2
            go_ret2
            exact ⟨rfl, rfl⟩
        · rw [if_neg (by omega)] at hrun
          subst hrun
          clear HA HR
          generalize loAt 128 i = L at *
          generalize hiAt 191 i = H at *
          go_wp2
          go_ret2
          exact ⟨rfl, rfl⟩
      · obtain rfl : i = 3 := by omega
        have e : R = (3, true) := by rw [← hrun]; rfl
        subst e
        clear hrun HR
        go_wp2
        go_ret2
        exact ⟨rfl, rfl⟩
  · go_enter Tryd.func21, Tryd.ntmps21
    go_wp2
    go_loop [6, 7, 8] (fun x y z => ∃ i : Nat, 1 ≤ i ∧ i ≤ 4 ∧ z = .int .i64 i ∧ x = .int .u8 (loAt 144 i : Nat) ∧ y = .int .u8 (hiAt 191 i : Nat) ∧ runL (loAt 144 i) (hiAt 191 i) (4 - i) i (l.drop i) = R) (fun _ _ z => 7 - (intOf z).toNat)
    case atStart => exact ⟨1, by omega, by omega, rfl, rfl, rfl, HR.out⟩
    case round =>
      obtain ⟨i, hi1, hi2, rfl, rfl, rfl, hrun⟩ := hrel
      by_cases hgo : i ≤ 3
      · rw [show 4 - i = (3 - i) + 1 by omega, runL_at] at hrun
        rw [HZ.out] at hrun
        by_cases hlt : i < len
        · have hc := HA.out i (by rw [HZ.out]; exact hlt)
          have hb := at0_lt l i
          have b1 : loAt 144 i ≤ 255 := by unfold loAt; split <;> omega
          have b2 : hiAt 191 i ≤ 255 := by unfold hiAt; split <;> omega
          by_cases hq : loAt 144 i ≤ at0 l i
          · by_cases hq2 : at0 l i ≤ hiAt 191 i
            · rw [if_pos ⟨hlt, hq, hq2⟩] at hrun
              have HX := Lib.hid hrun
              clear hrun
              generalize at0 l i = v at *
              generalize loAt 144 i = L at *
              generalize hiAt 191 i = H at *
              go_wp2
              go_round
              case rel => exact ⟨i + 1, by omega, by omega, by go_num, by unfold loAt; rw [if_neg (by omega)]; rfl, by unfold hiAt; rw [if_neg (by omega)]; rfl, by
                unfold loAt hiAt; rw [if_neg (by omega), if_neg (by omega), show 4 - (i + 1) = 3 - i by omega]; exact HX.out⟩
              case measure => simp [intOf]; omega
            · rw [if_neg (by omega)] at hrun
              subst hrun
              generalize at0 l i = v at *
              generalize loAt 144 i = L at *
              generalize hiAt 191 i = H at *
              go_wp2
              go_ret2
              exact ⟨rfl, rfl⟩
          · rw [if_neg (by omega)] at hrun
            subst hrun
            generalize at0 l i = v at *
            generalize loAt 144 i = L at *
            generalize hiAt 191 i = H at *
            go_wp2
            go_ret2
            exact ⟨rfl, rfl⟩
        · rw [if_neg (by omega)] at hrun
          subst hrun
          clear HA HR
          generalize loAt 144 i = L at *
          generalize hiAt 191 i = H at *
          go_wp2
          go_ret2
          exact ⟨rfl, rfl⟩
      · obtain rfl : i = 4 := by omega
        have e : R = (4, true) := by rw [← hrun]; rfl
        subst e
        clear hrun HR
        go_wp2
        go_ret2
        exact ⟨rfl, rfl⟩
  · go_enter Tryd.func21, Tryd.ntmps21
    go_wp2
    go_loop [6, 7, 8] (fun x y z => ∃ i : Nat, 1 ≤ i ∧ i ≤ 4 ∧ z = .int .i64 i ∧ x = .int .u8 (loAt 128 i : Nat) ∧ y = .int .u8 (hiAt 191 i : Nat) ∧ runL (loAt 128 i) (hiAt 191 i) (4 - i) i (l.drop i) = R) (fun _ _ z => 7 - (intOf z).toNat)
    case atStart => exact ⟨1, by omega, by omega, rfl, rfl, rfl, HR.out⟩
    case round =>
      obtain ⟨i, hi1, hi2, rfl, rfl, rfl, hrun⟩ := hrel
      by_cases hgo : i ≤ 3
      · rw [show 4 - i = (3 - i) + 1 by omega, runL_at] at hrun
        rw [HZ.out] at hrun
        by_cases hlt : i < len
        · have hc := HA.out i (by rw [HZ.out]; exact hlt)
          have hb := at0_lt l i
          have b1 : loAt 128 i ≤ 255 := by unfold loAt; split <;> omega
          have b2 : hiAt 191 i ≤ 255 := by unfold hiAt; split <;> omega
          by_cases hq : loAt 128 i ≤ at0 l i
          · by_cases hq2 : at0 l i ≤ hiAt 191 i
            · rw [if_pos ⟨hlt, hq, hq2⟩] at hrun
              have HX := Lib.hid hrun
              clear hrun
              generalize at0 l i = v at *
              generalize loAt 128 i = L at *
              generalize hiAt 191 i = H at *
              go_wp2
              go_round
              case rel => exact ⟨i + 1, by omega, by omega, by go_num, by unfold loAt; rw [if_neg (by omega)]; rfl, by unfold hiAt; rw [if_neg (by omega)]; rfl, by
                unfold loAt hiAt; rw [if_neg (by omega), if_neg (by omega), show 4 - (i + 1) = 3 - i by omega]; exact HX.out⟩
              case measure => simp [intOf]; omega
            · rw [if_neg (by omega)] at hrun
              subst hrun
              generalize at0 l i = v at *
              generalize loAt 128 i = L at *
              generalize hiAt 191 i = H at *
              go_wp2
              go_ret2
              exact ⟨rfl, rfl⟩
          · rw [if_neg (by omega)] at hrun
            subst hrun
            generalize at0 l i = v at *
            generalize loAt 128 i = L at *
            generalize hiAt 191 i = H at *
            go_wp2
            go_ret2
            exact ⟨rfl, rfl⟩
        · rw [if_neg (by omega)] at hrun
          subst hrun
          clear HA HR
          generalize loAt 128 i = L at *
          generalize hiAt 191 i = H at *
          go_wp2
          go_ret2
          exact ⟨rfl, rfl⟩
      · obtain rfl : i = 4 := by omega
        have e : R = (4, true) := by rw [← hrun]; rfl
        subst e
        clear hrun HR
        go_wp2
        go_ret2
        exact ⟨rfl, rfl⟩
  · go_enter Tryd.func21, Tryd.ntmps21
    go_wp2
    go_loop [6, 7, 8] (fun x y z => ∃ i : Nat, 1 ≤ i ∧ i ≤ 4 ∧ z = .int .i64 i ∧ x = .int .u8 (loAt 128 i : Nat) ∧ y = .int .u8 (hiAt 191 i : Nat) ∧ runL (loAt 128 i) (hiAt 191 i) (4 - i) i (l.drop i) = R) (fun _ _ z => 7 - (intOf z).toNat)
    case atStart => exact ⟨1, by omega, by omega, rfl, rfl, rfl, HR.out⟩
    case round =>
      obtain ⟨i, hi1, hi2, rfl, rfl, rfl, hrun⟩ := hrel
      by_cases hgo : i ≤ 3
      · rw [show 4 - i = (3 - i) + 1 by omega, runL_at] at hrun
        rw [HZ.out] at hrun
        by_cases hlt : i < len
        · have hc := HA.out i (by rw [HZ.out]; exact hlt)
          have hb := at0_lt l i
          have b1 : loAt 128 i ≤ 255 := by unfold loAt; split <;> omega
          have b2 : hiAt 191 i ≤ 255 := by unfold hiAt; split <;> omega
          by_cases hq : loAt 128 i ≤ at0 l i
          · by_cases hq2 : at0 l i ≤ hiAt 191 i
            · rw [if_pos ⟨hlt, hq, hq2⟩] at hrun
              have HX := Lib.hid hrun
              clear hrun
              generalize at0 l i = v at *
              generalize loAt 128 i = L at *
              generalize hiAt 191 i = H at *
              go_wp2
              go_round
              case rel => exact ⟨i + 1, by omega, by omega, by go_num, by unfold loAt; rw [if_neg (by omega)]; rfl, by unfold hiAt; rw [if_neg (by omega)]; rfl, by
                unfold loAt hiAt; rw [if_neg (by omega), if_neg (by omega), show 4 - (i + 1) = 3 - i by omega]; exact HX.out⟩
              case measure => simp [intOf]; omega
            · rw [if_neg (by omega)] at hrun
              subst hrun
              generalize at0 l i = v at *
              generalize loAt 128 i = L at *
              generalize hiAt 191 i = H at *
              go_wp2
              go_ret2
              exact ⟨rfl, rfl⟩
          · rw [if_neg (by omega)] at hrun
            subst hrun
            generalize at0 l i = v at *
            generalize loAt 128 i = L at *
            generalize hiAt 191 i = H at *
            go_wp2
            go_ret2
            exact ⟨rfl, rfl⟩
        · rw [if_neg (by omega)] at hrun
          subst hrun
          clear HA HR
          generalize loAt 128 i = L at *
          generalize hiAt 191 i = H at *
          go_wp2
          go_ret2
          exact ⟨rfl, rfl⟩
      · obtain rfl : i = 4 := by omega
        have e : R = (4, true) := by rw [← hrun]; rfl
        subst e
        clear hrun HR
        go_wp2
        go_ret2
        exact ⟨rfl, rfl⟩
  · go_enter Tryd.func21, Tryd.ntmps21
    go_wp2
    go_loop [6, 7, 8] (fun x y z => ∃ i : Nat, 1 ≤ i ∧ i ≤ 4 ∧ z = .int .i64 i ∧ x = .int .u8 (loAt 128 i : Nat) ∧ y = .int .u8 (hiAt 191 i : Nat) ∧ runL (loAt 128 i) (hiAt 191 i) (4 - i) i (l.drop i) = R) (fun _ _ z => 7 - (intOf z).toNat)
    case atStart => exact ⟨1, by omega, by omega, rfl, rfl, rfl, HR.out⟩
    case round =>
      obtain ⟨i, hi1, hi2, rfl, rfl, rfl, hrun⟩ := hrel
      by_cases hgo : i ≤ 3
      · rw [show 4 - i = (3 - i) + 1 by omega, runL_at] at hrun
        rw [HZ.out] at hrun
        by_cases hlt : i < len
        · have hc := HA.out i (by rw [HZ.out]; exact hlt)
          have hb := at0_lt l i
          have b1 : loAt 128 i ≤ 255 := by unfold loAt; split <;> omega
          have b2 : hiAt 191 i ≤ 255 := by unfold hiAt; split <;> omega
          by_cases hq : loAt 128 i ≤ at0 l i
          · by_cases hq2 : at0 l i ≤ hiAt 191 i
            · rw [if_pos ⟨hlt, hq, hq2⟩] at hrun
              have HX := Lib.hid hrun
              clear hrun
              generalize at0 l i = v at *
              generalize loAt 128 i = L at *
              generalize hiAt 191 i = H at *
              go_wp2
              go_round
              case rel => exact ⟨i + 1, by omega, by omega, by go_num, by unfold loAt; rw [if_neg (by omega)]; rfl, by unfold hiAt; rw [if_neg (by omega)]; rfl, by
                unfold loAt hiAt; rw [if_neg (by omega), if_neg (by omega), show 4 - (i + 1) = 3 - i by omega]; exact HX.out⟩
              case measure => simp [intOf]; omega
            · rw [if_neg (by omega)] at hrun
              subst hrun
              generalize at0 l i = v at *
              generalize loAt 128 i = L at *
              generalize hiAt 191 i = H at *
              go_wp2
              go_ret2
              exact ⟨rfl, rfl⟩
          · rw [if_neg (by omega)] at hrun
            subst hrun
            generalize at0 l i = v at *
            generalize loAt 128 i = L at *
            generalize hiAt 191 i = H at *
            go_wp2
            go_ret2
            exact ⟨rfl, rfl⟩
        · rw [if_neg (by omega)] at hrun
          subst hrun
          clear HA HR
          generalize loAt 128 i = L at *
          generalize hiAt 191 i = H at *
          go_wp2
          go_ret2
          exact ⟨rfl, rfl⟩
      · obtain rfl : i = 4 := by omega
        have e : R = (4, true) := by rw [← hrun]; rfl
        subst e
        clear hrun HR
        go_wp2
        go_ret2
        exact ⟨rfl, rfl⟩
  · go_enter Tryd.func21, Tryd.ntmps21
    go_wp2
    go_loop [6, 7, 8] (fun x y z => ∃ i : Nat, 1 ≤ i ∧ i ≤ 4 ∧ z = .int .i64 i ∧ x = .int .u8 (loAt 128 i : Nat) ∧ y = .int .u8 (hiAt 143 i : Nat) ∧ runL (loAt 128 i) (hiAt 143 i) (4 - i) i (l.drop i) = R) (fun _ _ z => 7 - (intOf z).toNat)
    case atStart => exact ⟨1, by omega, by omega, rfl, rfl, rfl, HR.out⟩
    case round =>
      obtain ⟨i, hi1, hi2, rfl, rfl, rfl, hrun⟩ := hrel
      by_cases hgo : i ≤ 3
      · rw [show 4 - i = (3 - i) + 1 by omega, runL_at] at hrun
        rw [HZ.out] at hrun
        by_cases hlt : i < len
        · have hc := HA.out i (by rw [HZ.out]; exact hlt)
          have hb := at0_lt l i
          have b1 : loAt 128 i ≤ 255 := by unfold loAt; split <;> omega
          have b2 : hiAt 143 i ≤ 255 := by unfold hiAt; split <;> omega
          by_cases hq : loAt 128 i ≤ at0 l i
          · by_cases hq2 : at0 l i ≤ hiAt 143 i
            · rw [if_pos ⟨hlt, hq, hq2⟩] at hrun
              have HX := Lib.hid hrun
              clear hrun
              generalize at0 l i = v at *
              generalize loAt 128 i = L at *
              generalize hiAt 143 i = H at *
              go_wp2
              go_round
              case rel => exact ⟨i + 1, by omega, by omega, by go_num, by unfold loAt; rw [if_neg (by omega)]; rfl, by unfold hiAt; rw [if_neg (by omega)]; rfl, by
                unfold loAt hiAt; rw [if_neg (by omega), if_neg (by omega), show 4 - (i + 1) = 3 - i by omega]; exact HX.out⟩
              case measure => simp [intOf]; omega
            · rw [if_neg (by omega)] at hrun
              subst hrun
              generalize at0 l i = v at *
              generalize loAt 128 i = L at *
              generalize hiAt 143 i = H at *
              go_wp2
              go_ret2
              exact ⟨rfl, rfl⟩
          · rw [if_neg (by omega)] at hrun
            subst hrun
            generalize at0 l i = v at *
            generalize loAt 128 i = L at *
            generalize hiAt 143 i = H at *
            go_wp2
            go_ret2
            exact ⟨rfl, rfl⟩
        · rw [if_neg (by omega)] at hrun
          subst hrun
          clear HA HR
          generalize loAt 128 i = L at *
          generalize hiAt 143 i = H at *
          go_wp2
          go_ret2
          exact ⟨rfl, rfl⟩
      · obtain rfl : i = 4 := by omega
        have e : R = (4, true) := by rw [← hrun]; rfl
        subst e
        clear hrun HR
        go_wp2
        go_ret2
        exact ⟨rfl, rfl⟩

theorem one_any (b off len cap : Nat) (l : List UInt8) (w : World) (hlen : l.length = len) (hne : 0 < len) (hl : len ≤ maxLen) (hA : BytesIn w b off l) :
    Calls Tryd.prog 21 #[.slice (some ⟨b, off, none⟩) len cap] w (OnePost l w) := by
  unfold maxLen at hl
  have h0 := hA 0 (by omega)
  rw [Nat.add_zero] at h0
  have k0 := at0_lt l 0
  have hone : oneL l = if at0 l 0 < 128 then (1, true) else if moreOf (at0 l 0) = 0 then (1, false) else runL (loOf (at0 l 0)) (hiOf (at0 l 0)) (moreOf (at0 l 0)) 1 (l.drop 1) := by
    cases l with
    | nil => simp at hlen; omega
    | cons c r => rw [oneL_cons]; rfl
  unfold OnePost
  have long : ∀ m lo hi, LongLead (at0 l 0) m lo hi → oneL l = runL lo hi m 1 (l.drop 1) → Calls Tryd.prog 21 #[.slice (some ⟨b, off, none⟩) len cap] w fun e w' => e = .returned (.tuple #[.int .i64 ((oneL l).1 : Nat), .bool (oneL l).2]) ∧ w = w' :=
    fun m lo hi hL e => one_long b off len cap (at0 l 0) m lo hi l w (oneL l) hlen hA h0 hL e.symm hne
  rcases lead (at0 l 0) with h | ⟨h, hm, hf, hcc⟩ | ⟨h, h3, hm, hlo, hhi, hf⟩ | ⟨h, h3, hm, hlx⟩ | ⟨h, h3, hm, hlx⟩
  · rw [if_pos h] at hone
    rw [hone]
    exact one_short b off len cap _ w 1 true h0 (.inl ⟨h, rfl, rfl⟩) hne
  · rw [if_neg (by omega), if_pos hm] at hone
    rw [hone]
    exact one_short b off len cap _ w 1 false h0 (by rcases hcc with hcc | hcc; exact .inr (.inl ⟨h, hcc, rfl, rfl⟩); exact .inr (.inr ⟨hcc, k0, rfl, rfl⟩)) hne
  · rw [if_neg (by omega), if_neg (by omega), hm, hlo, hhi] at hone
    exact long 1 128 191 (.inl ⟨h, h3, rfl, rfl, rfl⟩) hone
  · rw [if_neg (by omega), if_neg (by omega), hm] at hone
    rcases hlx with ⟨q, l1, l2, _⟩ | ⟨q, l1, l2, _⟩ | ⟨q1, q2, l1, l2, _⟩
    · rw [l1, l2] at hone; exact long 2 160 191 (.inr (.inl ⟨q, rfl, rfl, rfl⟩)) hone
    · rw [l1, l2] at hone; exact long 2 128 159 (.inr (.inr (.inr (.inl ⟨q, rfl, rfl, rfl⟩)))) hone
    · rw [l1, l2] at hone
      by_cases hq : at0 l 0 ≤ 236
      · exact long 2 128 191 (.inr (.inr (.inl ⟨by omega, hq, rfl, rfl, rfl⟩))) hone
      · exact long 2 128 191 (.inr (.inr (.inr (.inr (.inl ⟨by omega, by omega, rfl, rfl, rfl⟩))))) hone
  · rw [if_neg (by omega), if_neg (by omega), hm] at hone
    rcases hlx with ⟨q, l1, l2, _⟩ | ⟨q, l1, l2, _⟩ | ⟨q1, q2, l1, l2, _⟩
    · rw [l1, l2] at hone; exact long 3 144 191 (.inr (.inr (.inr (.inr (.inr (.inl ⟨q, rfl, rfl, rfl⟩)))))) hone
    · rw [l1, l2] at hone; exact long 3 128 143 (.inr (.inr (.inr (.inr (.inr (.inr (.inr ⟨q, rfl, rfl, rfl⟩))))))) hone
    · rw [l1, l2] at hone; exact long 3 128 191 (.inr (.inr (.inr (.inr (.inr (.inr (.inl ⟨by omega, rfl, rfl, rfl⟩))))))) hone
end Go.Proofs.YtljpiamlbdknlaaDoor
