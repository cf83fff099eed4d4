/-
  The walk of the document's Named.
-/
import Derived.Test.YtkfaenhidjekdaaDoorCRnamed
namespace Go.Proofs.YtkfaenhidjekdaaDoor.C
open Go.RowKit

theorem eqS_yes {a b : ByteArray} (h : a = b) : (a.toList == b.toList) = true := by rw [h]; simp
theorem eqS_no {a b : ByteArray} (h : a ≠ b) : (a.toList == b.toList) = false := by
  rw [beq_eq_false_iff_ne]; intro e; apply h; apply eq_of_list; rw [← ByteArray.toList_eq, ← ByteArray.toList_eq]; exact e
theorem nmG_at (k : Nat) (h : k < 61) (l : List UInt8) : nmG (tabR.drop k) l = if mt (tn k) l = true then tv k else nmG (tabR.drop (k + 1)) l := by
  rw [tabR_at k h]; rfl
theorem last_at (X : ByteArray) (h : 1 ≤ X.size) : X.data.toList.getLast? = some X[X.size - 1] := by
  rw [List.getLast?_eq_getElem?, size_list, get_at X (X.size - 1) (by omega)]
/-- What the document's test asks, in the walk's words. -/
theorem mt_same {X s : ByteArray} (h : X = s) : mt X.data.toList s.data.toList = true := by
  subst h; simp [mt]
theorem mt_semi {X s : ByteArray} (h1 : 1 ≤ X.size) (h2 : X[X.size - 1] ≠ 59) (h3 : X ++ ⟨#[59]⟩ = s) : mt X.data.toList s.data.toList = true := by
  subst h3
  unfold mt
  rw [last_at X h1]
  simp [h2]
theorem mt_no1 {X s : ByteArray} (h0 : X ≠ s) (h1 : 1 ≤ X.size) (h2 : X[X.size - 1] = 59) : mt X.data.toList s.data.toList = false := by
  unfold mt
  rw [last_at X h1, h2]
  have : (s.data.toList == X.data.toList) = false := by
    rw [beq_eq_false_iff_ne]; intro e; exact h0 (eq_of_list e.symm)
  rw [this]; rfl
theorem mt_no2 {X s : ByteArray} (h0 : X ≠ s) (h3 : X ++ ⟨#[59]⟩ ≠ s) : mt X.data.toList s.data.toList = false := by
  unfold mt
  have h4 : (s.data.toList == X.data.toList) = false := by
    rw [beq_eq_false_iff_ne]; intro e; exact h0 (eq_of_list e.symm)
  have h5 : (s.data.toList == X.data.toList ++ [59]) = false := by
    rw [beq_eq_false_iff_ne]; intro e; apply h3; apply eq_of_list; rw [e]; simp
  rw [h4, h5, Bool.and_false]; rfl

set_option maxHeartbeats 3200000 in
theorem rnamed_any (s : ByteArray) (w : World) :
    Calls Tryd.prog 63 #[.string s] w (NamedPost s.data.toList w) := by
  go_enter Tryd.func63, Tryd.ntmps63
  go_wp2_with fail
  refine (table_any w).mono ?_
  rintro e w1 ⟨b, c, rfl, hb, hc, hbel⟩
  have HB := Lib.hid hb
  have HC := Lib.hid hc
  have HW := Lib.hid hbel
  clear hb hc hbel
  go_wp2
  go_loop [6] (fun i => ∃ k : Nat, k ≤ 61 ∧ i = .int .i64 k ∧ nm s.data.toList = nmG (tabR.drop k) s.data.toList) (fun i => 61 - (intOf i).toNat)
  case atStart => exact ⟨0, Nat.zero_le _, rfl, rfl⟩
  case round =>
    obtain ⟨k, hk, rfl, hn⟩ := hrel
    have HN := Lib.hid hn
    clear hn
    by_cases hlt : k < 61
    · have hcb := HB.out k hlt
      have hcc := HC.out k hlt
      rw [Nat.zero_add] at hcb hcc
      obtain ⟨t1, t2, t3, t4, t5⟩ := tn_ok k hlt
      have HD := Lib.hid (nmG_at k hlt s.data.toList)
      rw [show tn k = (mkB (tn k)).data.toList from (mkB_list _).symm] at HD
      rw [← mkB_size] at t1 t2
      have HV := Lib.hid t3
      clear t3
      generalize mkB (tn k) = X at *
      generalize tv k = v at *
      have hz := X[X.size - 1].toNat_lt
      by_cases q1 : X = s
      · have HF : Hid (nm s.data.toList = v) := Lib.hid (by rw [HN.out, HD.out, if_pos (mt_same q1)])
        have e1 := eqS_yes q1
        have HQ := Lib.hid q1
        clear q1
        go_wp2_with (go_at_call 77; refine (rencode_any _ _ (by omega) (by omega)).mono ?_; rintro e w' ⟨rfl, rfl⟩)
        go_ret2
        exact ⟨named_yes HF.out HV.out, HW.out⟩
      · have e1 := eqS_no q1
        by_cases q2 : X[X.size - 1] = 59
        · have HF : Hid (nm s.data.toList = nmG (tabR.drop (k + 1)) s.data.toList) := Lib.hid (by rw [HN.out, HD.out, if_neg (by rw [mt_no1 q1 t1 q2]; exact Bool.false_ne_true)])
          have e2 : ((X[X.size - 1].toNat : Int) != 59) = false := by rw [q2]; rfl
          have e3 : ((X[X.size - 1].toNat : Int) == 59) = true := by rw [q2]; rfl
          clear q1 q2
          go_wp2
          go_round
          case rel => exact ⟨k + 1, by omega, by go_num, HF.out⟩
          case measure => simp [intOf]; omega
        · have q2' : (X[X.size - 1].toNat : Int) ≠ 59 := fun e => q2 (UInt8.toNat_inj.1 (by show _ = 59; omega))
          have e2 : ((X[X.size - 1].toNat : Int) != 59) = true := by simpa using q2'
          have e3 : ((X[X.size - 1].toNat : Int) == 59) = false := by simpa using q2'
          clear q2'
          by_cases q3 : X ++ ⟨#[59]⟩ = s
          · have HF : Hid (nm s.data.toList = v) := Lib.hid (by rw [HN.out, HD.out, if_pos (mt_semi t1 q2 q3)])
            have e4 := eqS_yes q3
            have HQ := Lib.hid q3
            clear q1 q2 q3
            go_wp2_with (go_at_call 77; refine (rencode_any _ _ (by omega) (by omega)).mono ?_; rintro e w' ⟨rfl, rfl⟩)
            go_ret2
            exact ⟨named_yes HF.out HV.out, HW.out⟩
          · have HF : Hid (nm s.data.toList = nmG (tabR.drop (k + 1)) s.data.toList) := Lib.hid (by rw [HN.out, HD.out, if_neg (by rw [mt_no2 q1 q3]; exact Bool.false_ne_true)])
            have e4 := eqS_no q3
            clear q1 q2 q3
            go_wp2
            go_round
            case rel => exact ⟨k + 1, by omega, by go_num, HF.out⟩
            case measure => simp [intOf]; omega
    · obtain rfl : k = 61 := by omega
      have HF : Hid (nm s.data.toList = 0) := Lib.hid (by rw [HN.out]; rfl)
      go_wp2
      go_ret2
      exact ⟨named_no HF.out, HW.out⟩
end Go.Proofs.YtkfaenhidjekdaaDoor.C
