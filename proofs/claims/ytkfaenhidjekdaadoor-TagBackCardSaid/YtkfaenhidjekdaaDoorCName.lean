/-
  The walks of goesOn and readName.
-/
import Derived.Test.YtkfaenhidjekdaaDoorCRnumber
namespace Go.Proofs.YtkfaenhidjekdaaDoor.C
open Go.RowKit

theorem empty_yes {s : ByteArray} (h : s.size = 0) : s.toList = [] ∧ s.toList.isEmpty = true := by
  have : s.toList = [] := by rw [ByteArray.toList_eq]; exact List.eq_nil_of_length_eq_zero (by simpa using h)
  exact ⟨this, by rw [this]; rfl⟩
theorem empty_no {s : ByteArray} (h : s.size ≠ 0) : s.toList ≠ [] ∧ s.toList.isEmpty = false := by
  have : s.toList ≠ [] := by
    intro e; apply h
    have h1 : s.data.toList = [] := by rw [← ByteArray.toList_eq]; exact e
    rw [← size_list, h1]; rfl
  exact ⟨this, by cases hx : s.toList with
    | nil => exact absurd hx this
    | cons c r => rfl⟩
theorem goes_empty {s : ByteArray} (h : s.size = 0) : goes s.data.toList = false := by
  rw [List.eq_nil_of_length_eq_zero (l := s.data.toList) (by rw [size_list]; exact h)]; rfl
theorem goes_first {s : ByteArray} (h : 0 < s.size) : goes s.data.toList = (s[0] == 61 || leI (s[0].toNat : Int) || decide ((0 : Int) ≤ dg 10 s[0])) := by
  have := drop_at s 0 h
  rw [List.drop_zero] at this
  rw [this]; rfl

set_option maxHeartbeats 1600000 in
theorem goes_any (s : ByteArray) (w : World) (hs : s.size ≤ 1000000) :
    Calls Tryd.prog 82 #[.string s] w fun e w' => e = .returned (.bool (goes s.data.toList)) ∧ w = w' := by
  by_cases h0 : s.size = 0
  · rw [goes_empty h0]
    obtain ⟨e1, e2⟩ := empty_yes h0
    clear h0
    go_enter Tryd.func82, Tryd.ntmps82
    go_wp2
    go_ret
    exact ⟨rfl, rfl⟩
  · have hp : 0 < s.size := by omega
    rw [goes_first hp]
    obtain ⟨e1, e2⟩ := empty_no h0
    clear h0
    have hc := s[0].toNat_lt
    have HL := Lib.hid (letter_any (s[0].toNat : Int) w (by omega) (by omega))
    have HD := Lib.hid (dg_any 10 s[0] w (by omega) (by omega))
    have hdb := dg_bd 10 s[0]
    by_cases q1 : s[0] = 61
    · obtain ⟨f1, f2⟩ := byte_yes 61 rfl q1
      have g1 : (s[0] == 61) = true := by simpa using q1
      rw [g1, Bool.true_or, Bool.true_or]
      clear q1 g1
      go_enter Tryd.func82, Tryd.ntmps82
      go_wp2
      go_ret
      exact ⟨rfl, rfl⟩
    · obtain ⟨f1, f2⟩ := byte_no 61 rfl q1
      have g1 : (s[0] == 61) = false := by simpa using q1
      rw [g1, Bool.false_or]
      clear q1 g1
      by_cases q2 : leI (s[0].toNat : Int) = true
      · rw [q2] at HL
        rw [q2, Bool.true_or]
        clear q2
        go_enter Tryd.func82, Tryd.ntmps82
        go_wp2_with (go_at_call 32; refine HL.out.mono ?_; rintro e w' ⟨rfl, rfl⟩)
        go_ret
        exact ⟨rfl, rfl⟩
      · have q2' : leI (s[0].toNat : Int) = false := by simpa using q2
        rw [q2'] at HL
        rw [q2', Bool.false_or]
        clear q2 q2'
        generalize dg 10 s[0] = d at *
        obtain ⟨d1, d2⟩ := hdb
        by_cases q3 : 0 ≤ d
        · rw [decide_eq_true q3]
          go_enter Tryd.func82, Tryd.ntmps82
          go_wp2_with (first
            | (go_at_call 32; refine HL.out.mono ?_; rintro e w' ⟨rfl, rfl⟩)
            | (go_at_call 80; refine HD.out.mono ?_; rintro e w' ⟨rfl, rfl⟩))
          go_ret
          exact ⟨rfl, rfl⟩
        · rw [decide_eq_false q3]
          go_enter Tryd.func82, Tryd.ntmps82
          go_wp2_with (first
            | (go_at_call 32; refine HL.out.mono ?_; rintro e w' ⟨rfl, rfl⟩)
            | (go_at_call 80; refine HD.out.mono ?_; rintro e w' ⟨rfl, rfl⟩))
          go_ret
          exact ⟨ret_bool (by first | rfl | (simp; omega)), rfl⟩

theorem rdN_at (l : List UInt8) (value : Bool) (k : Nat) (h : 2 ≤ k) : rdN l value k = if nm ((l.take k).drop 1) = 0 then rdN l value (k - 1) else if value = true ∧ l[k - 1]? ≠ some 59 ∧ goes (l.drop k) = true then noRef else (encS (nm ((l.take k).drop 1)), k) := by
  obtain ⟨e, rfl⟩ : ∃ e, k = e + 2 := ⟨k - 2, by omega⟩
  rfl
theorem rdN_low (l : List UInt8) (value : Bool) (k : Nat) (h : k ≤ 1) : rdN l value k = noRef := by
  match k, h with
  | 0, _ => rfl
  | 1, _ => rfl

set_option maxHeartbeats 3200000 in
theorem readName_any (s : ByteArray) (value : Bool) (w : World) (hs : s.size ≤ 1000000) :
    Calls Tryd.prog 73 #[.string s, .bool value] w (RefPost (rdN s.data.toList value (min s.data.toList.length 9)) w) := by
  rw [size_list]
  have HN : Hid (∀ (k : Nat) (W : World), k ≤ s.size → Calls Tryd.prog 58 #[.string (s.extract 1 k)] W (NamedPost ((s.data.toList.take k).drop 1) W)) := Lib.hid (fun k W hk => by
    have := named_any (s.extract 1 k) W (by rw [ByteArray.size_extract]; omega)
    rw [ext_list] at this; exact this)
  have HG : Hid (∀ (k : Nat) (W : World), k ≤ s.size → Calls Tryd.prog 82 #[.string (s.extract k s.size)] W fun e w' => e = .returned (.bool (goes (s.data.toList.drop k))) ∧ W = w') := Lib.hid (fun k W hk => by
    have := goes_any (s.extract k s.size) W (by rw [ByteArray.size_extract]; omega)
    rw [ext_tail] at this; exact this)
  have hmin : (min (s.size : Int) 9 = ((min s.size 9 : Nat) : Int)) := by omega
  have HM := Lib.hid hmin
  clear hmin
  generalize hR : rdN s.data.toList value (min s.size 9) = R at *
  have HR := Lib.hid hR
  clear hR
  go_enter Tryd.func73, Tryd.ntmps73
  go_wp2
  go_loopw [6] (fun i wr => ∃ k : Nat, k ≤ s.size ∧ i = .int .i64 k ∧ rdN s.data.toList value k = R ∧ Below w.heap.size w wr) (fun i _ => (intOf i).toNat)
  case atStart => exact ⟨min s.size 9, by omega, by rw [HM.out], HR.out, Below.refl _ _⟩
  case round =>
    obtain ⟨k, hk, rfl, hr, hb⟩ := hrel
    have HK := Lib.hid hr
    have HB := Lib.hid hb
    clear hr hb
    by_cases h2 : 2 ≤ k
    · have HA := Lib.hid (HK.out.symm.trans (rdN_at s.data.toList value k h2))
      have hbd := nm_bd ((s.data.toList.take k).drop 1)
      have HNk := Lib.hid (HN.out k wr hk)
      have HE := Lib.hid (@Eq.refl _ (nmTx ((s.data.toList.take k).drop 1)))
      have HO := Lib.hid (@Eq.refl _ (nmOk ((s.data.toList.take k).drop 1)))
      by_cases hz : nm ((s.data.toList.take k).drop 1) = 0
      · have ho : nmOk ((s.data.toList.take k).drop 1) = false := by unfold nmOk; rw [hz]; rfl
        have HF := Lib.hid (HA.out.trans (if_pos hz))
        have HNk' : Hid (Calls Tryd.prog 58 #[.string (s.extract 1 k)] wr fun e w' => e = .returned (.tuple #[.string (nmTx ((s.data.toList.take k).drop 1)), .bool false]) ∧ Below wr.heap.size wr w') := Lib.hid (by
          have := HNk.out
          unfold NamedPost at this
          rw [ho] at this
          exact this)
        clear ho hz hbd HNk HO
        go_wp2_with fail
        refine HNk'.out.mono ?_
        rintro e w1 ⟨rfl, hb⟩
        have HB1 : Hid (Below w.heap.size w w1) := Lib.hid (HB.out.trans (hb.mono HB.out.size))
        clear hb
        go_wp2
        go_roundw
        case rel => exact ⟨k - 1, by omega, by go_num, HF.out.symm, HB1.out⟩
        case measure => simp [intOf]; omega
      · have ho : nmOk ((s.data.toList.take k).drop 1) = true := by unfold nmOk; rw [decide_eq_true hz]
        have ht : nmTx ((s.data.toList.take k).drop 1) = encS (nm ((s.data.toList.take k).drop 1)) := by unfold nmTx; rw [if_neg hz]
        have HF := Lib.hid (HA.out.trans (if_neg hz))
        have HNk' : Hid (Calls Tryd.prog 58 #[.string (s.extract 1 k)] wr fun e w' => e = .returned (.tuple #[.string (encS (nm ((s.data.toList.take k).drop 1))), .bool true]) ∧ Below wr.heap.size wr w') := Lib.hid (by
          have := HNk.out
          unfold NamedPost at this
          rw [ho, ht] at this
          exact this)
        have HGk := Lib.hid (fun W => HG.out k W hk)
        have hlast := get_at s (k - 1) (by omega)
        rw [hlast] at HF
        clear ho ht hz hbd HNk HO HE hlast
        generalize encS (nm ((s.data.toList.take k).drop 1)) = T at *
        generalize goes (s.data.toList.drop k) = g at *
        have hc := (s[k - 1]'(by omega)).toNat_lt
        cases value with
        | false =>
          have HQ : Hid (R = (T, k)) := Lib.hid (by rw [HF.out]; simp)
          go_wp2_with fail
          refine HNk'.out.mono ?_
          rintro e w1 ⟨rfl, hb⟩
          have HB1 : Hid (Below w.heap.size w w1) := Lib.hid (HB.out.trans (hb.mono HB.out.size))
          clear hb
          go_wp2
          go_ret2
          exact ⟨ret_ref (by rw [HQ.out]) (by rw [HQ.out]), HB1.out⟩
        | true =>
          by_cases h59 : (s[k - 1]'(by omega)) = 59
          · have HQ : Hid (R = (T, k)) := Lib.hid (by rw [HF.out, h59]; simp)
            obtain ⟨q1, q2⟩ := byte_yes 59 rfl h59
            clear h59
            go_wp2_with fail
            refine HNk'.out.mono ?_
            rintro e w1 ⟨rfl, hb⟩
            have HB1 : Hid (Below w.heap.size w w1) := Lib.hid (HB.out.trans (hb.mono HB.out.size))
            clear hb
            go_wp2
            go_ret2
            exact ⟨ret_ref (by rw [HQ.out]) (by rw [HQ.out]), HB1.out⟩
          · obtain ⟨q1, q2⟩ := byte_no 59 rfl h59
            cases g with
            | false =>
              have HQ : Hid (R = (T, k)) := Lib.hid (by rw [HF.out]; simp)
              clear h59
              go_wp2_with fail
              refine HNk'.out.mono ?_
              rintro e w1 ⟨rfl, hb⟩
              have HB1 : Hid (Below w.heap.size w w1) := Lib.hid (HB.out.trans (hb.mono HB.out.size))
              clear hb
              go_wp2_with fail
              refine (HGk.out w1).mono ?_
              rintro e w2 ⟨rfl, rfl⟩
              go_wp2
              go_ret2
              exact ⟨ret_ref (by rw [HQ.out]) (by rw [HQ.out]), HB1.out⟩
            | true =>
              have HQ : Hid (R = noRef) := Lib.hid (by rw [HF.out, if_pos ⟨rfl, by simpa using h59, rfl⟩])
              clear h59
              go_wp2_with fail
              refine HNk'.out.mono ?_
              rintro e w1 ⟨rfl, hb⟩
              have HB1 : Hid (Below w.heap.size w w1) := Lib.hid (HB.out.trans (hb.mono HB.out.size))
              clear hb
              go_wp2_with fail
              refine (HGk.out w1).mono ?_
              rintro e w2 ⟨rfl, rfl⟩
              go_wp2
              go_ret2
              exact ⟨ret_none HQ.out, HB1.out⟩
    · have HQ : Hid (R = noRef) := Lib.hid (by rw [← HK.out]; exact rdN_low _ _ _ (by omega))
      go_wp2
      go_ret2
      exact ⟨ret_none HQ.out, HB.out⟩
end Go.Proofs.YtkfaenhidjekdaaDoor.C
