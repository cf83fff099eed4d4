/-
  The walks of over and opens, and of the document's own begins and opens.
-/
import Derived.Test.YtdljjfeojccidaaQPlain
namespace Go.Proofs.Ytdljjfeojccidaa.Q
open Go.RowKit
open Go.Proofs.Ytdljjfeojccidaa.I (spI foldB foldB_eq lowL lowB ret_bool space_any rspace_any fold_any rfold_any)
open Go.Proofs.Ytdljjfeojccidaa.T (clB endI closes_any rcloses_any end_47 end_62 end_sp)

set_option maxHeartbeats 1600000 in
theorem over_any (s name : ByteArray) (w : World) (hs : s.size ≤ 10000) (hn : name.size ≤ 10000) :
    Calls Try.prog 47 #[.string s, .string name] w fun e w' => e = .returned (.bool (ovB s name)) ∧ Below w.heap.size w w' := by
  by_cases h0 : s.size = 0
  · have HF : Hid (true = ovB s name) := Lib.hid (by unfold ovB; rw [h0]; rfl)
    obtain ⟨e1, e2⟩ := C.empty_yes h0
    clear h0
    go_enter Try.func47, Try.ntmps47
    go_wp2
    go_ret
    exact ⟨ret_bool HF.out, Below.refl _ _⟩
  · have HF : Hid (clB s name = ovB s name) := Lib.hid (by unfold ovB; rw [show (s.size == 0) = false by simpa using h0]; rfl)
    have HC := Lib.hid (closes_any s name w hs hn)
    obtain ⟨e1, e2⟩ := C.empty_no h0
    clear h0
    generalize clB s name = q at *
    go_enter Try.func47, Try.ntmps47
    go_wp2_with fail
    refine HC.out.mono ?_
    rintro e w1 ⟨rfl, hbl⟩
    have HB := Lib.hid hbl
    clear hbl
    go_wp2
    go_ret
    exact ⟨ret_bool HF.out, HB.out⟩

theorem rbegins_any (s p : ByteArray) (w : World) :
    Calls Try.prog 49 #[.string s, .string p] w fun e w' => e = .returned (.bool (preB s p)) ∧ w = w' := by
  by_cases h : p.size ≤ s.size
  · have HF : Hid (((s.extract 0 p.size).toList == p.toList) = preB s p) := Lib.hid (preB_long h).symm
    have h1 : (0 : Int) ≤ (p.size : Int) := by omega
    have h2 : (p.size : Int) ≤ (s.size : Int) := by omega
    have hd : decide ((p.size : Int) ≤ (s.size : Int)) = true := by simpa using h
    go_enter Try.func49, Try.ntmps49
    go_wp2
    go_ret
    exact ⟨ret_bool HF.out, rfl⟩
  · have HF : Hid (false = preB s p) := Lib.hid (preB_short (by omega)).symm
    have hd : decide ((p.size : Int) ≤ (s.size : Int)) = false := by simpa using h
    go_enter Try.func49, Try.ntmps49
    go_wp2
    go_ret
    exact ⟨ret_bool HF.out, rfl⟩

theorem op_short {s : ByteArray} (h : ¬ 7 < s.size) : opB s = false := by unfold opB; rw [dif_neg h]
theorem op_is {s : ByteArray} (h : 7 < s.size) : opB s = (foldB (s.extract 0 7) ⟨#[60, 115, 99, 114, 105, 112, 116]⟩ && endI (s[7].toNat : Int)) := by unfold opB; rw [dif_pos h]
/-- The document holds < by itself against the first byte. -/
theorem fold_seven {s : ByteArray} (h : 7 < s.size) : foldB (s.extract 0 7) ⟨#[60, 115, 99, 114, 105, 112, 116]⟩ = (((s[0].toNat : Int) == 60) && foldB (s.extract 1 7) pScr) := by
  rw [foldB_eq, foldB_eq, C.ext_list, C.ext_list]
  have e : s.data.toList = s[0] :: s.data.toList.drop 1 := by
    have := C.drop_at s 0 (by omega)
    simpa using this
  rw [e]
  generalize s.data.toList.drop 1 = l
  generalize s[0] = c
  have e1 : ((c :: l).take 7).drop 0 = c :: l.take 6 := by simp
  have e2 : ((c :: l).take 7).drop 1 = l.take 6 := by simp
  rw [e1, e2]
  have e3 : lowL (⟨#[60, 115, 99, 114, 105, 112, 116]⟩ : ByteArray).data.toList = 60 :: lowL pScr.data.toList := by decide
  rw [e3]
  have e4 : lowL (c :: l.take 6) = lowB c :: lowL (l.take 6) := rfl
  rw [e4, Bool.eq_iff_iff]
  simp only [beq_iff_eq, List.cons.injEq, Bool.and_eq_true]
  constructor
  · rintro ⟨h1, h2⟩
    refine ⟨?_, h2⟩
    rw [lowB_60 h1]; rfl
  · rintro ⟨h1, h2⟩
    refine ⟨?_, h2⟩
    obtain rfl : c = 60 := I.byte_inj (by rw [h1]; rfl)
    rfl

set_option maxHeartbeats 1600000 in
theorem opens_any (s : ByteArray) (w : World) (hs : s.size ≤ 10000) :
    Calls Try.prog 48 #[.string s] w fun e w' => e = .returned (.bool (opB s)) ∧ Below w.heap.size w w' := by
  by_cases hl : 7 < s.size
  · have HI := Lib.hid (op_is hl)
    have HFo := Lib.hid (fun W => fold_any (s.extract 0 7) ⟨#[60, 115, 99, 114, 105, 112, 116]⟩ W (by rw [ByteArray.size_extract]; unfold maxLen; omega))
    have hd : decide ((s.size : Int) ≤ 7) = false := by simp; omega
    have h7 : (7 : Int) ≤ (s.size : Int) := by omega
    have h8 : (7 : Int) < (s.size : Int) := by omega
    have hc := s[7].toNat_lt
    generalize foldB (s.extract 0 7) ⟨#[60, 115, 99, 114, 105, 112, 116]⟩ = fo at *
    cases fo with
    | false =>
      have HF : Hid (false = opB s) := Lib.hid (by rw [HI.out]; rfl)
      clear HI
      go_enter Try.func48, Try.ntmps48
      go_wp2_with fail
      refine (HFo.out _).mono ?_
      rintro e w1 ⟨rfl, hbl⟩
      have HB := Lib.hid hbl
      clear hbl
      go_wp2
      go_ret
      exact ⟨ret_bool HF.out, HB.out⟩
    | true =>
      have HS := Lib.hid (fun W => space_any (s[7].toNat : Int) W (by omega) (by omega))
      have HI2 : Hid (opB s = endI (s[7].toNat : Int)) := Lib.hid (by rw [HI.out, Bool.true_and])
      clear HI
      cases a1 : ((s[7].toNat : Int) == 47) with
      | true =>
        have HF : Hid (true = opB s) := Lib.hid (by rw [HI2.out, (end_47 a1).1])
        rw [(end_47 a1).2] at HS
        go_enter Try.func48, Try.ntmps48
        go_wp2_with fail
        refine (HFo.out _).mono ?_
        rintro e w1 ⟨rfl, hbl⟩
        have HB := Lib.hid hbl
        clear hbl
        go_wp2_with (go_at_call 54; refine (HS.out _).mono ?_; rintro e w' ⟨rfl, rfl⟩)
        go_ret
        exact ⟨ret_bool HF.out, HB.out⟩
      | false =>
        cases a2 : ((s[7].toNat : Int) == 62) with
        | true =>
          have HF : Hid (true = opB s) := Lib.hid (by rw [HI2.out, (end_62 a2).1])
          rw [(end_62 a2).2] at HS
          go_enter Try.func48, Try.ntmps48
          go_wp2_with fail
          refine (HFo.out _).mono ?_
          rintro e w1 ⟨rfl, hbl⟩
          have HB := Lib.hid hbl
          clear hbl
          go_wp2_with (go_at_call 54; refine (HS.out _).mono ?_; rintro e w' ⟨rfl, rfl⟩)
          go_ret
          exact ⟨ret_bool HF.out, HB.out⟩
        | false =>
          have HF : Hid (spI (s[7].toNat : Int) = opB s) := Lib.hid (by rw [HI2.out, end_sp a1 a2])
          generalize spI (s[7].toNat : Int) = sp at *
          cases sp
          all_goals
            go_enter Try.func48, Try.ntmps48
            go_wp2_with fail
            refine (HFo.out _).mono ?_
            rintro e w1 ⟨rfl, hbl⟩
            have HB := Lib.hid hbl
            clear hbl
            go_wp2_with (go_at_call 54; refine (HS.out _).mono ?_; rintro e w' ⟨rfl, rfl⟩)
            go_ret
            exact ⟨ret_bool HF.out, HB.out⟩
  · have HF : Hid (false = opB s) := Lib.hid (op_short hl).symm
    have hd : decide ((s.size : Int) ≤ 7) = true := by simp; omega
    go_enter Try.func48, Try.ntmps48
    go_wp2
    go_ret
    exact ⟨ret_bool HF.out, Below.refl _ _⟩

set_option maxHeartbeats 1600000 in
theorem ropens_any (s : ByteArray) (w : World) (hs : s.size ≤ 10000) :
    Calls Try.prog 50 #[.string s] w fun e w' => e = .returned (.bool (opB s)) ∧ Below w.heap.size w w' := by
  by_cases hl : 7 < s.size
  · have HI := Lib.hid (op_is hl)
    rw [fold_seven hl] at HI
    have HFo := Lib.hid (fun W => rfold_any (s.extract 1 7) pScr W (by rw [ByteArray.size_extract]; unfold maxLen; omega) (by unfold maxLen; decide))
    have hd : decide ((s.size : Int) ≤ 7) = false := by simp; omega
    have h7 : (7 : Int) ≤ (s.size : Int) := by omega
    have h8 : (7 : Int) < (s.size : Int) := by omega
    have h00 : (0 : Int) < (s.size : Int) := by omega
    have hc := s[7].toNat_lt
    have hc0 := s[0].toNat_lt
    generalize foldB (s.extract 1 7) pScr = fo at *
    unfold pScr at HFo
    cases a0 : ((s[0].toNat : Int) == 60) with
    | false =>
      have HF : Hid (false = opB s) := Lib.hid (by rw [HI.out, a0]; rfl)
      clear HI
      go_enter Try.func50, Try.ntmps50
      go_wp2
      go_ret
      exact ⟨ret_bool HF.out, Below.refl _ _⟩
    | true =>
      cases fo with
      | false =>
        have HF : Hid (false = opB s) := Lib.hid (by rw [HI.out, a0]; rfl)
        clear HI
        go_enter Try.func50, Try.ntmps50
        go_wp2_with fail
        refine (HFo.out _).mono ?_
        rintro e w1 ⟨rfl, hbl⟩
        have HB := Lib.hid hbl
        clear hbl
        go_wp2
        go_ret
        exact ⟨ret_bool HF.out, HB.out⟩
      | true =>
        have HS := Lib.hid (fun W => rspace_any (s[7].toNat : Int) W (by omega) (by omega))
        have HI2 : Hid (opB s = endI (s[7].toNat : Int)) := Lib.hid (by rw [HI.out, a0, Bool.true_and, Bool.true_and])
        clear HI
        cases a1 : ((s[7].toNat : Int) == 47) with
        | true =>
          have HF : Hid (true = opB s) := Lib.hid (by rw [HI2.out, (end_47 a1).1])
          go_enter Try.func50, Try.ntmps50
          go_wp2_with fail
          refine (HFo.out _).mono ?_
          rintro e w1 ⟨rfl, hbl⟩
          have HB := Lib.hid hbl
          clear hbl
          go_wp2
          go_ret
          exact ⟨ret_bool HF.out, HB.out⟩
        | false =>
          cases a2 : ((s[7].toNat : Int) == 62) with
          | true =>
            have HF : Hid (true = opB s) := Lib.hid (by rw [HI2.out, (end_62 a2).1])
            go_enter Try.func50, Try.ntmps50
            go_wp2_with fail
            refine (HFo.out _).mono ?_
            rintro e w1 ⟨rfl, hbl⟩
            have HB := Lib.hid hbl
            clear hbl
            go_wp2
            go_ret
            exact ⟨ret_bool HF.out, HB.out⟩
          | false =>
            have HF : Hid (spI (s[7].toNat : Int) = opB s) := Lib.hid (by rw [HI2.out, end_sp a1 a2])
            generalize spI (s[7].toNat : Int) = sp at *
            cases sp
            all_goals
              go_enter Try.func50, Try.ntmps50
              go_wp2_with fail
              refine (HFo.out _).mono ?_
              rintro e w1 ⟨rfl, hbl⟩
              have HB := Lib.hid hbl
              clear hbl
              go_wp2_with (go_at_call 37; refine (HS.out _).mono ?_; rintro e w' ⟨rfl, rfl⟩)
              go_ret
              exact ⟨ret_bool HF.out, HB.out⟩
  · have HF : Hid (false = opB s) := Lib.hid (op_short hl).symm
    have hd : decide ((7 : Int) < s.size) = false := by simp; omega
    go_enter Try.func50, Try.ntmps50
    go_wp2
    go_ret
    exact ⟨ret_bool HF.out, Below.refl _ _⟩
end Go.Proofs.Ytdljjfeojccidaa.Q
