/-
  The walks of both Closes.
-/
import Derived.Test.YtceelfomgcbkiaaGreatDoorGIZ
import Derived.Test.YtceelfomgcbkiaaGreatDoorTBeginZ
import Derived.Test.YtceelfomgcbkiaaGreatDoorGCZ
namespace Go.Proofs.YtceelfomgcbkiaaGreatDoor.T
open Go.RowKit
open Go.Proofs.YtceelfomgcbkiaaGreatDoor.I (spI space_any rspace_any foldB fold_any rfold_any)

def endI (c : Int) : Bool := spI c || c == 47 || c == 62
def clB (s name : ByteArray) : Bool := if h : name.size + 2 < s.size then !(name.size == 0) && (hitB s 0 60 && hitB s 1 47) && foldB (s.extract 2 (name.size + 2)) name && endI (s[name.size + 2].toNat : Int) else false
theorem cl_short {s name : ByteArray} (h : ¬ name.size + 2 < s.size) : clB s name = false := by unfold clB; rw [dif_neg h]
theorem cl_empty {s name : ByteArray} (h : name.size = 0) : clB s name = false := by
  unfold clB; split
  · rw [show (name.size == 0) = true by rw [h]; rfl]; rfl
  · rfl
theorem cl_pre {s name : ByteArray} (h : (hitB s 0 60 && hitB s 1 47) = false) : clB s name = false := by
  unfold clB; split
  · rw [h, Bool.and_false]; rfl
  · rfl
theorem cl_is {s name : ByteArray} (hl : name.size + 2 < s.size) (h0 : name.size ≠ 0) (h1 : (hitB s 0 60 && hitB s 1 47) = true) : clB s name = (foldB (s.extract 2 (name.size + 2)) name && endI (s[name.size + 2].toNat : Int)) := by
  unfold clB
  rw [dif_pos hl, h1, show (name.size == 0) = false by simpa using h0]; rfl
theorem end_47 {c : Int} (h : (c == 47) = true) : endI c = true ∧ spI c = false := by rw [beq_iff_eq] at h; subst h; exact ⟨rfl, rfl⟩
theorem end_62 {c : Int} (h : (c == 62) = true) : endI c = true ∧ spI c = false := by rw [beq_iff_eq] at h; subst h; exact ⟨rfl, rfl⟩
theorem end_sp {c : Int} (h : (c == 47) = false) (h2 : (c == 62) = false) : endI c = spI c := by unfold endI; rw [h, h2, Bool.or_false, Bool.or_false]
/-- What stands behind </. -/
theorem trim_two {s : ByteArray} (h : (hitB s 0 60 && hitB s 1 47) = true) : (⟨(Lib.trimPrefix s.data.toList [60, 47]).toArray⟩ : ByteArray) = s.extract 2 s.size := by
  apply C.eq_of_list
  rw [C.ext_list]
  have hp : Lib.hasPrefix s.data.toList [60, 47] = true := by rw [pre_two]; exact h
  have e : Lib.trimPrefix s.data.toList [60, 47] = s.data.toList.drop 2 := by
    unfold Lib.trimPrefix
    rw [if_pos hp]; rfl
  rw [← C.size_list, List.take_length]
  simpa using e

set_option maxHeartbeats 3200000 in
theorem closes_any (s name : ByteArray) (w : World) (hs : s.size ≤ 10000) (hn : name.size ≤ 10000) :
    Calls Tryz.prog 73 #[.string s, .string name] w fun e w' => e = .returned (.bool (clB s name)) ∧ Below w.heap.size w w' := by
  have HP := Lib.hid (fun W => Tryz.strings_CutPrefix s ⟨#[60, 47]⟩ W)
  have e2 : ((⟨#[60, 47]⟩ : ByteArray).data.toList) = [60, 47] := rfl
  rw [e2, pre_two] at HP
  clear e2
  cases hp : (hitB s 0 60 && hitB s 1 47) with
  | false =>
    rw [hp] at HP
    have HF : Hid (false = clB s name) := Lib.hid (cl_pre hp).symm
    clear hp
    generalize (⟨(Lib.trimPrefix s.data.toList [60, 47]).toArray⟩ : ByteArray) = t at *
    go_enter Tryz.func73, Tryz.ntmps73
    go_wp2_with (go_at_call 101; refine (HP.out _).mono ?_; rintro e w' ⟨rfl, rfl⟩)
    go_ret
    exact ⟨I.ret_bool HF.out, Below.refl _ _⟩
  | true =>
    have h2 : 1 < s.size := by rw [Bool.and_eq_true] at hp; exact hit_lt hp.2
    rw [hp, trim_two hp] at HP
    obtain ⟨t, ht⟩ : ∃ t, t = s.extract 2 s.size := ⟨_, rfl⟩
    have htz : t.size + 2 = s.size := by rw [ht, ByteArray.size_extract]; omega
    have htz1 : t.size + 2 ≤ s.size := by omega
    have htz2 : s.size ≤ t.size + 2 := by omega
    rw [← ht] at HP
    by_cases h0 : name.size = 0
    · have HF : Hid (false = clB s name) := Lib.hid (cl_empty h0).symm
      obtain ⟨e1, e2⟩ := C.empty_yes h0
      clear hp ht htz h0
      go_enter Tryz.func73, Tryz.ntmps73
      go_wp2_with (go_at_call 101; refine (HP.out _).mono ?_; rintro e w' ⟨rfl, rfl⟩)
      go_ret
      exact ⟨I.ret_bool HF.out, Below.refl _ _⟩
    · obtain ⟨e1, e2⟩ := C.empty_no h0
      by_cases hl : name.size + 2 < s.size
      · have HI := Lib.hid (cl_is hl h0 hp)
        have hx : t.extract 0 name.size = s.extract 2 (name.size + 2) := by
          rw [ht, I.ext_ext s 2 s.size 0 name.size (by omega) (by omega)]; congr 1; omega
        have hlt : name.size < t.size := by omega
        have hg : t[name.size] = s[name.size + 2] := by
          subst ht
          rw [I.ext_get _ _ _ _ _ (by omega)]; exact I.get_at (by omega) _ _
        have HFo := Lib.hid (fun W => fold_any (t.extract 0 name.size) name W (by rw [ByteArray.size_extract]; unfold maxLen; omega))
        rw [← hg, ← hx] at HI
        clear hp ht htz h0 hx hg
        have hd : decide (t.size ≤ name.size) = false := by simpa using hlt
        generalize foldB (t.extract 0 name.size) name = fo at *
        have hi0 : (name.size : Int) ≤ (t.size : Int) := by omega
        have hi1 : (name.size : Int) < (t.size : Int) := by omega
        have hc := t[name.size].toNat_lt
        cases fo with
        | false =>
          have HF : Hid (false = clB s name) := Lib.hid (by rw [HI.out]; rfl)
          clear HI
          go_enter Tryz.func73, Tryz.ntmps73
          go_wp2_with (go_at_call 101; refine (HP.out _).mono ?_; rintro e w' ⟨rfl, rfl⟩)
          refine (HFo.out _).mono ?_
          rintro e w1 ⟨rfl, hbl⟩
          go_wp2
          go_ret
          exact ⟨I.ret_bool HF.out, hbl⟩
        | true =>
          have HS := Lib.hid (fun W => space_any (t[name.size].toNat : Int) W (by omega) (by omega))
          have HI2 : Hid (clB s name = endI (t[name.size].toNat : Int)) := Lib.hid (by rw [HI.out, Bool.true_and])
          clear HI
          cases a1 : ((t[name.size].toNat : Int) == 47) with
          | true =>
            have HF : Hid (true = clB s name) := Lib.hid (by rw [HI2.out, (end_47 a1).1])
            rw [(end_47 a1).2] at HS
            go_enter Tryz.func73, Tryz.ntmps73
            go_wp2_with (go_at_call 101; refine (HP.out _).mono ?_; rintro e w' ⟨rfl, rfl⟩)
            refine (HFo.out _).mono ?_
            rintro e w1 ⟨rfl, hbl⟩
            go_wp2_with (go_at_call 78; refine (HS.out _).mono ?_; rintro e w' ⟨rfl, rfl⟩)
            go_ret
            exact ⟨I.ret_bool HF.out, hbl⟩
          | false =>
            cases a2 : ((t[name.size].toNat : Int) == 62) with
            | true =>
              have HF : Hid (true = clB s name) := Lib.hid (by rw [HI2.out, (end_62 a2).1])
              rw [(end_62 a2).2] at HS
              go_enter Tryz.func73, Tryz.ntmps73
              go_wp2_with (go_at_call 101; refine (HP.out _).mono ?_; rintro e w' ⟨rfl, rfl⟩)
              refine (HFo.out _).mono ?_
              rintro e w1 ⟨rfl, hbl⟩
              go_wp2_with (go_at_call 78; refine (HS.out _).mono ?_; rintro e w' ⟨rfl, rfl⟩)
              go_ret
              exact ⟨I.ret_bool HF.out, hbl⟩
            | false =>
              have HF : Hid (spI (t[name.size].toNat : Int) = clB s name) := Lib.hid (by rw [HI2.out, end_sp a1 a2])
              generalize spI (t[name.size].toNat : Int) = sp at *
              cases sp
              all_goals
                go_enter Tryz.func73, Tryz.ntmps73
                go_wp2_with (go_at_call 101; refine (HP.out _).mono ?_; rintro e w' ⟨rfl, rfl⟩)
                refine (HFo.out _).mono ?_
                rintro e w1 ⟨rfl, hbl⟩
                go_wp2_with (go_at_call 78; refine (HS.out _).mono ?_; rintro e w' ⟨rfl, rfl⟩)
                go_ret
                exact ⟨I.ret_bool HF.out, hbl⟩
      · have HF : Hid (false = clB s name) := Lib.hid (cl_short hl).symm
        have hd : decide (t.size ≤ name.size) = true := by simp; omega
        clear hp ht htz h0
        go_enter Tryz.func73, Tryz.ntmps73
        go_wp2_with (go_at_call 101; refine (HP.out _).mono ?_; rintro e w' ⟨rfl, rfl⟩)
        go_ret
        exact ⟨I.ret_bool HF.out, Below.refl _ _⟩

set_option maxHeartbeats 3200000 in
theorem rcloses_any (s name : ByteArray) (w : World) (hs : s.size ≤ 10000) (hn : name.size ≤ 10000) :
    Calls Tryz.prog 45 #[.string s, .string name] w fun e w' => e = .returned (.bool (clB s name)) ∧ Below w.heap.size w w' := by
  by_cases h0 : name.size = 0
  · have HF : Hid (false = clB s name) := Lib.hid (cl_empty h0).symm
    obtain ⟨e1, e2⟩ := C.empty_yes h0
    clear h0
    go_enter Tryz.func45, Tryz.ntmps45
    go_wp2
    go_ret
    exact ⟨I.ret_bool HF.out, Below.refl _ _⟩
  · obtain ⟨e1, e2⟩ := C.empty_no h0
    by_cases hl : name.size + 2 < s.size
    · have hd : decide ((s.size : Int) ≤ (name.size : Int) + 2) = false := by simp; omega
      have hl0 : 0 < s.size := by omega
      have hl1 : 1 < s.size := by omega
      have b0 := s[0].toNat_lt
      have b1 := s[1].toNat_lt
      cases q0 : hitB s 0 60 with
      | false =>
        have HF : Hid (false = clB s name) := Lib.hid (cl_pre (by rw [q0]; rfl)).symm
        have g := hitB_lt (c := 60) hl0
        rw [q0] at g
        have e60 : ((s[0].toNat : Int) == 60) = false := g.symm
        have n60 : ((s[0].toNat : Int) != 60) = true := by rw [bne, e60]; rfl
        clear h0 q0 g
        go_enter Tryz.func45, Tryz.ntmps45
        go_wp2
        go_ret
        exact ⟨I.ret_bool HF.out, Below.refl _ _⟩
      | true =>
        have g := hitB_lt (c := 60) hl0
        rw [q0] at g
        have e60 : ((s[0].toNat : Int) == 60) = true := g.symm
        have n60 : ((s[0].toNat : Int) != 60) = false := by rw [bne, e60]; rfl
        clear g
        cases q1 : hitB s 1 47 with
        | false =>
          have HF : Hid (false = clB s name) := Lib.hid (cl_pre (by rw [q0, q1]; rfl)).symm
          have g := hitB_lt (c := 47) hl1
          rw [q1] at g
          have e47 : ((s[1].toNat : Int) == 47) = false := g.symm
          have n47 : ((s[1].toNat : Int) != 47) = true := by rw [bne, e47]; rfl
          clear h0 q0 q1 g
          go_enter Tryz.func45, Tryz.ntmps45
          go_wp2
          go_ret
          exact ⟨I.ret_bool HF.out, Below.refl _ _⟩
        | true =>
          have HI := Lib.hid (cl_is hl h0 (by rw [q0, q1]; rfl))
          have g := hitB_lt (c := 47) hl1
          rw [q1] at g
          have e47 : ((s[1].toNat : Int) == 47) = true := g.symm
          have n47 : ((s[1].toNat : Int) != 47) = false := by rw [bne, e47]; rfl
          clear h0 q0 q1 g
          obtain ⟨n, hne⟩ : ∃ n, n = name.size + 2 := ⟨_, rfl⟩
          have HFo := Lib.hid (fun W => rfold_any (s.extract 2 n) name W (by rw [ByteArray.size_extract]; unfold maxLen; omega) (by unfold maxLen; omega))
          have hn1 : n ≤ name.size + 2 := by omega
          have hn2 : name.size + 2 ≤ n := by omega
          have hnl : n < s.size := by omega
          have eN : (name.size : Int) + 2 = (n : Int) := by omega
          have hc := s[n].toNat_lt
          have HI1 : Hid (clB s name = (foldB (s.extract 2 n) name && endI (s[n].toNat : Int))) := Lib.hid (by subst hne; exact HI.out)
          have hd2 : decide (s.size ≤ n) = false := by simpa using hnl
          clear HI hne hd
          generalize foldB (s.extract 2 n) name = fo at *
          have hi0 : (2 : Int) ≤ (n : Int) := by omega
          have hi1 : (n : Int) ≤ (s.size : Int) := by omega
          have hi2 : (0 : Int) ≤ (n : Int) := by omega
          have hi3 : (n : Int) < (s.size : Int) := by omega
          cases fo with
          | false =>
            have HF : Hid (false = clB s name) := Lib.hid (by rw [HI1.out]; rfl)
            clear HI1
            go_enter Tryz.func45, Tryz.ntmps45
            go_wp2_with fail
            refine (HFo.out _).mono ?_
            rintro e w1 ⟨rfl, hbl⟩
            go_wp2
            go_ret
            exact ⟨I.ret_bool HF.out, hbl⟩
          | true =>
            have HS := Lib.hid (fun W => rspace_any (s[n].toNat : Int) W (by omega) (by omega))
            have HI2 : Hid (clB s name = endI (s[n].toNat : Int)) := Lib.hid (by rw [HI1.out, Bool.true_and])
            clear HI1
            cases a1 : ((s[n].toNat : Int) == 47) with
            | true =>
              have HF : Hid (true = clB s name) := Lib.hid (by rw [HI2.out, (end_47 a1).1])
              go_enter Tryz.func45, Tryz.ntmps45
              go_wp2_with fail
              refine (HFo.out _).mono ?_
              rintro e w1 ⟨rfl, hbl⟩
              go_wp2
              go_ret
              exact ⟨I.ret_bool HF.out, hbl⟩
            | false =>
              cases a2 : ((s[n].toNat : Int) == 62) with
              | true =>
                have HF : Hid (true = clB s name) := Lib.hid (by rw [HI2.out, (end_62 a2).1])
                go_enter Tryz.func45, Tryz.ntmps45
                go_wp2_with fail
                refine (HFo.out _).mono ?_
                rintro e w1 ⟨rfl, hbl⟩
                go_wp2
                go_ret
                exact ⟨I.ret_bool HF.out, hbl⟩
              | false =>
                have HF : Hid (spI (s[n].toNat : Int) = clB s name) := Lib.hid (by rw [HI2.out, end_sp a1 a2])
                generalize spI (s[n].toNat : Int) = sp at *
                cases sp
                all_goals
                  go_enter Tryz.func45, Tryz.ntmps45
                  go_wp2_with fail
                  refine (HFo.out _).mono ?_
                  rintro e w1 ⟨rfl, hbl⟩
                  go_wp2_with (go_at_call 47; refine (HS.out _).mono ?_; rintro e w' ⟨rfl, rfl⟩)
                  go_ret
                  exact ⟨I.ret_bool HF.out, hbl⟩
    · have HF : Hid (false = clB s name) := Lib.hid (cl_short hl).symm
      have hd : decide ((s.size : Int) ≤ (name.size : Int) + 2) = true := by simp; omega
      clear h0
      go_enter Tryz.func45, Tryz.ntmps45
      go_wp2
      go_ret
      exact ⟨I.ret_bool HF.out, Below.refl _ _⟩
end Go.Proofs.YtceelfomgcbkiaaGreatDoor.T
