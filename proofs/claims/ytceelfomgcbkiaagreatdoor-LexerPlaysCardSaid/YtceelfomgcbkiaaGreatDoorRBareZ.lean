/-
  The walk of the document's own bare.
-/
import Derived.Test.YtceelfomgcbkiaaGreatDoorRRefZ
import Derived.Test.YtceelfomgcbkiaaGreatDoorGR1Z
namespace Go.Proofs.YtceelfomgcbkiaaGreatDoor.R
open Go.RowKit

theorem suf_in {s p : ByteArray} (h : p.size ≤ s.size) : ((s.extract (s.size - p.size) s.size).toList == p.toList) = Lib.hasSuffix s.data.toList p.data.toList := by
  rw [← Lib.hasSuffix_raw, decide_eq_true h, Bool.true_and]
theorem suf_short {s p : ByteArray} (h : s.size < p.size) : Lib.hasSuffix s.data.toList p.data.toList = false := by
  rw [← Lib.hasSuffix_raw, decide_eq_false (by omega)]; rfl
theorem suf_size {s p : ByteArray} (h : Lib.hasSuffix s.data.toList p.data.toList = true) : p.size ≤ s.size := by
  rcases Nat.lt_or_ge s.size p.size with h2 | h2
  · rw [suf_short h2] at h; cases h
  · exact h2
theorem trim_ext {s p : ByteArray} (h : Lib.hasSuffix s.data.toList p.data.toList = true) : C.mkB (Lib.trimSuffix s.data.toList p.data.toList) = s.extract 0 (s.size - p.size) := by
  unfold Lib.trimSuffix
  rw [if_pos h, ← mk_take, C.size_list, C.size_list]
set_option maxHeartbeats 1600000 in
theorem rbare_any (s : ByteArray) (w : World) (hs : s.size ≤ 10000) :
    Calls Tryz.prog 86 #[.string s] w fun e w' => e = .returned (.string (C.mkB (bare s.data.toList))) ∧ w = w' := by
  obtain ⟨b, hb⟩ : ∃ b, b = C.mkB (bare s.data.toList) := ⟨_, rfl⟩
  rw [← hb]
  have HB := Lib.hid hb
  clear hb
  by_cases z3 : 3 ≤ s.size
  · obtain ⟨m3, hm3⟩ : ∃ m, m = s.size - 3 := ⟨_, rfl⟩
    have e3 := suf_in (s := s) (p := ⟨#[45, 45, 33]⟩) z3
    rw [show (⟨#[45, 45, 33]⟩ : ByteArray).size = 3 from rfl, ← hm3, show (⟨#[45, 45, 33]⟩ : ByteArray).toList = [45, 45, 33] by rw [ByteArray.toList_eq]] at e3
    have i3 : (s.size : Int) - 3 = (m3 : Int) := by omega
    have j3 : (0 : Int) ≤ (m3 : Int) := by omega
    have k3 : (m3 : Int) ≤ (s.size : Int) := by omega
    have d3 : decide ((3 : Int) ≤ (s.size : Int)) = true := by simp; omega
    cases h3 : Lib.hasSuffix s.data.toList [45, 45, 33] with
    | true =>
      have HF : Hid (s.extract 0 m3 = b) := Lib.hid (by rw [HB.out, bare_3  h3, trim_ext (p := ⟨#[45, 45, 33]⟩) h3, hm3]; rfl)
      replace e3 := e3.trans h3
      clear hm3  h3 HB
      go_enter Tryz.func86, Tryz.ntmps86
      go_wp2
      go_ret
      exact ⟨ret_str HF.out, rfl⟩
    | false =>
      replace e3 := e3.trans h3
      clear hm3
      have z2 : 2 ≤ s.size := by omega
      obtain ⟨m2, hm2⟩ : ∃ m, m = s.size - 2 := ⟨_, rfl⟩
      have e2 := suf_in (s := s) (p := ⟨#[45, 45]⟩) z2
      rw [show (⟨#[45, 45]⟩ : ByteArray).size = 2 from rfl, ← hm2, show (⟨#[45, 45]⟩ : ByteArray).toList = [45, 45] by rw [ByteArray.toList_eq]] at e2
      have i2 : (s.size : Int) - 2 = (m2 : Int) := by omega
      have j2 : (0 : Int) ≤ (m2 : Int) := by omega
      have k2 : (m2 : Int) ≤ (s.size : Int) := by omega
      have d2 : decide ((2 : Int) ≤ (s.size : Int)) = true := by simp; omega
      cases h2 : Lib.hasSuffix s.data.toList [45, 45] with
      | true =>
        have HF : Hid (s.extract 0 m2 = b) := Lib.hid (by rw [HB.out, bare_2 h3 h2, trim_ext (p := ⟨#[45, 45]⟩) h2, hm2]; rfl)
        replace e2 := e2.trans h2
        clear hm2 h3 h2 HB
        go_enter Tryz.func86, Tryz.ntmps86
        go_wp2
        go_ret
        exact ⟨ret_str HF.out, rfl⟩
      | false =>
        replace e2 := e2.trans h2
        clear hm2
        have z1 : 1 ≤ s.size := by omega
        obtain ⟨m1, hm1⟩ : ∃ m, m = s.size - 1 := ⟨_, rfl⟩
        have e1 := suf_in (s := s) (p := ⟨#[45]⟩) z1
        rw [show (⟨#[45]⟩ : ByteArray).size = 1 from rfl, ← hm1, show (⟨#[45]⟩ : ByteArray).toList = [45] by rw [ByteArray.toList_eq]] at e1
        have i1 : (s.size : Int) - 1 = (m1 : Int) := by omega
        have j1 : (0 : Int) ≤ (m1 : Int) := by omega
        have k1 : (m1 : Int) ≤ (s.size : Int) := by omega
        have d1 : decide ((1 : Int) ≤ (s.size : Int)) = true := by simp; omega
        cases h1 : Lib.hasSuffix s.data.toList [45] with
        | true =>
          have HF : Hid (s.extract 0 m1 = b) := Lib.hid (by rw [HB.out, bare_1 h3 h2 h1, trim_ext (p := ⟨#[45]⟩) h1, hm1]; rfl)
          replace e1 := e1.trans h1
          clear hm1 h3 h2 h1 HB
          go_enter Tryz.func86, Tryz.ntmps86
          go_wp2
          go_ret
          exact ⟨ret_str HF.out, rfl⟩
        | false =>
          replace e1 := e1.trans h1
          clear hm1
          have HF : Hid (s = b) := Lib.hid (by rw [HB.out, bare_0 h3 h2 h1, C.mkB_of])
          clear h3 h2 h1
          go_enter Tryz.func86, Tryz.ntmps86
          go_wp2
          go_ret
          exact ⟨ret_str HF.out, rfl⟩
  · have h3 : Lib.hasSuffix s.data.toList [45, 45, 33] = false := suf_short (p := ⟨#[45, 45, 33]⟩) (by show s.size < 3; omega)
    have d3 : decide ((3 : Int) ≤ (s.size : Int)) = false := by simp; omega
    by_cases z2 : 2 ≤ s.size
    · obtain ⟨m2, hm2⟩ : ∃ m, m = s.size - 2 := ⟨_, rfl⟩
      have e2 := suf_in (s := s) (p := ⟨#[45, 45]⟩) z2
      rw [show (⟨#[45, 45]⟩ : ByteArray).size = 2 from rfl, ← hm2, show (⟨#[45, 45]⟩ : ByteArray).toList = [45, 45] by rw [ByteArray.toList_eq]] at e2
      have i2 : (s.size : Int) - 2 = (m2 : Int) := by omega
      have j2 : (0 : Int) ≤ (m2 : Int) := by omega
      have k2 : (m2 : Int) ≤ (s.size : Int) := by omega
      have d2 : decide ((2 : Int) ≤ (s.size : Int)) = true := by simp; omega
      cases h2 : Lib.hasSuffix s.data.toList [45, 45] with
      | true =>
        have HF : Hid (s.extract 0 m2 = b) := Lib.hid (by rw [HB.out, bare_2 h3 h2, trim_ext (p := ⟨#[45, 45]⟩) h2, hm2]; rfl)
        replace e2 := e2.trans h2
        clear hm2 h3 h2 HB
        go_enter Tryz.func86, Tryz.ntmps86
        go_wp2
        go_ret
        exact ⟨ret_str HF.out, rfl⟩
      | false =>
        replace e2 := e2.trans h2
        clear hm2
        have z1 : 1 ≤ s.size := by omega
        obtain ⟨m1, hm1⟩ : ∃ m, m = s.size - 1 := ⟨_, rfl⟩
        have e1 := suf_in (s := s) (p := ⟨#[45]⟩) z1
        rw [show (⟨#[45]⟩ : ByteArray).size = 1 from rfl, ← hm1, show (⟨#[45]⟩ : ByteArray).toList = [45] by rw [ByteArray.toList_eq]] at e1
        have i1 : (s.size : Int) - 1 = (m1 : Int) := by omega
        have j1 : (0 : Int) ≤ (m1 : Int) := by omega
        have k1 : (m1 : Int) ≤ (s.size : Int) := by omega
        have d1 : decide ((1 : Int) ≤ (s.size : Int)) = true := by simp; omega
        cases h1 : Lib.hasSuffix s.data.toList [45] with
        | true =>
          have HF : Hid (s.extract 0 m1 = b) := Lib.hid (by rw [HB.out, bare_1 h3 h2 h1, trim_ext (p := ⟨#[45]⟩) h1, hm1]; rfl)
          replace e1 := e1.trans h1
          clear hm1 h3 h2 h1 HB
          go_enter Tryz.func86, Tryz.ntmps86
          go_wp2
          go_ret
          exact ⟨ret_str HF.out, rfl⟩
        | false =>
          replace e1 := e1.trans h1
          clear hm1
          have HF : Hid (s = b) := Lib.hid (by rw [HB.out, bare_0 h3 h2 h1, C.mkB_of])
          clear h3 h2 h1
          go_enter Tryz.func86, Tryz.ntmps86
          go_wp2
          go_ret
          exact ⟨ret_str HF.out, rfl⟩
    · have h2 : Lib.hasSuffix s.data.toList [45, 45] = false := suf_short (p := ⟨#[45, 45]⟩) (by show s.size < 2; omega)
      have d2 : decide ((2 : Int) ≤ (s.size : Int)) = false := by simp; omega
      by_cases z1 : 1 ≤ s.size
      · obtain ⟨m1, hm1⟩ : ∃ m, m = s.size - 1 := ⟨_, rfl⟩
        have e1 := suf_in (s := s) (p := ⟨#[45]⟩) z1
        rw [show (⟨#[45]⟩ : ByteArray).size = 1 from rfl, ← hm1, show (⟨#[45]⟩ : ByteArray).toList = [45] by rw [ByteArray.toList_eq]] at e1
        have i1 : (s.size : Int) - 1 = (m1 : Int) := by omega
        have j1 : (0 : Int) ≤ (m1 : Int) := by omega
        have k1 : (m1 : Int) ≤ (s.size : Int) := by omega
        have d1 : decide ((1 : Int) ≤ (s.size : Int)) = true := by simp; omega
        cases h1 : Lib.hasSuffix s.data.toList [45] with
        | true =>
          have HF : Hid (s.extract 0 m1 = b) := Lib.hid (by rw [HB.out, bare_1 h3 h2 h1, trim_ext (p := ⟨#[45]⟩) h1, hm1]; rfl)
          replace e1 := e1.trans h1
          clear hm1 h3 h2 h1 HB
          go_enter Tryz.func86, Tryz.ntmps86
          go_wp2
          go_ret
          exact ⟨ret_str HF.out, rfl⟩
        | false =>
          replace e1 := e1.trans h1
          clear hm1
          have HF : Hid (s = b) := Lib.hid (by rw [HB.out, bare_0 h3 h2 h1, C.mkB_of])
          clear h3 h2 h1
          go_enter Tryz.func86, Tryz.ntmps86
          go_wp2
          go_ret
          exact ⟨ret_str HF.out, rfl⟩
      · have h1 : Lib.hasSuffix s.data.toList [45] = false := suf_short (p := ⟨#[45]⟩) (by show s.size < 1; omega)
        have d1 : decide ((1 : Int) ≤ (s.size : Int)) = false := by simp; omega
        have HF : Hid (s = b) := Lib.hid (by rw [HB.out, bare_0 h3 h2 h1, C.mkB_of])
        clear h3 h2 h1
        go_enter Tryz.func86, Tryz.ntmps86
        go_wp2
        go_ret
        exact ⟨ret_str HF.out, rfl⟩
end Go.Proofs.YtceelfomgcbkiaaGreatDoor.R
