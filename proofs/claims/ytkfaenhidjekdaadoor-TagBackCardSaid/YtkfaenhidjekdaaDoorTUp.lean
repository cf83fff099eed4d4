/-
  The walks of spaces and upTo.
-/
import Derived.Test.YtkfaenhidjekdaaDoorTMem
namespace Go.Proofs.YtkfaenhidjekdaaDoor.T
open Go.RowKit
open Go.Proofs.YtkfaenhidjekdaaDoor.I (spI spC leI space_any)
open Go.Proofs.YtkfaenhidjekdaaDoor.A (ret_bool ret_int)

theorem quiet_left {P : Program} {f : FuncId} {args : Array Value} {w : World} {n : Nat} {v : Value}
    (h : Calls P f args (w.drewN n) fun e w' => e = .returned v ∧ w.drewN n = w') : Calls P f args (w.drewN n) fun e w'' => e = .returned v ∧ ∃ m, w'' = w.drewN m :=
  h.mono fun _ _ ⟨he, hm⟩ => ⟨he, n, hm.symm⟩
theorem quiet_same {P : Program} {f : FuncId} {args : Array Value} {w : World} {n : Nat} {v : Value}
    (h : Calls P f args (w.drewN n) fun e w' => e = .returned v ∧ w' = w.drewN n) : Calls P f args (w.drewN n) fun e w'' => e = .returned v ∧ ∃ m, w'' = w.drewN m :=
  h.mono fun _ _ ⟨he, hm⟩ => ⟨he, n, hm⟩
theorem get_of (s : ByteArray) (k : Nat) (_h : k < s.size) (h2 : k < s.data.toList.length) : s.data.toList[k] = s[k] := rfl

section
variable {R : Nat} {s : ByteArray} {k : Nat} {self : Bool} {v m : Value}
set_option maxHeartbeats 800000 in
theorem spaces_any (w : World) (h : RB w R s k self v m) (hk : k ≤ s.size) (hs : s.size ≤ 1000000) : Calls Tryd.prog 36 #[.pointer (some ⟨R, 0, none⟩)] w fun e w' => e = .returned (.tuple #[]) ∧ Mv w w' R s (skp s.data.toList k) self v m := by
  have H := Lib.hid h
  clear h
  go_enter Tryd.func36, Tryd.ntmps36
  go_wp2
  go_loopg [] (s.size - k) (fun g wr => ∃ k', g = s.size - k' ∧ k' ≤ s.size ∧ skp s.data.toList k = skp s.data.toList k' ∧ Mv w wr R s k' self v m)
  case atStart => exact ⟨k, rfl, hk, rfl, Mv.start H.out⟩
  case round =>
    obtain ⟨j, hg, hj, hh, hmv⟩ := hrel
    have HM := Lib.hid hmv
    have HH := Lib.hid hh
    have HG := Lib.hid hg
    clear hh hg
    have h0 := hmv.1.c0
    have h1 := hmv.1.c1
    have hf := hmv.1.fz 1
    clear hmv
    by_cases hlt : j < s.size
    · have HO := Lib.hid (fun n => over_no (wr.drewN n) (HM.out.1.drewN n) hlt)
      have hi0 : (0 : Int) ≤ (j : Int) := by omega
      have hi1 : (j : Int) < (s.size : Int) := by omega
      have hc2 := s[j].toNat_lt
      have HSp := Lib.hid (fun W => space_any (s[j].toNat : Int) W (by omega) (by omega))
      have hll : j < s.data.toList.length := by rw [C.size_list]; exact hlt
      by_cases hq : spC s[j] = true
      · have HF := Lib.hid (run_yes hll hq)
        have e1 : spI (s[j].toNat : Int) = true := hq
        rw [e1] at HSp
        clear hq e1 hll
        go_wp2
        go_quiet ((first | (go_at_call 34; exact Calls.quiet_of (HO.out _)) | (go_at_call 27; exact quiet_left (HSp.out _))))
        go_wp2
        go_roundg (s.size - (j + 1))
        case rel => exact ⟨j + 1, rfl, by omega, by rw [HH.out]; exact HF.out, (HM.out.drewN _).at_ (j + 1)⟩
        case measure => have := HG.out; omega
      · have hq2 : spC s[j] = false := by simpa using hq
        have HF := Lib.hid (run_no hll hq2)
        have e1 : spI (s[j].toNat : Int) = false := hq2
        rw [e1] at HSp
        clear hq hq2 e1 hll
        go_wp2
        go_quiet ((first | (go_at_call 34; exact Calls.quiet_of (HO.out _)) | (go_at_call 27; exact quiet_left (HSp.out _))))
        go_wp2
        go_end0
        exact ⟨rfl, by rw [HH.out]; show Mv w _ R s (run spC s.data.toList j) self v m; rw [HF.out]; exact HM.out.drewN _⟩
    · have HO := Lib.hid (fun n => over_yes (wr.drewN n) (HM.out.1.drewN n) (by omega))
      have HF := Lib.hid (run_end spC s.data.toList j (by rw [C.size_list]; omega))
      go_wp2
      go_quiet ((go_at_call 34; exact Calls.quiet_of (HO.out _)))
      go_wp2
      go_end0
      exact ⟨rfl, by rw [HH.out]; show Mv w _ R s (run spC s.data.toList j) self v m; rw [HF.out]; exact HM.out.drewN _⟩

/-- What goes on up to a Space, or a byte of ends. -/
def upP (ends : List UInt8) (c : UInt8) : Bool := !spC c && decide (Lib.indexByte ends c < 0)
theorem byte_back (c : UInt8) : ((c.toNat : Int)).toNat.toUInt8 = c := by
  rw [Int.toNat_natCast]; exact UInt8.ofNat_toNat
set_option maxHeartbeats 1600000 in
theorem upTo_any (ends : ByteArray) (w : World) (h : RB w R s k self v m) (hk : k ≤ s.size) (hs : s.size ≤ 1000000) : Calls Tryd.prog 16 #[.pointer (some ⟨R, 0, none⟩), .string ends] w fun e w' => e = .returned (.string (cut s.data.toList k (run (upP ends.data.toList) s.data.toList k))) ∧ Mv w w' R s (run (upP ends.data.toList) s.data.toList k) self v m := by
  have H := Lib.hid h
  have h1 := h.c1
  clear h
  have hrl := run_le (upP ends.data.toList) s.data.toList k (by rw [C.size_list]; exact hk)
  have hrg := run_ge (upP ends.data.toList) s.data.toList k
  rw [C.size_list] at hrl
  rw [cut_of]
  have HE := Lib.hid (fun j => run_end (upP ends.data.toList) s.data.toList j)
  have HY : Hid (∀ j (hl : j < s.size), upP ends.data.toList s[j] = true → run (upP ends.data.toList) s.data.toList j = run (upP ends.data.toList) s.data.toList (j + 1)) := Lib.hid (fun j hl hp => run_yes (by rw [C.size_list]; exact hl) hp)
  have HN : Hid (∀ j (hl : j < s.size), upP ends.data.toList s[j] = false → run (upP ends.data.toList) s.data.toList j = j) := Lib.hid (fun j hl hp => run_no (by rw [C.size_list]; exact hl) hp)
  obtain ⟨r, hr⟩ : ∃ r : Nat → Nat, r = run (upP ends.data.toList) s.data.toList := ⟨_, rfl⟩
  rw [← hr] at hrl hrg HE HY HN ⊢
  clear hr
  go_enter Tryd.func16, Tryd.ntmps16
  go_wp2
  clear h1
  go_loopg [] (s.size - k) (fun g wr => ∃ j, g = s.size - j ∧ k ≤ j ∧ j ≤ s.size ∧ r k = r j ∧ Mv w wr R s j self v m)
  case atStart => exact ⟨k, rfl, Nat.le_refl _, hk, rfl, Mv.start H.out⟩
  case round =>
    obtain ⟨j, hg, hkj, hj, hh, hmv⟩ := hrel
    have HM := Lib.hid hmv
    have HH := Lib.hid hh
    have HG := Lib.hid hg
    clear hh hg
    have h0 := hmv.1.c0
    have h1 := hmv.1.c1
    have hf := hmv.1.fz 1
    clear hmv
    have hi0 : (0 : Int) ≤ (j : Int) := by omega
    have hk0 : (0 : Int) ≤ (k : Int) := by omega
    have hk1 : (k : Int) ≤ (j : Int) := by omega
    have hj1 : (j : Int) ≤ (s.size : Int) := by omega
    by_cases hlt : j < s.size
    · have HO := Lib.hid (fun n => over_no (wr.drewN n) (HM.out.1.drewN n) hlt)
      have hi1 : (j : Int) < (s.size : Int) := by omega
      have hc2 := s[j].toNat_lt
      have HSp := Lib.hid (fun W => space_any (s[j].toNat : Int) W (by omega) (by omega))
      have HIx := Lib.hid (fun W => Tryd.strings_IndexByte ends (s[j].toNat : Int) W)
      rw [byte_back] at HIx
      have HYj := Lib.hid (HY.out j hlt)
      have HNj := Lib.hid (HN.out j hlt)
      by_cases hq : spC s[j] = true
      · have e1 : spI (s[j].toNat : Int) = true := hq
        have HF := Lib.hid (HNj.out (by unfold upP; rw [hq]; rfl))
        rw [e1] at HSp
        clear hq e1 HYj HNj HIx
        have HR : Hid (r k = j) := Lib.hid (by rw [HH.out, HF.out])
        go_wp2
        go_quiet ((first | (go_at_call 34; exact Calls.quiet_of (HO.out _)) | (go_at_call 27; exact quiet_left (HSp.out _))))
        have HM2 := Lib.hid (HM.out.drewN nq)
        have k0 := HM2.out.1.c0
        have k1 := HM2.out.1.c1
        clear h0 h1 hf HO
        generalize wr.drewN nq = wq at *
        go_wp2
        go_quiet (fail)
        go_wp2
        go_ret
        exact ⟨ret_str (by rw [HR.out]), by rw [HR.out]; exact HM2.out.drewN _⟩
      · have hq2 : spC s[j] = false := by simpa using hq
        have e1 : spI (s[j].toNat : Int) = false := hq2
        rw [e1] at HSp
        have hu : upP ends.data.toList s[j] = decide (Lib.indexByte ends.data.toList s[j] < 0) := by unfold upP; rw [hq2]; rfl
        rw [hu] at HYj HNj
        clear hq hq2 e1 hu
        generalize Lib.indexByte ends.data.toList s[j] = q at *
        by_cases hq : q < 0
        · have HF : Hid (r j = r (j + 1)) := Lib.hid (HYj.out (decide_eq_true hq))
          clear HYj HNj
          go_wp2
          go_quiet ((first | (go_at_call 34; exact Calls.quiet_of (HO.out _)) | (go_at_call 27; exact quiet_left (HSp.out _)) | (go_at_call 35; exact quiet_same (HIx.out _))))
          go_wp2
          go_roundg (s.size - (j + 1))
          case rel => exact ⟨j + 1, rfl, by omega, by omega, by rw [HH.out]; exact HF.out, (HM.out.drewN _).at_ (j + 1)⟩
          case measure => have := HG.out; omega
        · have HF : Hid (r j = j) := Lib.hid (HNj.out (decide_eq_false hq))
          clear HYj HNj
          have HR : Hid (r k = j) := Lib.hid (by rw [HH.out, HF.out])
          go_wp2
          go_quiet ((first | (go_at_call 34; exact Calls.quiet_of (HO.out _)) | (go_at_call 27; exact quiet_left (HSp.out _)) | (go_at_call 35; exact quiet_same (HIx.out _))))
          have HM2 := Lib.hid (HM.out.drewN nq)
          have k0 := HM2.out.1.c0
          have k1 := HM2.out.1.c1
          clear h0 h1 hf HO
          generalize wr.drewN nq = wq at *
          go_wp2
          go_quiet (fail)
          go_wp2
          go_ret
          exact ⟨ret_str (by rw [HR.out]), by rw [HR.out]; exact HM2.out.drewN _⟩
    · have HO := Lib.hid (fun n => over_yes (wr.drewN n) (HM.out.1.drewN n) (by omega))
      have HF := Lib.hid (HE.out j (by rw [C.size_list]; omega))
      have HR : Hid (r k = j) := Lib.hid (by rw [HH.out, HF.out])
      go_wp2
      go_quiet ((go_at_call 34; exact Calls.quiet_of (HO.out _)))
      have HM2 := Lib.hid (HM.out.drewN nq)
      have k0 := HM2.out.1.c0
      have k1 := HM2.out.1.c1
      clear h0 h1 hf HO
      generalize wr.drewN nq = wq at *
      go_wp2
      go_quiet (fail)
      go_wp2
      go_ret
      exact ⟨ret_str (by rw [HR.out]), by rw [HR.out]; exact HM2.out.drewN _⟩
end
end Go.Proofs.YtkfaenhidjekdaaDoor.T
