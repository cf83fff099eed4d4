/-
  The walks of the document's own skip and value.
-/
import Derived.Test.YtceelfomgcbkiaaGreatDoorTPlainZ
import Derived.Test.YtceelfomgcbkiaaGreatDoorGIZ
import Derived.Test.YtceelfomgcbkiaaGreatDoorGTZ
namespace Go.Proofs.YtceelfomgcbkiaaGreatDoor.T
open Go.RowKit
open Go.Proofs.YtceelfomgcbkiaaGreatDoor.I (spC spI rspace_any)

theorem ret_three {a b : ByteArray} {i j : Int} {c d : Bool} (h : a = b) (h1 : i = j) (h2 : c = d) : Ending.returned (.tuple #[.string a, .int .i64 i, .bool c]) = .returned (.tuple #[.string b, .int .i64 j, .bool d]) := by rw [h, h1, h2]
theorem drew_more {w wr : World} (h : ∃ m, wr = w.drewN m) (n : Nat) : ∃ m, wr.drewN n = w.drewN m := by
  obtain ⟨m, rfl⟩ := h
  exact ⟨m + n, by rw [World.drewN_drewN]⟩
theorem ret_int {k : IntKind} {a b : Int} (h : a = b) : Ending.returned (.int k a) = .returned (.int k b) := by rw [h]
set_option maxHeartbeats 800000 in
theorem skip_any (s : ByteArray) (i : Nat) (w : World) (hs : s.size ≤ 1000000) (hi : i ≤ 1000000) :
    Calls Tryz.prog 49 #[.string s, .int .i64 i] w fun e w' => e = .returned (.int .i64 (skp s.data.toList i)) ∧ w = w' := by
  have HE := Lib.hid (fun j => run_end spC s.data.toList j)
  have HY : Hid (∀ j (hl : j < s.size), spC s[j] = true → skp s.data.toList j = skp s.data.toList (j + 1)) := Lib.hid (fun j hl hp => run_yes (by rw [C.size_list]; exact hl) hp)
  have HN : Hid (∀ j (hl : j < s.size), spC s[j] = false → skp s.data.toList j = j) := Lib.hid (fun j hl hp => run_no (by rw [C.size_list]; exact hl) hp)
  go_enter Tryz.func49, Tryz.ntmps49
  go_wp2
  go_loop [1] (fun v => ∃ j : Nat, j ≤ 1000000 ∧ v = .int .i64 j ∧ skp s.data.toList i = skp s.data.toList j) (fun v => s.size - (intOf v).toNat)
  case atStart => exact ⟨i, hi, rfl, rfl⟩
  case round =>
    obtain ⟨j, hj, rfl, hh⟩ := hrel
    have HH := Lib.hid hh
    clear hh
    by_cases hlt : j < s.size
    · have hc := s[j].toNat_lt
      have HSp := Lib.hid (fun W => rspace_any (s[j].toNat : Int) W (by omega) (by omega))
      by_cases hq : spC s[j] = true
      · have HF := Lib.hid (HY.out j hlt hq)
        have e1 : spI (s[j].toNat : Int) = true := hq
        rw [e1] at HSp
        clear hq e1
        go_wp2_with (go_at_call 47; refine (HSp.out _).mono ?_; rintro e w' ⟨rfl, rfl⟩)
        go_round
        case rel => exact ⟨j + 1, by omega, by go_num, by rw [HH.out]; exact HF.out⟩
        case measure => simp [intOf]; omega
      · have hq2 : spC s[j] = false := by simpa using hq
        have HF : Hid ((j : Int) = (skp s.data.toList i : Int)) := Lib.hid (by rw [HH.out, HN.out j hlt hq2])
        have e1 : spI (s[j].toNat : Int) = false := hq2
        rw [e1] at HSp
        clear hq hq2 e1
        go_wp2_with (go_at_call 47; refine (HSp.out _).mono ?_; rintro e w' ⟨rfl, rfl⟩)
        go_ret
        exact ⟨ret_int HF.out, rfl⟩
    · have HF : Hid ((j : Int) = (skp s.data.toList i : Int)) := Lib.hid (by rw [HH.out]; show (j : Int) = (run spC s.data.toList j : Int); rw [HE.out j (by rw [C.size_list]; omega)])
      go_wp2
      go_ret
      exact ⟨ret_int HF.out, rfl⟩
theorem ne_nat (c d : UInt8) : (c != d) = ((c.toNat : Int) != (d.toNat : Int)) := by
  rw [Bool.eq_iff_iff, bne_iff_ne, bne_iff_ne]
  exact ⟨fun h e => h (UInt8.toNat_inj.1 (by omega)), fun h e => h (by rw [e])⟩
theorem stopV_nat (c : UInt8) : stopV c = (!spI (c.toNat : Int) && ((c.toNat : Int) != 62)) := by
  unfold stopV; rw [ne_nat]; rfl
/-- What the document's value hands back. -/
def RetV (s : ByteArray) (i : Nat) (w : World) (e : Ending) (w' : World) : Prop :=
  ∃ (t : ByteArray) (n : Nat) (ok : Bool), e = .returned (.tuple #[.string t, .int .i64 (n : Int), .bool ok]) ∧ (∃ m, w' = w.drewN m) ∧ match valG s.data.toList i with | some r => t = r.1 ∧ n = r.2 ∧ ok = true | none => ok = false ∧ t = ByteArray.empty ∧ n = i
set_option maxHeartbeats 1600000 in
theorem rvalue_any (s : ByteArray) (i : Nat) (w : World) (hs : s.size ≤ 1000000) (hi : i ≤ 1000000) :
    Calls Tryz.prog 84 #[.string s, .int .i64 i] w (RetV s i w) := by
  by_cases hlt : i < s.size
  · have hb := s[i].toNat_lt
    have hll : i < s.data.toList.length := by rw [C.size_list]; exact hlt
    have hg : s.data.toList[i]? = some s[i] := C.get_at s i hlt
    by_cases hq : s[i] = 34 ∨ s[i] = 39
    · have HV := Lib.hid (valG_quote hg hq)
      have HY : Hid (∀ j (hl : j < s.size), s[j] ≠ s[i] → run (· != s[i]) s.data.toList j = run (· != s[i]) s.data.toList (j + 1)) := Lib.hid (fun j hl hp => run_yes (by rw [C.size_list]; exact hl) (by show (s[j] != s[i]) = true; simpa using hp))
      have HN : Hid (∀ j (hl : j < s.size), s[j] = s[i] → run (· != s[i]) s.data.toList j = j) := Lib.hid (fun j hl hp => run_no (by rw [C.size_list]; exact hl) (by show (s[j] != s[i]) = false; simpa using hp))
      have HE := Lib.hid (fun j => run_end (· != s[i]) s.data.toList j)
      have hq34 : ((s[i].toNat : Int) == 34) = true ∨ ((s[i].toNat : Int) == 34) = false ∧ ((s[i].toNat : Int) == 39) = true := by
        rcases hq with h | h
        · left; rw [h]; rfl
        · right; rw [h]; exact ⟨rfl, rfl⟩
      clear hg hq
      obtain ⟨r, hr⟩ : ∃ r : Nat → Nat, r = run (· != s[i]) s.data.toList := ⟨_, rfl⟩
      rw [← hr] at HV HY HN HE
      clear hr
      rcases hq34 with hq34 | ⟨hq34, hq39⟩
      all_goals
        go_enter Tryz.func84, Tryz.ntmps84
        go_wp2
        go_loopw [7] (fun v wr => ∃ j : Nat, i + 1 ≤ j ∧ j ≤ s.size ∧ v = .int .i64 j ∧ r (i + 1) = r j ∧ ∃ m, wr = w.drewN m) (fun v _ => s.size - (intOf v).toNat)
        case atStart => exact ⟨i + 1, Nat.le_refl _, by omega, by go_num, rfl, 0, rfl⟩
        case round =>
          obtain ⟨j, hj0, hj, rfl, hh, hw⟩ := hrel
          have HH := Lib.hid hh
          have HW := Lib.hid hw
          clear hh hw
          have hi0 : (0 : Int) ≤ (i : Int) := by omega
          have hi1 : (i : Int) < (s.size : Int) := by omega
          have hj1 : (0 : Int) ≤ (j : Int) := by omega
          by_cases hjt : j < s.size
          · have hj2 : (j : Int) < (s.size : Int) := by omega
            have hbj := s[j].toNat_lt
            by_cases he : s[j] = s[i]
            · have HR : Hid (r (i + 1) = j) := Lib.hid (by rw [HH.out, HN.out j hjt he])
              have HF : Hid (valG s.data.toList i = some (cut s.data.toList (i + 1) j, j + 1)) := Lib.hid (by rw [HV.out, HR.out, if_pos (by rw [C.size_list]; exact hjt)])
              have e1 : ((s[j].toNat : Int) == (s[i].toNat : Int)) = true := by rw [he]; simp
              clear he
              go_wp2
              go_quiet (fail)
              go_wp2
              go_ret3
              exact ⟨s.extract (i + 1) j, j + 1, true, ret_three rfl (by omega) rfl, drew_more HW.out _, by rw [HF.out]; exact ⟨(cut_of s (i + 1) j).symm, rfl, rfl⟩⟩
            · have HF : Hid (r (i + 1) = r (j + 1)) := Lib.hid (by rw [HH.out, HY.out j hjt he])
              have e1 : ((s[j].toNat : Int) == (s[i].toNat : Int)) = false := by
                rw [beq_eq_false_iff_ne]; intro e; exact he (UInt8.toNat_inj.1 (by omega))
              clear he
              go_wp2
              go_quiet (fail)
              go_wp2
              go_roundw
              case rel => exact ⟨j + 1, by omega, by omega, by go_num, HF.out, drew_more HW.out _⟩
              case measure => simp [intOf]; omega
          · have HF : Hid (valG s.data.toList i = none) := Lib.hid (by rw [HV.out, if_neg (by rw [HH.out, HE.out j (by rw [C.size_list]; omega), C.size_list]; omega)])
            go_wp2
            go_ret3
            exact ⟨ByteArray.empty, i, false, rfl, HW.out, by rw [HF.out]; exact ⟨rfl, rfl, rfl⟩⟩
    · have n34 : s.data.toList[i]? ≠ some 34 := by rw [hg]; intro e; injection e with e; exact hq (.inl e)
      have n39 : s.data.toList[i]? ≠ some 39 := by rw [hg]; intro e; injection e with e; exact hq (.inr e)
      have HV := Lib.hid (valG_bare hll n34 n39)
      have q34 : ((s[i].toNat : Int) == 34) = false := by
        rw [beq_eq_false_iff_ne]; intro e; exact hq (.inl (UInt8.toNat_inj.1 (by show s[i].toNat = 34; omega)))
      have q39 : ((s[i].toNat : Int) == 39) = false := by
        rw [beq_eq_false_iff_ne]; intro e; exact hq (.inr (UInt8.toNat_inj.1 (by show s[i].toNat = 39; omega)))
      have HY : Hid (∀ j (hl : j < s.size), stopV s[j] = true → run stopV s.data.toList j = run stopV s.data.toList (j + 1)) := Lib.hid (fun j hl hp => run_yes (by rw [C.size_list]; exact hl) hp)
      have HN : Hid (∀ j (hl : j < s.size), stopV s[j] = false → run stopV s.data.toList j = j) := Lib.hid (fun j hl hp => run_no (by rw [C.size_list]; exact hl) hp)
      have HE := Lib.hid (fun j => run_end stopV s.data.toList j)
      clear hg hq n34 n39
      have hd : decide (s.size ≤ i) = false := by simpa using hlt
      obtain ⟨r, hr⟩ : ∃ r : Nat → Nat, r = run stopV s.data.toList := ⟨_, rfl⟩
      rw [← hr] at HV HY HN HE
      clear hr
      go_enter Tryz.func84, Tryz.ntmps84
      go_wp2
      go_loop [8] (fun v => ∃ j : Nat, i ≤ j ∧ j ≤ s.size ∧ v = .int .i64 j ∧ r i = r j) (fun v => s.size - (intOf v).toNat)
      case atStart => exact ⟨i, Nat.le_refl _, by omega, rfl, rfl⟩
      case round =>
        obtain ⟨j, hj0, hj, rfl, hh⟩ := hrel
        have HH := Lib.hid hh
        clear hh
        by_cases hjt : j < s.size
        · have hbj := s[j].toNat_lt
          have HSp := Lib.hid (fun W => rspace_any (s[j].toNat : Int) W (by omega) (by omega))
          have hst := stopV_nat s[j]
          by_cases h62 : ((s[j].toNat : Int) == 62) = true
          · have n62 : ((s[j].toNat : Int) != 62) = false := by rw [bne, h62]; rfl
            have HR : Hid (r i = j) := Lib.hid (by rw [HH.out, HN.out j hjt (by rw [hst, n62, Bool.and_false])])
            have HF : Hid (valG s.data.toList i = some (cut s.data.toList i j, j)) := Lib.hid (by rw [HV.out, HR.out])
            clear hst
            go_wp2
            go_ret3
            exact ⟨s.extract i j, j, true, rfl, ⟨0, rfl⟩, by rw [HF.out]; exact ⟨(cut_of s i j).symm, rfl, rfl⟩⟩
          · have h62' : ((s[j].toNat : Int) == 62) = false := by simpa using h62
            have n62 : ((s[j].toNat : Int) != 62) = true := by rw [bne, h62']; rfl
            rw [n62, Bool.and_true] at hst
            by_cases hsp : spI (s[j].toNat : Int) = true
            · have HR : Hid (r i = j) := Lib.hid (by rw [HH.out, HN.out j hjt (by rw [hst, hsp]; rfl)])
              have HF : Hid (valG s.data.toList i = some (cut s.data.toList i j, j)) := Lib.hid (by rw [HV.out, HR.out])
              rw [hsp] at HSp
              clear hst hsp h62
              go_wp2_with (go_at_call 47; refine (HSp.out _).mono ?_; rintro e w' ⟨rfl, rfl⟩)
              go_ret3
              exact ⟨s.extract i j, j, true, rfl, ⟨0, rfl⟩, by rw [HF.out]; exact ⟨(cut_of s i j).symm, rfl, rfl⟩⟩
            · have hsp2 : spI (s[j].toNat : Int) = false := by simpa using hsp
              have HF : Hid (r i = r (j + 1)) := Lib.hid (by rw [HH.out, HY.out j hjt (by rw [hst, hsp2]; rfl)])
              rw [hsp2] at HSp
              clear hst hsp hsp2 h62
              go_wp2_with (go_at_call 47; refine (HSp.out _).mono ?_; rintro e w' ⟨rfl, rfl⟩)
              go_round
              case rel => exact ⟨j + 1, by omega, by omega, by go_num, HF.out⟩
              case measure => simp [intOf]; omega
        · have HR : Hid (r i = j) := Lib.hid (by rw [HH.out, HE.out j (by rw [C.size_list]; omega)])
          have HF : Hid (valG s.data.toList i = some (cut s.data.toList i j, j)) := Lib.hid (by rw [HV.out, HR.out])
          go_wp2
          go_ret3
          exact ⟨s.extract i j, j, true, rfl, ⟨0, rfl⟩, by rw [HF.out]; exact ⟨(cut_of s i j).symm, rfl, rfl⟩⟩
  · have HF := Lib.hid (valG_over (l := s.data.toList) (i := i) (by rw [C.size_list]; exact hlt))
    go_enter Tryz.func84, Tryz.ntmps84
    go_wp2
    go_ret3
    exact ⟨_, i, false, rfl, ⟨0, rfl⟩, by rw [HF.out]; exact ⟨rfl, rfl, rfl⟩⟩
end Go.Proofs.YtceelfomgcbkiaaGreatDoor.T
