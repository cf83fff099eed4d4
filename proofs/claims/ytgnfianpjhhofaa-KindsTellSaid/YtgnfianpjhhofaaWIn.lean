/-
  The walks of In, and of the document's own.
-/
import Derived.Test.YtgnfianpjhhofaaWRsplit
namespace Go.Proofs.Ytgnfianpjhhofaa.W
open Go.RowKit

theorem ret_bool {a b : Bool} (h : a = b) : Ending.returned (.bool a) = .returned (.bool b) := by rw [h]
theorem eqS_yes {a b : ByteArray} (h : a = b) : (a.toList == b.toList) = true := by rw [h]; simp
theorem eqS_no {a b : ByteArray} (h : a ≠ b) : (a.toList == b.toList) = false := by
  rw [beq_eq_false_iff_ne]; intro e; apply h; apply eq_of_list; rw [← ByteArray.toList_eq, ← ByteArray.toList_eq]; exact e

set_option maxHeartbeats 1600000 in
theorem in_any (s word : ByteArray) (w : World) (hs : s.size ≤ 1000000) :
    Calls Try.prog 38 #[.string s, .string word] w fun e w' => e = .returned (.bool (hasW (spl s) word)) ∧ Below w.heap.size w w' := by
  go_enter Try.func38, Try.ntmps38
  go_wp2_with fail
  refine (next_any s _ hs).mono ?_
  rintro e w1 ⟨rfl, hb⟩
  have HB1 := Lib.hid hb
  clear hb
  go_wp2_with fail
  go_loopw [5, 6] (fun a b wr => ∃ (t : ByteArray), a = .string (nxWs t) ∧ b = .string (nxRs t) ∧ t.size ≤ s.size ∧ hasW (spl s) word = hasW (spl t) word ∧ Below w.heap.size w wr)
    (fun a b _ => (textOf a).size + (textOf b).size)
  case atStart => exact ⟨s, rfl, rfl, Nat.le_refl _, rfl, HB1.out⟩
  case round =>
    obtain ⟨t, rfl, rfl, hlen, hspl, hbel⟩ := hrel
    have HS := Lib.hid hspl
    have HB := Lib.hid hbel
    clear hspl hbel
    have hnl := nxs_len t
    have hsn := spl_none t
    have hss := spl_some t
    generalize nxWs t = p at *
    generalize nxRs t = r at *
    by_cases hp : p.size = 0
    · have HF : Hid (false = hasW (spl s) word) := Lib.hid (by rw [HS.out, hsn hp, hasW_nil])
      have he := (empty_yes hp).2
      have he2 := (empty_yes hp).1
      clear hsn hss hp
      go_wp2_with fail
      go_ret
      exact ⟨ret_bool HF.out, HB.out⟩
    · have he := (empty_no hp).2
      have he2 := (empty_no hp).1
      have hp' : 1 ≤ p.size := by omega
      have HP := Lib.hid (hss hp)
      clear hsn hss hp
      by_cases hq : p = word
      · have HF : Hid (true = hasW (spl s) word) := Lib.hid (by rw [HS.out, HP.out, hq, hasW_same])
        have hqq := eqS_yes hq
        have HQ := Lib.hid hq
        clear hq
        go_wp2_with fail
        go_ret
        exact ⟨ret_bool HF.out, HB.out⟩
      · have HF : Hid (hasW (spl s) word = hasW (spl r) word) := Lib.hid (by rw [HS.out, HP.out, hasW_other _ hq])
        have hqq := eqS_no hq
        clear hq
        go_wp2_with fail
        refine (next_any r _ (by omega)).mono ?_
        rintro e w3 ⟨rfl, hb⟩
        have HB3 := Lib.hid hb
        clear hb
        go_wp2
        go_roundw
        case rel => exact ⟨r, rfl, rfl, by omega, HF.out, HB.out.trans (HB3.out.mono HB.out.size)⟩
        case measure => have := nxs_len r; simp [textOf]; omega

theorem hasW_drop (l : List ByteArray) (k : Nat) (h : k < l.length) (x : ByteArray) : hasW (l.drop k) x = (decide (l[k].data.toList = x.data.toList) || hasW (l.drop (k + 1)) x) := by
  rw [List.drop_eq_getElem_cons h, Bool.eq_iff_iff, hasW_iff, List.mem_cons, Bool.or_eq_true, decide_eq_true_iff, hasW_iff, list_inj]
  exact ⟨fun h => h.imp Eq.symm id, fun h => h.imp Eq.symm id⟩

set_option maxHeartbeats 1600000 in
theorem has_any (a : Option Addr) (cap : Nat) (l : List ByteArray) (word : ByteArray) (w : World) (hl : l.length ≤ 1000000) (hA : StrsAt w a l) :
    Calls Try.prog 49 #[.slice a l.length cap, .string word] w fun e w' => e = .returned (.bool (hasW l word)) ∧ w = w' := by
  have HA := Lib.hid hA
  clear hA
  go_enter Try.func49, Try.ntmps49
  go_wp2
  go_loop [5] (fun i => ∃ k : Nat, k ≤ l.length ∧ i = .int .i64 k ∧ hasW l word = hasW (l.drop k) word) (fun i => l.length - (intOf i).toNat)
  case atStart => exact ⟨0, Nat.zero_le _, rfl, rfl⟩
  case round =>
    obtain ⟨k, hk, rfl, hh⟩ := hrel
    have HH := Lib.hid hh
    clear hh
    by_cases hlt : k < l.length
    · obtain ⟨b, off, rfl, hbk, hc⟩ := HA.out (fun e => by rw [e] at hlt; simp at hlt)
      have hck := hc k hlt
      have HD := Lib.hid (hasW_drop l k hlt word)
      clear hc
      generalize l[k] = x at *
      by_cases hq : x = word
      · have HF : Hid (true = hasW l word) := Lib.hid (by rw [HH.out, HD.out, hq]; simp)
        have hqq := eqS_yes hq
        have HQ := Lib.hid hq
        clear hq
        go_wp2
        go_ret
        exact ⟨ret_bool HF.out, rfl⟩
      · have HF : Hid (hasW l word = hasW (l.drop (k + 1)) word) := Lib.hid (by rw [HH.out, HD.out, decide_eq_false (fun e => hq (eq_of_list e)), Bool.false_or])
        have hqq := eqS_no hq
        clear hq
        go_wp2
        go_round
        case rel => exact ⟨k + 1, by omega, by go_num, HF.out⟩
        case measure => simp [intOf]; omega
    · have HF : Hid (false = hasW l word) := Lib.hid (by rw [HH.out, List.drop_eq_nil_of_le (by omega), hasW_nil])
      go_wp2
      go_ret
      exact ⟨ret_bool HF.out, rfl⟩

theorem rin_any (s word : ByteArray) (w : World) (hs : s.size ≤ 1000000) :
    Calls Try.prog 42 #[.string s, .string word] w fun e w' => e = .returned (.bool (hasW (spl s) word)) ∧ Below w.heap.size w w' := by
  have hl := spl_len s
  have HR := Lib.hid (rsplit_any s w hs)
  generalize spl s = L at *
  go_enter Try.func42, Try.ntmps42
  go_wp2_with fail
  refine HR.out.mono ?_
  rintro e w1 ⟨a, cap, _, rfl, hst, hb⟩
  have HA := Lib.hid hst
  have HB := Lib.hid hb
  clear hst hb
  go_wp2_with fail
  refine (has_any a cap L word _ (by omega) HA.out).mono ?_
  rintro e w2 ⟨rfl, rfl⟩
  go_wp2
  go_ret
  exact ⟨rfl, HB.out⟩
end Go.Proofs.Ytgnfianpjhhofaa.W
