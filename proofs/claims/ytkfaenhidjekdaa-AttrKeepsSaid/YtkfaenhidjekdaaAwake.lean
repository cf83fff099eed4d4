/-
  The walk of awake: some answers that the document fixes.
-/
import Derived.Test.YtkfaenhidjekdaaMap
import Derived.Test.YtkfaenhidjekdaaSet
namespace Go.Proofs.Ytkfaenhidjekdaa
open Go.RowKit

abbrev tA : ByteArray := ⟨#[97]⟩
abbrev t1 : ByteArray := ⟨#[49]⟩
abbrev t2 : ByteArray := ⟨#[50]⟩
abbrev t3 : ByteArray := ⟨#[51]⟩
theorem eq_a : eqS tA tA = true := eqS_iff.2 rfl
theorem lit_pos (v : ByteArray) : pos tA [(tA, v)] = 0 := by unfold pos; rw [if_pos eq_a]
theorem lit_get (v : ByteArray) : getB tA [(tA, v)] = true ∧ getV tA [(tA, v)] = v := by
  have h := lit_pos v
  have h1 : pos tA [(tA, v)] < [((tA, v) : At)].length := by rw [h]; exact Nat.zero_lt_one
  refine ⟨getB_iff.2 h1, ?_⟩
  rw [getV_hit h1]; simp only [h]; rfl
theorem lit_add (v u : ByteArray) : addL [(tA, v)] (tA, u) = [(tA, v)] := by unfold addL; rw [(lit_get v).1]; rfl
theorem lit_set (v u : ByteArray) : setL [(tA, v)] (tA, u) = [(tA, u)] := by unfold setL; rw [(lit_get v).1, lit_pos]; rfl
theorem lit_drop (v : ByteArray) : dropL tA [(tA, v)] = [] := by rw [dropL_cons, if_pos eq_a]; rfl
theorem fine_a (v : ByteArray) (h : v.size ≤ 10) : ∀ x ∈ [((tA, v) : At)], fine x := by
  intro x hx
  obtain rfl : x = (tA, v) := by simpa using hx
  exact ⟨by show (1 : Nat) ≤ 1000000; omega, by show v.size ≤ 1000000; omega⟩
theorem sameB_one (l : List At) : sameB l l = true := sameB_self l
theorem alike_one (l : List At) : alikeB l l = true := same_alike (sameB_self l)

set_option maxHeartbeats 1600000 in
theorem awake_any (w : World) : Calls Try.prog 6 #[] w fun e w' => e = .returned (.bool true) ∧ Below w.heap.size w w' := by
  have HA0 := Lib.hid (one_attrs w (tA, t1))
  have HB0 := Lib.hid ((Below.refl w.heap.size w).alloc (Nat.le_refl _) (.cells #[.string tA, .string t1] 24))
  have HAd := Lib.hid (add_any (some ⟨w.heap.size, 0, none⟩) 1 [(tA, t1)] (tA, t2) _ (by show (1 : Nat) ≤ 1000000; omega) HA0.out)
  rw [lit_add] at HAd
  go_enter Try.func6, Try.ntmps6
  go_wp2_with fail
  refine HAd.out.mono ?_
  rintro e w1 ⟨v, rfl, hown, hb⟩
  obtain ⟨a, cap, hcap, rfl, hat⟩ := own_attrs hown
  have HB : Hid (Below w.heap.size w w1) := Lib.hid (HB0.out.trans (hb.mono (by simp)))
  have HA := Lib.hid hat
  have HG := Lib.hid (get_any a cap [(tA, t1)] tA w1 (by show (1 : Nat) ≤ 9223372036854775807; omega) hat)
  rw [(lit_get t1).1, (lit_get t1).2] at HG
  have HC := Lib.hid hcap
  clear hown hb hat hcap HAd HA0 HB0
  have hl1 : [((tA, t1) : At)].length = 1 := rfl
  rw [hl1] at *
  clear hl1
  go_wp2_with fail
  refine HG.out.mono ?_
  rintro e w2 ⟨rfl, hb⟩
  have HB2 := below_step HB hb
  have HA2 := Lib.hid (HA.out.below hb)
  clear hb HG
  have HD := Lib.hid (drop_any a cap [(tA, t1)] tA w2 (by show (1 : Nat) ≤ 1000000; omega) HA2.out)
  rw [lit_drop] at HD
  go_wp2_with fail
  refine HD.out.mono ?_
  rintro e w3 ⟨v3, rfl, hown, hb⟩
  obtain ⟨a3, cap3, hcap3, rfl, hat3⟩ := own_attrs hown
  have HB3 := below_step HB2 hb
  have HA3 := Lib.hid (HA2.out.below hb)
  have hl0 : ([] : List At).length = 0 := rfl
  rw [hl0] at *
  clear hb HD hown hat3 hcap3 hl0
  have HS := Lib.hid (set_any a cap [(tA, t1)] (tA, t3) w3 (by show (1 : Nat) ≤ 1000000; omega) HA3.out)
  rw [lit_set] at HS
  go_wp2_with fail
  refine HS.out.mono ?_
  rintro e w4 ⟨v4, rfl, hown, hb⟩
  obtain ⟨a4, cap4, hcap4, rfl, hat4⟩ := own_attrs hown
  have HB4 := below_step HB3 hb
  have HA4 := Lib.hid (HA3.out.below hb)
  have HL4 := Lib.hid (hat4.alloc (.cells #[.string tA, .string t3] 24))
  have HX := Lib.hid (one_attrs w4 (tA, t3))
  have HB5 : Hid (Below w.heap.size w (w4.alloc (.cells #[.string tA, .string t3] 24))) := Lib.hid (HB4.out.alloc HB4.out.size _)
  have hl1 : [((tA, t3) : At)].length = 1 := rfl
  have HE := Lib.hid (same_any a4 (some ⟨w4.heap.size, 0, none⟩) cap4 1 [(tA, t3)] [(tA, t3)] _ (by show (1 : Nat) ≤ 1000000; omega) (by show (1 : Nat) ≤ 1000000; omega) HL4.out HX.out)
  rw [sameB_self] at HE
  have HA5 := Lib.hid (HA4.out.alloc (.cells #[.string tA, .string t3] 24))
  rw [hl1] at *
  clear hb HS hown hat4 hcap4 hl1
  go_wp2_with fail
  refine HE.out.mono ?_
  rintro e w6 ⟨rfl, hb⟩
  have HB6 : Hid (Below w.heap.size w w6) := below_step HB5 hb
  have HA6 := Lib.hid (HA5.out.below hb)
  clear hb
  have HK := Lib.hid (alike_any a a cap cap [(tA, t1)] [(tA, t1)] w6 (by show (1 : Nat) ≤ 1000000; omega) (by show (1 : Nat) ≤ 1000000; omega) (fine_a t1 (by show (1 : Nat) ≤ 10; omega)) (fine_a t1 (by show (1 : Nat) ≤ 10; omega)) HA6.out HA6.out)
  rw [alike_one] at HK
  go_wp2_with fail
  refine HK.out.mono ?_
  rintro e w7 ⟨rfl, hb⟩
  have HB7 := below_step HB6 hb
  clear hb
  go_wp2
  go_ret
  exact ⟨rfl, HB7.out⟩
end Go.Proofs.Ytkfaenhidjekdaa
