/-
  The walks of the two laws on attributes.
-/
import Derived.Test.YtkfaenhidjekdaaAwake
import Derived.Deep.RegionHeld3
namespace Go.Proofs.Ytkfaenhidjekdaa
open Go.RowKit

theorem fine_of {l : List At} (h : fewA l = true) : l.length ≤ 1000 ∧ ∀ y ∈ l, fine y := by
  obtain ⟨h1, h2⟩ := fewA_yes h
  exact ⟨by omega, fun y hy => ⟨by have := (h2 y hy).1; omega, by have := (h2 y hy).2; omega⟩⟩
theorem one_few (w : World) (x : At) : Calls Try.prog 5 #[.slice (some ⟨w.heap.size, 0, none⟩) 1 1] (w.alloc (.cells #[.string x.1, .string x.2] 24)) fun e w' => e = .returned (.bool (fewA [x])) ∧ Below (w.alloc (.cells #[.string x.1, .string x.2] 24)).heap.size (w.alloc (.cells #[.string x.1, .string x.2] 24)) w' :=
  few_any _ 1 [x] _ (by show (1 : Nat) ≤ 9223372036854775807; omega) (one_attrs w x)
theorem below_new {b : Nat} {w w1 w2 : World} {o : Obj} (h : Hid (Below b w w1)) (hb : b ≤ w1.heap.size) (h2 : Below (w1.alloc o).heap.size (w1.alloc o) w2) : Hid (Below b w w2) :=
  Lib.hid ((h.out.alloc hb o).trans (h2.mono (by simp; omega)))

theorem drewB1 {b : Nat} {w wr : World} (h : Below b w wr) : Below b w wr.drew := ⟨h.os, h.tape, h.output, h.size, h.block⟩
theorem below_trans {w w1 w2 : World} (h : Below w.heap.size w w1) (h2 : Below w1.heap.size w1 w2) : Below w.heap.size w w2 := h.trans (h2.mono h.size)
section
variable (a a' : Option Addr) (cap cap' : Nat) (l m : List At) (x : At) (w : World) (hl : l.length ≤ maxLen) (hm : m.length ≤ maxLen) (hA : AttrsAt w a l) (hM : AttrsAt w a' m)
include hl hm hA hM
set_option maxHeartbeats 1600000 in
theorem keeps_far (h : (fewA l && fewA m && fewA [x]) = false) :
    Calls Try.prog 4 #[.slice a l.length cap, .slice a' m.length cap', atV x] w fun e w' => e = .returned (.bool true) ∧ Below w.heap.size w w' := by
  unfold maxLen at hl hm
  have HB0 := Lib.hid ((Below.refl w.heap.size w).alloc (Nat.le_refl _) (.cells #[.string x.1, .string x.2] 24))
  obtain ⟨hb1, hb2⟩ := boxed w x
  have HX1 := Lib.hid hb1
  have HX2 := Lib.hid hb2
  have HL := Lib.hid (few_any a cap l _ (by omega) (hA.below HB0.out))
  have HMf : Hid (∀ W, Below w.heap.size w W → Calls Try.prog 5 #[.slice a' m.length cap'] W fun e w' => e = .returned (.bool (fewA m)) ∧ Below W.heap.size W w') := Lib.hid (fun W hW => few_any a' cap' m W (by omega) (hM.below hW))
  have HO := Lib.hid (fun W => one_few W x)
  have HAw := Lib.hid awake_any
  unfold atV
  clear hA hM hb1 hb2
  generalize fewA l = p at *
  generalize fewA m = q at *
  generalize fewA [x] = r at *
  cases p with
  | false =>
    clear h
    go_enter Try.func4, Try.ntmps4
    go_wp2_with fail
    refine HL.out.mono ?_
    rintro e w1 ⟨rfl, hb⟩
    have HB1 : Hid (Below w.heap.size w w1) := Lib.hid (HB0.out.trans (hb.mono (by simp)))
    clear hb
    go_wp2_with fail
    refine (HAw.out _).mono ?_
    rintro e w2 ⟨rfl, hb⟩
    have HB2 := below_step HB1 hb
    clear hb
    go_wp2
    go_ret
    exact ⟨rfl, HB2.out⟩
  | true =>
    cases q with
    | false =>
      clear h
      go_enter Try.func4, Try.ntmps4
      go_wp2_with fail
      refine HL.out.mono ?_
      rintro e w1 ⟨rfl, hb⟩
      have HB1 : Hid (Below w.heap.size w w1) := Lib.hid (HB0.out.trans (hb.mono (by simp)))
      clear hb
      go_wp2_with fail
      refine (HMf.out _ HB1.out).mono ?_
      rintro e w2 ⟨rfl, hb⟩
      have HB2 := below_step HB1 hb
      clear hb
      go_wp2_with fail
      refine (HAw.out _).mono ?_
      rintro e w3 ⟨rfl, hb⟩
      have HB3 := below_step HB2 hb
      clear hb
      go_wp2
      go_ret
      exact ⟨rfl, HB3.out⟩
    | true =>
      have hr : r = false := by simpa using h
      subst hr
      clear h
      go_enter Try.func4, Try.ntmps4
      go_wp2_with fail
      refine HL.out.mono ?_
      rintro e w1 ⟨rfl, hb⟩
      have HC1 := Lib.hid (cell_keep hb HX1.out)
      have HC2 := Lib.hid (cell_keep hb HX2.out)
      have HB1 : Hid (Below w.heap.size w w1) := Lib.hid (HB0.out.trans (hb.mono (by simp)))
      clear hb
      go_wp2_with fail
      refine (HMf.out _ HB1.out).mono ?_
      rintro e w2 ⟨rfl, hb⟩
      have hd1 := cell_keep hb HC1.out
      have hd2 := cell_keep hb HC2.out
      have HB2 := below_step HB1 hb
      clear hb
      go_wp2_with fail
      refine (HO.out w2).mono ?_
      rintro e w3 ⟨rfl, hb⟩
      have HB3 := below_new HB2 HB2.out.size hb
      clear hb hd1 hd2
      go_wp2_with fail
      refine (HAw.out _).mono ?_
      rintro e w4 ⟨rfl, hb⟩
      have HB4 := below_step HB3 hb
      clear hb
      go_wp2
      go_ret
      exact ⟨rfl, HB4.out⟩
set_option maxHeartbeats 1600000 in
theorem tells_far (h : (fewA l && fewA m && fewA [x]) = false) :
    Calls Try.prog 3 #[.slice a l.length cap, .slice a' m.length cap', atV x] w fun e w' => e = .returned (.bool true) ∧ Below w.heap.size w w' := by
  unfold maxLen at hl hm
  have HB0 := Lib.hid ((Below.refl w.heap.size w).alloc (Nat.le_refl _) (.cells #[.string x.1, .string x.2] 24))
  obtain ⟨hb1, hb2⟩ := boxed w x
  have HX1 := Lib.hid hb1
  have HX2 := Lib.hid hb2
  have HL := Lib.hid (few_any a cap l _ (by omega) (hA.below HB0.out))
  have HMf : Hid (∀ W, Below w.heap.size w W → Calls Try.prog 5 #[.slice a' m.length cap'] W fun e w' => e = .returned (.bool (fewA m)) ∧ Below W.heap.size W w') := Lib.hid (fun W hW => few_any a' cap' m W (by omega) (hM.below hW))
  have HO := Lib.hid (fun W => one_few W x)
  have HAw := Lib.hid awake_any
  unfold atV
  clear hA hM hb1 hb2
  generalize fewA l = p at *
  generalize fewA m = q at *
  generalize fewA [x] = r at *
  cases p with
  | false =>
    clear h
    go_enter Try.func3, Try.ntmps3
    go_wp2_with fail
    refine HL.out.mono ?_
    rintro e w1 ⟨rfl, hb⟩
    have HB1 : Hid (Below w.heap.size w w1) := Lib.hid (HB0.out.trans (hb.mono (by simp)))
    clear hb
    go_wp2_with fail
    refine (HAw.out _).mono ?_
    rintro e w2 ⟨rfl, hb⟩
    have HB2 := below_step HB1 hb
    clear hb
    go_wp2
    go_ret
    exact ⟨rfl, HB2.out⟩
  | true =>
    cases q with
    | false =>
      clear h
      go_enter Try.func3, Try.ntmps3
      go_wp2_with fail
      refine HL.out.mono ?_
      rintro e w1 ⟨rfl, hb⟩
      have HB1 : Hid (Below w.heap.size w w1) := Lib.hid (HB0.out.trans (hb.mono (by simp)))
      clear hb
      go_wp2_with fail
      refine (HMf.out _ HB1.out).mono ?_
      rintro e w2 ⟨rfl, hb⟩
      have HB2 := below_step HB1 hb
      clear hb
      go_wp2_with fail
      refine (HAw.out _).mono ?_
      rintro e w3 ⟨rfl, hb⟩
      have HB3 := below_step HB2 hb
      clear hb
      go_wp2
      go_ret
      exact ⟨rfl, HB3.out⟩
    | true =>
      have hr : r = false := by simpa using h
      subst hr
      clear h
      go_enter Try.func3, Try.ntmps3
      go_wp2_with fail
      refine HL.out.mono ?_
      rintro e w1 ⟨rfl, hb⟩
      have HC1 := Lib.hid (cell_keep hb HX1.out)
      have HC2 := Lib.hid (cell_keep hb HX2.out)
      have HB1 : Hid (Below w.heap.size w w1) := Lib.hid (HB0.out.trans (hb.mono (by simp)))
      clear hb
      go_wp2_with fail
      refine (HMf.out _ HB1.out).mono ?_
      rintro e w2 ⟨rfl, hb⟩
      have hd1 := cell_keep hb HC1.out
      have hd2 := cell_keep hb HC2.out
      have HB2 := below_step HB1 hb
      clear hb
      go_wp2_with fail
      refine (HO.out w2).mono ?_
      rintro e w3 ⟨rfl, hb⟩
      have HB3 := below_new HB2 HB2.out.size hb
      clear hb hd1 hd2
      go_wp2_with fail
      refine (HAw.out _).mono ?_
      rintro e w4 ⟨rfl, hb⟩
      have HB4 := below_step HB3 hb
      clear hb
      go_wp2
      go_ret
      exact ⟨rfl, HB4.out⟩

set_option maxRecDepth 100000 in
set_option maxHeartbeats 3200000 in
theorem keeps_near (hl1 : fewA l = true) (hm1 : fewA m = true) (hx1 : fewA [x] = true) :
    Calls Try.prog 4 #[.slice a l.length cap, .slice a' m.length cap', atV x] w fun e w' => e = .returned (.bool true) ∧ Below w.heap.size w w' := by
  unfold maxLen at hl hm
  obtain ⟨hll, HFl⟩ := fine_of hl1
  obtain ⟨hmm, HFm⟩ := fine_of hm1
  have HB0 := Lib.hid ((Below.refl w.heap.size w).alloc (Nat.le_refl _) (.cells #[.string x.1, .string x.2] 24))
  obtain ⟨hb1, hb2⟩ := boxed w x
  have HX1 := Lib.hid hb1
  have HX2 := Lib.hid hb2
  have HL := Lib.hid (few_any a cap l _ (by omega) (hA.below HB0.out))
  rw [hl1] at HL
  have HMf : Hid (∀ W, Below w.heap.size w W → Calls Try.prog 5 #[.slice a' m.length cap'] W fun e w' => e = .returned (.bool (fewA m)) ∧ Below W.heap.size W w') := Lib.hid (fun W hW => few_any a' cap' m W (by omega) (hM.below hW))
  rw [hm1] at HMf
  have HO := Lib.hid (fun W => one_few W x)
  rw [hx1] at HO
  have HSet : Hid (∀ W, Below w.heap.size w W → Calls Try.prog 15 #[.slice a l.length cap, atV x] W (RetAttrs (setL l x) W)) := Lib.hid (fun W hW => (set_any a cap l x W (by omega) (hA.below hW)).mono fun _ _ h => h.ret)
  have HDrop : Hid (∀ W, Below w.heap.size w W → Calls Try.prog 17 #[.slice a l.length cap, .string x.1] W (RetAttrs (dropL x.1 l) W)) := Lib.hid (fun W hW => (drop_any a cap l x.1 W (by omega) (hA.below hW)).mono fun _ _ h => h.ret)
  have HGet : Hid (∀ W (L : List At) A C, L.length ≤ 9223372036854775807 → AttrsAt W A L → Calls Try.prog 7 #[.slice A L.length C, .string x.1] W fun e w' => e = .returned (.tuple #[.string (getV x.1 L), .bool (getB x.1 L)]) ∧ Below W.heap.size W w') := Lib.hid (fun W L A C h1 h2 => get_any A C L x.1 W h1 h2)
  have HAl : Hid (∀ W, Below w.heap.size w W → Calls Try.prog 11 #[.slice a l.length cap, .slice a' m.length cap'] W fun e w' => e = .returned (.bool (alikeB l m)) ∧ Below W.heap.size W w') := Lib.hid (fun W hW => alike_any a a' cap cap' l m W (by omega) (by omega) HFl HFm (hA.below hW) (hM.below hW))
  have HAm : Hid (∀ W, Below w.heap.size w W → Calls Try.prog 11 #[.slice a' m.length cap', .slice a l.length cap] W fun e w' => e = .returned (.bool (alikeB l m)) ∧ Below W.heap.size W w') := Lib.hid (fun W hW => by
    rw [alike_comm]; exact alike_any a' a cap' cap m l W (by omega) (by omega) HFm HFl (hM.below hW) (hA.below hW))
  have HSm : Hid (∀ W, Below w.heap.size w W → Calls Try.prog 9 #[.slice a l.length cap, .slice a' m.length cap'] W fun e w' => e = .returned (.bool (sameB l m)) ∧ Below W.heap.size W w') := Lib.hid (fun W hW => same_any a a' cap cap' l m W (by omega) (by omega) (hA.below hW) (hM.below hW))
  have HAw := Lib.hid awake_any
  obtain ⟨hs1, hs2⟩ := get_set l x
  have HV1 := Lib.hid hs1
  have HV2 := Lib.hid hs2
  have HN := Lib.hid (getB_drop x.1 l)
  have HSA := Lib.hid (fun h => same_alike (l := l) (m := m) h)
  have hzl : (setL l x).length ≤ 9223372036854775807 := by
    unfold setL; split
    · rw [List.length_set]; omega
    · simp; omega
  have hzd : (dropL x.1 l).length ≤ 9223372036854775807 := by have := List.length_filter_le (fun a : At => !eqS a.1 x.1) l; unfold dropL; omega
  have hve : (x.2.toList == x.2.toList) = true := by simp
  unfold atV at HSet
  unfold atV
  clear hA hM hb1 hb2 hl1 hm1 hx1 HFl HFm hs1 hs2
  generalize alikeB l m = al at *
  generalize sameB l m = sm at *
  generalize setL l x = sl at *
  generalize dropL x.1 l = dl at *
  go_enter Try.func4, Try.ntmps4
  go_wp2_with fail
  refine HL.out.mono ?_
  rintro e w1 ⟨rfl, hb⟩
  have HC1 := Lib.hid (cell_keep hb HX1.out)
  have HC2 := Lib.hid (cell_keep hb HX2.out)
  have HB1 : Hid (Below w.heap.size w w1) := Lib.hid (HB0.out.trans (hb.mono (by simp)))
  clear hb
  go_wp2_with fail
  refine (HMf.out _ HB1.out).mono ?_
  rintro e w2 ⟨rfl, hb⟩
  have hd1 := cell_keep hb HC1.out
  have hd2 := cell_keep hb HC2.out
  have HB2 := below_step HB1 hb
  clear hb
  go_wp2_with fail
  refine (HO.out w2).mono ?_
  rintro e w3 ⟨rfl, hb⟩
  have HB3 := below_new HB2 HB2.out.size hb
  have hc1 : w3.cell? ⟨w.heap.size, 0, none⟩ = some (.string x.1) := cell_keep hb ((World.cell?_alloc_lt _ _ _ (World.block_lt_of_cell? w2 _ hd1)).trans hd1)
  have hc2 : w3.cell? ⟨w.heap.size, 1, none⟩ = some (.string x.2) := cell_keep hb ((World.cell?_alloc_lt _ _ _ (World.block_lt_of_cell? w2 _ hd2)).trans hd2)
  clear hb hd1 hd2 HC1 HC2
  go_wp2_with fail
  have hB3 := HB3.out
  go_region_held3 (fun w' => w'.cell? ⟨w.heap.size, 0, none⟩ = some (.string x.1) ∧ w'.cell? ⟨w.heap.size, 1, none⟩ = some (.string x.2) ∧ Below w.heap.size w w')
    ((go_split_ands; refine ⟨?_, ?_, ?_⟩ <;> first | assumption | go_keep | exact drewB1 (by assumption)))
    (first
      | (go_at_call 15; go_split_ands; refine (HSet.out _ (by assumption)).mono ?_; rintro e w4 ⟨a4, c4, hc4, rfl, hat4, hb4⟩; have hk1 := cell_keep (B := w.heap.size) (o := 0) (u := .string x.1) hb4 (by assumption); have hk2 := cell_keep (B := w.heap.size) (o := 1) (u := .string x.2) hb4 (by assumption); have hk3 := below_trans (w := w) (by assumption) hb4)
      | (go_at_call 7; go_split_ands; refine (HGet.out _ _ _ _ hzl (by assumption)).mono ?_; rintro e w5 ⟨rfl, hb5⟩; have hk1 := cell_keep (B := w.heap.size) (o := 0) (u := .string x.1) hb5 (by assumption); have hk2 := cell_keep (B := w.heap.size) (o := 1) (u := .string x.2) hb5 (by assumption); have hk3 := below_trans (w := w) (by assumption) hb5))
  rw [HV1.out, HV2.out]
  replace hc1 := hk1
  replace hc2 := hk2
  have HB5 := Lib.hid hk3
  clear hb4 hb5 hat4 hc4
  go_wp2_with fail
  have hB5 := HB5.out
  go_region_held3 (fun w' => w'.cell? ⟨w.heap.size, 0, none⟩ = some (.string x.1) ∧ w'.cell? ⟨w.heap.size, 1, none⟩ = some (.string x.2) ∧ Below w.heap.size w w')
    ((go_split_ands; refine ⟨?_, ?_, ?_⟩ <;> first | assumption | go_keep | exact drewB1 (by assumption)))
    (first
      | (go_at_call 17; go_split_ands; refine (HDrop.out _ (by assumption)).mono ?_; rintro e w6 ⟨a6, c6, hc6, rfl, hat6, hb6⟩; have hk1 := cell_keep (B := w.heap.size) (o := 0) (u := .string x.1) hb6 (by assumption); have hk2 := cell_keep (B := w.heap.size) (o := 1) (u := .string x.2) hb6 (by assumption); have hk3 := below_trans (w := w) (by assumption) hb6)
      | (go_at_call 7; go_split_ands; refine (HGet.out _ _ _ _ hzd (by assumption)).mono ?_; rintro e w7 ⟨rfl, hb7⟩; have hk1 := cell_keep (B := w.heap.size) (o := 0) (u := .string x.1) hb7 (by assumption); have hk2 := cell_keep (B := w.heap.size) (o := 1) (u := .string x.2) hb7 (by assumption); have hk3 := below_trans (w := w) (by assumption) hb7))
  rw [HN.out]
  generalize getV x.1 dl = gd at *
  replace hc1 := hk1
  replace hc2 := hk2
  have HB7 := Lib.hid hk3
  clear hb6 hb7 hat6 hc6
  go_wp2_with fail
  refine (HAl.out _ HB7.out).mono ?_
  rintro e w8 ⟨rfl, hb⟩
  have HB8 := below_step HB7 hb
  clear hb
  go_wp2_with fail
  refine (HAm.out _ HB8.out).mono ?_
  rintro e w9 ⟨rfl, hb⟩
  have HB9 := below_step HB8 hb
  clear hb
  have hal : (al == al) = true := by simp
  go_wp2_with fail
  refine (HSm.out _ HB9.out).mono ?_
  rintro e w10 ⟨rfl, hb⟩
  have HB10 := below_step HB9 hb
  clear hb
  cases sm with
  | true =>
    obtain rfl : al = true := HSA.out rfl
    clear HSA
    go_wp2_with fail
    refine (HAl.out _ HB10.out).mono ?_
    rintro e w11 ⟨rfl, hb⟩
    have HB11 := below_step HB10 hb
    clear hb
    go_wp2_with fail
    refine (HAw.out _).mono ?_
    rintro e w12 ⟨rfl, hb⟩
    have HB12 := below_step HB11 hb
    clear hb
    go_wp2
    go_ret
    exact ⟨rfl, HB12.out⟩
  | false =>
    clear HSA
    go_wp2_with fail
    refine (HAw.out _).mono ?_
    rintro e w12 ⟨rfl, hb⟩
    have HB12 := below_step HB10 hb
    clear hb
    go_wp2
    go_ret
    exact ⟨rfl, HB12.out⟩
set_option maxRecDepth 100000 in
set_option maxHeartbeats 3200000 in
theorem tells_near (hl1 : fewA l = true) (hm1 : fewA m = true) (hx1 : fewA [x] = true) :
    Calls Try.prog 3 #[.slice a l.length cap, .slice a' m.length cap', atV x] w fun e w' => e = .returned (.bool true) ∧ Below w.heap.size w w' := by
  unfold maxLen at hl hm
  obtain ⟨hll, HFl⟩ := fine_of hl1
  obtain ⟨hmm, HFm⟩ := fine_of hm1
  have HB0 := Lib.hid ((Below.refl w.heap.size w).alloc (Nat.le_refl _) (.cells #[.string x.1, .string x.2] 24))
  obtain ⟨hb1, hb2⟩ := boxed w x
  have HX1 := Lib.hid hb1
  have HX2 := Lib.hid hb2
  have HL := Lib.hid (few_any a cap l _ (by omega) (hA.below HB0.out))
  rw [hl1] at HL
  have HMf : Hid (∀ W, Below w.heap.size w W → Calls Try.prog 5 #[.slice a' m.length cap'] W fun e w' => e = .returned (.bool (fewA m)) ∧ Below W.heap.size W w') := Lib.hid (fun W hW => few_any a' cap' m W (by omega) (hM.below hW))
  rw [hm1] at HMf
  have HO := Lib.hid (fun W => one_few W x)
  rw [hx1] at HO
  have HAd : Hid (∀ W, Below w.heap.size w W → Calls Try.prog 13 #[.slice a l.length cap, atV x] W (RetAttrs (addL l x) W)) := Lib.hid (fun W hW => (add_any a cap l x W (by omega) (hA.below hW)).mono fun _ _ h => h.ret)
  have HRAd : Hid (∀ W, Below w.heap.size w W → Calls Try.prog 14 #[.slice a l.length cap, atV x] W (RetAttrs (addL l x) W)) := Lib.hid (fun W hW => (radd_any a cap l x W (by omega) (hA.below hW)).mono fun _ _ h => h.ret)
  have HSet : Hid (∀ W, Below w.heap.size w W → Calls Try.prog 15 #[.slice a l.length cap, atV x] W (RetAttrs (setL l x) W)) := Lib.hid (fun W hW => (set_any a cap l x W (by omega) (hA.below hW)).mono fun _ _ h => h.ret)
  have HRSet : Hid (∀ W, Below w.heap.size w W → Calls Try.prog 16 #[.slice a l.length cap, atV x] W (RetAttrs (setL l x) W)) := Lib.hid (fun W hW => (rset_any a cap l x W (by omega) (hA.below hW)).mono fun _ _ h => h.ret)
  have HDrop : Hid (∀ W, Below w.heap.size w W → Calls Try.prog 17 #[.slice a l.length cap, .string x.1] W (RetAttrs (dropL x.1 l) W)) := Lib.hid (fun W hW => (drop_any a cap l x.1 W (by omega) (hA.below hW)).mono fun _ _ h => h.ret)
  have HRDrop : Hid (∀ W, Below w.heap.size w W → Calls Try.prog 18 #[.slice a l.length cap, .string x.1] W (RetAttrs (dropL x.1 l) W)) := Lib.hid (fun W hW => (rdrop_any a cap l x.1 W (by omega) (hA.below hW)).mono fun _ _ h => h.ret)
  have HGet : Hid (∀ W, Below w.heap.size w W → Calls Try.prog 7 #[.slice a l.length cap, .string x.1] W fun e w' => e = .returned (.tuple #[.string (getV x.1 l), .bool (getB x.1 l)]) ∧ Below W.heap.size W w') := Lib.hid (fun W hW => get_any a cap l x.1 W (by omega) (hA.below hW))
  have HRGet : Hid (∀ W, Below w.heap.size w W → Calls Try.prog 8 #[.slice a l.length cap, .string x.1] W fun e w' => e = .returned (.tuple #[.string (getV x.1 l), .bool (getB x.1 l)]) ∧ W = w') := Lib.hid (fun W hW => rget_any a cap l x.1 W (by omega) (hA.below hW))
  have HAl : Hid (∀ W, Below w.heap.size w W → Calls Try.prog 11 #[.slice a l.length cap, .slice a' m.length cap'] W fun e w' => e = .returned (.bool (alikeB l m)) ∧ Below W.heap.size W w') := Lib.hid (fun W hW => alike_any a a' cap cap' l m W (by omega) (by omega) HFl HFm (hA.below hW) (hM.below hW))
  have HRAl : Hid (∀ W, Below w.heap.size w W → Calls Try.prog 12 #[.slice a l.length cap, .slice a' m.length cap'] W fun e w' => e = .returned (.bool (alikeB l m)) ∧ Below W.heap.size W w') := Lib.hid (fun W hW => ralike_any a a' cap cap' l m W (by omega) (by omega) (hA.below hW) (hM.below hW))
  have HSm : Hid (∀ W, Below w.heap.size w W → Calls Try.prog 9 #[.slice a l.length cap, .slice a' m.length cap'] W fun e w' => e = .returned (.bool (sameB l m)) ∧ Below W.heap.size W w') := Lib.hid (fun W hW => same_any a a' cap cap' l m W (by omega) (by omega) (hA.below hW) (hM.below hW))
  have HRSm : Hid (∀ W, Below w.heap.size w W → Calls Try.prog 10 #[.slice a l.length cap, .slice a' m.length cap'] W fun e w' => e = .returned (.bool (sameB l m)) ∧ Below W.heap.size W w') := Lib.hid (fun W hW => rsame_any a a' cap cap' l m W (by omega) (by omega) (hA.below hW) (hM.below hW))
  have HEq : Hid (∀ W A A' C C' (L : List At), L.length ≤ 1000000 → AttrsAt W A L → AttrsAt W A' L → Calls Try.prog 10 #[.slice A L.length C, .slice A' L.length C'] W fun e w' => e = .returned (.bool true) ∧ Below W.heap.size W w') := Lib.hid (fun W A A' C C' L h1 h2 h3 => by
    have := rsame_any A A' C C' L L W h1 h1 h2 h3
    rw [sameB_self] at this; exact this)
  have HAw := Lib.hid awake_any
  have hza : (addL l x).length ≤ 1000000 := by
    rcases add_own l x with h | h
    · rw [h]; omega
    · rw [h]; simp; omega
  have hzl : (setL l x).length ≤ 1000000 := by
    unfold setL; split
    · rw [List.length_set]; omega
    · simp; omega
  have hzd : (dropL x.1 l).length ≤ 1000000 := by have := List.length_filter_le (fun a : At => !eqS a.1 x.1) l; unfold dropL; omega
  unfold atV at HAd HRAd HSet HRSet
  unfold atV
  clear hA hM hb1 hb2 hl1 hm1 hx1 HFl HFm
  generalize alikeB l m = al at *
  generalize sameB l m = sm at *
  generalize addL l x = ad at *
  generalize setL l x = sl at *
  generalize dropL x.1 l = dl at *
  generalize getV x.1 l = gv at *
  generalize getB x.1 l = gb at *
  have hal : (al == al) = true := by simp
  have hsm : (sm == sm) = true := by simp
  have hgb : (gb == gb) = true := by simp
  have hgv : (gv.toList == gv.toList) = true := by simp
  go_enter Try.func3, Try.ntmps3
  go_wp2_with fail
  refine HL.out.mono ?_
  rintro e w1 ⟨rfl, hb⟩
  have HC1 := Lib.hid (cell_keep hb HX1.out)
  have HC2 := Lib.hid (cell_keep hb HX2.out)
  have HB1 : Hid (Below w.heap.size w w1) := Lib.hid (HB0.out.trans (hb.mono (by simp)))
  clear hb
  go_wp2_with fail
  refine (HMf.out _ HB1.out).mono ?_
  rintro e w2 ⟨rfl, hb⟩
  have hd1 := cell_keep hb HC1.out
  have hd2 := cell_keep hb HC2.out
  have HB2 := below_step HB1 hb
  clear hb
  go_wp2_with fail
  refine (HO.out w2).mono ?_
  rintro e w3 ⟨rfl, hb⟩
  have HB3 := below_new HB2 HB2.out.size hb
  have hc1 : w3.cell? ⟨w.heap.size, 0, none⟩ = some (.string x.1) := cell_keep hb ((World.cell?_alloc_lt _ _ _ (World.block_lt_of_cell? w2 _ hd1)).trans hd1)
  have hc2 : w3.cell? ⟨w.heap.size, 1, none⟩ = some (.string x.2) := cell_keep hb ((World.cell?_alloc_lt _ _ _ (World.block_lt_of_cell? w2 _ hd2)).trans hd2)
  clear hb hd1 hd2 HC1 HC2
  have hB3 := HB3.out
  go_wp2_with fail
  refine (HGet.out _ HB3.out).mono ?_
  rintro e w4 ⟨rfl, hb⟩
  have hd1 := cell_keep hb hc1
  have hd2 := cell_keep hb hc2
  have HB4 := below_step HB3 hb
  clear hb hc1 hc2 hB3
  go_wp2_with fail
  refine (HRGet.out _ HB4.out).mono ?_
  rintro e w4' ⟨rfl, rfl⟩
  have HD1 := Lib.hid hd1
  have HD2 := Lib.hid hd2
  clear hd1 hd2
  go_wp2_with fail
  refine (HSm.out _ HB4.out).mono ?_
  rintro e w5 ⟨rfl, hb⟩
  have HE1 := Lib.hid (cell_keep hb HD1.out)
  have HE2 := Lib.hid (cell_keep hb HD2.out)
  have HB5 := below_step HB4 hb
  clear hb
  go_wp2_with fail
  refine (HRSm.out _ HB5.out).mono ?_
  rintro e w6 ⟨rfl, hb⟩
  have HF1 := Lib.hid (cell_keep hb HE1.out)
  have HF2 := Lib.hid (cell_keep hb HE2.out)
  have HB6 := below_step HB5 hb
  clear hb
  go_wp2_with fail
  refine (HAl.out _ HB6.out).mono ?_
  rintro e w7 ⟨rfl, hb⟩
  have HG1 := Lib.hid (cell_keep hb HF1.out)
  have HG2 := Lib.hid (cell_keep hb HF2.out)
  have HB7 := below_step HB6 hb
  clear hb
  go_wp2_with fail
  refine (HRAl.out _ HB7.out).mono ?_
  rintro e w8 ⟨rfl, hb⟩
  have hc1 := cell_keep hb HG1.out
  have hc2 := cell_keep hb HG2.out
  have HB8 := below_step HB7 hb
  clear hb
  go_wp2_with fail
  have hB8 := HB8.out
  go_region_held3 (fun w' => w'.cell? ⟨w.heap.size, 0, none⟩ = some (.string x.1) ∧ w'.cell? ⟨w.heap.size, 1, none⟩ = some (.string x.2) ∧ Below w.heap.size w w')
    ((go_split_ands; refine ⟨?_, ?_, ?_⟩ <;> first | assumption | go_keep | exact drewB1 (by assumption)))
    (first
      | (go_at_call 13; go_split_ands; refine (HAd.out _ (by assumption)).mono ?_; rintro e w9 ⟨a9, c9, hq9, rfl, hat9, hb9⟩; have hk1 := cell_keep (B := w.heap.size) (o := 0) (u := .string x.1) hb9 (by assumption); have hk2 := cell_keep (B := w.heap.size) (o := 1) (u := .string x.2) hb9 (by assumption); have hk3 := below_trans (w := w) (by assumption) hb9)
      | (go_at_call 14; go_split_ands; refine (HRAd.out _ (by assumption)).mono ?_; rintro e w10 ⟨a10, c10, hq10, rfl, hat10, hb10⟩; have hax9 := hat9.below hb10; have hk1 := cell_keep (B := w.heap.size) (o := 0) (u := .string x.1) hb10 (by assumption); have hk2 := cell_keep (B := w.heap.size) (o := 1) (u := .string x.2) hb10 (by assumption); have hk3 := below_trans (w := w) (by assumption) hb10)
      | (go_at_call 15; go_split_ands; refine (HSet.out _ (by assumption)).mono ?_; rintro e w12 ⟨a12, c12, hq12, rfl, hat12, hb12⟩; have hk1 := cell_keep (B := w.heap.size) (o := 0) (u := .string x.1) hb12 (by assumption); have hk2 := cell_keep (B := w.heap.size) (o := 1) (u := .string x.2) hb12 (by assumption); have hk3 := below_trans (w := w) (by assumption) hb12)
      | (go_at_call 16; go_split_ands; refine (HRSet.out _ (by assumption)).mono ?_; rintro e w13 ⟨a13, c13, hq13, rfl, hat13, hb13⟩; have hax12 := hat12.below hb13; have hk1 := cell_keep (B := w.heap.size) (o := 0) (u := .string x.1) hb13 (by assumption); have hk2 := cell_keep (B := w.heap.size) (o := 1) (u := .string x.2) hb13 (by assumption); have hk3 := below_trans (w := w) (by assumption) hb13)
      | (go_at_call 17; go_split_ands; refine (HDrop.out _ (by assumption)).mono ?_; rintro e w15 ⟨a15, c15, hq15, rfl, hat15, hb15⟩; have hk1 := cell_keep (B := w.heap.size) (o := 0) (u := .string x.1) hb15 (by assumption); have hk2 := cell_keep (B := w.heap.size) (o := 1) (u := .string x.2) hb15 (by assumption); have hk3 := below_trans (w := w) (by assumption) hb15)
      | (go_at_call 18; go_split_ands; refine (HRDrop.out _ (by assumption)).mono ?_; rintro e w16 ⟨a16, c16, hq16, rfl, hat16, hb16⟩; have hax15 := hat15.below hb16; have hk1 := cell_keep (B := w.heap.size) (o := 0) (u := .string x.1) hb16 (by assumption); have hk2 := cell_keep (B := w.heap.size) (o := 1) (u := .string x.2) hb16 (by assumption); have hk3 := below_trans (w := w) (by assumption) hb16)
      | (go_at_call 10; go_split_ands; refine (HEq.out _ _ _ _ _ _ (by assumption) (by assumption) (by assumption)).mono ?_; rintro e wz ⟨rfl, hbz⟩; have hk1 := cell_keep (B := w.heap.size) (o := 0) (u := .string x.1) hbz (by assumption); have hk2 := cell_keep (B := w.heap.size) (o := 1) (u := .string x.2) hbz (by assumption); have hk3 := below_trans (w := w) (by assumption) hbz)
      | (go_at_call 6; go_split_ands; refine (HAw.out _).mono ?_; rintro e wz ⟨rfl, hbz⟩; have hk1 := cell_keep (B := w.heap.size) (o := 0) (u := .string x.1) hbz (by assumption); have hk2 := cell_keep (B := w.heap.size) (o := 1) (u := .string x.2) hbz (by assumption); have hk3 := below_trans (w := w) (by assumption) hbz))
  go_wp2
  go_ret
  exact ⟨rfl, hk3⟩
end
end Go.Proofs.Ytkfaenhidjekdaa
