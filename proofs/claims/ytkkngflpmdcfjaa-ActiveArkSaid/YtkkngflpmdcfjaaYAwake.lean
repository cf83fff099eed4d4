/-
  The walk of awake: some answers that the document fixes. Written by gen_awake.py.
-/
import Derived.Test.YtkkngflpmdcfjaaYFive
import Derived.Test.YtkkngflpmdcfjaaOEqI
namespace Go.Proofs.Ytkkngflpmdcfjaa
open Go.RowKit

theorem litY (w : World) (xs : List Int) : IntsAt (w.alloc (.cells (xs.map (Value.int .i64)).toArray 3)) (some ⟨w.heap.size, 0, none⟩) xs := fun _ =>
  ⟨w.heap.size, 0, rfl, by simp, fun j hj => by
    rw [cell_of_row _ w.heap.size (0 + j) _ _ (0, 0) (heap_alloc_new w _)]
    simp [hj]⟩
/-- A call that hands numbers back. -/
def RetL (xs : List Int) (n : Nat) (w : World) (e : Ending) (w' : World) : Prop := ∃ a c, e = .returned (.slice a n c) ∧ IntsAt w' a xs ∧ Below w.heap.size w w'
theorem retL_of {xs ys : List Int} {n : Nat} {w w' : World} {e : Ending} (h : RetI xs w e w') (hx : xs = ys) (hn : ys.length = n) : RetL ys n w e w' := by
  subst hx
  subst hn
  obtain ⟨v, rfl, hk, _, hb⟩ := h
  obtain ⟨a, c, rfl, _⟩ := hk.form
  exact ⟨a, c, rfl, hk.ints, hb⟩
theorem l1_2_3 (w : World) : IntsAt (w.alloc (.cells #[.int .i64 1, .int .i64 2, .int .i64 3] 3)) (some ⟨w.heap.size, 0, none⟩) [1, 2, 3] := litY w [1, 2, 3]
theorem l2_3_4 (w : World) : IntsAt (w.alloc (.cells #[.int .i64 2, .int .i64 3, .int .i64 4] 3)) (some ⟨w.heap.size, 0, none⟩) [2, 3, 4] := litY w [2, 3, 4]
theorem l1_m_2 (w : World) : IntsAt (w.alloc (.cells #[.int .i64 1, .int .i64 (-1), .int .i64 2] 3)) (some ⟨w.heap.size, 0, none⟩) [1, -1, 2] := litY w [1, -1, 2]
theorem l1 (w : World) : IntsAt (w.alloc (.cells #[.int .i64 1] 3)) (some ⟨w.heap.size, 0, none⟩) [1] := litY w [1]
theorem l2_4 (w : World) : IntsAt (w.alloc (.cells #[.int .i64 2, .int .i64 4] 3)) (some ⟨w.heap.size, 0, none⟩) [2, 4] := litY w [2, 4]
theorem l2_5_4 (w : World) : IntsAt (w.alloc (.cells #[.int .i64 2, .int .i64 5, .int .i64 4] 3)) (some ⟨w.heap.size, 0, none⟩) [2, 5, 4] := litY w [2, 5, 4]
theorem l2_5_3_4 (w : World) : IntsAt (w.alloc (.cells #[.int .i64 2, .int .i64 5, .int .i64 3, .int .i64 4] 3)) (some ⟨w.heap.size, 0, none⟩) [2, 5, 3, 4] := litY w [2, 5, 3, 4]
theorem eq_l2_3_4 (a1 a2 : Option Addr) (c1 c2 : Nat) (w : World) (h1 : IntsAt w a1 [2, 3, 4]) (h2 : IntsAt w a2 [2, 3, 4]) : Calls Try.prog 19 #[.slice a1 3 c1, .slice a2 3 c2] w fun e w' => e = .returned (.bool true) ∧ Below w.heap.size w w' :=
  equal_ints a1 a2 c1 c2 [2, 3, 4] [2, 3, 4] w (by simp) (by simp) h1 h2
theorem eq_l1 (a1 a2 : Option Addr) (c1 c2 : Nat) (w : World) (h1 : IntsAt w a1 [1]) (h2 : IntsAt w a2 [1]) : Calls Try.prog 19 #[.slice a1 1 c1, .slice a2 1 c2] w fun e w' => e = .returned (.bool true) ∧ Below w.heap.size w w' :=
  equal_ints a1 a2 c1 c2 [1] [1] w (by simp) (by simp) h1 h2
theorem eq_l2_4 (a1 a2 : Option Addr) (c1 c2 : Nat) (w : World) (h1 : IntsAt w a1 [2, 4]) (h2 : IntsAt w a2 [2, 4]) : Calls Try.prog 19 #[.slice a1 2 c1, .slice a2 2 c2] w fun e w' => e = .returned (.bool true) ∧ Below w.heap.size w w' :=
  equal_ints a1 a2 c1 c2 [2, 4] [2, 4] w (by simp) (by simp) h1 h2
theorem eq_l2_5_4 (a1 a2 : Option Addr) (c1 c2 : Nat) (w : World) (h1 : IntsAt w a1 [2, 5, 4]) (h2 : IntsAt w a2 [2, 5, 4]) : Calls Try.prog 19 #[.slice a1 3 c1, .slice a2 3 c2] w fun e w' => e = .returned (.bool true) ∧ Below w.heap.size w w' :=
  equal_ints a1 a2 c1 c2 [2, 5, 4] [2, 5, 4] w (by simp) (by simp) h1 h2
theorem eq_l2_5_3_4 (a1 a2 : Option Addr) (c1 c2 : Nat) (w : World) (h1 : IntsAt w a1 [2, 5, 3, 4]) (h2 : IntsAt w a2 [2, 5, 3, 4]) : Calls Try.prog 19 #[.slice a1 4 c1, .slice a2 4 c2] w fun e w' => e = .returned (.bool true) ∧ Below w.heap.size w w' :=
  equal_ints a1 a2 c1 c2 [2, 5, 3, 4] [2, 5, 3, 4] w (by simp) (by simp) h1 h2
theorem f5_len {l : List Nd} (h : l.map norm = Fv 5) : l.length = 6 := by rw [← List.length_map (f := norm), h]; rfl
theorem f5_attrs {l : List Nd} (h : l.map norm = Fv 5) : ∀ j (hj : j < l.length), l[j].attrs.length ≤ 1000000 ∧ ∀ x ∈ l[j].attrs, A.fine x := fun j hj => by
  have e : l[j].attrs = [] := by
    have h1 : (l.map norm)[j]'(by rw [List.length_map]; exact hj) = norm l[j] := List.getElem_map norm
    have h2 : (l.map norm)[j]? = (Fv 5)[j]? := by rw [h]
    rw [List.getElem?_eq_getElem (by rw [List.length_map]; exact hj), h1] at h2
    have h3 : ∀ y ∈ Fv 5, y.attrs = [] := by intro y hy; simp [Fv] at hy; rcases hy with rfl | rfl <;> rfl
    exact h3 (norm l[j]) (List.mem_of_getElem? h2.symm)
  rw [e]; exact ⟨by simp, fun x hx => by cases hx⟩
theorem f5_push : pushP (fun x => alikeT (Fv 5) x 4) [1, 2, 3] 4 = [2, 3, 4] := by kernel_rfl
theorem f5_find : fiP (named (Fv 5) ⟨#[98]⟩) (endE [1, -1, 2]) = 2 := by kernel_rfl
theorem push5 (v : Value) (l : List Nd) (a : Option Addr) (w : World) (h : ReadN w v l) (hl : l.map norm = Fv 5) (hA : IntsAt w a [1, 2, 3]) : Calls Try.prog 60 #[.agg #[v], .slice a 3 3, .int .i64 4] w (RetL [2, 3, 4] 3 w) :=
  (push_any v l a 3 [1, 2, 3] 4 w h (f5_attrs hl) hA (by simp)).mono fun e w' h => retL_of h (by
    rw [← f5_push, ← hl]
    congr 1
    funext x
    exact (alikeT_norm l x 4).symm) rfl
theorem find5 (v : Value) (l : List Nd) (a : Option Addr) (w : World) (h : ReadN w v l) (hl : l.map norm = Fv 5) (hA : IntsAt w a [1, -1, 2]) : Calls Try.prog 64 #[.agg #[v], .slice a 3 3, .string ⟨#[98]⟩] w fun e w' => e = .returned (.int .i64 2) ∧ Below w.heap.size w w' :=
  (find_any v l a 3 [1, -1, 2] ⟨#[98]⟩ w h hA (by simp)).mono fun e w' h => ⟨by
    have e1 : named l ⟨#[98]⟩ = named (Fv 5) ⟨#[98]⟩ := by rw [← hl]; funext x; exact (named_norm l ⟨#[98]⟩ x).symm
    rw [h.1, e1, f5_find], h.2⟩
theorem clear5 (a : Option Addr) (w : World) (hA : IntsAt w a [1, -1, 2]) : Calls Try.prog 62 #[.slice a 3 3] w (RetL [1] 1 w) :=
  (clear_any a 3 [1, -1, 2] w hA (by simp)).mono fun e w' h => retL_of h (by kernel_rfl) rfl
theorem drop5 (a : Option Addr) (c : Nat) (w : World) (hA : IntsAt w a [2, 3, 4]) : Calls Try.prog 66 #[.slice a 3 c, .int .i64 3] w (RetL [2, 4] 2 w) :=
  (drop_any a c [2, 3, 4] 3 w hA (by simp)).mono fun e w' h => retL_of h (by kernel_rfl) rfl
theorem swap5 (a : Option Addr) (c : Nat) (w : World) (hA : IntsAt w a [2, 3, 4]) : Calls Try.prog 68 #[.slice a 3 c, .int .i64 3, .int .i64 5] w (RetL [2, 5, 4] 3 w) :=
  (swap_any a c [2, 3, 4] 3 5 w hA (by simp)).mono fun e w' h => retL_of h (by kernel_rfl) rfl
theorem at5 (a : Option Addr) (c : Nat) (w : World) (hA : IntsAt w a [2, 3, 4]) : Calls Try.prog 70 #[.slice a 3 c, .int .i64 4] w fun e w' => e = .returned (.int .i64 2) ∧ w' = w :=
  at_any a c [2, 3, 4] 4 w hA (by simp)
theorem into5 (a : Option Addr) (c : Nat) (w : World) (hA : IntsAt w a [2, 3, 4]) : Calls Try.prog 72 #[.slice a 3 c, .int .i64 1, .int .i64 5] w (RetL [2, 5, 3, 4] 4 w) :=
  (into_any a c [2, 3, 4] 1 5 w hA (by simp)).mono fun e w' h => retL_of h (by kernel_rfl) rfl

set_option maxRecDepth 100000 in
set_option maxHeartbeats 4000000 in
theorem awakeY_any (w : World) : Calls Try.prog 59 #[] w (RetT w) := by
  go_enter Try.func59, Try.ntmps59
  go_wp2_with fail
  refine (five_any w).mono ?_
  rintro e w1 ⟨v, l, rfl, hv, hl, hb1⟩
  have HB1 := Lib.hid hb1
  have HV := Lib.hid hv
  have HLf := Lib.hid hl
  clear hb1 hv hl
  go_wp2_with fail
  refine (push5 v l _ _ (HV.out.below (below_box _ _)) HLf.out (l1_2_3 _)).mono ?_
  rintro e w2 ⟨a0, c0, rfl, hi, hb⟩
  have HB2 := below_step (below_step HB1 (below_box _ _)) hb
  have HL2 := Lib.hid hi
  clear hi hb HV HLf HB1
  go_wp2_with fail
  refine (eq_l2_3_4 a0 _ _ _ _ (HL2.out.below (below_box _ _)) (l2_3_4 _)).mono ?_
  rintro e w3 ⟨rfl, hb⟩
  have HB3 := below_step (below_step HB2 (below_box _ _)) hb
  have HL3 := Lib.hid (HL2.out.below (below_trans (below_box _ _) hb))
  clear hb HB2 HL2
  go_wp2_with fail
  refine (clear5 _ _ (l1_m_2 _)).mono ?_
  rintro e w4 ⟨a1, c1, rfl, hi, hb⟩
  have HB4 := below_step (below_step HB3 (below_box _ _)) hb
  have HL4 := Lib.hid (HL3.out.below (below_trans (below_box _ _) hb))
  have HI := Lib.hid hi
  clear hi
  clear hb HB3 HL3
  go_wp2_with fail
  refine (eq_l1 a1 _ _ _ _ (HI.out.below (below_box _ _)) (l1 _)).mono ?_
  rintro e w5 ⟨rfl, hb⟩
  have HB5 := below_step (below_step HB4 (below_box _ _)) hb
  have HL5 := Lib.hid (HL4.out.below (below_trans (below_box _ _) hb))
  clear hb HB4 HL4 HI
  go_wp2_with fail
  refine (five_any w5).mono ?_
  rintro e w6 ⟨v, l, rfl, hv, hl, hb⟩
  have HB6 := below_step HB5 hb
  have HL6 := Lib.hid (HL5.out.below hb)
  have HV := Lib.hid hv
  have HLf := Lib.hid hl
  clear hb hv hl HB5 HL5
  go_wp2_with fail
  refine (find5 v l _ _ (HV.out.below (below_box _ _)) HLf.out (l1_m_2 _)).mono ?_
  rintro e w7 ⟨rfl, hb⟩
  have HB7 := below_step (below_step HB6 (below_box _ _)) hb
  have HL7 := Lib.hid (HL6.out.below (below_trans (below_box _ _) hb))
  clear hb HB6 HL6
  clear HV HLf
  go_wp2_with fail
  refine (drop5 a0 c0 _ HL7.out).mono ?_
  rintro e w8 ⟨a1, c1, rfl, hi, hb⟩
  have HB8 := below_step HB7 hb
  have HL8 := Lib.hid (HL7.out.below hb)
  have HI := Lib.hid hi
  clear hi
  clear hb HB7 HL7
  go_wp2_with fail
  refine (eq_l2_4 a1 _ _ _ _ (HI.out.below (below_box _ _)) (l2_4 _)).mono ?_
  rintro e w9 ⟨rfl, hb⟩
  have HB9 := below_step (below_step HB8 (below_box _ _)) hb
  have HL9 := Lib.hid (HL8.out.below (below_trans (below_box _ _) hb))
  clear hb HB8 HL8 HI
  go_wp2_with fail
  refine (swap5 a0 c0 _ HL9.out).mono ?_
  rintro e w10 ⟨a1, c1, rfl, hi, hb⟩
  have HB10 := below_step HB9 hb
  have HL10 := Lib.hid (HL9.out.below hb)
  have HI := Lib.hid hi
  clear hi
  clear hb HB9 HL9
  go_wp2_with fail
  refine (eq_l2_5_4 a1 _ _ _ _ (HI.out.below (below_box _ _)) (l2_5_4 _)).mono ?_
  rintro e w11 ⟨rfl, hb⟩
  have HB11 := below_step (below_step HB10 (below_box _ _)) hb
  have HL11 := Lib.hid (HL10.out.below (below_trans (below_box _ _) hb))
  clear hb HB10 HL10 HI
  go_wp2_with fail
  refine (at5 a0 c0 _ HL11.out).mono ?_
  rintro e w12 ⟨rfl, rfl⟩
  have HB12 := HB11
  have HL12 := HL11
  go_wp2_with fail
  refine (into5 a0 c0 _ HL12.out).mono ?_
  rintro e w13 ⟨a1, c1, rfl, hi, hb⟩
  have HB13 := below_step HB12 hb
  have HL13 := Lib.hid (HL12.out.below hb)
  have HI := Lib.hid hi
  clear hi
  clear hb HB12 HL12
  go_wp2_with fail
  refine (eq_l2_5_3_4 a1 _ _ _ _ (HI.out.below (below_box _ _)) (l2_5_3_4 _)).mono ?_
  rintro e w14 ⟨rfl, hb⟩
  have HB14 := below_step (below_step HB13 (below_box _ _)) hb
  have HL14 := Lib.hid (HL13.out.below (below_trans (below_box _ _) hb))
  clear hb HB13 HL13 HI
  go_wp2
  go_ret
  exact ⟨rfl, HB14.out⟩
end Go.Proofs.Ytkkngflpmdcfjaa
