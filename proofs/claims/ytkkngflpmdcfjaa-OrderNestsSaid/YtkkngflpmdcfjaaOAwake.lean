/-
  The walk of awake: some answers that the document fixes.
-/
import Derived.Test.YtkkngflpmdcfjaaOSome
import Derived.Test.YtkkngflpmdcfjaaOEqs
import Derived.Test.YtkkngflpmdcfjaaODeep
import Derived.Test.YtkkngflpmdcfjaaOPath
import Derived.Test.YtkkngflpmdcfjaaORfacts
namespace Go.Proofs.Ytkkngflpmdcfjaa
open Go.RowKit

theorem lit_ints (w : World) (xs : List Int) : IntsAt (w.alloc (.cells (xs.map (Value.int .i64)).toArray 3)) (some ⟨w.heap.size, 0, none⟩) xs := fun _ =>
  ⟨w.heap.size, 0, rfl, by simp, fun j hj => by
    rw [cell_of_row _ w.heap.size (0 + j) _ _ (0, 0) (heap_alloc_new w _)]
    simp [hj]⟩
theorem lit4 (w : World) : IntsAt (w.alloc (.cells #[.int .i64 0, .int .i64 1, .int .i64 2, .int .i64 3] 3)) (some ⟨w.heap.size, 0, none⟩) [0, 1, 2, 3] := lit_ints w [0, 1, 2, 3]
theorem lit2 (w : World) : IntsAt (w.alloc (.cells #[.int .i64 0, .int .i64 1] 3)) (some ⟨w.heap.size, 0, none⟩) [0, 1] := lit_ints w [0, 1]
theorem k4_list : insE (evA K4 4) = [0, 1, 2, 3] := by kernel_rfl
theorem k4_path : pthE 2 [] (evA K4 4) = [0, 1] := by kernel_rfl
theorem k4_deep : (dpE (evA K4 4)).2 = 2 := by kernel_rfl
theorem k4_ms : ms K4 4 (fun _ => false) [(0, [0])] + 1 ≤ 1000000 := of_decide_eq_true (by kernel_rfl)
theorem k4_len : (evA K4 4).length ≤ 62 := of_decide_eq_true (by kernel_rfl)
theorem k4_marks : ∀ j, j < 4 → #[Value.complex .f64 0 4619567317775286272, .complex .f64 4607182418800017408 4616189618054758400, .complex .f64 4611686018427387904 4613937818241073152, .complex .f64 4617315517961601024 4618441417868443648][j]? = some (cx ((mkE (evA K4 4)).1 j))
  | 0, _ => by kernel_rfl
  | 1, _ => by kernel_rfl
  | 2, _ => by kernel_rfl
  | 3, _ => by kernel_rfl
  | j + 4, h => absurd h (by omega)
theorem k4_bd : ∀ j, j < 4 → (-1 ≤ ((mkE (evA K4 4)).1 j).1 ∧ ((mkE (evA K4 4)).1 j).1 < 65) ∧ -1 ≤ ((mkE (evA K4 4)).1 j).2 ∧ ((mkE (evA K4 4)).1 j).2 < 65
  | 0, _ => of_decide_eq_true (by kernel_rfl)
  | 1, _ => of_decide_eq_true (by kernel_rfl)
  | 2, _ => of_decide_eq_true (by kernel_rfl)
  | 3, _ => of_decide_eq_true (by kernel_rfl)
  | j + 4, h => absurd h (by omega)
theorem k4_in1 : insB ((mkE (evA K4 4)).1 2) ((mkE (evA K4 4)).1 1) = true := by kernel_rfl
theorem k4_in2 : insB ((mkE (evA K4 4)).1 3) ((mkE (evA K4 4)).1 1) = false := by kernel_rfl
theorem lit_marks (w : World) : MC (w.alloc (.cells #[.complex .f64 0 4619567317775286272, .complex .f64 4607182418800017408 4616189618054758400, .complex .f64 4611686018427387904 4613937818241073152, .complex .f64 4617315517961601024 4618441417868443648] 35)) w.heap.size 4 (mkE (evA K4 4)).1 :=
  ⟨by simp, fun j hj => by rw [cell_of_row _ w.heap.size j _ _ (0, 0) (heap_alloc_new w _)]; exact k4_marks j hj⟩

theorem list4 (v : Value) (w : World) (h : TreeV w v 4 K4) : Calls Try.prog 20 #[.agg #[v]] w fun e w' => ∃ a c, e = .returned (.slice a 4 c) ∧ IntsAt w' a [0, 1, 2, 3] ∧ Below w.heap.size w w' := by
  refine (list_any v 4 K4 w h (by omega) k4_ms).mono ?_
  rintro e w' ⟨u, rfl, hk, _, hb⟩
  rw [k4_list] at hk
  obtain ⟨a, c, rfl, _⟩ := hk.form
  exact ⟨a, c, rfl, hk.ints, hb⟩
theorem path4 (v : Value) (w : World) (h : TreeV w v 4 K4) : Calls Try.prog 26 #[.agg #[v], .int .i64 2] w fun e w' => ∃ a c, e = .returned (.slice a 2 c) ∧ IntsAt w' a [0, 1] ∧ Below w.heap.size w w' := by
  refine (path_any v 2 4 K4 w h (by omega) k4_ms).mono ?_
  rintro e w' ⟨u, rfl, hk, _, hb⟩
  rw [k4_path] at hk
  obtain ⟨a, c, rfl, _⟩ := hk.form
  exact ⟨a, c, rfl, hk.ints, hb⟩
theorem deep4 (v : Value) (w : World) (h : TreeV w v 4 K4) : Calls Try.prog 22 #[.agg #[v]] w fun e w' => e = .returned (.int .i64 2) ∧ Below w.heap.size w w' := by
  refine (deep_any v 4 K4 w h (by omega) k4_ms).mono ?_
  rintro e w' ⟨rfl, hb⟩
  rw [k4_deep]
  exact ⟨rfl, hb⟩
theorem inside4 (j : Nat) (hj : j < 4) (w : World) : Calls Try.prog 24 #[cx ((mkE (evA K4 4)).1 j), cx ((mkE (evA K4 4)).1 1)] w fun e w' => e = .returned (.bool (insB ((mkE (evA K4 4)).1 j) ((mkE (evA K4 4)).1 1))) ∧ w' = w := by
  have h1 := k4_bd j hj
  have h2 := k4_bd 1 (by omega)
  exact (inside_any _ _ h1.1 h1.2 h2.1 h2.2 w).mono fun _ _ h => ⟨h.1, h.2.symm⟩

theorem eq4 (a1 a2 : Option Addr) (c1 c2 : Nat) (w : World) (h1 : IntsAt w a1 [0, 1, 2, 3]) (h2 : IntsAt w a2 [0, 1, 2, 3]) : Calls Try.prog 19 #[.slice a1 4 c1, .slice a2 4 c2] w fun e w' => e = .returned (.bool true) ∧ Below w.heap.size w w' :=
  equal_ints a1 a2 c1 c2 [0, 1, 2, 3] [0, 1, 2, 3] w (by simp) (by simp) h1 h2
theorem eq2 (a1 a2 : Option Addr) (c1 c2 : Nat) (w : World) (h1 : IntsAt w a1 [0, 1]) (h2 : IntsAt w a2 [0, 1]) : Calls Try.prog 19 #[.slice a1 2 c1, .slice a2 2 c2] w fun e w' => e = .returned (.bool true) ∧ Below w.heap.size w w' :=
  equal_ints a1 a2 c1 c2 [0, 1] [0, 1] w (by simp) (by simp) h1 h2
/-- The marks of the tree of the examples, by what the walk wants of them. -/
theorem marks4 : ∃ m : Nat → Int × Int, (∀ v w, TreeV w v 4 K4 → Calls Try.prog 17 #[.agg #[v]] w (RetM 4 m w)) ∧
    (∀ w : World, MC (w.alloc (.cells #[.complex .f64 0 4619567317775286272, .complex .f64 4607182418800017408 4616189618054758400, .complex .f64 4611686018427387904 4613937818241073152, .complex .f64 4617315517961601024 4618441417868443648] 35)) w.heap.size 4 m) ∧
    (∀ j, j < 4 → (-1 ≤ (m j).1 ∧ (m j).1 < 65) ∧ -1 ≤ (m j).2 ∧ (m j).2 < 65) ∧
    (∀ w, Calls Try.prog 24 #[cx (m 2), cx (m 1)] w fun e w' => e = .returned (.bool true) ∧ w' = w) ∧
    ∀ w, Calls Try.prog 24 #[cx (m 3), cx (m 1)] w fun e w' => e = .returned (.bool false) ∧ w' = w := by
  refine ⟨(mkE (evA K4 4)).1, fun v w h => marks_any v 4 K4 w h (by omega) k4_ms k4_len, lit_marks, k4_bd, fun w => ?_, fun w => ?_⟩
  · have := inside4 2 (by omega) w
    rwa [k4_in1] at this
  · have := inside4 3 (by omega) w
    rwa [k4_in2] at this

def SF.mc (n : Nat) (m : Nat → Int × Int) : SF := ⟨fun v w => ∃ b, v = .slice (some ⟨b, 0, none⟩) n n ∧ MC w b n m, fun _ _ _ ⟨b, h1, h2⟩ hb => ⟨b, h1, h2.below hb⟩⟩
def SF.tree (n : Nat) (K : Nat → List Int) : SF := ⟨fun v w => ∃ u, v = .agg #[u] ∧ TreeV w u n K, fun _ _ _ ⟨u, h1, h2⟩ hb => ⟨u, h1, h2.below hb⟩⟩
def SF.ints (xs : List Int) : SF := ⟨fun v w => ∃ a c, v = .slice a xs.length c ∧ IntsAt w a xs, fun _ _ _ ⟨a, c, h1, h2⟩ hb => ⟨a, c, h1, h2.below hb⟩⟩
/-- THE WALK -/
def awF (S : Nat) (m : Nat → Int × Int) : Nat → SF
  | 0 => SF.val (.slice (some ⟨S, 0, none⟩) 4 4)
  | 1 => SF.mc 4 m
  | 4 => SF.tree 4 K4
  | 5 => SF.ints [0, 1, 2, 3]
  | 6 => SF.ints [0, 1, 2, 3]
  | 10 => SF.tree 4 K4
  | 11 => SF.ints [0, 1]
  | 12 => SF.ints [0, 1]
  | 16 => SF.tree 4 K4
  | 17 => SF.val (.int .i64 2)
  | 21 => SF.val (.slice (some ⟨S, 0, none⟩) 4 4)
  | 22 => SF.val (.pointer (some ⟨S, 2, none⟩))
  | 23 => SF.val (cx (m 2))
  | 24 => SF.val (.slice (some ⟨S, 0, none⟩) 4 4)
  | 25 => SF.val (.pointer (some ⟨S, 1, none⟩))
  | 26 => SF.val (cx (m 1))
  | 30 => SF.val (.slice (some ⟨S, 0, none⟩) 4 4)
  | 31 => SF.val (.pointer (some ⟨S, 3, none⟩))
  | 32 => SF.val (cx (m 3))
  | 33 => SF.val (.slice (some ⟨S, 0, none⟩) 4 4)
  | 34 => SF.val (.pointer (some ⟨S, 1, none⟩))
  | 35 => SF.val (cx (m 1))
  | 36 => SF.val (.bool false)
  | _ => SF.val (.bool true)
set_option maxRecDepth 100000 in
set_option maxHeartbeats 4000000 in
theorem awakeO_any (w : World) : Calls Try.prog 16 #[] w (RetT w) := by
  obtain ⟨m, hMk, hLM, hBd, hI2, hI3⟩ := marks4
  have HMk0 := Lib.hid hMk
  have HLM := Lib.hid hLM
  have HBd := Lib.hid hBd
  have HI2 := Lib.hid hI2
  have HI3 := Lib.hid hI3
  unfold cx at HI2 HI3
  clear hMk hLM hBd hI2 hI3
  go_enter Try.func16, Try.ntmps16
  go_wp2_with fail
  refine (some_any w).mono ?_
  rintro e w1 ⟨v1, rfl, hv1, hb1⟩
  have HMk := Lib.hid (HMk0.out v1 w1 hv1)
  have HB1 := Lib.hid hb1
  clear hb1 hv1
  go_wp2_with fail
  refine HMk.out.mono ?_
  rintro e w2 ⟨S, rfl, hm, hS, hb⟩
  have HB2 := below_step HB1 hb
  have HM : Hid (∀ W, Below w2.heap.size w2 W → MC W S 4 m) := Lib.hid (fun W h => hm.mc.below h)
  clear hb hm HB1 HMk HMk0
  go_wp2_with fail
  refine region_facts (awF S m) (by kernel_rfl) (dst_of (by kernel_rfl)) (inj_of (by kernel_rfl)) (acy_of (by kernel_rfl)) ?step ?fin
  case step =>
    intro i o a w1 ho hf
    have HB := Lib.hid hf.base
    match i, ho with
    | 0, ho =>
      obtain rfl := Option.some.inj ho
      have h1 : a.tmps[1]? = some (.slice (some ⟨S, 0, none⟩) 4 4) := (hf.others 1 (no_of (by kernel_rfl))).trans rfl
      have e1 := eval_at h1
      refine wpOp_go rfl (wanted_free rfl) ?_
      clear hf
      go_simp
      exact ⟨_, rfl, rfl, Below.refl _ _⟩
    | 1, ho =>
      obtain rfl := Option.some.inj ho
      refine wpOp_go rfl (wanted_free rfl) ?_
      clear hf
      go_simp
      exact ⟨_, rfl, ⟨_, rfl, HLM.out _⟩, below_box _ _⟩
    | 2, ho =>
      obtain rfl := Option.some.inj ho
      obtain ⟨v4, h4, f4⟩ := hf.facts ⟨0, .data⟩ (by simp) rfl _ _ rfl rfl
      obtain rfl : v4 = .slice (some ⟨S, 0, none⟩) 4 4 := f4
      have e4 := eval_at h4
      obtain ⟨v5, h5, f5⟩ := hf.facts ⟨1, .data⟩ (by simp) rfl _ _ rfl rfl
      obtain ⟨b5, rfl, g5⟩ := f5
      have e5 := eval_at h5
      refine wpOp_go rfl (wanted_free rfl) ?_
      clear hf
      go_simp
      go_at_call 78
      refine (equal_marks S b5 4 4 4 m w1 (by omega) (HM.out _ HB.out) g5 HBd.out).mono ?_
      rintro e w4 ⟨rfl, hb⟩
      exact ⟨_, rfl, rfl, hb⟩
    | 3, ho =>
      obtain rfl := Option.some.inj ho
      obtain ⟨v6, h6, f6⟩ := hf.facts ⟨2, .data⟩ (by simp) rfl _ _ rfl rfl
      obtain rfl : v6 = .bool true := f6
      have e6 := eval_at h6
      refine wpOp_go rfl (wanted_free rfl) ?_
      clear hf
      go_simp
      exact ⟨_, rfl, rfl, Below.refl _ _⟩
    | 4, ho =>
      obtain rfl := Option.some.inj ho
      obtain ⟨v7, h7, f7⟩ := hf.facts ⟨3, .chain⟩ (by simp) rfl _ _ rfl rfl
      obtain rfl : v7 = .bool true := f7
      refine wpOp_go rfl (wanted_guard rfl rfl rfl h7) ?_
      clear hf
      go_simp
      go_at_call 77
      refine (some_any _).mono ?_
      rintro e w4 ⟨v4, rfl, hv, hb⟩
      exact ⟨_, rfl, ⟨_, rfl, hv⟩, hb⟩
    | 5, ho =>
      obtain rfl := Option.some.inj ho
      obtain ⟨v8, h8, f8⟩ := hf.facts ⟨4, .data⟩ (by simp) rfl _ _ rfl rfl
      obtain ⟨t8, rfl, g8⟩ := f8
      have e8 := eval_at h8
      obtain ⟨v7, h7, f7⟩ := hf.facts ⟨3, .guard⟩ (by simp) rfl _ _ rfl rfl
      obtain rfl : v7 = .bool true := f7
      refine wpOp_go rfl (wanted_guard rfl rfl rfl h7) ?_
      clear hf
      go_simp
      go_at_call 20
      refine (list4 _ _ g8).mono ?_
      rintro e w4 ⟨a5, c5, rfl, hi5, hb⟩
      exact ⟨_, rfl, ⟨_, _, rfl, hi5⟩, hb⟩
    | 6, ho =>
      obtain rfl := Option.some.inj ho
      obtain ⟨v7, h7, f7⟩ := hf.facts ⟨3, .guard⟩ (by simp) rfl _ _ rfl rfl
      obtain rfl : v7 = .bool true := f7
      refine wpOp_go rfl (wanted_guard rfl rfl rfl h7) ?_
      clear hf
      go_simp
      exact ⟨_, rfl, ⟨_, _, rfl, lit4 _⟩, below_box _ _⟩
    | 7, ho =>
      obtain rfl := Option.some.inj ho
      obtain ⟨v9, h9, f9⟩ := hf.facts ⟨5, .data⟩ (by simp) rfl _ _ rfl rfl
      obtain ⟨a9, c9, rfl, g9⟩ := f9
      have e9 := eval_at h9
      obtain ⟨v10, h10, f10⟩ := hf.facts ⟨6, .data⟩ (by simp) rfl _ _ rfl rfl
      obtain ⟨a10, c10, rfl, g10⟩ := f10
      have e10 := eval_at h10
      obtain ⟨v7, h7, f7⟩ := hf.facts ⟨3, .guard⟩ (by simp) rfl _ _ rfl rfl
      obtain rfl : v7 = .bool true := f7
      refine wpOp_go rfl (wanted_guard rfl rfl rfl h7) ?_
      clear hf
      go_simp
      go_at_call 19
      refine (eq4 _ _ _ _ _ g9 g10).mono ?_
      rintro e w4 ⟨rfl, hb⟩
      exact ⟨_, rfl, rfl, hb⟩
    | 8, ho =>
      obtain rfl := Option.some.inj ho
      obtain ⟨v7, h7, f7⟩ := hf.facts ⟨3, .data⟩ (by simp) rfl _ _ rfl rfl
      obtain rfl : v7 = .bool true := f7
      have e7 := eval_at h7
      obtain ⟨v11, h11, f11⟩ := hf.facts ⟨7, .data⟩ (by simp) rfl _ _ rfl rfl
      obtain rfl : v11 = .bool true := f11
      have e11 := eval_at h11
      refine wpOp_go rfl (wanted_free rfl) ?_
      clear hf
      go_simp
      exact ⟨_, rfl, rfl, Below.refl _ _⟩
    | 9, ho =>
      obtain rfl := Option.some.inj ho
      obtain ⟨v12, h12, f12⟩ := hf.facts ⟨8, .data⟩ (by simp) rfl _ _ rfl rfl
      obtain rfl : v12 = .bool true := f12
      have e12 := eval_at h12
      refine wpOp_go rfl (wanted_free rfl) ?_
      clear hf
      go_simp
      exact ⟨_, rfl, rfl, Below.refl _ _⟩
    | 10, ho =>
      obtain rfl := Option.some.inj ho
      obtain ⟨v13, h13, f13⟩ := hf.facts ⟨9, .chain⟩ (by simp) rfl _ _ rfl rfl
      obtain rfl : v13 = .bool true := f13
      refine wpOp_go rfl (wanted_guard rfl rfl rfl h13) ?_
      clear hf
      go_simp
      go_at_call 77
      refine (some_any _).mono ?_
      rintro e w4 ⟨v4, rfl, hv, hb⟩
      exact ⟨_, rfl, ⟨_, rfl, hv⟩, hb⟩
    | 11, ho =>
      obtain rfl := Option.some.inj ho
      obtain ⟨v14, h14, f14⟩ := hf.facts ⟨10, .data⟩ (by simp) rfl _ _ rfl rfl
      obtain ⟨t14, rfl, g14⟩ := f14
      have e14 := eval_at h14
      obtain ⟨v13, h13, f13⟩ := hf.facts ⟨9, .guard⟩ (by simp) rfl _ _ rfl rfl
      obtain rfl : v13 = .bool true := f13
      refine wpOp_go rfl (wanted_guard rfl rfl rfl h13) ?_
      clear hf
      go_simp
      go_at_call 26
      refine (path4 _ _ g14).mono ?_
      rintro e w4 ⟨a5, c5, rfl, hi5, hb⟩
      exact ⟨_, rfl, ⟨_, _, rfl, hi5⟩, hb⟩
    | 12, ho =>
      obtain rfl := Option.some.inj ho
      obtain ⟨v13, h13, f13⟩ := hf.facts ⟨9, .guard⟩ (by simp) rfl _ _ rfl rfl
      obtain rfl : v13 = .bool true := f13
      refine wpOp_go rfl (wanted_guard rfl rfl rfl h13) ?_
      clear hf
      go_simp
      exact ⟨_, rfl, ⟨_, _, rfl, lit2 _⟩, below_box _ _⟩
    | 13, ho =>
      obtain rfl := Option.some.inj ho
      obtain ⟨v15, h15, f15⟩ := hf.facts ⟨11, .data⟩ (by simp) rfl _ _ rfl rfl
      obtain ⟨a15, c15, rfl, g15⟩ := f15
      have e15 := eval_at h15
      obtain ⟨v16, h16, f16⟩ := hf.facts ⟨12, .data⟩ (by simp) rfl _ _ rfl rfl
      obtain ⟨a16, c16, rfl, g16⟩ := f16
      have e16 := eval_at h16
      obtain ⟨v13, h13, f13⟩ := hf.facts ⟨9, .guard⟩ (by simp) rfl _ _ rfl rfl
      obtain rfl : v13 = .bool true := f13
      refine wpOp_go rfl (wanted_guard rfl rfl rfl h13) ?_
      clear hf
      go_simp
      go_at_call 19
      refine (eq2 _ _ _ _ _ g15 g16).mono ?_
      rintro e w4 ⟨rfl, hb⟩
      exact ⟨_, rfl, rfl, hb⟩
    | 14, ho =>
      obtain rfl := Option.some.inj ho
      obtain ⟨v13, h13, f13⟩ := hf.facts ⟨9, .data⟩ (by simp) rfl _ _ rfl rfl
      obtain rfl : v13 = .bool true := f13
      have e13 := eval_at h13
      obtain ⟨v17, h17, f17⟩ := hf.facts ⟨13, .data⟩ (by simp) rfl _ _ rfl rfl
      obtain rfl : v17 = .bool true := f17
      have e17 := eval_at h17
      refine wpOp_go rfl (wanted_free rfl) ?_
      clear hf
      go_simp
      exact ⟨_, rfl, rfl, Below.refl _ _⟩
    | 15, ho =>
      obtain rfl := Option.some.inj ho
      obtain ⟨v18, h18, f18⟩ := hf.facts ⟨14, .data⟩ (by simp) rfl _ _ rfl rfl
      obtain rfl : v18 = .bool true := f18
      have e18 := eval_at h18
      refine wpOp_go rfl (wanted_free rfl) ?_
      clear hf
      go_simp
      exact ⟨_, rfl, rfl, Below.refl _ _⟩
    | 16, ho =>
      obtain rfl := Option.some.inj ho
      obtain ⟨v19, h19, f19⟩ := hf.facts ⟨15, .chain⟩ (by simp) rfl _ _ rfl rfl
      obtain rfl : v19 = .bool true := f19
      refine wpOp_go rfl (wanted_guard rfl rfl rfl h19) ?_
      clear hf
      go_simp
      go_at_call 77
      refine (some_any _).mono ?_
      rintro e w4 ⟨v4, rfl, hv, hb⟩
      exact ⟨_, rfl, ⟨_, rfl, hv⟩, hb⟩
    | 17, ho =>
      obtain rfl := Option.some.inj ho
      obtain ⟨v20, h20, f20⟩ := hf.facts ⟨16, .data⟩ (by simp) rfl _ _ rfl rfl
      obtain ⟨t20, rfl, g20⟩ := f20
      have e20 := eval_at h20
      obtain ⟨v19, h19, f19⟩ := hf.facts ⟨15, .guard⟩ (by simp) rfl _ _ rfl rfl
      obtain rfl : v19 = .bool true := f19
      refine wpOp_go rfl (wanted_guard rfl rfl rfl h19) ?_
      clear hf
      go_simp
      go_at_call 22
      refine (deep4 _ _ g20).mono ?_
      rintro e w4 ⟨rfl, hb⟩
      exact ⟨_, rfl, rfl, hb⟩
    | 18, ho =>
      obtain rfl := Option.some.inj ho
      obtain ⟨v21, h21, f21⟩ := hf.facts ⟨17, .data⟩ (by simp) rfl _ _ rfl rfl
      obtain rfl : v21 = .int .i64 2 := f21
      have e21 := eval_at h21
      obtain ⟨v19, h19, f19⟩ := hf.facts ⟨15, .guard⟩ (by simp) rfl _ _ rfl rfl
      obtain rfl : v19 = .bool true := f19
      refine wpOp_go rfl (wanted_guard rfl rfl rfl h19) ?_
      clear hf
      go_simp
      exact ⟨_, rfl, rfl, Below.refl _ _⟩
    | 19, ho =>
      obtain rfl := Option.some.inj ho
      obtain ⟨v19, h19, f19⟩ := hf.facts ⟨15, .data⟩ (by simp) rfl _ _ rfl rfl
      obtain rfl : v19 = .bool true := f19
      have e19 := eval_at h19
      obtain ⟨v22, h22, f22⟩ := hf.facts ⟨18, .data⟩ (by simp) rfl _ _ rfl rfl
      obtain rfl : v22 = .bool true := f22
      have e22 := eval_at h22
      refine wpOp_go rfl (wanted_free rfl) ?_
      clear hf
      go_simp
      exact ⟨_, rfl, rfl, Below.refl _ _⟩
    | 20, ho =>
      obtain rfl := Option.some.inj ho
      obtain ⟨v23, h23, f23⟩ := hf.facts ⟨19, .data⟩ (by simp) rfl _ _ rfl rfl
      obtain rfl : v23 = .bool true := f23
      have e23 := eval_at h23
      refine wpOp_go rfl (wanted_free rfl) ?_
      clear hf
      go_simp
      exact ⟨_, rfl, rfl, Below.refl _ _⟩
    | 21, ho =>
      obtain rfl := Option.some.inj ho
      obtain ⟨v24, h24, f24⟩ := hf.facts ⟨20, .guard⟩ (by simp) rfl _ _ rfl rfl
      obtain rfl : v24 = .bool true := f24
      have h1 : a.tmps[1]? = some (.slice (some ⟨S, 0, none⟩) 4 4) := (hf.others 1 (no_of (by kernel_rfl))).trans rfl
      have e1 := eval_at h1
      refine wpOp_go rfl (wanted_guard rfl rfl rfl h24) ?_
      clear hf
      go_simp
      exact ⟨_, rfl, rfl, Below.refl _ _⟩
    | 22, ho =>
      obtain rfl := Option.some.inj ho
      obtain ⟨v25, h25, f25⟩ := hf.facts ⟨21, .data⟩ (by simp) rfl _ _ rfl rfl
      obtain rfl : v25 = .slice (some ⟨S, 0, none⟩) 4 4 := f25
      have e25 := eval_at h25
      obtain ⟨v24, h24, f24⟩ := hf.facts ⟨20, .guard⟩ (by simp) rfl _ _ rfl rfl
      obtain rfl : v24 = .bool true := f24
      refine wpOp_go rfl (wanted_guard rfl rfl rfl h24) ?_
      clear hf
      go_simp
      exact ⟨_, rfl, rfl, Below.refl _ _⟩
    | 23, ho =>
      obtain rfl := Option.some.inj ho
      obtain ⟨v26, h26, f26⟩ := hf.facts ⟨22, .data⟩ (by simp) rfl _ _ rfl rfl
      obtain rfl : v26 = .pointer (some ⟨S, 2, none⟩) := f26
      have e26 := eval_at h26
      obtain ⟨v24, h24, f24⟩ := hf.facts ⟨20, .guard⟩ (by simp) rfl _ _ rfl rfl
      obtain rfl : v24 = .bool true := f24
      refine wpOp_go rfl (wanted_guard rfl rfl rfl h24) ?_
      clear hf
      have g1 := (HM.out _ HB.out).2 2 (by omega)
      unfold cx at g1
      go_simp
      exact ⟨_, rfl, rfl, Below.refl _ _⟩
    | 24, ho =>
      obtain rfl := Option.some.inj ho
      obtain ⟨v24, h24, f24⟩ := hf.facts ⟨20, .guard⟩ (by simp) rfl _ _ rfl rfl
      obtain rfl : v24 = .bool true := f24
      have h1 : a.tmps[1]? = some (.slice (some ⟨S, 0, none⟩) 4 4) := (hf.others 1 (no_of (by kernel_rfl))).trans rfl
      have e1 := eval_at h1
      refine wpOp_go rfl (wanted_guard rfl rfl rfl h24) ?_
      clear hf
      go_simp
      exact ⟨_, rfl, rfl, Below.refl _ _⟩
    | 25, ho =>
      obtain rfl := Option.some.inj ho
      obtain ⟨v28, h28, f28⟩ := hf.facts ⟨24, .data⟩ (by simp) rfl _ _ rfl rfl
      obtain rfl : v28 = .slice (some ⟨S, 0, none⟩) 4 4 := f28
      have e28 := eval_at h28
      obtain ⟨v24, h24, f24⟩ := hf.facts ⟨20, .guard⟩ (by simp) rfl _ _ rfl rfl
      obtain rfl : v24 = .bool true := f24
      refine wpOp_go rfl (wanted_guard rfl rfl rfl h24) ?_
      clear hf
      go_simp
      exact ⟨_, rfl, rfl, Below.refl _ _⟩
    | 26, ho =>
      obtain rfl := Option.some.inj ho
      obtain ⟨v29, h29, f29⟩ := hf.facts ⟨25, .data⟩ (by simp) rfl _ _ rfl rfl
      obtain rfl : v29 = .pointer (some ⟨S, 1, none⟩) := f29
      have e29 := eval_at h29
      obtain ⟨v24, h24, f24⟩ := hf.facts ⟨20, .guard⟩ (by simp) rfl _ _ rfl rfl
      obtain rfl : v24 = .bool true := f24
      refine wpOp_go rfl (wanted_guard rfl rfl rfl h24) ?_
      clear hf
      have g1 := (HM.out _ HB.out).2 1 (by omega)
      unfold cx at g1
      go_simp
      exact ⟨_, rfl, rfl, Below.refl _ _⟩
    | 27, ho =>
      obtain rfl := Option.some.inj ho
      obtain ⟨v27, h27, f27⟩ := hf.facts ⟨23, .data⟩ (by simp) rfl _ _ rfl rfl
      obtain rfl : v27 = cx (m 2) := f27
      have e27 := eval_at h27
      obtain ⟨v30, h30, f30⟩ := hf.facts ⟨26, .data⟩ (by simp) rfl _ _ rfl rfl
      obtain rfl : v30 = cx (m 1) := f30
      have e30 := eval_at h30
      obtain ⟨v24, h24, f24⟩ := hf.facts ⟨20, .chain⟩ (by simp) rfl _ _ rfl rfl
      obtain rfl : v24 = .bool true := f24
      refine wpOp_go rfl (wanted_guard rfl rfl rfl h24) ?_
      clear hf
      go_simp
      go_at_call 24
      refine (HI2.out _).mono ?_
      rintro e w4 ⟨rfl, rfl⟩
      exact ⟨_, rfl, rfl, Below.refl _ _⟩
    | 28, ho =>
      obtain rfl := Option.some.inj ho
      obtain ⟨v24, h24, f24⟩ := hf.facts ⟨20, .data⟩ (by simp) rfl _ _ rfl rfl
      obtain rfl : v24 = .bool true := f24
      have e24 := eval_at h24
      obtain ⟨v31, h31, f31⟩ := hf.facts ⟨27, .data⟩ (by simp) rfl _ _ rfl rfl
      obtain rfl : v31 = .bool true := f31
      have e31 := eval_at h31
      refine wpOp_go rfl (wanted_free rfl) ?_
      clear hf
      go_simp
      exact ⟨_, rfl, rfl, Below.refl _ _⟩
    | 29, ho =>
      obtain rfl := Option.some.inj ho
      obtain ⟨v32, h32, f32⟩ := hf.facts ⟨28, .data⟩ (by simp) rfl _ _ rfl rfl
      obtain rfl : v32 = .bool true := f32
      have e32 := eval_at h32
      refine wpOp_go rfl (wanted_free rfl) ?_
      clear hf
      go_simp
      exact ⟨_, rfl, rfl, Below.refl _ _⟩
    | 30, ho =>
      obtain rfl := Option.some.inj ho
      obtain ⟨v33, h33, f33⟩ := hf.facts ⟨29, .guard⟩ (by simp) rfl _ _ rfl rfl
      obtain rfl : v33 = .bool true := f33
      have h1 : a.tmps[1]? = some (.slice (some ⟨S, 0, none⟩) 4 4) := (hf.others 1 (no_of (by kernel_rfl))).trans rfl
      have e1 := eval_at h1
      refine wpOp_go rfl (wanted_guard rfl rfl rfl h33) ?_
      clear hf
      go_simp
      exact ⟨_, rfl, rfl, Below.refl _ _⟩
    | 31, ho =>
      obtain rfl := Option.some.inj ho
      obtain ⟨v34, h34, f34⟩ := hf.facts ⟨30, .data⟩ (by simp) rfl _ _ rfl rfl
      obtain rfl : v34 = .slice (some ⟨S, 0, none⟩) 4 4 := f34
      have e34 := eval_at h34
      obtain ⟨v33, h33, f33⟩ := hf.facts ⟨29, .guard⟩ (by simp) rfl _ _ rfl rfl
      obtain rfl : v33 = .bool true := f33
      refine wpOp_go rfl (wanted_guard rfl rfl rfl h33) ?_
      clear hf
      go_simp
      exact ⟨_, rfl, rfl, Below.refl _ _⟩
    | 32, ho =>
      obtain rfl := Option.some.inj ho
      obtain ⟨v35, h35, f35⟩ := hf.facts ⟨31, .data⟩ (by simp) rfl _ _ rfl rfl
      obtain rfl : v35 = .pointer (some ⟨S, 3, none⟩) := f35
      have e35 := eval_at h35
      obtain ⟨v33, h33, f33⟩ := hf.facts ⟨29, .guard⟩ (by simp) rfl _ _ rfl rfl
      obtain rfl : v33 = .bool true := f33
      refine wpOp_go rfl (wanted_guard rfl rfl rfl h33) ?_
      clear hf
      have g1 := (HM.out _ HB.out).2 3 (by omega)
      unfold cx at g1
      go_simp
      exact ⟨_, rfl, rfl, Below.refl _ _⟩
    | 33, ho =>
      obtain rfl := Option.some.inj ho
      obtain ⟨v33, h33, f33⟩ := hf.facts ⟨29, .guard⟩ (by simp) rfl _ _ rfl rfl
      obtain rfl : v33 = .bool true := f33
      have h1 : a.tmps[1]? = some (.slice (some ⟨S, 0, none⟩) 4 4) := (hf.others 1 (no_of (by kernel_rfl))).trans rfl
      have e1 := eval_at h1
      refine wpOp_go rfl (wanted_guard rfl rfl rfl h33) ?_
      clear hf
      go_simp
      exact ⟨_, rfl, rfl, Below.refl _ _⟩
    | 34, ho =>
      obtain rfl := Option.some.inj ho
      obtain ⟨v37, h37, f37⟩ := hf.facts ⟨33, .data⟩ (by simp) rfl _ _ rfl rfl
      obtain rfl : v37 = .slice (some ⟨S, 0, none⟩) 4 4 := f37
      have e37 := eval_at h37
      obtain ⟨v33, h33, f33⟩ := hf.facts ⟨29, .guard⟩ (by simp) rfl _ _ rfl rfl
      obtain rfl : v33 = .bool true := f33
      refine wpOp_go rfl (wanted_guard rfl rfl rfl h33) ?_
      clear hf
      go_simp
      exact ⟨_, rfl, rfl, Below.refl _ _⟩
    | 35, ho =>
      obtain rfl := Option.some.inj ho
      obtain ⟨v38, h38, f38⟩ := hf.facts ⟨34, .data⟩ (by simp) rfl _ _ rfl rfl
      obtain rfl : v38 = .pointer (some ⟨S, 1, none⟩) := f38
      have e38 := eval_at h38
      obtain ⟨v33, h33, f33⟩ := hf.facts ⟨29, .guard⟩ (by simp) rfl _ _ rfl rfl
      obtain rfl : v33 = .bool true := f33
      refine wpOp_go rfl (wanted_guard rfl rfl rfl h33) ?_
      clear hf
      have g1 := (HM.out _ HB.out).2 1 (by omega)
      unfold cx at g1
      go_simp
      exact ⟨_, rfl, rfl, Below.refl _ _⟩
    | 36, ho =>
      obtain rfl := Option.some.inj ho
      obtain ⟨v36, h36, f36⟩ := hf.facts ⟨32, .data⟩ (by simp) rfl _ _ rfl rfl
      obtain rfl : v36 = cx (m 3) := f36
      have e36 := eval_at h36
      obtain ⟨v39, h39, f39⟩ := hf.facts ⟨35, .data⟩ (by simp) rfl _ _ rfl rfl
      obtain rfl : v39 = cx (m 1) := f39
      have e39 := eval_at h39
      obtain ⟨v33, h33, f33⟩ := hf.facts ⟨29, .chain⟩ (by simp) rfl _ _ rfl rfl
      obtain rfl : v33 = .bool true := f33
      refine wpOp_go rfl (wanted_guard rfl rfl rfl h33) ?_
      clear hf
      go_simp
      go_at_call 24
      refine (HI3.out _).mono ?_
      rintro e w4 ⟨rfl, rfl⟩
      exact ⟨_, rfl, rfl, Below.refl _ _⟩
    | 37, ho =>
      obtain rfl := Option.some.inj ho
      obtain ⟨v40, h40, f40⟩ := hf.facts ⟨36, .data⟩ (by simp) rfl _ _ rfl rfl
      obtain rfl : v40 = .bool false := f40
      have e40 := eval_at h40
      obtain ⟨v33, h33, f33⟩ := hf.facts ⟨29, .guard⟩ (by simp) rfl _ _ rfl rfl
      obtain rfl : v33 = .bool true := f33
      refine wpOp_go rfl (wanted_guard rfl rfl rfl h33) ?_
      clear hf
      go_simp
      exact ⟨_, rfl, rfl, Below.refl _ _⟩
    | 38, ho =>
      obtain rfl := Option.some.inj ho
      obtain ⟨v33, h33, f33⟩ := hf.facts ⟨29, .data⟩ (by simp) rfl _ _ rfl rfl
      obtain rfl : v33 = .bool true := f33
      have e33 := eval_at h33
      obtain ⟨v41, h41, f41⟩ := hf.facts ⟨37, .data⟩ (by simp) rfl _ _ rfl rfl
      obtain rfl : v41 = .bool true := f41
      have e41 := eval_at h41
      refine wpOp_go rfl (wanted_free rfl) ?_
      clear hf
      go_simp
      exact ⟨_, rfl, rfl, Below.refl _ _⟩
    | 39, ho =>
      obtain rfl := Option.some.inj ho
      obtain ⟨v42, h42, f42⟩ := hf.facts ⟨38, .data⟩ (by simp) rfl _ _ rfl rfl
      obtain rfl : v42 = .bool true := f42
      have e42 := eval_at h42
      refine wpOp_go rfl (wanted_free rfl) ?_
      clear hf
      go_simp
      exact ⟨_, rfl, rfl, Below.refl _ _⟩
    | i + 40, ho => exact absurd ho (by simp)
  case fin =>
    intro listed a w1 hf hall
    obtain ⟨v0, h0, f0⟩ := hf.facts 39 _ _ rfl rfl (hall 39 (of_decide_eq_true (by kernel_rfl)))
    obtain rfl : v0 = .bool true := f0
    have HBe := below_step HB2 hf.base
    have hd := hf.defers
    rename_i K hK
    refine hK _ _ ?_
    clear hK hf hall
    go_wp2
    refine bodyPost_ret (v := .bool true) ?_ hd ⟨rfl, HBe.out⟩
    simp [results, Try.results16, go_sem, Array.getD_eq_getD_getElem?, h0]
end Go.Proofs.Ytkkngflpmdcfjaa
