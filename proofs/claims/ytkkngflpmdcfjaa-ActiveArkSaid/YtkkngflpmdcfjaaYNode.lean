/-
  Whether there is a node, and whether two are alike. Written by gen_node.py.
-/
import Derived.Test.YtkkngflpmdcfjaaYEnd
import Derived.Test.YtkkngflpmdcfjaaORfacts
import Derived.Test.YtkkngflpmdcfjaaNEqual
import Derived.Test.YtkkngflpmdcfjaaAMap
import Derived.BigQuiet
namespace Go.Proofs.Ytkkngflpmdcfjaa
open Go.RowKit

theorem isn_any (a : Option Addr) (n cap : Nat) (k : Int) (w : World) :
    Calls Try.prog 123 #[.agg #[.slice a n cap], .int .i64 k] w fun e w' => e = .returned (.bool (inN n k)) ∧ Below w.heap.size w w' := by
  unfold inN
  by_cases h : 0 ≤ k
  · have h1 : decide (0 ≤ k) = true := by simpa using h
    go_enter Try.func123, Try.ntmps123
    go_wp2
    go_ret
    exact ⟨by simp [h], below_box _ _⟩
  · have h1 : decide (0 ≤ k) = false := by simpa using h
    go_enter Try.func123, Try.ntmps123
    go_wp2
    go_ret
    exact ⟨by simp, below_box _ _⟩
theorem eqB {a b : ByteArray} (h : a.data.toList = b.data.toList) : a = b := by cases a; cases b; simp at h; simp [h]
/-- Two nodes that are alike. -/
def twin (x y : Nd) : Bool := decide (x.space = y.space) && decide (x.name = y.name) && A.alikeB x.attrs y.attrs
def alikeT (l : List Nd) (one i : Int) : Bool := inN l.length one && inN l.length i && twin (nodeI l one) (nodeI l i)
structure NodeC (w : World) (b o : Nat) (x : Nd) (a : Option Addr) (c : Nat) : Prop where
  kind : w.cell? ⟨b, o, none⟩ = some (.int .i64 x.kind)
  space : w.cell? ⟨b, o + 1, none⟩ = some (.int .i64 x.space)
  name : w.cell? ⟨b, o + 2, none⟩ = some (.string x.name)
  attrs : w.cell? ⟨b, o + 3, none⟩ = some (.slice a x.attrs.length c)
theorem NodeC.below {w w' : World} {b o : Nat} {x : Nd} {a : Option Addr} {c : Nat} (hb : b < w.heap.size) (h : NodeC w b o x a c) (hw : Below w.heap.size w w') : NodeC w' b o x a c :=
  ⟨(hw.cell (p := ⟨b, o, none⟩) hb).trans h.kind, (hw.cell (p := ⟨b, o + 1, none⟩) hb).trans h.space, (hw.cell (p := ⟨b, o + 2, none⟩) hb).trans h.name, (hw.cell (p := ⟨b, o + 3, none⟩) hb).trans h.attrs⟩
theorem ReadN.at {w : World} {u : Value} {l : List Nd} (h : ReadN w u l) {j : Nat} (hj : j < l.length) : ∃ b o a c, (∃ off cap, u = .slice (some ⟨b, off, none⟩) l.length cap ∧ o = off + j * 7) ∧ b < w.heap.size ∧ NodeC w b o l[j] a c ∧ A.AttrsAt w a l[j].attrs := by
  obtain ⟨a, cap, rfl, h1, h2⟩ := h
  obtain ⟨b, off, rfl, hb, hn⟩ := h1 (fun e => by rw [e] at hj; simp at hj)
  obtain ⟨_, a', c', e', ha⟩ := h2 j hj
  have hx := hn j hj
  refine ⟨b, off + j * 7, a', c', ⟨off, cap, rfl, rfl⟩, hb, ⟨?_, ?_, ?_, ?_⟩, ha⟩
  · exact hx 0 (by omega)
  · exact hx 1 (by omega)
  · exact hx 2 (by omega)
  · have := hx 3 (by omega); rw [show l[j].cells[3]? = some l[j].av from rfl, e'] at this; exact this
set_option linter.unusedVariables false in
def alF0 (b o1 o2 : Nat) (x1 x2 : Nd) (a1 a2 : Option Addr) (c1 c2 : Nat) (q : Bool) : Nat → SF
  | 0 => SF.val (.pointer (some ⟨b, o1, none⟩))
  | 1 => SF.val (.pointer (some ⟨b, o1, none⟩))
  | 2 => SF.val (.pointer (some ⟨b, o1 + 1, none⟩))
  | 3 => SF.val (.int .i64 x1.space)
  | 4 => SF.val (.pointer (some ⟨b, o2, none⟩))
  | 5 => SF.val (.pointer (some ⟨b, o2, none⟩))
  | 6 => SF.val (.pointer (some ⟨b, o2 + 1, none⟩))
  | 7 => SF.val (.int .i64 x2.space)
  | 8 => SF.val (.bool false)
  | 9 => SF.val (.bool false)
  | 10 => SF.val (undef)
  | 11 => SF.val (undef)
  | 12 => SF.val (undef)
  | 13 => SF.val (undef)
  | 14 => SF.val (undef)
  | 15 => SF.val (undef)
  | 16 => SF.val (undef)
  | 17 => SF.val (undef)
  | 18 => SF.val (undef)
  | 19 => SF.val (.bool false)
  | 20 => SF.val (.bool false)
  | 21 => SF.val (undef)
  | 22 => SF.val (undef)
  | 23 => SF.val (undef)
  | 24 => SF.val (undef)
  | 25 => SF.val (undef)
  | 26 => SF.val (undef)
  | 27 => SF.val (undef)
  | 28 => SF.val (undef)
  | 29 => SF.val (undef)
  | 30 => SF.val (.bool false)
  | 31 => SF.val (.bool false)
  | _ => SF.val (.bool true)
set_option linter.unusedVariables false in
def alF1 (b o1 o2 : Nat) (x1 x2 : Nd) (a1 a2 : Option Addr) (c1 c2 : Nat) (q : Bool) : Nat → SF
  | 0 => SF.val (.pointer (some ⟨b, o1, none⟩))
  | 1 => SF.val (.pointer (some ⟨b, o1, none⟩))
  | 2 => SF.val (.pointer (some ⟨b, o1 + 1, none⟩))
  | 3 => SF.val (.int .i64 x1.space)
  | 4 => SF.val (.pointer (some ⟨b, o2, none⟩))
  | 5 => SF.val (.pointer (some ⟨b, o2, none⟩))
  | 6 => SF.val (.pointer (some ⟨b, o2 + 1, none⟩))
  | 7 => SF.val (.int .i64 x2.space)
  | 8 => SF.val (.bool true)
  | 9 => SF.val (.bool true)
  | 10 => SF.val (.pointer (some ⟨b, o1, none⟩))
  | 11 => SF.val (.pointer (some ⟨b, o1, none⟩))
  | 12 => SF.val (.pointer (some ⟨b, o1 + 2, none⟩))
  | 13 => SF.val (.string x1.name)
  | 14 => SF.val (.pointer (some ⟨b, o2, none⟩))
  | 15 => SF.val (.pointer (some ⟨b, o2, none⟩))
  | 16 => SF.val (.pointer (some ⟨b, o2 + 2, none⟩))
  | 17 => SF.val (.string x2.name)
  | 18 => SF.val (.bool false)
  | 19 => SF.val (.bool false)
  | 20 => SF.val (.bool false)
  | 21 => SF.val (undef)
  | 22 => SF.val (undef)
  | 23 => SF.val (undef)
  | 24 => SF.val (undef)
  | 25 => SF.val (undef)
  | 26 => SF.val (undef)
  | 27 => SF.val (undef)
  | 28 => SF.val (undef)
  | 29 => SF.val (undef)
  | 30 => SF.val (.bool false)
  | 31 => SF.val (.bool false)
  | _ => SF.val (.bool true)
set_option linter.unusedVariables false in
def alF2 (b o1 o2 : Nat) (x1 x2 : Nd) (a1 a2 : Option Addr) (c1 c2 : Nat) (q : Bool) : Nat → SF
  | 0 => SF.val (.pointer (some ⟨b, o1, none⟩))
  | 1 => SF.val (.pointer (some ⟨b, o1, none⟩))
  | 2 => SF.val (.pointer (some ⟨b, o1 + 1, none⟩))
  | 3 => SF.val (.int .i64 x1.space)
  | 4 => SF.val (.pointer (some ⟨b, o2, none⟩))
  | 5 => SF.val (.pointer (some ⟨b, o2, none⟩))
  | 6 => SF.val (.pointer (some ⟨b, o2 + 1, none⟩))
  | 7 => SF.val (.int .i64 x2.space)
  | 8 => SF.val (.bool true)
  | 9 => SF.val (.bool true)
  | 10 => SF.val (.pointer (some ⟨b, o1, none⟩))
  | 11 => SF.val (.pointer (some ⟨b, o1, none⟩))
  | 12 => SF.val (.pointer (some ⟨b, o1 + 2, none⟩))
  | 13 => SF.val (.string x1.name)
  | 14 => SF.val (.pointer (some ⟨b, o2, none⟩))
  | 15 => SF.val (.pointer (some ⟨b, o2, none⟩))
  | 16 => SF.val (.pointer (some ⟨b, o2 + 2, none⟩))
  | 17 => SF.val (.string x2.name)
  | 18 => SF.val (.bool true)
  | 19 => SF.val (.bool true)
  | 20 => SF.val (.bool true)
  | 21 => SF.val (.pointer (some ⟨b, o1, none⟩))
  | 22 => SF.val (.pointer (some ⟨b, o1, none⟩))
  | 23 => SF.val (.pointer (some ⟨b, o1 + 3, none⟩))
  | 24 => SF.val (.slice a1 x1.attrs.length c1)
  | 25 => SF.val (.pointer (some ⟨b, o2, none⟩))
  | 26 => SF.val (.pointer (some ⟨b, o2, none⟩))
  | 27 => SF.val (.pointer (some ⟨b, o2 + 3, none⟩))
  | 28 => SF.val (.slice a2 x2.attrs.length c2)
  | 29 => SF.val (.bool q)
  | 30 => SF.val (.bool q)
  | 31 => SF.val (.bool q)
  | _ => SF.val (.bool true)

set_option maxRecDepth 100000 in
set_option maxHeartbeats 4000000 in
theorem alike_node (u : Value) (l : List Nd) (one i : Int) (w : World) (h : ReadN w u l) (hf : ∀ j (h : j < l.length), l[j].attrs.length ≤ 1000000 ∧ ∀ x ∈ l[j].attrs, A.fine x) :
    Calls Try.prog 117 #[.agg #[u], .int .i64 one, .int .i64 i] w fun e w' => e = .returned (.bool (alikeT l one i)) ∧ Below w.heap.size w w' := by
  have HN := Lib.hid h
  have HF := Lib.hid hf
  obtain ⟨a, cap, rfl, _, _⟩ := h
  have HX := Lib.hid (w1_cell w (.slice a l.length cap))
  have HB0 : Hid (Below w.heap.size w (W1 w (.slice a l.length cap))) := Lib.hid (w1_below w _)
  have HS0 : Hid (w.heap.size < (W1 w (.slice a l.length cap)).heap.size) := Lib.hid (by simp [W1])
  clear hf
  go_enter Try.func117, Try.ntmps117
  go_upto_region 1 with fail
  show Code.wp _ _ _ _ (W1 w (.slice a l.length cap))
  obtain ⟨w1, ew⟩ : ∃ w1, w1 = W1 w (.slice a l.length cap) := ⟨_, rfl⟩
  rw [← ew] at HX HB0 HS0 ⊢
  clear ew
  have hx1 := HX.out
  go_wp2_with fail
  refine (isn_any a l.length cap one w1).mono ?_
  rintro e w2 ⟨rfl, hb⟩
  have HB2 := below_step HB0 hb
  have hx2 : w2.cell? ⟨w.heap.size, 0, none⟩ = some (.slice a l.length cap) := (hb.cell (p := ⟨w.heap.size, 0, none⟩) HS0.out).trans hx1
  have HS2 : Hid (w.heap.size < w2.heap.size) := Lib.hid (Nat.lt_of_lt_of_le HS0.out hb.size)
  clear hb hx1
  cases hq1 : inN l.length one with
  | false =>
    go_wp2
    go_ret
    exact ⟨by unfold alikeT; rw [hq1]; rfl, HB2.out⟩
  | true =>
    have HQ1 := Lib.hid hq1
    obtain ⟨j1, rfl, hj1⟩ := inN_nat hq1
    clear hq1
    go_wp2_with fail
    refine (isn_any a l.length cap i w2).mono ?_
    rintro e w3 ⟨rfl, hb⟩
    have HB3 := below_step HB2 hb
    have hx3 : w3.cell? ⟨w.heap.size, 0, none⟩ = some (.slice a l.length cap) := (hb.cell (p := ⟨w.heap.size, 0, none⟩) HS2.out).trans hx2
    clear hb hx2
    cases hq2 : inN l.length i with
    | false =>
      go_wp2
      go_ret
      exact ⟨by unfold alikeT; rw [HQ1.out, hq2]; rfl, HB3.out⟩
    | true =>
      have HQ2 := Lib.hid hq2
      obtain ⟨j2, rfl, hj2⟩ := inN_nat hq2
      clear hq2
      obtain ⟨b, o1, a1, c1, ⟨off, cap1, e1, eo1⟩, hbl, hc1, ha1⟩ := HN.out.at hj1
      obtain ⟨b2, o2, a2, c2, ⟨off2, cap2, e2, eo2⟩, _, hc2, ha2⟩ := HN.out.at hj2
      obtain ⟨rfl, rfl, rfl⟩ : a = some ⟨b, off, none⟩ ∧ b = b2 ∧ off = off2 := by rw [e1] at e2; injection e1 with e1; injection e2 with e2; injection e2 with e2; injection e2 with e2 e3; exact ⟨e1, e2, e3⟩
      clear e1 e2
      have HAl : Hid (∀ W, Below w3.heap.size w3 W → Calls Try.prog 153 #[.slice a1 l[j1].attrs.length c1, .slice a2 l[j2].attrs.length c2] W fun e w' => e = .returned (.bool (A.alikeB l[j1].attrs l[j2].attrs)) ∧ Below W.heap.size W w') := Lib.hid (fun W hW =>
        A.alike_any a1 a2 c1 c2 _ _ W (HF.out j1 hj1).1 (HF.out j2 hj2).1 (HF.out j1 hj1).2 (HF.out j2 hj2).2 ((ha1.below HB3.out).below hW) ((ha2.below HB3.out).below hW))
      have HC1 : Hid (∀ W, Below w3.heap.size w3 W → NodeC W b o1 l[j1] a1 c1) := Lib.hid (fun W hW => (hc1.below hbl HB3.out).below (Nat.lt_of_lt_of_le hbl HB3.out.size) hW)
      have HC2 : Hid (∀ W, Below w3.heap.size w3 W → NodeC W b o2 l[j2] a2 c2) := Lib.hid (fun W hW => (hc2.below hbl HB3.out).below (Nat.lt_of_lt_of_le hbl HB3.out.size) hW)
      have hp1 : off + j1 * 7 = o1 := eo1.symm
      have hp2 : off + j2 * 7 = o2 := eo2.symm
      have hjj1 : (0 : Int) ≤ (j1 : Int) := by omega
      have hjj2 : (0 : Int) ≤ (j2 : Int) := by omega
      have hk1 : (j1 : Int) < (l.length : Int) := by omega
      have hk2 : (j2 : Int) < (l.length : Int) := by omega
      have HR : Hid (∀ q : Bool, q = twin l[j1] l[j2] → Ending.returned (.bool q) = .returned (.bool (alikeT l j1 j2))) := Lib.hid (fun q e => by unfold alikeT; rw [HQ1.out, HQ2.out, nodeI_at hj1, nodeI_at hj2, e]; rfl)
      clear eo1 eo2 hc1 hc2 ha1 ha2 hbl HN HF
      generalize l[j1] = x1 at *
      generalize l[j2] = x2 at *
      go_upto_region 4 with (go_quiet (fail))
      have HB4 : Hid (Below w3.heap.size w3 (World.drewN w3 nq)) := Lib.hid ⟨rfl, rfl, rfl, Nat.le_refl _, fun _ _ => rfl⟩
      generalize World.drewN w3 nq = w4 at *
      have HC1 : Hid (∀ W, Below w4.heap.size w4 W → NodeC W b o1 x1 a1 c1) := Lib.hid (fun W hW => HC1.out W (below_trans HB4.out hW))
      have HC2 : Hid (∀ W, Below w4.heap.size w4 W → NodeC W b o2 x2 a2 c2) := Lib.hid (fun W hW => HC2.out W (below_trans HB4.out hW))
      have HAl : Hid (∀ W, Below w4.heap.size w4 W → Calls Try.prog 153 #[.slice a1 x1.attrs.length c1, .slice a2 x2.attrs.length c2] W fun e w' => e = .returned (.bool (A.alikeB x1.attrs x2.attrs)) ∧ Below W.heap.size W w') := Lib.hid (fun W hW => HAl.out W (below_trans HB4.out hW))
      have HB3 : Hid (Below w.heap.size w w4) := below_step HB3 HB4.out
      clear HB4 hx3 hp1 hp2
      by_cases hsp : x1.space = x2.space
      · have hs1 : (x1.space == x2.space) = true := by simp [hsp]
        by_cases hnm : x1.name = x2.name
        · have hn2 : (x1.name.toList == x2.name.toList) = true := by simp [hnm]
          obtain ⟨q, hq⟩ : ∃ q, q = A.alikeB x1.attrs x2.attrs := ⟨_, rfl⟩
          have HR := Lib.hid (HR.out q (by unfold twin; rw [decide_eq_true hsp, decide_eq_true hnm, ← hq]; rfl))
          rw [← hq] at HAl
          clear hq hsp hnm
          refine region_facts (alF2 b o1 o2 x1 x2 a1 a2 c1 c2 q) (by kernel_rfl) (dst_of (by kernel_rfl)) (inj_of (by kernel_rfl)) (acy_of (by kernel_rfl)) ?step ?fin
          case step =>
            intro i o a w1 ho hf
            have HB := Lib.hid hf.base
            match i, ho with
            | 0, ho =>
              obtain rfl := Option.some.inj ho
              have h7 : a.tmps[7]? = some (.pointer (some ⟨b, o1, none⟩)) := (hf.others 7 (no_of (by kernel_rfl))).trans rfl
              have e7 := eval_at h7
              refine wpOp_go rfl (wanted_free rfl) ?_
              clear hf
              go_simp
              exact ⟨_, rfl, rfl, Below.refl _ _⟩
            | 1, ho =>
              obtain rfl := Option.some.inj ho
              obtain ⟨v27, h27, f27⟩ := hf.facts ⟨0, .data⟩ (by simp) rfl _ _ rfl rfl
              obtain rfl : v27 = .pointer (some ⟨b, o1, none⟩) := f27
              have e27 := eval_at h27
              refine wpOp_go rfl (wanted_free rfl) ?_
              clear hf
              go_simp
              exact ⟨_, rfl, rfl, Below.refl _ _⟩
            | 2, ho =>
              obtain rfl := Option.some.inj ho
              obtain ⟨v28, h28, f28⟩ := hf.facts ⟨1, .data⟩ (by simp) rfl _ _ rfl rfl
              obtain rfl : v28 = .pointer (some ⟨b, o1, none⟩) := f28
              have e28 := eval_at h28
              refine wpOp_go rfl (wanted_free rfl) ?_
              clear hf
              go_simp
              exact ⟨_, rfl, rfl, Below.refl _ _⟩
            | 3, ho =>
              obtain rfl := Option.some.inj ho
              obtain ⟨v29, h29, f29⟩ := hf.facts ⟨2, .data⟩ (by simp) rfl _ _ rfl rfl
              obtain rfl : v29 = .pointer (some ⟨b, o1 + 1, none⟩) := f29
              have e29 := eval_at h29
              refine wpOp_go rfl (wanted_free rfl) ?_
              clear hf
              have g1 := (HC1.out _ HB.out).space
              go_simp
              exact ⟨_, rfl, rfl, Below.refl _ _⟩
            | 4, ho =>
              obtain rfl := Option.some.inj ho
              have h8 : a.tmps[8]? = some (.pointer (some ⟨b, o2, none⟩)) := (hf.others 8 (no_of (by kernel_rfl))).trans rfl
              have e8 := eval_at h8
              refine wpOp_go rfl (wanted_free rfl) ?_
              clear hf
              go_simp
              exact ⟨_, rfl, rfl, Below.refl _ _⟩
            | 5, ho =>
              obtain rfl := Option.some.inj ho
              obtain ⟨v31, h31, f31⟩ := hf.facts ⟨4, .data⟩ (by simp) rfl _ _ rfl rfl
              obtain rfl : v31 = .pointer (some ⟨b, o2, none⟩) := f31
              have e31 := eval_at h31
              refine wpOp_go rfl (wanted_free rfl) ?_
              clear hf
              go_simp
              exact ⟨_, rfl, rfl, Below.refl _ _⟩
            | 6, ho =>
              obtain rfl := Option.some.inj ho
              obtain ⟨v32, h32, f32⟩ := hf.facts ⟨5, .data⟩ (by simp) rfl _ _ rfl rfl
              obtain rfl : v32 = .pointer (some ⟨b, o2, none⟩) := f32
              have e32 := eval_at h32
              refine wpOp_go rfl (wanted_free rfl) ?_
              clear hf
              go_simp
              exact ⟨_, rfl, rfl, Below.refl _ _⟩
            | 7, ho =>
              obtain rfl := Option.some.inj ho
              obtain ⟨v33, h33, f33⟩ := hf.facts ⟨6, .data⟩ (by simp) rfl _ _ rfl rfl
              obtain rfl : v33 = .pointer (some ⟨b, o2 + 1, none⟩) := f33
              have e33 := eval_at h33
              refine wpOp_go rfl (wanted_free rfl) ?_
              clear hf
              have g1 := (HC2.out _ HB.out).space
              go_simp
              exact ⟨_, rfl, rfl, Below.refl _ _⟩
            | 8, ho =>
              obtain rfl := Option.some.inj ho
              obtain ⟨v30, h30, f30⟩ := hf.facts ⟨3, .data⟩ (by simp) rfl _ _ rfl rfl
              obtain rfl : v30 = .int .i64 x1.space := f30
              have e30 := eval_at h30
              obtain ⟨v34, h34, f34⟩ := hf.facts ⟨7, .data⟩ (by simp) rfl _ _ rfl rfl
              obtain rfl : v34 = .int .i64 x2.space := f34
              have e34 := eval_at h34
              refine wpOp_go rfl (wanted_free rfl) ?_
              clear hf
              go_simp
              exact ⟨_, rfl, rfl, Below.refl _ _⟩
            | 9, ho =>
              obtain rfl := Option.some.inj ho
              obtain ⟨v35, h35, f35⟩ := hf.facts ⟨8, .data⟩ (by simp) rfl _ _ rfl rfl
              obtain rfl : v35 = .bool true := f35
              have e35 := eval_at h35
              refine wpOp_go rfl (wanted_free rfl) ?_
              clear hf
              go_simp
              exact ⟨_, rfl, rfl, Below.refl _ _⟩
            | 10, ho =>
              obtain rfl := Option.some.inj ho
              obtain ⟨v36, h36, f36⟩ := hf.facts ⟨9, .guard⟩ (by simp) rfl _ _ rfl rfl
              obtain rfl : v36 = .bool true := f36
              have h7 : a.tmps[7]? = some (.pointer (some ⟨b, o1, none⟩)) := (hf.others 7 (no_of (by kernel_rfl))).trans rfl
              have e7 := eval_at h7
              refine wpOp_go rfl (wanted_guard rfl rfl rfl h36) ?_
              clear hf
              go_simp
              exact ⟨_, rfl, rfl, Below.refl _ _⟩
            | 11, ho =>
              obtain rfl := Option.some.inj ho
              obtain ⟨v37, h37, f37⟩ := hf.facts ⟨10, .data⟩ (by simp) rfl _ _ rfl rfl
              obtain rfl : v37 = .pointer (some ⟨b, o1, none⟩) := f37
              have e37 := eval_at h37
              obtain ⟨v36, h36, f36⟩ := hf.facts ⟨9, .guard⟩ (by simp) rfl _ _ rfl rfl
              obtain rfl : v36 = .bool true := f36
              refine wpOp_go rfl (wanted_guard rfl rfl rfl h36) ?_
              clear hf
              go_simp
              exact ⟨_, rfl, rfl, Below.refl _ _⟩
            | 12, ho =>
              obtain rfl := Option.some.inj ho
              obtain ⟨v38, h38, f38⟩ := hf.facts ⟨11, .data⟩ (by simp) rfl _ _ rfl rfl
              obtain rfl : v38 = .pointer (some ⟨b, o1, none⟩) := f38
              have e38 := eval_at h38
              obtain ⟨v36, h36, f36⟩ := hf.facts ⟨9, .guard⟩ (by simp) rfl _ _ rfl rfl
              obtain rfl : v36 = .bool true := f36
              refine wpOp_go rfl (wanted_guard rfl rfl rfl h36) ?_
              clear hf
              go_simp
              exact ⟨_, rfl, rfl, Below.refl _ _⟩
            | 13, ho =>
              obtain rfl := Option.some.inj ho
              obtain ⟨v39, h39, f39⟩ := hf.facts ⟨12, .data⟩ (by simp) rfl _ _ rfl rfl
              obtain rfl : v39 = .pointer (some ⟨b, o1 + 2, none⟩) := f39
              have e39 := eval_at h39
              obtain ⟨v36, h36, f36⟩ := hf.facts ⟨9, .guard⟩ (by simp) rfl _ _ rfl rfl
              obtain rfl : v36 = .bool true := f36
              refine wpOp_go rfl (wanted_guard rfl rfl rfl h36) ?_
              clear hf
              have g1 := (HC1.out _ HB.out).name
              go_simp
              exact ⟨_, rfl, rfl, Below.refl _ _⟩
            | 14, ho =>
              obtain rfl := Option.some.inj ho
              obtain ⟨v36, h36, f36⟩ := hf.facts ⟨9, .guard⟩ (by simp) rfl _ _ rfl rfl
              obtain rfl : v36 = .bool true := f36
              have h8 : a.tmps[8]? = some (.pointer (some ⟨b, o2, none⟩)) := (hf.others 8 (no_of (by kernel_rfl))).trans rfl
              have e8 := eval_at h8
              refine wpOp_go rfl (wanted_guard rfl rfl rfl h36) ?_
              clear hf
              go_simp
              exact ⟨_, rfl, rfl, Below.refl _ _⟩
            | 15, ho =>
              obtain rfl := Option.some.inj ho
              obtain ⟨v41, h41, f41⟩ := hf.facts ⟨14, .data⟩ (by simp) rfl _ _ rfl rfl
              obtain rfl : v41 = .pointer (some ⟨b, o2, none⟩) := f41
              have e41 := eval_at h41
              obtain ⟨v36, h36, f36⟩ := hf.facts ⟨9, .guard⟩ (by simp) rfl _ _ rfl rfl
              obtain rfl : v36 = .bool true := f36
              refine wpOp_go rfl (wanted_guard rfl rfl rfl h36) ?_
              clear hf
              go_simp
              exact ⟨_, rfl, rfl, Below.refl _ _⟩
            | 16, ho =>
              obtain rfl := Option.some.inj ho
              obtain ⟨v42, h42, f42⟩ := hf.facts ⟨15, .data⟩ (by simp) rfl _ _ rfl rfl
              obtain rfl : v42 = .pointer (some ⟨b, o2, none⟩) := f42
              have e42 := eval_at h42
              obtain ⟨v36, h36, f36⟩ := hf.facts ⟨9, .guard⟩ (by simp) rfl _ _ rfl rfl
              obtain rfl : v36 = .bool true := f36
              refine wpOp_go rfl (wanted_guard rfl rfl rfl h36) ?_
              clear hf
              go_simp
              exact ⟨_, rfl, rfl, Below.refl _ _⟩
            | 17, ho =>
              obtain rfl := Option.some.inj ho
              obtain ⟨v43, h43, f43⟩ := hf.facts ⟨16, .data⟩ (by simp) rfl _ _ rfl rfl
              obtain rfl : v43 = .pointer (some ⟨b, o2 + 2, none⟩) := f43
              have e43 := eval_at h43
              obtain ⟨v36, h36, f36⟩ := hf.facts ⟨9, .guard⟩ (by simp) rfl _ _ rfl rfl
              obtain rfl : v36 = .bool true := f36
              refine wpOp_go rfl (wanted_guard rfl rfl rfl h36) ?_
              clear hf
              have g1 := (HC2.out _ HB.out).name
              go_simp
              exact ⟨_, rfl, rfl, Below.refl _ _⟩
            | 18, ho =>
              obtain rfl := Option.some.inj ho
              obtain ⟨v40, h40, f40⟩ := hf.facts ⟨13, .data⟩ (by simp) rfl _ _ rfl rfl
              obtain rfl : v40 = .string x1.name := f40
              have e40 := eval_at h40
              obtain ⟨v44, h44, f44⟩ := hf.facts ⟨17, .data⟩ (by simp) rfl _ _ rfl rfl
              obtain rfl : v44 = .string x2.name := f44
              have e44 := eval_at h44
              obtain ⟨v36, h36, f36⟩ := hf.facts ⟨9, .guard⟩ (by simp) rfl _ _ rfl rfl
              obtain rfl : v36 = .bool true := f36
              refine wpOp_go rfl (wanted_guard rfl rfl rfl h36) ?_
              clear hf
              go_simp
              exact ⟨_, rfl, rfl, Below.refl _ _⟩
            | 19, ho =>
              obtain rfl := Option.some.inj ho
              obtain ⟨v36, h36, f36⟩ := hf.facts ⟨9, .data⟩ (by simp) rfl _ _ rfl rfl
              obtain rfl : v36 = .bool true := f36
              have e36 := eval_at h36
              obtain ⟨v45, h45, f45⟩ := hf.facts ⟨18, .data⟩ (by simp) rfl _ _ rfl rfl
              obtain rfl : v45 = .bool true := f45
              have e45 := eval_at h45
              refine wpOp_go rfl (wanted_free rfl) ?_
              clear hf
              go_simp
              exact ⟨_, rfl, rfl, Below.refl _ _⟩
            | 20, ho =>
              obtain rfl := Option.some.inj ho
              obtain ⟨v46, h46, f46⟩ := hf.facts ⟨19, .data⟩ (by simp) rfl _ _ rfl rfl
              obtain rfl : v46 = .bool true := f46
              have e46 := eval_at h46
              refine wpOp_go rfl (wanted_free rfl) ?_
              clear hf
              go_simp
              exact ⟨_, rfl, rfl, Below.refl _ _⟩
            | 21, ho =>
              obtain rfl := Option.some.inj ho
              obtain ⟨v47, h47, f47⟩ := hf.facts ⟨20, .guard⟩ (by simp) rfl _ _ rfl rfl
              obtain rfl : v47 = .bool true := f47
              have h7 : a.tmps[7]? = some (.pointer (some ⟨b, o1, none⟩)) := (hf.others 7 (no_of (by kernel_rfl))).trans rfl
              have e7 := eval_at h7
              refine wpOp_go rfl (wanted_guard rfl rfl rfl h47) ?_
              clear hf
              go_simp
              exact ⟨_, rfl, rfl, Below.refl _ _⟩
            | 22, ho =>
              obtain rfl := Option.some.inj ho
              obtain ⟨v48, h48, f48⟩ := hf.facts ⟨21, .data⟩ (by simp) rfl _ _ rfl rfl
              obtain rfl : v48 = .pointer (some ⟨b, o1, none⟩) := f48
              have e48 := eval_at h48
              obtain ⟨v47, h47, f47⟩ := hf.facts ⟨20, .guard⟩ (by simp) rfl _ _ rfl rfl
              obtain rfl : v47 = .bool true := f47
              refine wpOp_go rfl (wanted_guard rfl rfl rfl h47) ?_
              clear hf
              go_simp
              exact ⟨_, rfl, rfl, Below.refl _ _⟩
            | 23, ho =>
              obtain rfl := Option.some.inj ho
              obtain ⟨v49, h49, f49⟩ := hf.facts ⟨22, .data⟩ (by simp) rfl _ _ rfl rfl
              obtain rfl : v49 = .pointer (some ⟨b, o1, none⟩) := f49
              have e49 := eval_at h49
              obtain ⟨v47, h47, f47⟩ := hf.facts ⟨20, .guard⟩ (by simp) rfl _ _ rfl rfl
              obtain rfl : v47 = .bool true := f47
              refine wpOp_go rfl (wanted_guard rfl rfl rfl h47) ?_
              clear hf
              go_simp
              exact ⟨_, rfl, rfl, Below.refl _ _⟩
            | 24, ho =>
              obtain rfl := Option.some.inj ho
              obtain ⟨v50, h50, f50⟩ := hf.facts ⟨23, .data⟩ (by simp) rfl _ _ rfl rfl
              obtain rfl : v50 = .pointer (some ⟨b, o1 + 3, none⟩) := f50
              have e50 := eval_at h50
              obtain ⟨v47, h47, f47⟩ := hf.facts ⟨20, .guard⟩ (by simp) rfl _ _ rfl rfl
              obtain rfl : v47 = .bool true := f47
              refine wpOp_go rfl (wanted_guard rfl rfl rfl h47) ?_
              clear hf
              have g1 := (HC1.out _ HB.out).attrs
              go_simp
              exact ⟨_, rfl, rfl, Below.refl _ _⟩
            | 25, ho =>
              obtain rfl := Option.some.inj ho
              obtain ⟨v47, h47, f47⟩ := hf.facts ⟨20, .guard⟩ (by simp) rfl _ _ rfl rfl
              obtain rfl : v47 = .bool true := f47
              have h8 : a.tmps[8]? = some (.pointer (some ⟨b, o2, none⟩)) := (hf.others 8 (no_of (by kernel_rfl))).trans rfl
              have e8 := eval_at h8
              refine wpOp_go rfl (wanted_guard rfl rfl rfl h47) ?_
              clear hf
              go_simp
              exact ⟨_, rfl, rfl, Below.refl _ _⟩
            | 26, ho =>
              obtain rfl := Option.some.inj ho
              obtain ⟨v52, h52, f52⟩ := hf.facts ⟨25, .data⟩ (by simp) rfl _ _ rfl rfl
              obtain rfl : v52 = .pointer (some ⟨b, o2, none⟩) := f52
              have e52 := eval_at h52
              obtain ⟨v47, h47, f47⟩ := hf.facts ⟨20, .guard⟩ (by simp) rfl _ _ rfl rfl
              obtain rfl : v47 = .bool true := f47
              refine wpOp_go rfl (wanted_guard rfl rfl rfl h47) ?_
              clear hf
              go_simp
              exact ⟨_, rfl, rfl, Below.refl _ _⟩
            | 27, ho =>
              obtain rfl := Option.some.inj ho
              obtain ⟨v53, h53, f53⟩ := hf.facts ⟨26, .data⟩ (by simp) rfl _ _ rfl rfl
              obtain rfl : v53 = .pointer (some ⟨b, o2, none⟩) := f53
              have e53 := eval_at h53
              obtain ⟨v47, h47, f47⟩ := hf.facts ⟨20, .guard⟩ (by simp) rfl _ _ rfl rfl
              obtain rfl : v47 = .bool true := f47
              refine wpOp_go rfl (wanted_guard rfl rfl rfl h47) ?_
              clear hf
              go_simp
              exact ⟨_, rfl, rfl, Below.refl _ _⟩
            | 28, ho =>
              obtain rfl := Option.some.inj ho
              obtain ⟨v54, h54, f54⟩ := hf.facts ⟨27, .data⟩ (by simp) rfl _ _ rfl rfl
              obtain rfl : v54 = .pointer (some ⟨b, o2 + 3, none⟩) := f54
              have e54 := eval_at h54
              obtain ⟨v47, h47, f47⟩ := hf.facts ⟨20, .guard⟩ (by simp) rfl _ _ rfl rfl
              obtain rfl : v47 = .bool true := f47
              refine wpOp_go rfl (wanted_guard rfl rfl rfl h47) ?_
              clear hf
              have g1 := (HC2.out _ HB.out).attrs
              go_simp
              exact ⟨_, rfl, rfl, Below.refl _ _⟩
            | 29, ho =>
              obtain rfl := Option.some.inj ho
              obtain ⟨v51, h51, f51⟩ := hf.facts ⟨24, .data⟩ (by simp) rfl _ _ rfl rfl
              obtain rfl : v51 = .slice a1 x1.attrs.length c1 := f51
              have e51 := eval_at h51
              obtain ⟨v55, h55, f55⟩ := hf.facts ⟨28, .data⟩ (by simp) rfl _ _ rfl rfl
              obtain rfl : v55 = .slice a2 x2.attrs.length c2 := f55
              have e55 := eval_at h55
              obtain ⟨v47, h47, f47⟩ := hf.facts ⟨20, .chain⟩ (by simp) rfl _ _ rfl rfl
              obtain rfl : v47 = .bool true := f47
              refine wpOp_go rfl (wanted_guard rfl rfl rfl h47) ?_
              clear hf
              go_simp
              go_at_call 153
              refine (HAl.out _ HB.out).mono ?_
              rintro e w4 ⟨rfl, hb⟩
              exact ⟨_, rfl, rfl, hb⟩
            | 30, ho =>
              obtain rfl := Option.some.inj ho
              obtain ⟨v47, h47, f47⟩ := hf.facts ⟨20, .data⟩ (by simp) rfl _ _ rfl rfl
              obtain rfl : v47 = .bool true := f47
              have e47 := eval_at h47
              obtain ⟨v56, h56, f56⟩ := hf.facts ⟨29, .data⟩ (by simp) rfl _ _ rfl rfl
              obtain rfl : v56 = .bool q := f56
              have e56 := eval_at h56
              refine wpOp_go rfl (wanted_free rfl) ?_
              clear hf
              go_simp
              exact ⟨_, rfl, rfl, Below.refl _ _⟩
            | 31, ho =>
              obtain rfl := Option.some.inj ho
              obtain ⟨v57, h57, f57⟩ := hf.facts ⟨30, .data⟩ (by simp) rfl _ _ rfl rfl
              obtain rfl : v57 = .bool q := f57
              have e57 := eval_at h57
              refine wpOp_go rfl (wanted_free rfl) ?_
              clear hf
              go_simp
              exact ⟨_, rfl, rfl, Below.refl _ _⟩
            | i + 32, ho => exact absurd ho (by simp)
          case fin =>
            intro listed a w1 hf hall
            obtain ⟨v0, h0, f0⟩ := hf.facts 31 _ _ rfl rfl (hall 31 (of_decide_eq_true (by kernel_rfl)))
            obtain rfl : v0 = .bool q := f0
            have HBe := hf.base
            have hd := hf.defers
            rename_i K hK
            refine hK _ _ ?_
            clear hK hf hall
            go_wp2
            refine bodyPost_ret (v := .bool q) ?_ hd ⟨?_, ?_⟩
            · simp [results, Try.results117, go_sem, Array.getD_eq_getD_getElem?, h0]
            · exact HR.out
            · exact HB3.out.trans (HBe.mono HB3.out.size)
        · have hn2 : (x1.name.toList == x2.name.toList) = false := by
            rw [beq_eq_false_iff_ne]; intro e; apply hnm; apply eqB; rw [ByteArray.toList_eq, ByteArray.toList_eq] at e; exact e
          have q : Bool := false
          have HR := Lib.hid (HR.out false (by unfold twin; rw [decide_eq_false hnm, Bool.and_false, Bool.false_and]))
          clear hsp hnm
          refine region_facts (alF1 b o1 o2 x1 x2 a1 a2 c1 c2 q) (by kernel_rfl) (dst_of (by kernel_rfl)) (inj_of (by kernel_rfl)) (acy_of (by kernel_rfl)) ?step ?fin
          case step =>
            intro i o a w1 ho hf
            have HB := Lib.hid hf.base
            match i, ho with
            | 0, ho =>
              obtain rfl := Option.some.inj ho
              have h7 : a.tmps[7]? = some (.pointer (some ⟨b, o1, none⟩)) := (hf.others 7 (no_of (by kernel_rfl))).trans rfl
              have e7 := eval_at h7
              refine wpOp_go rfl (wanted_free rfl) ?_
              clear hf
              go_simp
              exact ⟨_, rfl, rfl, Below.refl _ _⟩
            | 1, ho =>
              obtain rfl := Option.some.inj ho
              obtain ⟨v27, h27, f27⟩ := hf.facts ⟨0, .data⟩ (by simp) rfl _ _ rfl rfl
              obtain rfl : v27 = .pointer (some ⟨b, o1, none⟩) := f27
              have e27 := eval_at h27
              refine wpOp_go rfl (wanted_free rfl) ?_
              clear hf
              go_simp
              exact ⟨_, rfl, rfl, Below.refl _ _⟩
            | 2, ho =>
              obtain rfl := Option.some.inj ho
              obtain ⟨v28, h28, f28⟩ := hf.facts ⟨1, .data⟩ (by simp) rfl _ _ rfl rfl
              obtain rfl : v28 = .pointer (some ⟨b, o1, none⟩) := f28
              have e28 := eval_at h28
              refine wpOp_go rfl (wanted_free rfl) ?_
              clear hf
              go_simp
              exact ⟨_, rfl, rfl, Below.refl _ _⟩
            | 3, ho =>
              obtain rfl := Option.some.inj ho
              obtain ⟨v29, h29, f29⟩ := hf.facts ⟨2, .data⟩ (by simp) rfl _ _ rfl rfl
              obtain rfl : v29 = .pointer (some ⟨b, o1 + 1, none⟩) := f29
              have e29 := eval_at h29
              refine wpOp_go rfl (wanted_free rfl) ?_
              clear hf
              have g1 := (HC1.out _ HB.out).space
              go_simp
              exact ⟨_, rfl, rfl, Below.refl _ _⟩
            | 4, ho =>
              obtain rfl := Option.some.inj ho
              have h8 : a.tmps[8]? = some (.pointer (some ⟨b, o2, none⟩)) := (hf.others 8 (no_of (by kernel_rfl))).trans rfl
              have e8 := eval_at h8
              refine wpOp_go rfl (wanted_free rfl) ?_
              clear hf
              go_simp
              exact ⟨_, rfl, rfl, Below.refl _ _⟩
            | 5, ho =>
              obtain rfl := Option.some.inj ho
              obtain ⟨v31, h31, f31⟩ := hf.facts ⟨4, .data⟩ (by simp) rfl _ _ rfl rfl
              obtain rfl : v31 = .pointer (some ⟨b, o2, none⟩) := f31
              have e31 := eval_at h31
              refine wpOp_go rfl (wanted_free rfl) ?_
              clear hf
              go_simp
              exact ⟨_, rfl, rfl, Below.refl _ _⟩
            | 6, ho =>
              obtain rfl := Option.some.inj ho
              obtain ⟨v32, h32, f32⟩ := hf.facts ⟨5, .data⟩ (by simp) rfl _ _ rfl rfl
              obtain rfl : v32 = .pointer (some ⟨b, o2, none⟩) := f32
              have e32 := eval_at h32
              refine wpOp_go rfl (wanted_free rfl) ?_
              clear hf
              go_simp
              exact ⟨_, rfl, rfl, Below.refl _ _⟩
            | 7, ho =>
              obtain rfl := Option.some.inj ho
              obtain ⟨v33, h33, f33⟩ := hf.facts ⟨6, .data⟩ (by simp) rfl _ _ rfl rfl
              obtain rfl : v33 = .pointer (some ⟨b, o2 + 1, none⟩) := f33
              have e33 := eval_at h33
              refine wpOp_go rfl (wanted_free rfl) ?_
              clear hf
              have g1 := (HC2.out _ HB.out).space
              go_simp
              exact ⟨_, rfl, rfl, Below.refl _ _⟩
            | 8, ho =>
              obtain rfl := Option.some.inj ho
              obtain ⟨v30, h30, f30⟩ := hf.facts ⟨3, .data⟩ (by simp) rfl _ _ rfl rfl
              obtain rfl : v30 = .int .i64 x1.space := f30
              have e30 := eval_at h30
              obtain ⟨v34, h34, f34⟩ := hf.facts ⟨7, .data⟩ (by simp) rfl _ _ rfl rfl
              obtain rfl : v34 = .int .i64 x2.space := f34
              have e34 := eval_at h34
              refine wpOp_go rfl (wanted_free rfl) ?_
              clear hf
              go_simp
              exact ⟨_, rfl, rfl, Below.refl _ _⟩
            | 9, ho =>
              obtain rfl := Option.some.inj ho
              obtain ⟨v35, h35, f35⟩ := hf.facts ⟨8, .data⟩ (by simp) rfl _ _ rfl rfl
              obtain rfl : v35 = .bool true := f35
              have e35 := eval_at h35
              refine wpOp_go rfl (wanted_free rfl) ?_
              clear hf
              go_simp
              exact ⟨_, rfl, rfl, Below.refl _ _⟩
            | 10, ho =>
              obtain rfl := Option.some.inj ho
              obtain ⟨v36, h36, f36⟩ := hf.facts ⟨9, .guard⟩ (by simp) rfl _ _ rfl rfl
              obtain rfl : v36 = .bool true := f36
              have h7 : a.tmps[7]? = some (.pointer (some ⟨b, o1, none⟩)) := (hf.others 7 (no_of (by kernel_rfl))).trans rfl
              have e7 := eval_at h7
              refine wpOp_go rfl (wanted_guard rfl rfl rfl h36) ?_
              clear hf
              go_simp
              exact ⟨_, rfl, rfl, Below.refl _ _⟩
            | 11, ho =>
              obtain rfl := Option.some.inj ho
              obtain ⟨v37, h37, f37⟩ := hf.facts ⟨10, .data⟩ (by simp) rfl _ _ rfl rfl
              obtain rfl : v37 = .pointer (some ⟨b, o1, none⟩) := f37
              have e37 := eval_at h37
              obtain ⟨v36, h36, f36⟩ := hf.facts ⟨9, .guard⟩ (by simp) rfl _ _ rfl rfl
              obtain rfl : v36 = .bool true := f36
              refine wpOp_go rfl (wanted_guard rfl rfl rfl h36) ?_
              clear hf
              go_simp
              exact ⟨_, rfl, rfl, Below.refl _ _⟩
            | 12, ho =>
              obtain rfl := Option.some.inj ho
              obtain ⟨v38, h38, f38⟩ := hf.facts ⟨11, .data⟩ (by simp) rfl _ _ rfl rfl
              obtain rfl : v38 = .pointer (some ⟨b, o1, none⟩) := f38
              have e38 := eval_at h38
              obtain ⟨v36, h36, f36⟩ := hf.facts ⟨9, .guard⟩ (by simp) rfl _ _ rfl rfl
              obtain rfl : v36 = .bool true := f36
              refine wpOp_go rfl (wanted_guard rfl rfl rfl h36) ?_
              clear hf
              go_simp
              exact ⟨_, rfl, rfl, Below.refl _ _⟩
            | 13, ho =>
              obtain rfl := Option.some.inj ho
              obtain ⟨v39, h39, f39⟩ := hf.facts ⟨12, .data⟩ (by simp) rfl _ _ rfl rfl
              obtain rfl : v39 = .pointer (some ⟨b, o1 + 2, none⟩) := f39
              have e39 := eval_at h39
              obtain ⟨v36, h36, f36⟩ := hf.facts ⟨9, .guard⟩ (by simp) rfl _ _ rfl rfl
              obtain rfl : v36 = .bool true := f36
              refine wpOp_go rfl (wanted_guard rfl rfl rfl h36) ?_
              clear hf
              have g1 := (HC1.out _ HB.out).name
              go_simp
              exact ⟨_, rfl, rfl, Below.refl _ _⟩
            | 14, ho =>
              obtain rfl := Option.some.inj ho
              obtain ⟨v36, h36, f36⟩ := hf.facts ⟨9, .guard⟩ (by simp) rfl _ _ rfl rfl
              obtain rfl : v36 = .bool true := f36
              have h8 : a.tmps[8]? = some (.pointer (some ⟨b, o2, none⟩)) := (hf.others 8 (no_of (by kernel_rfl))).trans rfl
              have e8 := eval_at h8
              refine wpOp_go rfl (wanted_guard rfl rfl rfl h36) ?_
              clear hf
              go_simp
              exact ⟨_, rfl, rfl, Below.refl _ _⟩
            | 15, ho =>
              obtain rfl := Option.some.inj ho
              obtain ⟨v41, h41, f41⟩ := hf.facts ⟨14, .data⟩ (by simp) rfl _ _ rfl rfl
              obtain rfl : v41 = .pointer (some ⟨b, o2, none⟩) := f41
              have e41 := eval_at h41
              obtain ⟨v36, h36, f36⟩ := hf.facts ⟨9, .guard⟩ (by simp) rfl _ _ rfl rfl
              obtain rfl : v36 = .bool true := f36
              refine wpOp_go rfl (wanted_guard rfl rfl rfl h36) ?_
              clear hf
              go_simp
              exact ⟨_, rfl, rfl, Below.refl _ _⟩
            | 16, ho =>
              obtain rfl := Option.some.inj ho
              obtain ⟨v42, h42, f42⟩ := hf.facts ⟨15, .data⟩ (by simp) rfl _ _ rfl rfl
              obtain rfl : v42 = .pointer (some ⟨b, o2, none⟩) := f42
              have e42 := eval_at h42
              obtain ⟨v36, h36, f36⟩ := hf.facts ⟨9, .guard⟩ (by simp) rfl _ _ rfl rfl
              obtain rfl : v36 = .bool true := f36
              refine wpOp_go rfl (wanted_guard rfl rfl rfl h36) ?_
              clear hf
              go_simp
              exact ⟨_, rfl, rfl, Below.refl _ _⟩
            | 17, ho =>
              obtain rfl := Option.some.inj ho
              obtain ⟨v43, h43, f43⟩ := hf.facts ⟨16, .data⟩ (by simp) rfl _ _ rfl rfl
              obtain rfl : v43 = .pointer (some ⟨b, o2 + 2, none⟩) := f43
              have e43 := eval_at h43
              obtain ⟨v36, h36, f36⟩ := hf.facts ⟨9, .guard⟩ (by simp) rfl _ _ rfl rfl
              obtain rfl : v36 = .bool true := f36
              refine wpOp_go rfl (wanted_guard rfl rfl rfl h36) ?_
              clear hf
              have g1 := (HC2.out _ HB.out).name
              go_simp
              exact ⟨_, rfl, rfl, Below.refl _ _⟩
            | 18, ho =>
              obtain rfl := Option.some.inj ho
              obtain ⟨v40, h40, f40⟩ := hf.facts ⟨13, .data⟩ (by simp) rfl _ _ rfl rfl
              obtain rfl : v40 = .string x1.name := f40
              have e40 := eval_at h40
              obtain ⟨v44, h44, f44⟩ := hf.facts ⟨17, .data⟩ (by simp) rfl _ _ rfl rfl
              obtain rfl : v44 = .string x2.name := f44
              have e44 := eval_at h44
              obtain ⟨v36, h36, f36⟩ := hf.facts ⟨9, .guard⟩ (by simp) rfl _ _ rfl rfl
              obtain rfl : v36 = .bool true := f36
              refine wpOp_go rfl (wanted_guard rfl rfl rfl h36) ?_
              clear hf
              go_simp
              exact ⟨_, rfl, rfl, Below.refl _ _⟩
            | 19, ho =>
              obtain rfl := Option.some.inj ho
              obtain ⟨v36, h36, f36⟩ := hf.facts ⟨9, .data⟩ (by simp) rfl _ _ rfl rfl
              obtain rfl : v36 = .bool true := f36
              have e36 := eval_at h36
              obtain ⟨v45, h45, f45⟩ := hf.facts ⟨18, .data⟩ (by simp) rfl _ _ rfl rfl
              obtain rfl : v45 = .bool false := f45
              have e45 := eval_at h45
              refine wpOp_go rfl (wanted_free rfl) ?_
              clear hf
              go_simp
              exact ⟨_, rfl, rfl, Below.refl _ _⟩
            | 20, ho =>
              obtain rfl := Option.some.inj ho
              obtain ⟨v46, h46, f46⟩ := hf.facts ⟨19, .data⟩ (by simp) rfl _ _ rfl rfl
              obtain rfl : v46 = .bool false := f46
              have e46 := eval_at h46
              refine wpOp_go rfl (wanted_free rfl) ?_
              clear hf
              go_simp
              exact ⟨_, rfl, rfl, Below.refl _ _⟩
            | 21, ho =>
              obtain rfl := Option.some.inj ho
              obtain ⟨v47, h47, f47⟩ := hf.facts ⟨20, .guard⟩ (by simp) rfl _ _ rfl rfl
              obtain rfl : v47 = .bool false := f47
              have h7 : a.tmps[7]? = some (.pointer (some ⟨b, o1, none⟩)) := (hf.others 7 (no_of (by kernel_rfl))).trans rfl
              have e7 := eval_at h7
              exact wpOp_off rfl (unwanted_guard rfl rfl rfl h47 rfl) ⟨undef, rfl, rfl, Below.refl _ _⟩
            | 22, ho =>
              obtain rfl := Option.some.inj ho
              obtain ⟨v48, h48, f48⟩ := hf.facts ⟨21, .data⟩ (by simp) rfl _ _ rfl rfl
              obtain rfl : v48 = undef := f48
              have e48 := eval_at h48
              obtain ⟨v47, h47, f47⟩ := hf.facts ⟨20, .guard⟩ (by simp) rfl _ _ rfl rfl
              obtain rfl : v47 = .bool false := f47
              exact wpOp_off rfl (unwanted_guard rfl rfl rfl h47 rfl) ⟨undef, rfl, rfl, Below.refl _ _⟩
            | 23, ho =>
              obtain rfl := Option.some.inj ho
              obtain ⟨v49, h49, f49⟩ := hf.facts ⟨22, .data⟩ (by simp) rfl _ _ rfl rfl
              obtain rfl : v49 = undef := f49
              have e49 := eval_at h49
              obtain ⟨v47, h47, f47⟩ := hf.facts ⟨20, .guard⟩ (by simp) rfl _ _ rfl rfl
              obtain rfl : v47 = .bool false := f47
              exact wpOp_off rfl (unwanted_guard rfl rfl rfl h47 rfl) ⟨undef, rfl, rfl, Below.refl _ _⟩
            | 24, ho =>
              obtain rfl := Option.some.inj ho
              obtain ⟨v50, h50, f50⟩ := hf.facts ⟨23, .data⟩ (by simp) rfl _ _ rfl rfl
              obtain rfl : v50 = undef := f50
              have e50 := eval_at h50
              obtain ⟨v47, h47, f47⟩ := hf.facts ⟨20, .guard⟩ (by simp) rfl _ _ rfl rfl
              obtain rfl : v47 = .bool false := f47
              exact wpOp_off rfl (unwanted_guard rfl rfl rfl h47 rfl) ⟨undef, rfl, rfl, Below.refl _ _⟩
            | 25, ho =>
              obtain rfl := Option.some.inj ho
              obtain ⟨v47, h47, f47⟩ := hf.facts ⟨20, .guard⟩ (by simp) rfl _ _ rfl rfl
              obtain rfl : v47 = .bool false := f47
              have h8 : a.tmps[8]? = some (.pointer (some ⟨b, o2, none⟩)) := (hf.others 8 (no_of (by kernel_rfl))).trans rfl
              have e8 := eval_at h8
              exact wpOp_off rfl (unwanted_guard rfl rfl rfl h47 rfl) ⟨undef, rfl, rfl, Below.refl _ _⟩
            | 26, ho =>
              obtain rfl := Option.some.inj ho
              obtain ⟨v52, h52, f52⟩ := hf.facts ⟨25, .data⟩ (by simp) rfl _ _ rfl rfl
              obtain rfl : v52 = undef := f52
              have e52 := eval_at h52
              obtain ⟨v47, h47, f47⟩ := hf.facts ⟨20, .guard⟩ (by simp) rfl _ _ rfl rfl
              obtain rfl : v47 = .bool false := f47
              exact wpOp_off rfl (unwanted_guard rfl rfl rfl h47 rfl) ⟨undef, rfl, rfl, Below.refl _ _⟩
            | 27, ho =>
              obtain rfl := Option.some.inj ho
              obtain ⟨v53, h53, f53⟩ := hf.facts ⟨26, .data⟩ (by simp) rfl _ _ rfl rfl
              obtain rfl : v53 = undef := f53
              have e53 := eval_at h53
              obtain ⟨v47, h47, f47⟩ := hf.facts ⟨20, .guard⟩ (by simp) rfl _ _ rfl rfl
              obtain rfl : v47 = .bool false := f47
              exact wpOp_off rfl (unwanted_guard rfl rfl rfl h47 rfl) ⟨undef, rfl, rfl, Below.refl _ _⟩
            | 28, ho =>
              obtain rfl := Option.some.inj ho
              obtain ⟨v54, h54, f54⟩ := hf.facts ⟨27, .data⟩ (by simp) rfl _ _ rfl rfl
              obtain rfl : v54 = undef := f54
              have e54 := eval_at h54
              obtain ⟨v47, h47, f47⟩ := hf.facts ⟨20, .guard⟩ (by simp) rfl _ _ rfl rfl
              obtain rfl : v47 = .bool false := f47
              exact wpOp_off rfl (unwanted_guard rfl rfl rfl h47 rfl) ⟨undef, rfl, rfl, Below.refl _ _⟩
            | 29, ho =>
              obtain rfl := Option.some.inj ho
              obtain ⟨v51, h51, f51⟩ := hf.facts ⟨24, .data⟩ (by simp) rfl _ _ rfl rfl
              obtain rfl : v51 = undef := f51
              have e51 := eval_at h51
              obtain ⟨v55, h55, f55⟩ := hf.facts ⟨28, .data⟩ (by simp) rfl _ _ rfl rfl
              obtain rfl : v55 = undef := f55
              have e55 := eval_at h55
              obtain ⟨v47, h47, f47⟩ := hf.facts ⟨20, .chain⟩ (by simp) rfl _ _ rfl rfl
              obtain rfl : v47 = .bool false := f47
              exact wpOp_off rfl (unwanted_guard rfl rfl rfl h47 rfl) ⟨undef, rfl, rfl, Below.refl _ _⟩
            | 30, ho =>
              obtain rfl := Option.some.inj ho
              obtain ⟨v47, h47, f47⟩ := hf.facts ⟨20, .data⟩ (by simp) rfl _ _ rfl rfl
              obtain rfl : v47 = .bool false := f47
              have e47 := eval_at h47
              obtain ⟨v56, h56, f56⟩ := hf.facts ⟨29, .data⟩ (by simp) rfl _ _ rfl rfl
              obtain rfl : v56 = undef := f56
              have e56 := eval_at h56
              refine wpOp_go rfl (wanted_free rfl) ?_
              clear hf
              go_simp
              exact ⟨_, rfl, rfl, Below.refl _ _⟩
            | 31, ho =>
              obtain rfl := Option.some.inj ho
              obtain ⟨v57, h57, f57⟩ := hf.facts ⟨30, .data⟩ (by simp) rfl _ _ rfl rfl
              obtain rfl : v57 = .bool false := f57
              have e57 := eval_at h57
              refine wpOp_go rfl (wanted_free rfl) ?_
              clear hf
              go_simp
              exact ⟨_, rfl, rfl, Below.refl _ _⟩
            | i + 32, ho => exact absurd ho (by simp)
          case fin =>
            intro listed a w1 hf hall
            obtain ⟨v0, h0, f0⟩ := hf.facts 31 _ _ rfl rfl (hall 31 (of_decide_eq_true (by kernel_rfl)))
            obtain rfl : v0 = .bool false := f0
            have HBe := hf.base
            have hd := hf.defers
            rename_i K hK
            refine hK _ _ ?_
            clear hK hf hall
            go_wp2
            refine bodyPost_ret (v := .bool false) ?_ hd ⟨?_, ?_⟩
            · simp [results, Try.results117, go_sem, Array.getD_eq_getD_getElem?, h0]
            · exact HR.out
            · exact HB3.out.trans (HBe.mono HB3.out.size)
      · have hs1 : (x1.space == x2.space) = false := by simpa using hsp
        have q : Bool := false
        have HR := Lib.hid (HR.out false (by unfold twin; rw [decide_eq_false hsp, Bool.false_and, Bool.false_and]))
        clear hsp
        refine region_facts (alF0 b o1 o2 x1 x2 a1 a2 c1 c2 q) (by kernel_rfl) (dst_of (by kernel_rfl)) (inj_of (by kernel_rfl)) (acy_of (by kernel_rfl)) ?step ?fin
        case step =>
          intro i o a w1 ho hf
          have HB := Lib.hid hf.base
          match i, ho with
          | 0, ho =>
            obtain rfl := Option.some.inj ho
            have h7 : a.tmps[7]? = some (.pointer (some ⟨b, o1, none⟩)) := (hf.others 7 (no_of (by kernel_rfl))).trans rfl
            have e7 := eval_at h7
            refine wpOp_go rfl (wanted_free rfl) ?_
            clear hf
            go_simp
            exact ⟨_, rfl, rfl, Below.refl _ _⟩
          | 1, ho =>
            obtain rfl := Option.some.inj ho
            obtain ⟨v27, h27, f27⟩ := hf.facts ⟨0, .data⟩ (by simp) rfl _ _ rfl rfl
            obtain rfl : v27 = .pointer (some ⟨b, o1, none⟩) := f27
            have e27 := eval_at h27
            refine wpOp_go rfl (wanted_free rfl) ?_
            clear hf
            go_simp
            exact ⟨_, rfl, rfl, Below.refl _ _⟩
          | 2, ho =>
            obtain rfl := Option.some.inj ho
            obtain ⟨v28, h28, f28⟩ := hf.facts ⟨1, .data⟩ (by simp) rfl _ _ rfl rfl
            obtain rfl : v28 = .pointer (some ⟨b, o1, none⟩) := f28
            have e28 := eval_at h28
            refine wpOp_go rfl (wanted_free rfl) ?_
            clear hf
            go_simp
            exact ⟨_, rfl, rfl, Below.refl _ _⟩
          | 3, ho =>
            obtain rfl := Option.some.inj ho
            obtain ⟨v29, h29, f29⟩ := hf.facts ⟨2, .data⟩ (by simp) rfl _ _ rfl rfl
            obtain rfl : v29 = .pointer (some ⟨b, o1 + 1, none⟩) := f29
            have e29 := eval_at h29
            refine wpOp_go rfl (wanted_free rfl) ?_
            clear hf
            have g1 := (HC1.out _ HB.out).space
            go_simp
            exact ⟨_, rfl, rfl, Below.refl _ _⟩
          | 4, ho =>
            obtain rfl := Option.some.inj ho
            have h8 : a.tmps[8]? = some (.pointer (some ⟨b, o2, none⟩)) := (hf.others 8 (no_of (by kernel_rfl))).trans rfl
            have e8 := eval_at h8
            refine wpOp_go rfl (wanted_free rfl) ?_
            clear hf
            go_simp
            exact ⟨_, rfl, rfl, Below.refl _ _⟩
          | 5, ho =>
            obtain rfl := Option.some.inj ho
            obtain ⟨v31, h31, f31⟩ := hf.facts ⟨4, .data⟩ (by simp) rfl _ _ rfl rfl
            obtain rfl : v31 = .pointer (some ⟨b, o2, none⟩) := f31
            have e31 := eval_at h31
            refine wpOp_go rfl (wanted_free rfl) ?_
            clear hf
            go_simp
            exact ⟨_, rfl, rfl, Below.refl _ _⟩
          | 6, ho =>
            obtain rfl := Option.some.inj ho
            obtain ⟨v32, h32, f32⟩ := hf.facts ⟨5, .data⟩ (by simp) rfl _ _ rfl rfl
            obtain rfl : v32 = .pointer (some ⟨b, o2, none⟩) := f32
            have e32 := eval_at h32
            refine wpOp_go rfl (wanted_free rfl) ?_
            clear hf
            go_simp
            exact ⟨_, rfl, rfl, Below.refl _ _⟩
          | 7, ho =>
            obtain rfl := Option.some.inj ho
            obtain ⟨v33, h33, f33⟩ := hf.facts ⟨6, .data⟩ (by simp) rfl _ _ rfl rfl
            obtain rfl : v33 = .pointer (some ⟨b, o2 + 1, none⟩) := f33
            have e33 := eval_at h33
            refine wpOp_go rfl (wanted_free rfl) ?_
            clear hf
            have g1 := (HC2.out _ HB.out).space
            go_simp
            exact ⟨_, rfl, rfl, Below.refl _ _⟩
          | 8, ho =>
            obtain rfl := Option.some.inj ho
            obtain ⟨v30, h30, f30⟩ := hf.facts ⟨3, .data⟩ (by simp) rfl _ _ rfl rfl
            obtain rfl : v30 = .int .i64 x1.space := f30
            have e30 := eval_at h30
            obtain ⟨v34, h34, f34⟩ := hf.facts ⟨7, .data⟩ (by simp) rfl _ _ rfl rfl
            obtain rfl : v34 = .int .i64 x2.space := f34
            have e34 := eval_at h34
            refine wpOp_go rfl (wanted_free rfl) ?_
            clear hf
            go_simp
            exact ⟨_, rfl, rfl, Below.refl _ _⟩
          | 9, ho =>
            obtain rfl := Option.some.inj ho
            obtain ⟨v35, h35, f35⟩ := hf.facts ⟨8, .data⟩ (by simp) rfl _ _ rfl rfl
            obtain rfl : v35 = .bool false := f35
            have e35 := eval_at h35
            refine wpOp_go rfl (wanted_free rfl) ?_
            clear hf
            go_simp
            exact ⟨_, rfl, rfl, Below.refl _ _⟩
          | 10, ho =>
            obtain rfl := Option.some.inj ho
            obtain ⟨v36, h36, f36⟩ := hf.facts ⟨9, .guard⟩ (by simp) rfl _ _ rfl rfl
            obtain rfl : v36 = .bool false := f36
            have h7 : a.tmps[7]? = some (.pointer (some ⟨b, o1, none⟩)) := (hf.others 7 (no_of (by kernel_rfl))).trans rfl
            have e7 := eval_at h7
            exact wpOp_off rfl (unwanted_guard rfl rfl rfl h36 rfl) ⟨undef, rfl, rfl, Below.refl _ _⟩
          | 11, ho =>
            obtain rfl := Option.some.inj ho
            obtain ⟨v37, h37, f37⟩ := hf.facts ⟨10, .data⟩ (by simp) rfl _ _ rfl rfl
            obtain rfl : v37 = undef := f37
            have e37 := eval_at h37
            obtain ⟨v36, h36, f36⟩ := hf.facts ⟨9, .guard⟩ (by simp) rfl _ _ rfl rfl
            obtain rfl : v36 = .bool false := f36
            exact wpOp_off rfl (unwanted_guard rfl rfl rfl h36 rfl) ⟨undef, rfl, rfl, Below.refl _ _⟩
          | 12, ho =>
            obtain rfl := Option.some.inj ho
            obtain ⟨v38, h38, f38⟩ := hf.facts ⟨11, .data⟩ (by simp) rfl _ _ rfl rfl
            obtain rfl : v38 = undef := f38
            have e38 := eval_at h38
            obtain ⟨v36, h36, f36⟩ := hf.facts ⟨9, .guard⟩ (by simp) rfl _ _ rfl rfl
            obtain rfl : v36 = .bool false := f36
            exact wpOp_off rfl (unwanted_guard rfl rfl rfl h36 rfl) ⟨undef, rfl, rfl, Below.refl _ _⟩
          | 13, ho =>
            obtain rfl := Option.some.inj ho
            obtain ⟨v39, h39, f39⟩ := hf.facts ⟨12, .data⟩ (by simp) rfl _ _ rfl rfl
            obtain rfl : v39 = undef := f39
            have e39 := eval_at h39
            obtain ⟨v36, h36, f36⟩ := hf.facts ⟨9, .guard⟩ (by simp) rfl _ _ rfl rfl
            obtain rfl : v36 = .bool false := f36
            exact wpOp_off rfl (unwanted_guard rfl rfl rfl h36 rfl) ⟨undef, rfl, rfl, Below.refl _ _⟩
          | 14, ho =>
            obtain rfl := Option.some.inj ho
            obtain ⟨v36, h36, f36⟩ := hf.facts ⟨9, .guard⟩ (by simp) rfl _ _ rfl rfl
            obtain rfl : v36 = .bool false := f36
            have h8 : a.tmps[8]? = some (.pointer (some ⟨b, o2, none⟩)) := (hf.others 8 (no_of (by kernel_rfl))).trans rfl
            have e8 := eval_at h8
            exact wpOp_off rfl (unwanted_guard rfl rfl rfl h36 rfl) ⟨undef, rfl, rfl, Below.refl _ _⟩
          | 15, ho =>
            obtain rfl := Option.some.inj ho
            obtain ⟨v41, h41, f41⟩ := hf.facts ⟨14, .data⟩ (by simp) rfl _ _ rfl rfl
            obtain rfl : v41 = undef := f41
            have e41 := eval_at h41
            obtain ⟨v36, h36, f36⟩ := hf.facts ⟨9, .guard⟩ (by simp) rfl _ _ rfl rfl
            obtain rfl : v36 = .bool false := f36
            exact wpOp_off rfl (unwanted_guard rfl rfl rfl h36 rfl) ⟨undef, rfl, rfl, Below.refl _ _⟩
          | 16, ho =>
            obtain rfl := Option.some.inj ho
            obtain ⟨v42, h42, f42⟩ := hf.facts ⟨15, .data⟩ (by simp) rfl _ _ rfl rfl
            obtain rfl : v42 = undef := f42
            have e42 := eval_at h42
            obtain ⟨v36, h36, f36⟩ := hf.facts ⟨9, .guard⟩ (by simp) rfl _ _ rfl rfl
            obtain rfl : v36 = .bool false := f36
            exact wpOp_off rfl (unwanted_guard rfl rfl rfl h36 rfl) ⟨undef, rfl, rfl, Below.refl _ _⟩
          | 17, ho =>
            obtain rfl := Option.some.inj ho
            obtain ⟨v43, h43, f43⟩ := hf.facts ⟨16, .data⟩ (by simp) rfl _ _ rfl rfl
            obtain rfl : v43 = undef := f43
            have e43 := eval_at h43
            obtain ⟨v36, h36, f36⟩ := hf.facts ⟨9, .guard⟩ (by simp) rfl _ _ rfl rfl
            obtain rfl : v36 = .bool false := f36
            exact wpOp_off rfl (unwanted_guard rfl rfl rfl h36 rfl) ⟨undef, rfl, rfl, Below.refl _ _⟩
          | 18, ho =>
            obtain rfl := Option.some.inj ho
            obtain ⟨v40, h40, f40⟩ := hf.facts ⟨13, .data⟩ (by simp) rfl _ _ rfl rfl
            obtain rfl : v40 = undef := f40
            have e40 := eval_at h40
            obtain ⟨v44, h44, f44⟩ := hf.facts ⟨17, .data⟩ (by simp) rfl _ _ rfl rfl
            obtain rfl : v44 = undef := f44
            have e44 := eval_at h44
            obtain ⟨v36, h36, f36⟩ := hf.facts ⟨9, .guard⟩ (by simp) rfl _ _ rfl rfl
            obtain rfl : v36 = .bool false := f36
            exact wpOp_off rfl (unwanted_guard rfl rfl rfl h36 rfl) ⟨undef, rfl, rfl, Below.refl _ _⟩
          | 19, ho =>
            obtain rfl := Option.some.inj ho
            obtain ⟨v36, h36, f36⟩ := hf.facts ⟨9, .data⟩ (by simp) rfl _ _ rfl rfl
            obtain rfl : v36 = .bool false := f36
            have e36 := eval_at h36
            obtain ⟨v45, h45, f45⟩ := hf.facts ⟨18, .data⟩ (by simp) rfl _ _ rfl rfl
            obtain rfl : v45 = undef := f45
            have e45 := eval_at h45
            refine wpOp_go rfl (wanted_free rfl) ?_
            clear hf
            go_simp
            exact ⟨_, rfl, rfl, Below.refl _ _⟩
          | 20, ho =>
            obtain rfl := Option.some.inj ho
            obtain ⟨v46, h46, f46⟩ := hf.facts ⟨19, .data⟩ (by simp) rfl _ _ rfl rfl
            obtain rfl : v46 = .bool false := f46
            have e46 := eval_at h46
            refine wpOp_go rfl (wanted_free rfl) ?_
            clear hf
            go_simp
            exact ⟨_, rfl, rfl, Below.refl _ _⟩
          | 21, ho =>
            obtain rfl := Option.some.inj ho
            obtain ⟨v47, h47, f47⟩ := hf.facts ⟨20, .guard⟩ (by simp) rfl _ _ rfl rfl
            obtain rfl : v47 = .bool false := f47
            have h7 : a.tmps[7]? = some (.pointer (some ⟨b, o1, none⟩)) := (hf.others 7 (no_of (by kernel_rfl))).trans rfl
            have e7 := eval_at h7
            exact wpOp_off rfl (unwanted_guard rfl rfl rfl h47 rfl) ⟨undef, rfl, rfl, Below.refl _ _⟩
          | 22, ho =>
            obtain rfl := Option.some.inj ho
            obtain ⟨v48, h48, f48⟩ := hf.facts ⟨21, .data⟩ (by simp) rfl _ _ rfl rfl
            obtain rfl : v48 = undef := f48
            have e48 := eval_at h48
            obtain ⟨v47, h47, f47⟩ := hf.facts ⟨20, .guard⟩ (by simp) rfl _ _ rfl rfl
            obtain rfl : v47 = .bool false := f47
            exact wpOp_off rfl (unwanted_guard rfl rfl rfl h47 rfl) ⟨undef, rfl, rfl, Below.refl _ _⟩
          | 23, ho =>
            obtain rfl := Option.some.inj ho
            obtain ⟨v49, h49, f49⟩ := hf.facts ⟨22, .data⟩ (by simp) rfl _ _ rfl rfl
            obtain rfl : v49 = undef := f49
            have e49 := eval_at h49
            obtain ⟨v47, h47, f47⟩ := hf.facts ⟨20, .guard⟩ (by simp) rfl _ _ rfl rfl
            obtain rfl : v47 = .bool false := f47
            exact wpOp_off rfl (unwanted_guard rfl rfl rfl h47 rfl) ⟨undef, rfl, rfl, Below.refl _ _⟩
          | 24, ho =>
            obtain rfl := Option.some.inj ho
            obtain ⟨v50, h50, f50⟩ := hf.facts ⟨23, .data⟩ (by simp) rfl _ _ rfl rfl
            obtain rfl : v50 = undef := f50
            have e50 := eval_at h50
            obtain ⟨v47, h47, f47⟩ := hf.facts ⟨20, .guard⟩ (by simp) rfl _ _ rfl rfl
            obtain rfl : v47 = .bool false := f47
            exact wpOp_off rfl (unwanted_guard rfl rfl rfl h47 rfl) ⟨undef, rfl, rfl, Below.refl _ _⟩
          | 25, ho =>
            obtain rfl := Option.some.inj ho
            obtain ⟨v47, h47, f47⟩ := hf.facts ⟨20, .guard⟩ (by simp) rfl _ _ rfl rfl
            obtain rfl : v47 = .bool false := f47
            have h8 : a.tmps[8]? = some (.pointer (some ⟨b, o2, none⟩)) := (hf.others 8 (no_of (by kernel_rfl))).trans rfl
            have e8 := eval_at h8
            exact wpOp_off rfl (unwanted_guard rfl rfl rfl h47 rfl) ⟨undef, rfl, rfl, Below.refl _ _⟩
          | 26, ho =>
            obtain rfl := Option.some.inj ho
            obtain ⟨v52, h52, f52⟩ := hf.facts ⟨25, .data⟩ (by simp) rfl _ _ rfl rfl
            obtain rfl : v52 = undef := f52
            have e52 := eval_at h52
            obtain ⟨v47, h47, f47⟩ := hf.facts ⟨20, .guard⟩ (by simp) rfl _ _ rfl rfl
            obtain rfl : v47 = .bool false := f47
            exact wpOp_off rfl (unwanted_guard rfl rfl rfl h47 rfl) ⟨undef, rfl, rfl, Below.refl _ _⟩
          | 27, ho =>
            obtain rfl := Option.some.inj ho
            obtain ⟨v53, h53, f53⟩ := hf.facts ⟨26, .data⟩ (by simp) rfl _ _ rfl rfl
            obtain rfl : v53 = undef := f53
            have e53 := eval_at h53
            obtain ⟨v47, h47, f47⟩ := hf.facts ⟨20, .guard⟩ (by simp) rfl _ _ rfl rfl
            obtain rfl : v47 = .bool false := f47
            exact wpOp_off rfl (unwanted_guard rfl rfl rfl h47 rfl) ⟨undef, rfl, rfl, Below.refl _ _⟩
          | 28, ho =>
            obtain rfl := Option.some.inj ho
            obtain ⟨v54, h54, f54⟩ := hf.facts ⟨27, .data⟩ (by simp) rfl _ _ rfl rfl
            obtain rfl : v54 = undef := f54
            have e54 := eval_at h54
            obtain ⟨v47, h47, f47⟩ := hf.facts ⟨20, .guard⟩ (by simp) rfl _ _ rfl rfl
            obtain rfl : v47 = .bool false := f47
            exact wpOp_off rfl (unwanted_guard rfl rfl rfl h47 rfl) ⟨undef, rfl, rfl, Below.refl _ _⟩
          | 29, ho =>
            obtain rfl := Option.some.inj ho
            obtain ⟨v51, h51, f51⟩ := hf.facts ⟨24, .data⟩ (by simp) rfl _ _ rfl rfl
            obtain rfl : v51 = undef := f51
            have e51 := eval_at h51
            obtain ⟨v55, h55, f55⟩ := hf.facts ⟨28, .data⟩ (by simp) rfl _ _ rfl rfl
            obtain rfl : v55 = undef := f55
            have e55 := eval_at h55
            obtain ⟨v47, h47, f47⟩ := hf.facts ⟨20, .chain⟩ (by simp) rfl _ _ rfl rfl
            obtain rfl : v47 = .bool false := f47
            exact wpOp_off rfl (unwanted_guard rfl rfl rfl h47 rfl) ⟨undef, rfl, rfl, Below.refl _ _⟩
          | 30, ho =>
            obtain rfl := Option.some.inj ho
            obtain ⟨v47, h47, f47⟩ := hf.facts ⟨20, .data⟩ (by simp) rfl _ _ rfl rfl
            obtain rfl : v47 = .bool false := f47
            have e47 := eval_at h47
            obtain ⟨v56, h56, f56⟩ := hf.facts ⟨29, .data⟩ (by simp) rfl _ _ rfl rfl
            obtain rfl : v56 = undef := f56
            have e56 := eval_at h56
            refine wpOp_go rfl (wanted_free rfl) ?_
            clear hf
            go_simp
            exact ⟨_, rfl, rfl, Below.refl _ _⟩
          | 31, ho =>
            obtain rfl := Option.some.inj ho
            obtain ⟨v57, h57, f57⟩ := hf.facts ⟨30, .data⟩ (by simp) rfl _ _ rfl rfl
            obtain rfl : v57 = .bool false := f57
            have e57 := eval_at h57
            refine wpOp_go rfl (wanted_free rfl) ?_
            clear hf
            go_simp
            exact ⟨_, rfl, rfl, Below.refl _ _⟩
          | i + 32, ho => exact absurd ho (by simp)
        case fin =>
          intro listed a w1 hf hall
          obtain ⟨v0, h0, f0⟩ := hf.facts 31 _ _ rfl rfl (hall 31 (of_decide_eq_true (by kernel_rfl)))
          obtain rfl : v0 = .bool false := f0
          have HBe := hf.base
          have hd := hf.defers
          rename_i K hK
          refine hK _ _ ?_
          clear hK hf hall
          go_wp2
          refine bodyPost_ret (v := .bool false) ?_ hd ⟨?_, ?_⟩
          · simp [results, Try.results117, go_sem, Array.getD_eq_getD_getElem?, h0]
          · exact HR.out
          · exact HB3.out.trans (HBe.mono HB3.out.size)
end Go.Proofs.Ytkkngflpmdcfjaa
