/-
  The document's own: whether there is a node, and whether two are alike.
-/
import Derived.Test.YtkkngflpmdcfjaaYNode
import Derived.Test.YtkkngflpmdcfjaaAAmong
namespace Go.Proofs.Ytkkngflpmdcfjaa
open Go.RowKit

theorem ris_any (a : Option Addr) (n cap : Nat) (k : Int) (w : World) :
    Calls Try.prog 124 #[.agg #[.slice a n cap], .int .i64 k] w fun e w' => e = .returned (.bool (inN n k)) ∧ Below w.heap.size w w' := by
  unfold inN
  by_cases h : 0 ≤ k
  · have h1 : decide (0 ≤ k) = true := by simpa using h
    go_enter Try.func124, Try.ntmps124
    go_wp2
    go_ret
    exact ⟨by simp [h], below_box _ _⟩
  · have h1 : decide (0 ≤ k) = false := by simpa using h
    go_enter Try.func124, Try.ntmps124
    go_wp2
    go_ret
    exact ⟨by simp, below_box _ _⟩
/-- The cells of a node, as they are read at once. -/
structure NodeR (w : World) (b o : Nat) (x : Nd) (a : Option Addr) (c : Nat) (ka : Option Addr) (kc : Nat) : Prop extends NodeC w b o x a c where
  data : w.cell? ⟨b, o + 4, none⟩ = some (.string x.data)
  up : w.cell? ⟨b, o + 5, none⟩ = some (.int .i64 x.up)
  kids : w.cell? ⟨b, o + 6, none⟩ = some (.slice ka x.kids.length kc)
theorem ReadN.atR {w : World} {u : Value} {l : List Nd} (h : ReadN w u l) {j : Nat} (hj : j < l.length) : ∃ b o a c ka kc, (∃ off cap, u = .slice (some ⟨b, off, none⟩) l.length cap ∧ o = off + j * 7) ∧ b < w.heap.size ∧ NodeR w b o l[j] a c ka kc ∧ A.AttrsAt w a l[j].attrs := by
  obtain ⟨a, cap, rfl, h1, h2⟩ := h
  obtain ⟨b, off, rfl, hb, hn⟩ := h1 (fun e => by rw [e] at hj; simp at hj)
  obtain ⟨⟨ka, kc, ek, _⟩, a', c', e', ha⟩ := h2 j hj
  have hx := hn j hj
  refine ⟨b, off + j * 7, a', c', ka, kc, ⟨off, cap, rfl, rfl⟩, hb, ⟨⟨?_, ?_, ?_, ?_⟩, ?_, ?_, ?_⟩, ha⟩
  · exact hx 0 (by omega)
  · exact hx 1 (by omega)
  · exact hx 2 (by omega)
  · have := hx 3 (by omega); rw [show l[j].cells[3]? = some l[j].av from rfl, e'] at this; exact this
  · exact hx 4 (by omega)
  · exact hx 5 (by omega)
  · have := hx 6 (by omega); rw [show l[j].cells[6]? = some l[j].kv from rfl, ek] at this; exact this

set_option maxRecDepth 100000 in
set_option maxHeartbeats 4000000 in
theorem ralike_node (u : Value) (l : List Nd) (one i : Int) (w : World) (h : ReadN w u l) (hf : ∀ j (h : j < l.length), l[j].attrs.length ≤ 1000000) :
    Calls Try.prog 121 #[.agg #[u], .int .i64 one, .int .i64 i] w fun e w' => e = .returned (.bool (alikeT l one i)) ∧ Below w.heap.size w w' := by
  have HN := Lib.hid h
  have HF := Lib.hid hf
  obtain ⟨a, cap, rfl, _, _⟩ := h
  have HX := Lib.hid (w1_cell w (.slice a l.length cap))
  have HB0 : Hid (Below w.heap.size w (W1 w (.slice a l.length cap))) := Lib.hid (w1_below w _)
  have HS0 : Hid (w.heap.size < (W1 w (.slice a l.length cap)).heap.size) := Lib.hid (by simp [W1])
  clear hf
  go_enter Try.func121, Try.ntmps121
  go_upto_region 1 with fail
  show Code.wp _ _ _ _ (W1 w (.slice a l.length cap))
  obtain ⟨w1, ew⟩ : ∃ w1, w1 = W1 w (.slice a l.length cap) := ⟨_, rfl⟩
  rw [← ew] at HX HB0 HS0 ⊢
  clear ew
  have hx1 := HX.out
  go_wp2_with fail
  refine (ris_any a l.length cap one w1).mono ?_
  rintro e w2 ⟨rfl, hb⟩
  have HB2 := below_step HB0 hb
  have hx2 : w2.cell? ⟨w.heap.size, 0, none⟩ = some (.slice a l.length cap) := (hb.cell (p := ⟨w.heap.size, 0, none⟩) HS0.out).trans hx1
  have HS2 : Hid (w.heap.size < w2.heap.size) := Lib.hid (Nat.lt_of_lt_of_le HS0.out hb.size)
  clear hb hx1
  cases hq1 : inN l.length one with
  | false =>
    go_wp2
    go_ret
    exact ⟨by unfold alikeT; rw [hq1]; rfl, HB2.out⟩
  | true =>
    have HQ1 := Lib.hid hq1
    obtain ⟨j1, rfl, hj1⟩ := inN_nat hq1
    clear hq1
    go_wp2_with fail
    refine (ris_any a l.length cap i w2).mono ?_
    rintro e w3 ⟨rfl, hb⟩
    have HB3 := below_step HB2 hb
    have hx3 : w3.cell? ⟨w.heap.size, 0, none⟩ = some (.slice a l.length cap) := (hb.cell (p := ⟨w.heap.size, 0, none⟩) HS2.out).trans hx2
    have HS3 : Hid (w.heap.size < w3.heap.size) := Lib.hid (Nat.lt_of_lt_of_le HS2.out hb.size)
    clear hb hx2
    cases hq2 : inN l.length i with
    | false =>
      go_wp2
      go_ret
      exact ⟨by unfold alikeT; rw [HQ1.out, hq2]; rfl, HB3.out⟩
    | true =>
      have HQ2 := Lib.hid hq2
      obtain ⟨j2, rfl, hj2⟩ := inN_nat hq2
      clear hq2
      obtain ⟨b, o1, a1, c1, k1, d1, ⟨off, cap1, e1, eo1⟩, hbl, hc1, ha1⟩ := HN.out.atR hj1
      obtain ⟨b2, o2, a2, c2, k2, d2, ⟨off2, cap2, e2, eo2⟩, _, hc2, ha2⟩ := HN.out.atR hj2
      obtain ⟨rfl, rfl, rfl⟩ : a = some ⟨b, off, none⟩ ∧ b = b2 ∧ off = off2 := by rw [e1] at e2; injection e1 with e1; injection e2 with e2; injection e2 with e2; injection e2 with e2 e3; exact ⟨e1, e2, e3⟩
      clear e1 e2
      have HAl : Hid (∀ W, Below w3.heap.size w3 W → Calls Try.prog 154 #[.slice a1 l[j1].attrs.length c1, .slice a2 l[j2].attrs.length c2] W fun e w' => e = .returned (.bool (A.alikeB l[j1].attrs l[j2].attrs)) ∧ Below W.heap.size W w') := Lib.hid (fun W hW =>
        A.ralike_any a1 a2 c1 c2 _ _ W (HF.out j1 hj1) (HF.out j2 hj2) ((ha1.below HB3.out).below hW) ((ha2.below HB3.out).below hW))
      have hbl3 : b < w3.heap.size := Nat.lt_of_lt_of_le hbl HB3.out.size
      have hp1 : off + j1 * 7 = o1 := eo1.symm
      have hp2 : off + j2 * 7 = o2 := eo2.symm
      have hjj1 : (0 : Int) ≤ (j1 : Int) := by omega
      have hjj2 : (0 : Int) ≤ (j2 : Int) := by omega
      have hk1 : (j1 : Int) < (l.length : Int) := by omega
      have hk2 : (j2 : Int) < (l.length : Int) := by omega
      have HR : Hid (∀ q : Bool, q = twin l[j1] l[j2] → Ending.returned (.bool q) = .returned (.bool (alikeT l j1 j2))) := Lib.hid (fun q e => by unfold alikeT; rw [HQ1.out, HQ2.out, nodeI_at hj1, nodeI_at hj2, e]; rfl)
      have g1 : ∀ k, k < 7 → w3.cell? ⟨b, o1 + k, none⟩ = w.cell? ⟨b, o1 + k, none⟩ := fun k _ => HB3.out.cell (p := ⟨b, o1 + k, none⟩) hbl
      have g2 : ∀ k, k < 7 → w3.cell? ⟨b, o2 + k, none⟩ = w.cell? ⟨b, o2 + k, none⟩ := fun k _ => HB3.out.cell (p := ⟨b, o2 + k, none⟩) hbl
      have x0 : w3.cell? ⟨b, o1, none⟩ = _ := (g1 0 (by omega)).trans hc1.kind
      have x1 := (g1 1 (by omega)).trans hc1.space
      have x2 := (g1 2 (by omega)).trans hc1.name
      have x3 := (g1 3 (by omega)).trans hc1.attrs
      have x4 := (g1 4 (by omega)).trans hc1.data
      have x5 := (g1 5 (by omega)).trans hc1.up
      have x6 := (g1 6 (by omega)).trans hc1.kids
      have y0 : w3.cell? ⟨b, o2, none⟩ = _ := (g2 0 (by omega)).trans hc2.kind
      have y1 := (g2 1 (by omega)).trans hc2.space
      have y2 := (g2 2 (by omega)).trans hc2.name
      have y3 := (g2 3 (by omega)).trans hc2.attrs
      have y4 := (g2 4 (by omega)).trans hc2.data
      have y5 := (g2 5 (by omega)).trans hc2.up
      have y6 := (g2 6 (by omega)).trans hc2.kids
      have hz3 := HS3.out
      clear eo1 eo2 hc1 hc2 ha1 ha2 hbl HN HF g1 g2
      generalize l[j1] = x at *
      generalize l[j2] = y at *
      go_upto_region 3 with fail
      go_region
      · have hb4 : Below w3.heap.size w3 (((w3.alloc (.cells #[.int .i64 x.kind, .int .i64 x.space, .string x.name, .slice a1 x.attrs.length c1, .string x.data, .int .i64 x.up, .slice k1 x.kids.length d1] 66)).alloc (.cells #[.int .i64 y.kind, .int .i64 y.space, .string y.name, .slice a2 y.attrs.length c2, .string y.data, .int .i64 y.up, .slice k2 y.kids.length d2] 66)).drew) := drewB1 ((below_box w3 _).trans ((below_box _ _).mono (by simp)))
        have r0 : (((w3.alloc (.cells #[.int .i64 x.kind, .int .i64 x.space, .string x.name, .slice a1 x.attrs.length c1, .string x.data, .int .i64 x.up, .slice k1 x.kids.length d1] 66)).alloc (.cells #[.int .i64 y.kind, .int .i64 y.space, .string y.name, .slice a2 y.attrs.length c2, .string y.data, .int .i64 y.up, .slice k2 y.kids.length d2] 66)).drew).heap[w3.heap.size]? = some (.cells #[.int .i64 x.kind, .int .i64 x.space, .string x.name, .slice a1 x.attrs.length c1, .string x.data, .int .i64 x.up, .slice k1 x.kids.length d1] 66 (0, 0)) := (Below.heap_alloc _ _ _ (by simp)).trans (heap_alloc_new w3 _)
        have r1 : (((w3.alloc (.cells #[.int .i64 x.kind, .int .i64 x.space, .string x.name, .slice a1 x.attrs.length c1, .string x.data, .int .i64 x.up, .slice k1 x.kids.length d1] 66)).alloc (.cells #[.int .i64 y.kind, .int .i64 y.space, .string y.name, .slice a2 y.attrs.length c2, .string y.data, .int .i64 y.up, .slice k2 y.kids.length d2] 66)).drew).heap[w3.heap.size + 1]? = some (.cells #[.int .i64 y.kind, .int .i64 y.space, .string y.name, .slice a2 y.attrs.length c2, .string y.data, .int .i64 y.up, .slice k2 y.kids.length d2] 66 (0, 0)) := by
          have h := heap_alloc_new (w3.alloc (.cells #[.int .i64 x.kind, .int .i64 x.space, .string x.name, .slice a1 x.attrs.length c1, .string x.data, .int .i64 x.up, .slice k1 x.kids.length d1] 66)) (.cells #[.int .i64 y.kind, .int .i64 y.space, .string y.name, .slice a2 y.attrs.length c2, .string y.data, .int .i64 y.up, .slice k2 y.kids.length d2] 66)
          rw [show (w3.alloc (.cells #[.int .i64 x.kind, .int .i64 x.space, .string x.name, .slice a1 x.attrs.length c1, .string x.data, .int .i64 x.up, .slice k1 x.kids.length d1] 66)).heap.size = w3.heap.size + 1 by simp] at h
          exact h
        generalize ((w3.alloc (.cells #[.int .i64 x.kind, .int .i64 x.space, .string x.name, .slice a1 x.attrs.length c1, .string x.data, .int .i64 x.up, .slice k1 x.kids.length d1] 66)).alloc (.cells #[.int .i64 y.kind, .int .i64 y.space, .string y.name, .slice a2 y.attrs.length c2, .string y.data, .int .i64 y.up, .slice k2 y.kids.length d2] 66)).drew = w4 at *
        have x14 : w4.cell? ⟨w3.heap.size, 1, none⟩ = some (.int .i64 x.space) := (cell_of_row w4 (w3.heap.size) 1 _ _ (0, 0) r0).trans rfl
        have x24 : w4.cell? ⟨w3.heap.size, 2, none⟩ = some (.string x.name) := (cell_of_row w4 (w3.heap.size) 2 _ _ (0, 0) r0).trans rfl
        have x34 : w4.cell? ⟨w3.heap.size, 3, none⟩ = some (.slice a1 x.attrs.length c1) := (cell_of_row w4 (w3.heap.size) 3 _ _ (0, 0) r0).trans rfl
        have y14 : w4.cell? ⟨w3.heap.size + 1, 1, none⟩ = some (.int .i64 y.space) := (cell_of_row w4 (w3.heap.size + 1) 1 _ _ (0, 0) r1).trans rfl
        have y24 : w4.cell? ⟨w3.heap.size + 1, 2, none⟩ = some (.string y.name) := (cell_of_row w4 (w3.heap.size + 1) 2 _ _ (0, 0) r1).trans rfl
        have y34 : w4.cell? ⟨w3.heap.size + 1, 3, none⟩ = some (.slice a2 y.attrs.length c2) := (cell_of_row w4 (w3.heap.size + 1) 3 _ _ (0, 0) r1).trans rfl
        have HAl := Lib.hid (HAl.out w4 hb4)
        have HB4 := below_step HB3 hb4
        clear hb4 r0 r1 x0 x1 x2 x3 x4 x5 x6 y0 y1 y2 y3 y4 y5 y6 hx3
        by_cases hsp : x.space = y.space
        · have hs1 : (x.space == y.space) = true := by simp [hsp]
          by_cases hnm : x.name = y.name
          · have hn2 : (x.name.toList == y.name.toList) = true := by simp [hnm]
            have HR := Lib.hid (HR.out (A.alikeB x.attrs y.attrs) (by unfold twin; rw [decide_eq_true hsp, decide_eq_true hnm]; rfl))
            clear hsp hnm
            generalize A.alikeB x.attrs y.attrs = q at *
            go_wp2_with fail
            refine HAl.out.mono ?_
            rintro e w5 ⟨rfl, hb5⟩
            go_wp2
            go_ret
            exact ⟨HR.out, (below_step HB4 hb5).out⟩
          · have hn2 : (x.name.toList == y.name.toList) = false := by
              rw [beq_eq_false_iff_ne]; intro e; apply hnm; apply eqB; rw [ByteArray.toList_eq, ByteArray.toList_eq] at e; exact e
            have HR := Lib.hid (HR.out false (by unfold twin; rw [decide_eq_false hnm, Bool.and_false, Bool.false_and]))
            clear hsp hnm
            go_wp2
            go_ret
            exact ⟨HR.out, HB4.out⟩
        · have hs1 : (x.space == y.space) = false := by simpa using hsp
          have HR := Lib.hid (HR.out false (by unfold twin; rw [decide_eq_false hsp, Bool.false_and, Bool.false_and]))
          clear hsp
          go_wp2
          go_ret
          exact ⟨HR.out, HB4.out⟩
      · have hb4 : Below w3.heap.size w3 (((w3.alloc (.cells #[.int .i64 y.kind, .int .i64 y.space, .string y.name, .slice a2 y.attrs.length c2, .string y.data, .int .i64 y.up, .slice k2 y.kids.length d2] 66)).alloc (.cells #[.int .i64 x.kind, .int .i64 x.space, .string x.name, .slice a1 x.attrs.length c1, .string x.data, .int .i64 x.up, .slice k1 x.kids.length d1] 66)).drew) := drewB1 ((below_box w3 _).trans ((below_box _ _).mono (by simp)))
        have r0 : (((w3.alloc (.cells #[.int .i64 y.kind, .int .i64 y.space, .string y.name, .slice a2 y.attrs.length c2, .string y.data, .int .i64 y.up, .slice k2 y.kids.length d2] 66)).alloc (.cells #[.int .i64 x.kind, .int .i64 x.space, .string x.name, .slice a1 x.attrs.length c1, .string x.data, .int .i64 x.up, .slice k1 x.kids.length d1] 66)).drew).heap[w3.heap.size]? = some (.cells #[.int .i64 y.kind, .int .i64 y.space, .string y.name, .slice a2 y.attrs.length c2, .string y.data, .int .i64 y.up, .slice k2 y.kids.length d2] 66 (0, 0)) := (Below.heap_alloc _ _ _ (by simp)).trans (heap_alloc_new w3 _)
        have r1 : (((w3.alloc (.cells #[.int .i64 y.kind, .int .i64 y.space, .string y.name, .slice a2 y.attrs.length c2, .string y.data, .int .i64 y.up, .slice k2 y.kids.length d2] 66)).alloc (.cells #[.int .i64 x.kind, .int .i64 x.space, .string x.name, .slice a1 x.attrs.length c1, .string x.data, .int .i64 x.up, .slice k1 x.kids.length d1] 66)).drew).heap[w3.heap.size + 1]? = some (.cells #[.int .i64 x.kind, .int .i64 x.space, .string x.name, .slice a1 x.attrs.length c1, .string x.data, .int .i64 x.up, .slice k1 x.kids.length d1] 66 (0, 0)) := by
          have h := heap_alloc_new (w3.alloc (.cells #[.int .i64 y.kind, .int .i64 y.space, .string y.name, .slice a2 y.attrs.length c2, .string y.data, .int .i64 y.up, .slice k2 y.kids.length d2] 66)) (.cells #[.int .i64 x.kind, .int .i64 x.space, .string x.name, .slice a1 x.attrs.length c1, .string x.data, .int .i64 x.up, .slice k1 x.kids.length d1] 66)
          rw [show (w3.alloc (.cells #[.int .i64 y.kind, .int .i64 y.space, .string y.name, .slice a2 y.attrs.length c2, .string y.data, .int .i64 y.up, .slice k2 y.kids.length d2] 66)).heap.size = w3.heap.size + 1 by simp] at h
          exact h
        generalize ((w3.alloc (.cells #[.int .i64 y.kind, .int .i64 y.space, .string y.name, .slice a2 y.attrs.length c2, .string y.data, .int .i64 y.up, .slice k2 y.kids.length d2] 66)).alloc (.cells #[.int .i64 x.kind, .int .i64 x.space, .string x.name, .slice a1 x.attrs.length c1, .string x.data, .int .i64 x.up, .slice k1 x.kids.length d1] 66)).drew = w4 at *
        have x14 : w4.cell? ⟨w3.heap.size + 1, 1, none⟩ = some (.int .i64 x.space) := (cell_of_row w4 (w3.heap.size + 1) 1 _ _ (0, 0) r1).trans rfl
        have x24 : w4.cell? ⟨w3.heap.size + 1, 2, none⟩ = some (.string x.name) := (cell_of_row w4 (w3.heap.size + 1) 2 _ _ (0, 0) r1).trans rfl
        have x34 : w4.cell? ⟨w3.heap.size + 1, 3, none⟩ = some (.slice a1 x.attrs.length c1) := (cell_of_row w4 (w3.heap.size + 1) 3 _ _ (0, 0) r1).trans rfl
        have y14 : w4.cell? ⟨w3.heap.size, 1, none⟩ = some (.int .i64 y.space) := (cell_of_row w4 (w3.heap.size) 1 _ _ (0, 0) r0).trans rfl
        have y24 : w4.cell? ⟨w3.heap.size, 2, none⟩ = some (.string y.name) := (cell_of_row w4 (w3.heap.size) 2 _ _ (0, 0) r0).trans rfl
        have y34 : w4.cell? ⟨w3.heap.size, 3, none⟩ = some (.slice a2 y.attrs.length c2) := (cell_of_row w4 (w3.heap.size) 3 _ _ (0, 0) r0).trans rfl
        have HAl := Lib.hid (HAl.out w4 hb4)
        have HB4 := below_step HB3 hb4
        clear hb4 r0 r1 x0 x1 x2 x3 x4 x5 x6 y0 y1 y2 y3 y4 y5 y6 hx3
        by_cases hsp : x.space = y.space
        · have hs1 : (x.space == y.space) = true := by simp [hsp]
          by_cases hnm : x.name = y.name
          · have hn2 : (x.name.toList == y.name.toList) = true := by simp [hnm]
            have HR := Lib.hid (HR.out (A.alikeB x.attrs y.attrs) (by unfold twin; rw [decide_eq_true hsp, decide_eq_true hnm]; rfl))
            clear hsp hnm
            generalize A.alikeB x.attrs y.attrs = q at *
            go_wp2_with fail
            refine HAl.out.mono ?_
            rintro e w5 ⟨rfl, hb5⟩
            go_wp2
            go_ret
            exact ⟨HR.out, (below_step HB4 hb5).out⟩
          · have hn2 : (x.name.toList == y.name.toList) = false := by
              rw [beq_eq_false_iff_ne]; intro e; apply hnm; apply eqB; rw [ByteArray.toList_eq, ByteArray.toList_eq] at e; exact e
            have HR := Lib.hid (HR.out false (by unfold twin; rw [decide_eq_false hnm, Bool.and_false, Bool.false_and]))
            clear hsp hnm
            go_wp2
            go_ret
            exact ⟨HR.out, HB4.out⟩
        · have hs1 : (x.space == y.space) = false := by simpa using hsp
          have HR := Lib.hid (HR.out false (by unfold twin; rw [decide_eq_false hsp, Bool.false_and, Bool.false_and]))
          clear hsp
          go_wp2
          go_ret
          exact ⟨HR.out, HB4.out⟩
end Go.Proofs.Ytkkngflpmdcfjaa
