/-
  The walk of Clear; what a range over an iterator's rounds keeps of the variables around it.
-/
import Derived.Test.YtkkngflpmdcfjaaYList
namespace Go.Proofs.Ytkkngflpmdcfjaa
open Go.RowKit

attribute [local go_sem] Oper.semAt_some
/-- Variables around a range over a function: where they lie, and what they hold. -/
def HV (w0 : World) (n₁ : Nat) (vs : List (Nat × TypeId × Value)) (Z : Nat → Prop) (W : World) : Prop :=
  (∀ x ∈ vs, Boxed W x.1 x.2.1 x.2.2 ∧ ¬ Z x.1 ∧ w0.heap.size ≤ x.1 ∧ x.1 < n₁) ∧ (∀ k, Z k → n₁ ≤ k ∧ k < W.heap.size) ∧ Below w0.heap.size w0 W ∧ n₁ ≤ W.heap.size ∧ w0.heap.size ≤ n₁
theorem HV.outs {w0 A W : World} {n₁ : Nat} {vs : List (Nat × TypeId × Value)} {Z : Nat → Prop} (h : HV w0 n₁ vs Z A) (hO : Outs Z A W) : HV w0 n₁ vs (Zs Z A W) W := by
  obtain ⟨h1, hz, hb, hn, hw⟩ := h
  refine ⟨fun x hx => ?_, fun k hk => hk.elim (fun h => ⟨(hz k h).1, Nat.lt_of_lt_of_le (hz k h).2 hO.size⟩) (fun h => ⟨by omega, h.2⟩), ?_, Nat.le_trans hn hO.size, hw⟩
  · obtain ⟨b1, b2, b3, b4⟩ := h1 x hx
    exact ⟨(hO.block _ b1.lt b2).trans b1, fun e => e.elim b2 (fun h => by have := b1.lt; omega), b3, b4⟩
  · exact ⟨hO.os.trans hb.os, hO.tape.trans hb.tape, hO.output.trans hb.output, Nat.le_trans hb.size hO.size, fun k hk => (hO.block k (Nat.lt_of_lt_of_le hk hb.size) (fun e => by
      have h2 := (hz k e).1; omega)).trans (hb.block k hk)⟩
theorem HV.alloc {w0 A : World} {n₁ : Nat} {vs : List (Nat × TypeId × Value)} {Z : Nat → Prop} (h : HV w0 n₁ vs Z A) (o : Obj) : HV w0 n₁ vs Z (A.alloc o) := by
  obtain ⟨h1, hz, hb, hn, hw⟩ := h
  have hs : A.heap.size ≤ (A.alloc o).heap.size := by simp
  exact ⟨fun x hx => by obtain ⟨b1, b2⟩ := h1 x hx; exact ⟨b1.alloc o, b2⟩, fun k hk => ⟨(hz k hk).1, Nat.lt_of_lt_of_le (hz k hk).2 hs⟩, hb.alloc hb.size o, Nat.le_trans hn hs, hw⟩
theorem HV.put {w0 A : World} {n₁ : Nat} {vs : List (Nat × TypeId × Value)} {Z : Nat → Prop} (h : HV w0 n₁ vs Z A) {l : Nat} {o : Obj} {o' : Obj} (hl : n₁ ≤ l) (hlo : A.heap[l]? = some o) : HV w0 n₁ vs Z (A.putObj l o') := by
  obtain ⟨h1, hz, hb, hn, hw⟩ := h
  have hs : (A.putObj l o').heap.size = A.heap.size := by simp [World.putObj]
  exact ⟨fun x hx => by obtain ⟨b1, b2, b3, b4⟩ := h1 x hx; exact ⟨(World.putObj_heap_other (by omega)).trans b1, b2, b3, b4⟩, fun k hk => by rw [hs]; exact hz k hk, hb.trans (put_below (by omega) hlo), by rw [hs]; exact hn, hw⟩
theorem HV.drew {w0 A : World} {n₁ : Nat} {vs : List (Nat × TypeId × Value)} {Z : Nat → Prop} (h : HV w0 n₁ vs Z A) (d : Nat) : HV w0 n₁ vs Z { A with drawn := d } := by
  obtain ⟨h1, hz, hb, hn, hw⟩ := h
  exact ⟨h1, hz, ⟨hb.os, hb.tape, hb.output, hb.size, hb.block⟩, hn, hw⟩
/-- A round that only makes memory keeps them. -/
theorem HV.below {w0 A W : World} {n₁ : Nat} {vs : List (Nat × TypeId × Value)} {Z : Nat → Prop} (h : HV w0 n₁ vs Z A) (hb2 : Below A.heap.size A W) : HV w0 n₁ vs Z W := by
  obtain ⟨h1, hz, hb, hn, hw⟩ := h
  exact ⟨fun x hx => by obtain ⟨b1, b2, b3, b4⟩ := h1 x hx; exact ⟨(hb2.block _ b1.lt).trans b1, b2, b3, b4⟩, fun k hk => ⟨(hz k hk).1, Nat.lt_of_lt_of_le (hz k hk).2 hb2.size⟩, hb.trans (hb2.mono hb.size), Nat.le_trans hn hb2.size, hw⟩
theorem keeps_below {B : Nat} {A W : World} (h : Below A.heap.size A W) : KeepsFrom B A W := ⟨h.size, fun k _ _ hk _ => (h.block k (Array.getElem?_eq_some_iff.1 hk).1).trans hk⟩
def fromP (n : Int) (pre : List (Nat × Int)) : Int := pre.foldl (fun _ x => (x.1 : Int)) n
theorem fromP_snoc (n : Int) (pre : List (Nat × Int)) (x : Nat × Int) : fromP n (pre ++ [x]) = (x.1 : Int) := by unfold fromP; rw [List.foldl_append]; rfl
def endN (zs : List Int) : Nat → Nat
  | 0 => 0
  | k + 1 => if zs.getD k 0 = -1 then k + 1 else endN zs k
/-- Where the end of a list begins. -/
def endI (zs : List Int) : Nat := endN zs zs.length
theorem endN_le (zs : List Int) : ∀ k, endN zs k ≤ k
  | 0 => Nat.le_refl _
  | k + 1 => by unfold endN; split; exact Nat.le_refl _; have := endN_le zs k; omega
theorem from_end (zs : List Int) : ∀ (k : Nat) (n : Int), fromP n ((bkN zs k).takeWhile fun x => decide (x.2 ≠ -1)) = if endN zs k = k then n else (endN zs k : Int)
  | 0, n => by simp [bkN, fromP, endN]
  | k + 1, n => by
    unfold bkN endN
    rw [List.takeWhile_cons]
    by_cases h : zs.getD k 0 = -1
    · rw [if_neg (by simpa using h), if_pos h, if_pos rfl]; rfl
    · rw [if_pos (by simpa using h), if_neg h]
      show fromP (k : Int) _ = _
      rw [from_end zs k]
      have := endN_le zs k
      rw [if_neg (show ¬ endN zs k = k + 1 by omega)]
      split
      · rename_i e; rw [e]
      · rfl
theorem from_endI (zs : List Int) : fromP (zs.length : Int) (endE zs) = (endI zs : Int) := by
  unfold endE bk endI
  rw [from_end]
  split
  · rename_i e; rw [e]
  · rfl
theorem woN_clear (f : Nat) (xs : List Int) : ∀ k, k ≤ xs.length → woN (clearG (f : Int)) xs k = (xs.take k).take (f - 1)
  | 0, _ => by simp [woN]
  | k + 1, h => by
    unfold woN
    have e : xs.getD k 0 = xs[k]'(by omega) := by rw [List.getD_eq_getElem?_getD, List.getElem?_eq_getElem (by omega)]; rfl
    rw [woN_clear f xs k (by omega), e, List.take_take, List.take_take]
    unfold clearG
    by_cases h1 : (f : Int) - 1 ≤ (k : Int)
    · rw [if_pos (decide_eq_true h1), List.append_nil]
      congr 1; omega
    · rw [if_neg (by simpa using h1)]
      have e1 : min (f - 1) k = k := by omega
      have e2 : min (f - 1) (k + 1) = k + 1 := by omega
      rw [e1, e2, List.take_add_one, List.getElem?_eq_getElem (by omega)]; rfl
def clearP (xs : List Int) : List Int := xs.take (endI xs - 1)

set_option maxRecDepth 100000 in
set_option maxHeartbeats 4000000 in
theorem clear_any (a : Option Addr) (cap : Nat) (xs : List Int) (w : World) (hA : IntsAt w a xs) (hl : xs.length ≤ 1000000) :
    Calls Try.prog 62 #[.slice a xs.length cap] w (RetI (clearP xs) w) := by
  have HA := Lib.hid hA
  have hl2 : (xs.length : Int) ≤ 1000000 := by omega
  refine (callsIn_wide (n := 5)).1 ?_
  refine callsIn_of_wp_marks Try.func62 rfl trivial ?_ rfl
  simp only [Try.ntmps62, List.size_toArray, List.length_cons, List.length_nil, Nat.reduceAdd, Nat.reduceSub, Array.replicate_succ, Array.replicate_zero, List.push_toArray, List.append_toArray, List.nil_append, List.cons_append]
  gi_wp2_with (refine ⟨trivial, ?_⟩; gi_at_call 116; refine (endf_any Fence.wide _ trivial rfl _ _ ⟨_, _, _, rfl⟩).mono ?_; rintro e w' ⟨rfl, rfl⟩)
  have hs0 : (w.alloc (.cells #[.int .i64 xs.length] 3)).heap.size = w.heap.size + 1 := by simp
  have b1 : Boxed ((w.alloc (.cells #[.int .i64 xs.length] 3)).alloc (.cells #[.slice a xs.length cap] 29)) w.heap.size 3 (.int .i64 xs.length) := (Boxed.new w 3 (.int .i64 xs.length)).alloc _
  have b2 := heap_alloc_new (w.alloc (.cells #[.int .i64 xs.length] 3)) (.cells #[.slice a xs.length cap] 29)
  rw [hs0] at b2
  have hB0 : Below w.heap.size w ((w.alloc (.cells #[.int .i64 xs.length] 3)).alloc (.cells #[.slice a xs.length cap] 29)) := ((Below.refl _ w).alloc (Nat.le_refl _) _).alloc (by simp) _
  have hsz : ((w.alloc (.cells #[.int .i64 xs.length] 3)).alloc (.cells #[.slice a xs.length cap] 29)).heap.size = w.heap.size + 2 := by simp
  generalize (w.alloc (.cells #[.int .i64 xs.length] 3)).alloc (.cells #[.slice a xs.length cap] 29) = w2 at *
  refine wpIn_rangeFunc_Y rfl (by omega) (gf := 151) (lb := #[.pointer (some ⟨w.heap.size + 1, 0, none⟩)]) rfl trivial (enters_of Try.func151 (by kernel_rfl) rfl)
    (end_seq 4 (by omega) (w.heap.size + 1) w.heap.size a cap xs hl w2 (HA.out.b.below hB0) b2 (by omega)) (by omega) (by omega) (Below.refl _ _) (fun _ => rfl)
    (fun pre Z A => HV w (w.heap.size + 2) [(w.heap.size, 3, .int .i64 (fromP (xs.length : Int) pre))] Z A)
    (fun _ _ _ _ => False)
    ?hI (fun _ _ _ _ _ h _ => h.elim) ?hIa ?hIp (fun _ _ _ _ _ _ _ h _ _ _ _ => h.elim) ?h0
    (fun x => { tmps := #[.slice a xs.length cap, undef, .slice none 0 0, .pointer (some ⟨w.heap.size, 0, none⟩), .int .i64 (x.1 : Nat), .slice a xs.length cap, .int .i64 xs.length, .slice a xs.length cap, .func (.func 151) #[] #[.pointer (some ⟨w.heap.size + 1, 0, none⟩)], .int .i64 (x.1 : Nat), .int .i64 x.2, undef, undef, undef, undef], defers := [] }) ?assign ?body ?done ?stop
  case hI => intro pre Z A B h hO; exact h.outs hO
  case hIa => intro pre Z A o h; exact h.alloc o
  case hIp => intro pre Z A l o o' h hl ho _ _; exact h.put (by omega) ho
  case h0 => exact ⟨fun x hx => by simp at hx; subst hx; exact ⟨b1, fun h => h, Nat.le_refl _, by omega⟩, fun k h => h.elim, hB0, by omega, by omega⟩
  case assign =>
    intro l x W K hK
    dsimp only [encI]
    gi_wp2
    exact hK
  case body =>
    rintro l pre Z ⟨at_, i⟩ W hsW hI _
    obtain ⟨h1, hz, hb, hn, hw⟩ := hI
    obtain ⟨c1, c2, c3, c4⟩ := h1 _ (List.mem_cons_self ..)
    have hc := c1.cell
    have hf := c1.frozen
    dsimp only at c1 c2 c3 c4 hc hf
    have HFin : Hid (postY w2.heap.size w.heap.size (w.heap.size + 1) (fun pre Z A => HV w (w.heap.size + 2) [(w.heap.size, 3, .int .i64 (fromP (xs.length : Int) pre))] Z A) (fun _ _ _ _ => False) (pre ++ [(at_, i)]) Z W Exit.normal { tmps := #[], defers := [] } (W.setCell ⟨w.heap.size, 0, none⟩ (.int .i64 (at_ : Nat)))) := Lib.hid (by
      have hs : (W.setCell ⟨w.heap.size, 0, none⟩ (.int .i64 (at_ : Nat))).heap.size = W.heap.size := by simp
      have hoth : ∀ k, k ≠ w.heap.size → (W.setCell ⟨w.heap.size, 0, none⟩ (.int .i64 (at_ : Nat))).heap[k]? = W.heap[k]? := fun k hk => heap_setCell_other W ⟨w.heap.size, 0, none⟩ k _ hk
      refine ⟨(KeepsOthers.setCell _ _ _).from _, ⟨(Below.refl _ _).setCell (p := ⟨w.heap.size, 0, none⟩) (Nat.le_refl _) _, hoth _ (by omega)⟩, fun k hk => hoth k (by have := (hz k hk).1; omega), ?_⟩
      refine ⟨fun x hx => ?_, fun k hk => by rw [hs]; exact hz k hk, hb.setCell (p := ⟨w.heap.size, 0, none⟩) (Nat.le_refl _) _, by rw [hs]; exact hn, hw⟩
      simp at hx
      subst hx
      rw [fromP_snoc]
      exact ⟨c1.set _, c2, c3, c4⟩)
    clear c1 c2 c3 c4 h1 hz hb hn hw b1 b2
    gi_wp2
    exact HFin.out
  case done =>
    rintro D ys Z W rfl hall hI hK hzD
    obtain ⟨h1, hz, hb, hn, hw⟩ := hI
    obtain ⟨c1, c2, c3, c4⟩ := h1 _ (List.mem_cons_self ..)
    have hf := from_endI xs
    have hle := endN_le xs xs.length
    rw [hall, hf] at c1
    dsimp only at c1 c2 c3 c4
    have hle2 : (endI xs : Int) ≤ 1000000 := by
      have : endI xs ≤ xs.length := hle
      omega
    have HW := Lib.hid (without_clear a cap xs (endI xs : Int) w.heap.size W hl (HA.out.below hb) c1.lt c1.cell ⟨by omega, hle2⟩)
    rw [woN_clear (endI xs) xs _ (Nat.le_refl _), List.take_length] at HW
    have HK := Lib.hid hK
    have HB := Lib.hid hb
    clear c1 c2 c3 c4 h1 hz hb hn hw hall b1 b2 hA hf hle hle2
    gi_wp2_with (refine ⟨trivial, ?_⟩; gi_at_call 119; refine (callsIn_wide.2 HW.out).mono ?_)
    rintro e w4 ⟨v, rfl, hk, ho, hb⟩
    have HK4 := Lib.hid ((hb.block _ (Array.getElem?_eq_some_iff.1 HK.out).1).trans HK.out)
    rw [hsz] at HK4
    have HKr := Lib.hid hk
    have HO4 := Lib.hid ho
    have HB4 := below_step HB hb
    clear hk ho hb HW
    gi_wp2
    refine ⟨by simp, .inl ⟨_, _, rfl, run_takeDeferred HK4.out, ?_⟩⟩
    refine ⟨_, results_tmp rfl _ _ _, _, rfl, ?_, fun g hg => by have := HO4.out g hg; have := HB.out.size; omega, HB4.out.trans (put_below (by omega) HK4.out)⟩
    refine HKr.out.kept fun g hg => World.putObj_heap_other (fun e => ?_)
    obtain ⟨c9, fz9, hc9⟩ := HKr.out.kind hg
    first
      | (rw [e, HK4.out] at hc9; cases hc9)
      | (rw [← e, HK4.out] at hc9; cases hc9)
  case stop =>
    rintro D c pre Z W _ _ h _ _
    exact h.elim
end Go.Proofs.Ytkkngflpmdcfjaa
