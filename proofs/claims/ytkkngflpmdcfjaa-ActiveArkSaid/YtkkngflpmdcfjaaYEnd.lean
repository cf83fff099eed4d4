/-
  What stands behind the last mark of a list, the last one first.
-/
import Derived.Test.YtkkngflpmdcfjaaYBack
namespace Go.Proofs.Ytkkngflpmdcfjaa
open Go.RowKit

attribute [local go_sem] Oper.semAt_some
/-- What stands behind the last mark. -/
def endE (zs : List Int) : List (Nat × Int) := (bk zs).takeWhile fun x => decide (x.2 ≠ -1)
theorem endE_go {zs : List Int} {pre r : List (Nat × Int)} {x : Nat × Int} (h : pre ++ x :: r = bk zs) (hp : pre <+: endE zs) (hx : x.2 ≠ -1) : pre ++ [x] <+: endE zs := by
  have key : ∀ (L pre : List (Nat × Int)), pre ++ x :: r = L → pre <+: L.takeWhile (fun x => decide (x.2 ≠ -1)) → pre ++ [x] <+: L.takeWhile (fun x => decide (x.2 ≠ -1)) := by
    intro L pre
    induction pre generalizing L with
    | nil =>
      rintro rfl _
      rw [List.nil_append, List.nil_append, List.takeWhile_cons, if_pos (by simpa using hx)]
      exact ⟨_, rfl⟩
    | cons y pre ih =>
      rintro rfl hp
      simp only [List.cons_append, List.takeWhile_cons] at hp ⊢
      split at hp
      · rename_i hy
        rw [List.cons_prefix_cons] at hp
        rw [if_pos hy, List.cons_prefix_cons]
        exact ⟨rfl, ih _ rfl hp.2⟩
      · have := hp.length_le; simp at this
  exact key _ _ h hp
theorem endE_stop {zs : List Int} {pre r : List (Nat × Int)} {x : Nat × Int} (h : pre ++ x :: r = bk zs) (hp : pre <+: endE zs) (hx : x.2 = -1) : pre = endE zs := by
  have key : ∀ (L pre : List (Nat × Int)), pre ++ x :: r = L → pre <+: L.takeWhile (fun x => decide (x.2 ≠ -1)) → pre = L.takeWhile (fun x => decide (x.2 ≠ -1)) := by
    intro L pre
    induction pre generalizing L with
    | nil =>
      rintro rfl _
      rw [List.nil_append, List.takeWhile_cons, if_neg (by simpa using hx)]
    | cons y pre ih =>
      rintro rfl hp
      simp only [List.cons_append, List.takeWhile_cons] at hp ⊢
      split at hp
      · rename_i hy
        rw [List.cons_prefix_cons] at hp
        rw [if_pos hy, ← ih _ rfl hp.2]
      · have := hp.length_le; simp at this
  exact key _ _ h hp
theorem endE_all {zs : List Int} {pre : List (Nat × Int)} (h : pre = bk zs) (hp : pre <+: endE zs) : pre = endE zs := by
  have h1 : endE zs <+: bk zs := List.takeWhile_prefix _
  have h2 := hp.length_le
  have h3 := h1.length_le
  rw [← h] at h3
  exact hp.eq_of_length (by omega)
/-- slices.Backward boxes its list. -/
theorem backf_any (F : Fence) (m : Nat) (h6 : F.fn 152) (hro : F.round = none) (u : Value) (w : World) (hu : ∃ a n c, u = .slice a n c) :
    CallsIn F m Try.prog 152 #[u] w fun e w' => e = .returned (.func (.func 167) #[] #[.pointer (some ⟨w.heap.size, 0, none⟩)]) ∧ w' = w.alloc (.cells #[u] 29) := by
  obtain ⟨a, n, c, rfl⟩ := hu
  refine callsIn_of_wp Try.func152 rfl h6 ?_ hro
  simp only [Try.ntmps152, List.size_toArray, List.length_cons, List.length_nil, Nat.reduceAdd, Nat.reduceSub, Array.replicate_succ, Array.replicate_zero, List.push_toArray, List.append_toArray, List.nil_append, List.cons_append]
  gi_wp2
  refine bodyPost_ret (results_tmp rfl _ _ _) rfl ?_
  exact ⟨rfl, rfl⟩
theorem endf_any (F : Fence) (m : Nat) (h6 : F.fn 116) (hro : F.round = none) (u : Value) (w : World) (hu : ∃ a n c, u = .slice a n c) :
    CallsIn F m Try.prog 116 #[u] w fun e w' => e = .returned (.func (.func 151) #[] #[.pointer (some ⟨w.heap.size, 0, none⟩)]) ∧ w' = w.alloc (.cells #[u] 29) := by
  obtain ⟨a, n, c, rfl⟩ := hu
  refine callsIn_of_wp Try.func116 rfl h6 ?_ hro
  simp only [Try.ntmps116, List.size_toArray, List.length_cons, List.length_nil, Nat.reduceAdd, Nat.reduceSub, Array.replicate_succ, Array.replicate_zero, List.push_toArray, List.append_toArray, List.nil_append, List.cons_append]
  gi_wp2
  refine bodyPost_ret (results_tmp rfl _ _ _) rfl ?_
  exact ⟨rfl, rfl⟩
theorem round_deep {n n' r : Nat} {P : Program} {l : Nat} {f : FuncId} {tmps : Array Value} {assign body : Code} {w : World} {R : Ending → World → Prop} (h : RoundIn Fence.wide n P l f tmps assign body w R) : RoundIn (Fence.wide.inRound r) n' P l f tmps assign body w R :=
  ⟨trivial, fun c cs _ => h.2 c cs (room_wide _)⟩
theorem outs_put {Z : Nat → Prop} {A : World} {l : Nat} (o' : Obj) (hz : Z l) : Outs Z A (A.putObj l o') :=
  ⟨rfl, rfl, rfl, (grownBy_putObj' A l o').size, fun _ _ hk => World.putObj_heap_other (fun e => hk (by first | (rw [e]; exact hz) | (rw [← e]; exact hz)))⟩
theorem outs_alloc (Z : Nat → Prop) (A : World) (o : Obj) : Outs Z A (A.alloc o) := ⟨rfl, rfl, rfl, by simp, fun _ hk _ => Below.heap_alloc _ _ _ hk⟩
theorem Outs.mono {Z Z' : Nat → Prop} {A B : World} (h : Outs Z A B) (hz : ∀ k, Z k → Z' k) : Outs Z' A B := ⟨h.os, h.tape, h.output, h.size, fun k hk hn => h.block k hk fun e => hn (hz k e)⟩
theorem Outs.below {Z : Nat → Prop} {A B : World} {n₀ : Nat} (h : Outs Z A B) (hz : ∀ k, Z k → n₀ ≤ k) (hn : n₀ ≤ A.heap.size) : Below n₀ A B := ⟨h.os, h.tape, h.output, h.size, fun k hk => h.block k (by omega) fun e => by have := hz k e; omega⟩
theorem keeps_up {B B' : Nat} {A C : World} (h : KeepsFrom B A C) (hB : B ≤ B') : KeepsFrom B' A C := ⟨h.size, fun k o hk h1 h2 => h.same k o (Nat.le_trans hB hk) h1 h2⟩
/-- What lies in the iterator's own blocks: its loop's, and the two ahead of them. -/
structure EndX (w2 : Nat) (Z Zo : Nat → Prop) (A : World) : Prop where
  sub : ∀ k, Z k → Zo k
  zlo : ∀ k, Z k → w2 ≤ k
  loops : ∀ k, w2 ≤ k → k < w2 + 2 → k < A.heap.size → Zo k
  size : w2 ≤ A.heap.size
  own : Zo (w2 - 1) ∧ Zo (w2 - 2)
theorem EndX.outs {w2 : Nat} {Z Zo : Nat → Prop} {A B : World} (h : EndX w2 Z Zo A) (hO : Outs Z A B) : EndX w2 (Zs Z A B) (Zs Zo A B) B :=
  ⟨fun k hk => hk.imp (h.sub k) id, fun k hk => hk.elim (h.zlo k) (fun e => by have := h.size; omega),
    fun k h1 h3 h4 => by
      rcases Nat.lt_or_ge k A.heap.size with h5 | h5
      · exact .inl (h.loops k h1 h3 h5)
      · exact .inr ⟨h5, h4⟩,
    Nat.le_trans h.size hO.size, .inl h.own.1, .inl h.own.2⟩
theorem EndX.kept {w2 : Nat} {Z : Nat → Prop} {k : Nat} {o : Obj} {Zo : Nat → Prop} {A B : World} (h : EndX w2 Z Zo A) (hO : Outs Z A B) (hk : k < w2) (ho : A.heap[k]? = some o) : B.heap[k]? = some o :=
  (hO.block _ (Array.getElem?_eq_some_iff.1 ho).1 (fun e => by have := h.zlo _ e; omega)).trans ho
theorem EndX.alloc {w2 : Nat} {Z Zo : Nat → Prop} {A : World} (h : EndX w2 Z Zo A) (o : Obj) : EndX w2 Z (Zs Zo A (A.alloc o)) (A.alloc o) :=
  ⟨fun k hk => .inl (h.sub k hk), h.zlo, fun k h1 h3 h4 => by
      rcases Nat.lt_or_ge k A.heap.size with h5 | h5
      · exact .inl (h.loops k h1 h3 h5)
      · exact .inr ⟨h5, h4⟩, by have := h.size; simp; omega, .inl h.own.1, .inl h.own.2⟩
theorem EndX.put {w2 : Nat} {Z Zo : Nat → Prop} {A : World} (h : EndX w2 Z Zo A) {l : Nat} (hl : l = w2 ∨ l = w2 + 1) {o : Obj} (ho : A.heap[l]? = some o) (o' : Obj) : EndX w2 Z (Zs Zo A (A.putObj l o')) (A.putObj l o') ∧ Zo l := by
  have hs : (A.putObj l o').heap.size = A.heap.size := by simp [World.putObj]
  refine ⟨⟨fun k hk => .inl (h.sub k hk), h.zlo, fun k h1 h3 h4 => .inl (h.loops k h1 h3 (by rw [← hs]; exact h4)), by rw [hs]; exact h.size, .inl h.own.1, .inl h.own.2⟩, h.loops l (by omega) (by omega) (Array.getElem?_eq_some_iff.1 ho).1⟩
theorem EndX.on {w2 : Nat} {Z Zo : Nat → Prop} {A B : World} (h : EndX w2 Z Zo A) (hA : w2 + 2 ≤ A.heap.size) (hs : A.heap.size ≤ B.heap.size) : EndX w2 Z Zo B :=
  ⟨h.sub, h.zlo, fun k h1 h2 _ => h.loops k h1 h2 (by omega), by omega, h.own⟩

set_option maxRecDepth 100000 in
set_option maxHeartbeats 4000000 in
theorem end_seq (m : Nat) (hm : 2 ≤ m) (Be n₀ : Nat) (a : Option Addr) (cap : Nat) (zs : List Int) (hz : zs.length ≤ 1000000) (w : World)
    (hT : IntsB w n₀ a zs) (hbox : w.heap[Be]? = some (.cells #[.slice a zs.length cap] 29 (0, 0))) (hn₀ : n₀ ≤ w.heap.size) :
    SeqY Fence.wide m Try.prog 151 #[.pointer (some ⟨Be, 0, none⟩)] encI n₀ Be (fun xs => xs = endE zs) (fun pre => pre <+: endE zs) w := by
  intro lp J Jx W hbW hJ hJx hY h0
  have HY := Lib.hid hY
  have HJ := Lib.hid hJ
  have HJx := Lib.hid hJx
  have hb0 : Be < w.heap.size := (Array.getElem?_eq_some_iff.1 hbox).1
  have hn₀W : n₀ ≤ W.heap.size := Nat.le_trans hn₀ hbW.size
  have HT0 : Hid (IntsB W n₀ a zs) := Lib.hid (hT.below (hbW.mono hn₀))
  have HX0 : Hid (W.heap[Be]? = some (.cells #[.slice a zs.length cap] 29 (0, 0))) := Lib.hid ((hbW.block _ hb0).trans hbox)
  have tc : W.cell? ⟨Be, 0, none⟩ = some (.slice a zs.length cap) := cell_of_row W Be 0 _ _ (0, 0) HX0.out
  have HJ0 := Lib.hid h0
  have hbl : Be < W.heap.size := (Array.getElem?_eq_some_iff.1 HX0.out).1
  clear hT hbox hY hJ hJx h0 hbW
  show CallsIn Fence.wide m Try.prog 151 #[.func (.yield lp) #[] #[], .pointer (some ⟨Be, 0, none⟩)] W _
  refine callsIn_of_wp_marks Try.func151 rfl trivial ?_ rfl
  simp only [Try.ntmps151, List.size_toArray, List.length_cons, List.length_nil, Nat.reduceAdd, Nat.reduceSub, Array.replicate_succ, Array.replicate_zero, List.push_toArray, List.append_toArray, List.nil_append, List.cons_append]
  gi_wp2_with (refine ⟨trivial, fun h => (by cases h), ?_⟩; gi_at_call 152; refine (backf_any Fence.wide _ trivial rfl _ _ ⟨_, _, _, rfl⟩).mono ?_; rintro e w' ⟨rfl, rfl⟩)
  have HX1 : Hid ((W.alloc (.cells #[.func (.yield lp) #[] #[]] 101)).heap[Be]? = some (.cells #[.slice a zs.length cap] 29 (0, 0))) := Lib.hid ((Below.heap_alloc _ _ _ hbl).trans HX0.out)
  have HO1 := Lib.hid (outs_alloc (fun _ => False) W (.cells #[.func (.yield lp) #[] #[]] 101))
  have HJ1 := Lib.hid (HJ.out _ _ _ _ HJ0.out HO1.out)
  have HY1 := Lib.hid (heap_alloc_new W (.cells #[.func (.yield lp) #[] #[]] 101))
  obtain ⟨w1, ew1⟩ : ∃ w1, w1 = W.alloc (.cells #[.func (.yield lp) #[] #[]] 101) := ⟨_, rfl⟩
  have s1 : w1.heap.size = W.heap.size + 1 := by rw [ew1]; simp
  rw [← ew1] at HX1 HJ1 HO1 HY1 ⊢
  have HO2 := Lib.hid (outs_alloc (Zs (fun _ => False) W w1) w1 (.cells #[.slice a zs.length cap] 29))
  have HJ2 := Lib.hid (HJ.out _ _ _ _ HJ1.out HO2.out)
  have HX2 := Lib.hid (heap_alloc_new w1 (.cells #[.slice a zs.length cap] 29))
  have HY2 : Hid ((w1.alloc (.cells #[.slice a zs.length cap] 29)).heap[W.heap.size]? = some (.cells #[.func (.yield lp) #[] #[]] 101 (0, 0))) := Lib.hid ((Below.heap_alloc _ _ _ (by omega)).trans HY1.out)
  have HT2 : Hid (IntsB (w1.alloc (.cells #[.slice a zs.length cap] 29)) n₀ a zs) := Lib.hid (HT0.out.below (((HO1.out.below (fun _ h => h.elim) hn₀W)).trans ((Below.refl n₀ w1).alloc (by omega) _)))
  obtain ⟨w2, ew2⟩ : ∃ w2, w2 = w1.alloc (.cells #[.slice a zs.length cap] 29) := ⟨_, rfl⟩
  have s2 : w2.heap.size = W.heap.size + 2 := by rw [ew2]; simp [s1]
  rw [← ew2] at HJ2 HX2 HO2 HY2 HT2 ⊢
  rw [s1] at HX2
  clear ew1 ew2 tc HX0 HJ0 HJ1 HY1 HT0
  obtain ⟨Zo0, hZo0⟩ : ∃ Zo, Zo = Zs (Zs (fun _ => False) W w1) w1 w2 := ⟨_, rfl⟩
  rw [← hZo0] at HJ2
  refine wpIn_rangeFunc_Y rfl (by omega) (gf := 167) (lb := #[.pointer (some ⟨W.heap.size + 1, 0, none⟩)]) rfl trivial (enters_of Try.func167 (by kernel_rfl) rfl)
    (back_seq Fence.wide (m - 1) trivial rfl (by omega) (W.heap.size + 1) n₀ a cap zs hz w2 HT2.out HX2.out (by omega)) (by omega) (by omega) (Below.refl _ _) (fun _ => rfl)
    (fun pre Z A => ∃ Zo, J pre Zo A ∧ EndX w2.heap.size Z Zo A ∧ pre <+: endE zs ∧ A.heap[W.heap.size]? = some (.cells #[.func (.yield lp) #[] #[]] 101 (0, 0)))
    (fun c _ Z A => c = .ret ∧ ((∃ Zo, J (endE zs) Zo A ∧ EndX w2.heap.size Z Zo A) ∨ ∃ pe Zo, pe <+: endE zs ∧ Jx pe Zo A ∧ EndX w2.heap.size Z Zo A))
    ?hI ?hIxO ?hIa ?hIp ?hIx ?h0
    (fun x => { tmps := #[.func (.yield lp) #[] #[], .pointer (some ⟨Be, 0, none⟩), .pointer (some ⟨W.heap.size, 0, none⟩), .int .i64 (x.1 : Nat), .int .i64 x.2, .slice a zs.length cap, .func (.func 167) #[] #[.pointer (some ⟨W.heap.size + 1, 0, none⟩)], .int .i64 (x.1 : Nat), .int .i64 x.2, undef, undef, undef, undef, undef, undef, undef, undef, undef], defers := [] }) ?assign ?body ?done ?stop
  case hI =>
    rintro pre Z A B ⟨Zo, h1, h2, h3, h4⟩ hO
    exact ⟨_, HJ.out _ _ _ _ h1 (hO.mono h2.sub), h2.outs hO, h3, h2.kept hO (by omega) h4⟩
  case hIxO =>
    rintro c pre Z A B ⟨hc, (⟨Zo, h1, h2⟩ | ⟨pe, Zo, h0, h1, h2⟩)⟩ hO
    · exact ⟨hc, .inl ⟨_, HJ.out _ _ _ _ h1 (hO.mono h2.sub), h2.outs hO⟩⟩
    · exact ⟨hc, .inr ⟨pe, _, h0, HJx.out _ _ _ _ h1 (hO.mono h2.sub), h2.outs hO⟩⟩
  case hIa =>
    rintro pre Z A o ⟨Zo, h1, h2, h3, h4⟩
    exact ⟨_, HJ.out _ _ _ _ h1 (outs_alloc Zo A o), h2.alloc o, h3, (Below.heap_alloc _ _ _ (Array.getElem?_eq_some_iff.1 h4).1).trans h4⟩
  case hIp =>
    rintro pre Z A l o o' ⟨Zo, h1, h2, h3, h6⟩ hl ho _ _
    obtain ⟨h4, h5⟩ := h2.put hl ho o'
    exact ⟨_, HJ.out _ _ _ _ h1 (outs_put o' h5), h4, h3, (World.putObj_heap_other (by omega)).trans h6⟩
  case hIx =>
    rintro c pre Z A l o o' ⟨hc, (⟨Zo, h1, h2⟩ | ⟨pe, Zo, h0, h1, h2⟩)⟩ hl ho _ _
    · obtain ⟨h4, h5⟩ := h2.put hl ho o'
      exact ⟨hc, .inl ⟨_, HJ.out _ _ _ _ h1 (outs_put o' h5), h4⟩⟩
    · obtain ⟨h4, h5⟩ := h2.put hl ho o'
      exact ⟨hc, .inr ⟨pe, _, h0, HJx.out _ _ _ _ h1 (outs_put o' h5), h4⟩⟩
  case h0 =>
    refine ⟨Zo0, HJ2.out, ⟨fun k h => h.elim, fun k h => h.elim, fun k h1 h2 h3 => by omega, Nat.le_refl _, ?_, ?_⟩, List.nil_prefix, HY2.out⟩
    · rw [hZo0]; exact .inr ⟨by omega, by omega⟩
    · rw [hZo0]; exact .inl (.inr ⟨by omega, by omega⟩)
  case assign =>
    intro l x W' K hK
    dsimp only [encI]
    gi_wp2
    exact hK
  case body =>
    rintro l pre Z ⟨at_, i⟩ W' hsz ⟨Zo, hj, he, hpe, hyl⟩ ⟨r, hr⟩
    have hr' : pre ++ (at_, i) :: r = bk zs := by rw [← hr]; simp
    have HJ' := Lib.hid hj
    have HE := Lib.hid he
    have HYl := Lib.hid hyl
    by_cases hx : i = -1
    · have hxb : (i == -1) = true := by simp [hx]
      have hend := endE_stop hr' hpe hx
      have HEnd := Lib.hid hend
      clear hx hend hj he hr hr' hpe hyl
      gi_wp2
      refine ⟨fun _ h => (by cases h), ?_⟩
      gi_wp2
      refine ⟨KeepsFrom.refl _ _, rfl, .inl ⟨Zo, ?_, HE.out⟩⟩
      rw [← HEnd.out]; exact HJ'.out
    · have hxb : (i == -1) = false := by simp [hx]
      have hgo := endE_go hr' hpe hx
      have HGo := Lib.hid hgo
      obtain ⟨fn, tmps, assign, body, hy, hY2⟩ := HY.out pre Zo (at_, i) W' hj hgo
      dsimp only [encI] at hy
      have ty : W'.cell? ⟨W.heap.size, 0, none⟩ = some (.func (.yield lp) #[] #[]) := cell_of_row W' W.heap.size 0 _ _ (0, 0) hyl
      clear hx hgo hj he hr hr' hpe hyl
      gi_wp2
      refine ⟨fun h => (by cases h), (round_deep hY2).mono ?_⟩
      rintro e W3 (⟨rfl, hJ3, hb3, hz3, hk3⟩ | ⟨rfl, hJx3, hk3⟩)
      · have HFin : Hid (postY w2.heap.size n₀ (W.heap.size + 1) (fun pre Z A => ∃ Zo, J pre Zo A ∧ EndX w2.heap.size Z Zo A ∧ pre <+: endE zs ∧ A.heap[W.heap.size]? = some (.cells #[.func (.yield lp) #[] #[]] 101 (0, 0)))
            (fun c _ Z A => c = .ret ∧ ((∃ Zo, J (endE zs) Zo A ∧ EndX w2.heap.size Z Zo A) ∨ ∃ pe Zo, pe <+: endE zs ∧ Jx pe Zo A ∧ EndX w2.heap.size Z Zo A)) (pre ++ [(at_, i)]) Z W' Exit.normal { tmps := #[], defers := [] } W3) := Lib.hid (by
          have ho := HE.out.own
          rw [show w2.heap.size - 1 = W.heap.size + 1 by omega, show w2.heap.size - 2 = W.heap.size by omega] at ho
          exact ⟨keeps_up hk3 (by omega), ⟨hb3.1, hz3 _ ho.1⟩, fun k hk => hz3 k (HE.out.sub k hk), Zo, hJ3, HE.out.on hsz hk3.size, HGo.out, (hz3 _ ho.2).trans HYl.out⟩)
        clear hJ3 hb3 hz3 hk3
        gi_wp2
        exact HFin.out
      · have HFin : Hid (KeepsFrom w2.heap.size W' W3 ∧ ∃ pe Zo, pe <+: endE zs ∧ Jx pe Zo W3 ∧ EndX w2.heap.size Z Zo W3) := Lib.hid ⟨keeps_up hk3 (by omega), _, Zo, HGo.out, hJx3, HE.out.on hsz hk3.size⟩
        clear hJx3 hk3
        gi_wp2
        exact ⟨HFin.out.1, rfl, .inr HFin.out.2⟩
  case done =>
    rintro D xs Z W' rfl hall ⟨Zo, hj, he, hpe, _⟩ hK hzD
    have hend := endE_all hall hpe
    have HF := Lib.hid (HJ.out _ _ _ _ hj (outs_put (.deferred none) (he.loops w2.heap.size (Nat.le_refl _) (by omega) (Array.getElem?_eq_some_iff.1 hK).1)))
    have HEnd := Lib.hid hend
    clear hj he hpe hend hall
    gi_wp2
    refine ⟨by simp, .inl ⟨_, _, rfl, run_takeDeferred hK, ?_⟩⟩
    exact ⟨_, results_none rfl _ _ _, ⟨_, rfl⟩, .inl ⟨_, _, HEnd.out, HF.out⟩⟩
  case stop =>
    rintro D c pre Z W' rfl _ ⟨rfl, hcase⟩ hK hzD
    have HF : Hid ((∃ xs Z, xs = endE zs ∧ J xs Z (W'.putObj w2.heap.size (.deferred none))) ∨ ∃ pre Z, pre <+: endE zs ∧ Jx pre Z (W'.putObj w2.heap.size (.deferred none))) := Lib.hid (by
      rcases hcase with ⟨Zo, h1, h2⟩ | ⟨pe, Zo, h0, h1, h2⟩
      · exact .inl ⟨_, _, rfl, HJ.out _ _ _ _ h1 (outs_put (.deferred none) (h2.loops w2.heap.size (Nat.le_refl _) (by omega) (Array.getElem?_eq_some_iff.1 hK).1))⟩
      · exact .inr ⟨pe, _, h0, HJx.out _ _ _ _ h1 (outs_put (.deferred none) (h2.loops w2.heap.size (Nat.le_refl _) (by omega) (Array.getElem?_eq_some_iff.1 hK).1))⟩)
    clear hcase
    gi_wp2
    refine ⟨by simp, .inl ⟨_, _, rfl, run_takeDeferred hK, ?_⟩⟩
    exact ⟨_, results_none rfl _ _ _, ⟨_, rfl⟩, HF.out⟩
end Go.Proofs.Ytkkngflpmdcfjaa
