/-
  The walk of Push. Written by gen_push.py.
-/
import Derived.Test.YtkkngflpmdcfjaaYClear
import Derived.Test.YtkkngflpmdcfjaaYNode
import Derived.Test.YtkkngflpmdcfjaaORtail
namespace Go.Proofs.Ytkkngflpmdcfjaa
open Go.RowKit

attribute [local go_sem] Oper.semAt_some
/-- How many are alike, and the place of the first of them. -/
def cfP (g : Int → Bool) (pre : List (Nat × Int)) : Int × Int := pre.foldl (fun p x => if g x.2 = true then (p.1 + 1, (x.1 : Int)) else p) (0, -1)
theorem cfP_snoc (g : Int → Bool) (pre : List (Nat × Int)) (x : Nat × Int) : cfP g (pre ++ [x]) = if g x.2 = true then ((cfP g pre).1 + 1, (x.1 : Int)) else cfP g pre := by unfold cfP; rw [List.foldl_append]; rfl
theorem cfP_bound (g : Int → Bool) (pre : List (Nat × Int)) : 0 ≤ (cfP g pre).1 ∧ (cfP g pre).1 ≤ pre.length := by
  have key : ∀ (pre : List (Nat × Int)) (p : Int × Int), p.1 ≤ (pre.foldl (fun p x => if g x.2 = true then (p.1 + 1, (x.1 : Int)) else p) p).1 ∧ (pre.foldl (fun p x => if g x.2 = true then (p.1 + 1, (x.1 : Int)) else p) p).1 ≤ p.1 + pre.length := by
    intro pre
    induction pre with
    | nil => intro p; simp
    | cons y r ih =>
      intro p
      rw [List.foldl_cons]
      have := ih (if g y.2 = true then (p.1 + 1, (y.1 : Int)) else p)
      split at this
      · rw [if_pos (by assumption)]; simp only [List.length_cons]; dsimp only at this; omega
      · rw [if_neg (by assumption)]; simp only [List.length_cons]; omega
  have := key pre (0, -1)
  unfold cfP; simpa using this
theorem endE_len (xs : List Int) : (endE xs).length ≤ xs.length := by
  have key : ∀ k, (bkN xs k).length = k := by
    intro k
    induction k with
    | zero => rfl
    | succ k ih => unfold bkN; rw [List.length_cons, ih]
  have := (List.takeWhile_prefix (fun x : Nat × Int => decide (x.2 ≠ -1)) (l := bk xs)).length_le
  unfold bk at this
  rw [key] at this
  exact this
def pushP (g : Int → Bool) (xs : List Int) (i : Int) : List Int := woN (pushG (cfP g (endE xs)).1 (cfP g (endE xs)).2) xs xs.length ++ [i]
theorem wpList_assign {P : Program} {w : World} {ops : Array Oper} {rest : List Oper} {o : Oper} {a : Act} {Q : Exit → Act → World → Prop}
    (hg : o.guard = none) (x : Operand) (hop : o.op = Op.assign x) (v : Value) (hx : a.eval x = v) (hK : wpList P ops Q rest (a.put o.dst v) w) : wpList P ops Q (o :: rest) a w := by
  refine wpList_plain hg fun K hK' => ?_
  subst hx
  unfold Oper.wp execOp
  rw [hop]
  exact hK' _ _ hK
set_option linter.unusedVariables false in
def puF (b S : Nat) (c f : Int) (a : Option Addr) (cap : Nat) (xs : List Int) (i : Int) : Nat → SF
  | 0 => SF.val (.slice a xs.length cap)
  | 1 => SF.val (.func (.func 118) #[] #[.pointer (some ⟨S + 1 + 1, 0, none⟩), .pointer (some ⟨S + 1 + 1 + 1, 0, none⟩)])
  | 2 => ⟨fun v w => KR w v (woN (pushG c f) xs xs.length) ∧ ∀ g, v.ownBlock = some g → b ≤ g, fun v w w' h hb => ⟨h.1.below hb, h.2⟩⟩
  | 3 => SF.val (.int .i64 i)
  | _ => ⟨fun v w => ∃ a c, v = .slice a 1 c ∧ IntsAt w a [i], fun v w w' h hb => by obtain ⟨a, c, e, h⟩ := h; exact ⟨a, c, e, h.below hb⟩⟩

set_option maxRecDepth 100000 in
set_option maxHeartbeats 4000000 in
theorem push_any (u : Value) (l : List Nd) (sa : Option Addr) (cap : Nat) (xs : List Int) (ii : Int) (w : World) (hu : ReadN w u l) (hf : ∀ j (h : j < l.length), l[j].attrs.length ≤ 1000000 ∧ ∀ x ∈ l[j].attrs, A.fine x) (hA : IntsAt w sa xs) (hl : xs.length ≤ 1000000) :
    Calls Try.prog 60 #[.agg #[u], .slice sa xs.length cap, .int .i64 ii] w (RetI (pushP (fun x => alikeT l x ii) xs ii) w) := by
  have HA := Lib.hid hA
  have HAl : Hid (∀ W, Below w.heap.size w W → ∀ one : Int, Calls Try.prog 117 #[.agg #[u], .int .i64 one, .int .i64 ii] W fun e w' => e = .returned (.bool (alikeT l one ii)) ∧ Below W.heap.size W w') := Lib.hid (fun W hW one => alike_node u l one ii W (hu.below hW) hf)
  obtain ⟨ua, ucap, rfl, _, _⟩ := hu
  have hl2 : (xs.length : Int) ≤ 1000000 := by omega
  obtain ⟨g, hg⟩ : ∃ g : Int → Bool, g = fun x => alikeT l x ii := ⟨_, rfl⟩
  have HAl : Hid (∀ W, Below w.heap.size w W → ∀ one : Int, Calls Try.prog 117 #[.agg #[.slice ua l.length ucap], .int .i64 one, .int .i64 ii] W fun e w' => e = .returned (.bool (g one)) ∧ Below W.heap.size W w') := Lib.hid (by rw [hg]; exact HAl.out)
  rw [← hg]
  clear hg hf hA
  refine (callsIn_wide (n := 5)).1 ?_
  refine callsIn_of_wp_marks Try.func60 rfl trivial ?_ rfl
  simp only [Try.ntmps60, List.size_toArray, List.length_cons, List.length_nil, Nat.reduceAdd, Nat.reduceSub, Array.replicate_succ, Array.replicate_zero, List.push_toArray, List.append_toArray, List.nil_append, List.cons_append]
  gi_wp2_with (refine ⟨trivial, ?_⟩; gi_at_call 116; refine (endf_any Fence.wide _ trivial rfl _ _ ⟨_, _, _, rfl⟩).mono ?_; rintro e w' ⟨rfl, rfl⟩)
  obtain ⟨w1, ew1⟩ : ∃ w1, w1 = w.alloc (.cells #[.slice ua l.length ucap] 24) := ⟨_, rfl⟩
  rw [← ew1]
  obtain ⟨w2, ew2⟩ : ∃ w2, w2 = w1.alloc (.cells #[.int .i64 ii] 3) := ⟨_, rfl⟩
  rw [← ew2]
  obtain ⟨w4, ew4⟩ : ∃ w4, w4 = w2.alloc (.cells #[.int .i64 0] 3) := ⟨_, rfl⟩
  rw [← ew4]
  obtain ⟨w5, ew5⟩ : ∃ w5, w5 = w4.alloc (.cells #[.int .i64 (-1)] 3) := ⟨_, rfl⟩
  rw [← ew5]
  obtain ⟨w3, ew3⟩ : ∃ w3, w3 = w5.alloc (.cells #[.slice sa xs.length cap] 29) := ⟨_, rfl⟩
  rw [← ew3]
  have s1 : w1.heap.size = w.heap.size + 1 := by rw [ew1]; simp
  have s2 : w2.heap.size = w.heap.size + 1 + 1 := by rw [ew2]; simp [s1]
  have s4 : w4.heap.size = w.heap.size + 1 + 1 + 1 := by rw [ew4]; simp [s2]
  have s5 : w5.heap.size = w.heap.size + 1 + 1 + 1 + 1 := by rw [ew5]; simp [s4]
  have hsz : w3.heap.size = w.heap.size + 1 + 1 + 1 + 1 + 1 := by rw [ew3]; simp [s5]
  have b0 : Boxed w3 w.heap.size 24 (.slice ua l.length ucap) := by
    have h := Boxed.new w 24 (.slice ua l.length ucap)
    rw [← ew1] at h
    rw [ew3, ew5, ew4, ew2]
    exact (((h.alloc _).alloc _).alloc _).alloc _
  have b1 : Boxed w3 (w.heap.size + 1) 3 (.int .i64 ii) := by
    have h := Boxed.new w1 3 (.int .i64 ii)
    rw [← ew2, s1] at h
    rw [ew3, ew5, ew4]
    exact ((h.alloc _).alloc _).alloc _
  have b2 : Boxed w3 (w.heap.size + 1 + 1) 3 (.int .i64 0) := by
    have h := Boxed.new w2 3 (.int .i64 0)
    rw [← ew4, s2] at h
    rw [ew3, ew5]
    exact (h.alloc _).alloc _
  have b4 : Boxed w3 (w.heap.size + 1 + 1 + 1) 3 (.int .i64 (-1)) := by
    have h := Boxed.new w4 3 (.int .i64 (-1))
    rw [← ew5, s4] at h
    rw [ew3]
    exact h.alloc _
  have b3 : w3.heap[w.heap.size + 1 + 1 + 1 + 1]? = some (.cells #[.slice sa xs.length cap] 29 (0, 0)) := by
    have h := heap_alloc_new w5 (.cells #[.slice sa xs.length cap] 29)
    rw [← ew3, s5] at h
    exact h
  have hB0 : Below w.heap.size w w3 := by
    rw [ew3, ew5, ew4, ew2, ew1]
    exact (((((Below.refl _ w).alloc (Nat.le_refl _) _).alloc (by simp) _).alloc (by simp; omega) _).alloc (by simp; omega) _).alloc (by simp; omega) _
  clear ew1 ew2 ew3 ew4 ew5 s1 s2 s4 s5
  refine wpIn_rangeFunc_Y rfl (by omega) (gf := 151) (lb := #[.pointer (some ⟨w.heap.size + 1 + 1 + 1 + 1, 0, none⟩)]) rfl trivial (enters_of Try.func151 (by kernel_rfl) rfl)
    (end_seq 4 (by omega) (w.heap.size + 1 + 1 + 1 + 1) w.heap.size sa cap xs hl w3 (HA.out.b.below hB0) b3 (by omega)) (by omega) (by omega) (Below.refl _ _) (fun _ => rfl)
    (fun pre Z A => HV w (w.heap.size + 1 + 1 + 1 + 1 + 1) [(w.heap.size + 1 + 1, 3, .int .i64 (cfP g pre).1), (w.heap.size + 1 + 1 + 1, 3, .int .i64 (cfP g pre).2), (w.heap.size, 24, .slice ua l.length ucap), (w.heap.size + 1, 3, .int .i64 ii)] Z A)
    (fun _ _ _ _ => False)
    ?hI (fun _ _ _ _ _ h _ => h.elim) ?hIa ?hIp (fun _ _ _ _ _ _ _ h _ _ _ _ => h.elim) ?h0
    (fun x => { tmps := #[.agg #[.slice ua l.length ucap], .slice sa xs.length cap, .int .i64 ii, .pointer (some ⟨w.heap.size, 0, none⟩), undef, .pointer (some ⟨w.heap.size + 1, 0, none⟩), .slice none 0 0, .pointer (some ⟨w.heap.size + 1 + 1, 0, none⟩), .pointer (some ⟨w.heap.size + 1 + 1 + 1, 0, none⟩), .int .i64 (x.1 : Nat), .int .i64 x.2, undef, .slice sa xs.length cap, .func (.func 151) #[] #[.pointer (some ⟨w.heap.size + 1 + 1 + 1 + 1, 0, none⟩)], .int .i64 (x.1 : Nat), .int .i64 x.2, undef, undef, undef, undef, undef, undef, undef, undef, undef, undef, undef, undef, undef, undef], defers := [] }) ?assign ?body ?done ?stop
  case hI => intro pre Z A B h hO; exact h.outs hO
  case hIa => intro pre Z A o h; exact h.alloc o
  case hIp => intro pre Z A l o o' h hl ho _ _; exact h.put (by omega) ho
  case h0 =>
    refine ⟨fun x hx => ?_, fun k h => h.elim, hB0, by omega, by omega⟩
    simp only [List.mem_cons, List.not_mem_nil, or_false] at hx
    rcases hx with rfl | rfl | rfl | rfl
    · exact ⟨b2, fun h => h, by dsimp only; omega, by dsimp only; omega⟩
    · exact ⟨b4, fun h => h, by dsimp only; omega, by dsimp only; omega⟩
    · exact ⟨b0, fun h => h, by dsimp only; omega, by dsimp only; omega⟩
    · exact ⟨b1, fun h => h, by dsimp only; omega, by dsimp only; omega⟩
  case assign =>
    intro l x W K hK
    dsimp only [encI]
    gi_wp2
    exact hK
  case body =>
    rintro rd pre Z ⟨at_, one⟩ W hsW hI hpre
    have HV0 := Lib.hid hI
    obtain ⟨h1, hz, hb, hn, hw⟩ := hI
    have c0 := (h1 (w.heap.size, 24, .slice ua l.length ucap) (by simp)).1.cell
    have c1 := (h1 (w.heap.size + 1, 3, .int .i64 ii) (by simp)).1.cell
    have d2 := h1 (w.heap.size + 1 + 1, 3, .int .i64 (cfP g pre).1) (by simp)
    have d3 := h1 (w.heap.size + 1 + 1 + 1, 3, .int .i64 (cfP g pre).2) (by simp)
    dsimp only at c0 c1 d2 d3
    have hlen : pre.length ≤ 1000000 := by
      have := hpre.length_le
      have h2 := endE_len xs
      simp at this; omega
    have hcb := cfP_bound g pre
    have hc0 := hcb.1
    have hc1 : (cfP g pre).1 ≤ 1000000 := by omega
    have HS1 : Hid ((cfP g (pre ++ [(at_, one)])).1 = if g one = true then (cfP g pre).1 + 1 else (cfP g pre).1) := Lib.hid (by rw [cfP_snoc]; dsimp only; split <;> rfl)
    have HS2 : Hid ((cfP g (pre ++ [(at_, one)])).2 = if g one = true then (at_ : Int) else (cfP g pre).2) := Lib.hid (by rw [cfP_snoc]; dsimp only; split <;> rfl)
    have HZ := Lib.hid hz
    have HC := Lib.hid (HAl.out W hb one)
    have HD2 := Lib.hid d2
    have HD3 := Lib.hid d3
    have HBW := Lib.hid hb
    clear h1 hz hb hw d2 d3 hcb hpre hlen b0 b1 b2 b3 b4
    generalize (cfP g pre).1 = cc at *
    generalize (cfP g pre).2 = ff at *
    generalize g one = q at *
    gi_wp2_with (refine ⟨trivial, ?_⟩; refine (CallsIn.inRound _ (callsIn_wide.2 HC.out)).mono ?_)
    rintro e w4 rfl hb4
    have hsz4 := hb4.size
    cases q with
    | false =>
      have HFin : Hid (postY w3.heap.size w.heap.size (w.heap.size + 1 + 1 + 1 + 1) (fun pre Z A => HV w (w.heap.size + 1 + 1 + 1 + 1 + 1) [(w.heap.size + 1 + 1, 3, .int .i64 (cfP g pre).1), (w.heap.size + 1 + 1 + 1, 3, .int .i64 (cfP g pre).2), (w.heap.size, 24, .slice ua l.length ucap), (w.heap.size + 1, 3, .int .i64 ii)] Z A) (fun _ _ _ _ => False) (pre ++ [(at_, one)]) Z W Exit.normal { tmps := #[], defers := [] } w4) := Lib.hid (by
        refine ⟨keeps_below hb4, ⟨hb4.mono HBW.out.size, hb4.block _ (by omega)⟩, fun k hk => hb4.block k (HZ.out k hk).2, ?_⟩
        have := HV0.out.below hb4
        dsimp only
        rw [HS1.out, HS2.out]
        exact this)
      clear hb4 c0 c1 hsz4
      gi_wp2
      exact HFin.out
    | true =>
      have e2 : Boxed w4 (w.heap.size + 1 + 1) 3 (.int .i64 cc) := (hb4.block _ HD2.out.1.lt).trans HD2.out.1
      have e3 : Boxed w4 (w.heap.size + 1 + 1 + 1) 3 (.int .i64 ff) := (hb4.block _ HD3.out.1.lt).trans HD3.out.1
      have k2 := e2.cell
      have f2 := e2.frozen
      have k3 := e3.cell
      have f3 := e3.frozen
      have HFin : Hid (postY w3.heap.size w.heap.size (w.heap.size + 1 + 1 + 1 + 1) (fun pre Z A => HV w (w.heap.size + 1 + 1 + 1 + 1 + 1) [(w.heap.size + 1 + 1, 3, .int .i64 (cfP g pre).1), (w.heap.size + 1 + 1 + 1, 3, .int .i64 (cfP g pre).2), (w.heap.size, 24, .slice ua l.length ucap), (w.heap.size + 1, 3, .int .i64 ii)] Z A) (fun _ _ _ _ => False) (pre ++ [(at_, one)]) Z W Exit.normal { tmps := #[], defers := [] } ((w4.setCell ⟨w.heap.size + 1 + 1, 0, none⟩ (.int .i64 (cc + 1))).setCell ⟨w.heap.size + 1 + 1 + 1, 0, none⟩ (.int .i64 (at_ : Nat)))) := Lib.hid (by
        have hs : ((w4.setCell ⟨w.heap.size + 1 + 1, 0, none⟩ (.int .i64 (cc + 1))).setCell ⟨w.heap.size + 1 + 1 + 1, 0, none⟩ (.int .i64 (at_ : Nat))).heap.size = w4.heap.size := by simp
        have hot1 : ∀ k, k ≠ w.heap.size + 1 + 1 → (w4.setCell ⟨w.heap.size + 1 + 1, 0, none⟩ (.int .i64 (cc + 1))).heap[k]? = w4.heap[k]? := fun k hk => heap_setCell_other w4 ⟨w.heap.size + 1 + 1, 0, none⟩ k _ hk
        have hot2 : ∀ (A : World) k, k ≠ w.heap.size + 1 + 1 + 1 → (A.setCell ⟨w.heap.size + 1 + 1 + 1, 0, none⟩ (.int .i64 (at_ : Nat))).heap[k]? = A.heap[k]? := fun A k hk => heap_setCell_other A ⟨w.heap.size + 1 + 1 + 1, 0, none⟩ k _ hk
        have hoth : ∀ k, k ≠ w.heap.size + 1 + 1 → k ≠ w.heap.size + 1 + 1 + 1 → k < W.heap.size → ((w4.setCell ⟨w.heap.size + 1 + 1, 0, none⟩ (.int .i64 (cc + 1))).setCell ⟨w.heap.size + 1 + 1 + 1, 0, none⟩ (.int .i64 (at_ : Nat))).heap[k]? = W.heap[k]? := fun k h1 h2 h3 => (hot2 _ k h2).trans ((hot1 k h1).trans (hb4.block k h3))
        have hbel : Below w.heap.size W ((w4.setCell ⟨w.heap.size + 1 + 1, 0, none⟩ (.int .i64 (cc + 1))).setCell ⟨w.heap.size + 1 + 1 + 1, 0, none⟩ (.int .i64 (at_ : Nat))) :=
          ((hb4.mono HBW.out.size).setCell (p := ⟨w.heap.size + 1 + 1, 0, none⟩) (by show w.heap.size ≤ w.heap.size + 1 + 1; omega) _).setCell (p := ⟨w.heap.size + 1 + 1 + 1, 0, none⟩) (by show w.heap.size ≤ w.heap.size + 1 + 1 + 1; omega) _
        refine ⟨⟨by rw [hs]; exact hsz4, fun k o hk ho _ => (hoth k (by omega) (by omega) (Array.getElem?_eq_some_iff.1 ho).1).trans ho⟩, ⟨hbel, hoth _ (by omega) (by omega) (by omega)⟩, fun k hk => hoth k (by have := (HZ.out k hk).1; omega) (by have := (HZ.out k hk).1; omega) (HZ.out k hk).2, ?_⟩
        obtain ⟨h1, hz, hb, hn, hw⟩ := HV0.out
        refine ⟨fun x hx => ?_, fun k hk => ⟨(hz k hk).1, by rw [hs]; exact Nat.lt_of_lt_of_le (hz k hk).2 hsz4⟩, hb.trans hbel, by rw [hs]; omega, hw⟩
        rw [HS1.out, HS2.out] at hx
        simp only [List.mem_cons, List.not_mem_nil, or_false] at hx
        rcases hx with rfl | rfl | rfl | rfl
        · exact ⟨(hot2 _ _ (by omega)).trans (e2.set _), HD2.out.2⟩
        · exact ⟨(show Boxed (w4.setCell ⟨w.heap.size + 1 + 1, 0, none⟩ (.int .i64 (cc + 1))) (w.heap.size + 1 + 1 + 1) 3 (.int .i64 ff) from (hot1 _ (by omega)).trans e3).set _, HD3.out.2⟩
        · have d := h1 (w.heap.size, 24, .slice ua l.length ucap) (by simp)
          exact ⟨(hoth _ (by omega) (by omega) (by have := d.1.lt; exact this)).trans d.1, d.2⟩
        · have d := h1 (w.heap.size + 1, 3, .int .i64 ii) (by simp)
          exact ⟨(hoth _ (by omega) (by omega) (by have := d.1.lt; exact this)).trans d.1, d.2⟩)
      clear hb4 c0 c1 e2 e3 hsz4
      gi_wp2
      exact HFin.out
  case done =>
    rintro Dd ys Z W rfl hall hI hK hzD
    obtain ⟨h1, hz, hb, hn, hw⟩ := hI
    rw [hall] at h1
    obtain ⟨c, hc⟩ : ∃ c, c = (cfP g (endE xs)).1 := ⟨_, rfl⟩
    obtain ⟨f, hf⟩ : ∃ f, f = (cfP g (endE xs)).2 := ⟨_, rfl⟩
    rw [← hc, ← hf] at h1
    have HP : Hid (woN (pushG c f) xs xs.length ++ [ii] = pushP g xs ii) := Lib.hid (by unfold pushP; rw [← hc, ← hf])
    clear hc hf hall
    have d1 := (h1 (w.heap.size + 1, 3, .int .i64 ii) (by simp)).1
    have d2 := (h1 (w.heap.size + 1 + 1, 3, .int .i64 c) (by simp)).1
    have d3 := (h1 (w.heap.size + 1 + 1 + 1, 3, .int .i64 f) (by simp)).1
    dsimp only at d1 d2 d3
    have HW : Hid (∀ V, Below W.heap.size W V → Calls Try.prog 119 #[.slice sa xs.length cap, .func (.func 118) #[] #[.pointer (some ⟨w.heap.size + 1 + 1, 0, none⟩), .pointer (some ⟨w.heap.size + 1 + 1 + 1, 0, none⟩)]] V (RetI (woN (pushG c f) xs xs.length) V)) := Lib.hid (fun V hV =>
      without_push sa cap xs c f (w.heap.size + 1 + 1) (w.heap.size + 1 + 1 + 1) V hl ((HA.out.below hb).below hV) (Nat.lt_of_lt_of_le d2.lt hV.size) (Nat.lt_of_lt_of_le d3.lt hV.size) ((hV.cell (p := ⟨w.heap.size + 1 + 1, 0, none⟩) d2.lt).trans d2.cell) ((hV.cell (p := ⟨w.heap.size + 1 + 1 + 1, 0, none⟩) d3.lt).trans d3.cell))
    have HI : Hid (∀ V, Below W.heap.size W V → V.cell? ⟨w.heap.size + 1, 0, none⟩ = some (.int .i64 ii)) := Lib.hid (fun V hV => (hV.cell (p := ⟨w.heap.size + 1, 0, none⟩) d1.lt).trans d1.cell)
    have HK := Lib.hid hK
    have HBw := Lib.hid hb
    have hnW : w.heap.size + 1 + 1 + 1 + 1 + 1 ≤ W.heap.size := hn
    clear d1 d2 d3 h1 hz hb hn hw b0 b1 b2 b3 b4
    gi_wp2
    refine wpIn_wide.2 ?_
    refine region_facts_tail (puF W.heap.size w.heap.size c f sa cap xs ii) 5 (by kernel_rfl) (by kernel_rfl) (by kernel_rfl) (by kernel_rfl) (by kernel_rfl) (dst_of (by kernel_rfl)) (inj_of (by kernel_rfl)) (acy_of (by kernel_rfl)) ?step ?fin
    case step =>
      intro i o a w1 hin ho hf
      have HB := Lib.hid hf.base
      match i, hin, ho with
      | 0, _, ho =>
        obtain rfl := Option.some.inj ho
        have h1 : a.tmps[1]? = some (.slice sa xs.length cap) := (hf.others 1 (no_of (by kernel_rfl))).trans rfl
        have e1 := eval_at h1
        refine wpOp_go rfl (wanted_free rfl) ?_
        clear hf
        go_simp
        exact ⟨_, rfl, rfl, Below.refl _ _⟩
      | 1, _, ho =>
        obtain rfl := Option.some.inj ho
        have h11 : a.tmps[11]? = some (.func (.func 118) #[] #[.pointer (some ⟨w.heap.size + 1 + 1, 0, none⟩), .pointer (some ⟨w.heap.size + 1 + 1 + 1, 0, none⟩)]) := (hf.others 11 (no_of (by kernel_rfl))).trans rfl
        have e11 := eval_at h11
        refine wpOp_go rfl (wanted_free rfl) ?_
        clear hf
        go_simp
        exact ⟨_, rfl, rfl, Below.refl _ _⟩
      | 2, _, ho =>
        obtain rfl := Option.some.inj ho
        obtain ⟨v24, h24, f24⟩ := hf.facts ⟨0, .data⟩ (by simp) rfl _ _ rfl rfl
        obtain rfl : v24 = .slice sa xs.length cap := f24
        have e24 := eval_at h24
        obtain ⟨v25, h25, f25⟩ := hf.facts ⟨1, .data⟩ (by simp) rfl _ _ rfl rfl
        obtain rfl : v25 = .func (.func 118) #[] #[.pointer (some ⟨w.heap.size + 1 + 1, 0, none⟩), .pointer (some ⟨w.heap.size + 1 + 1 + 1, 0, none⟩)] := f25
        have e25 := eval_at h25
        refine wpOp_go rfl (wanted_free rfl) ?_
        clear hf
        go_simp
        go_at_call 119
        refine (HW.out _ HB.out).mono ?_
        rintro e w4 ⟨v4, rfl, hk, ho, hb⟩
        exact ⟨_, rfl, ⟨hk, fun g hg => Nat.le_trans HB.out.size (ho g hg)⟩, hb⟩
      | 3, _, ho =>
        obtain rfl := Option.some.inj ho
        have h5 : a.tmps[5]? = some (.pointer (some ⟨w.heap.size + 1, 0, none⟩)) := (hf.others 5 (no_of (by kernel_rfl))).trans rfl
        have e5 := eval_at h5
        refine wpOp_go rfl (wanted_free rfl) ?_
        clear hf
        have g1 := HI.out _ HB.out
        go_simp
        exact ⟨_, rfl, rfl, Below.refl _ _⟩
      | 4, _, ho =>
        obtain rfl := Option.some.inj ho
        obtain ⟨v27, h27, f27⟩ := hf.facts ⟨3, .data⟩ (by simp) rfl _ _ rfl rfl
        obtain rfl : v27 = .int .i64 ii := f27
        have e27 := eval_at h27
        refine wpOp_go rfl (wanted_free rfl) ?_
        clear hf
        go_simp
        exact ⟨_, rfl, ⟨_, _, rfl, one_int _ _⟩, below_box _ _⟩
      | i + 5, hin, _ => exact absurd hin (by omega)
    case fin =>
      intro a w1 hf
      obtain ⟨v26, h26, g26, o26⟩ := hf.facts 2 _ _ rfl rfl (by kernel_rfl)
      obtain ⟨v28, h28, a28, c28, rfl, g28⟩ := hf.facts 4 _ _ rfl rfl (by kernel_rfl)
      have hd := hf.defers
      have hsz := hf.size
      have HBe := hf.base
      cases a
      rename_i tm ds
      dsimp only at hd hsz h26 h28
      subst hd
      clear hf
      dsimp only [Array.toList, List.drop]
      refine wpList_append_ints w1 rfl _ _ rfl v26 _ (eval_at h26) g26 a28 c28 [ii] (eval_at h28) g28 (by have := woN_len (pushG c f) xs xs.length; simp; omega) ?_
      intro v2 w2 hk2 hgrow2 hat2
      refine wpList_assign rfl _ rfl v2 (eval_at (by show (tm.setIfInBounds 29 v2)[29]? = _; rw [Array.getElem?_setIfInBounds, if_pos rfl, if_pos (by rw [hsz]; simp)])) ?_
      rename_i K hK
      refine hK _ _ ?_
      clear hK
      have HK2 : Hid (w2.heap[w3.heap.size]? = some (.deferred (some []))) := Lib.hid ((hgrow2.block _ (Nat.lt_of_lt_of_le (Array.getElem?_eq_some_iff.1 HK.out).1 HBe.size) (fun e => by have h := o26 _ e.symm; have h2 := (Array.getElem?_eq_some_iff.1 HK.out).1; omega)).trans ((HBe.block _ (Array.getElem?_eq_some_iff.1 HK.out).1).trans HK.out))
      have HKr := Lib.hid hk2
      have HOw : Hid (∀ g, v2.ownBlock = some g → w.heap.size ≤ g) := Lib.hid (fun g hg => by
        have h1 := HBe.size
        have h2 := HBw.out.size
        rcases hat2 with e | e
        · have := o26 g (e ▸ hg); omega
        · rw [e] at hg; cases hg; omega)
      have HBl : Hid (Below w.heap.size w w2) := Lib.hid ((HBw.out.trans (HBe.mono HBw.out.size)).grown hgrow2 (by have h1 := HBe.size; have h2 := HBw.out.size; omega) (fun g hg => by have := o26 g hg; have h2 := HBw.out.size; omega))
      have H6 : Hid (((tm.setIfInBounds 29 v2).setIfInBounds 6 v2).getD 6 undef = v2) := Lib.hid (by simp [Array.getD_eq_getD_getElem?, hsz])
      clear hk2 hgrow2 hat2 HBe g26 g28 h26 h28
      dsimp only [Act.put]
      gi_wp2
      refine ⟨by simp, .inl ⟨_, _, rfl, run_takeDeferred HK2.out, ?_⟩⟩
      refine ⟨_, results_tmp rfl _ _ _, v2, by rw [H6.out], ?_, HOw.out, HBl.out.trans (put_below (by omega) HK2.out)⟩
      rw [← HP.out]
      refine HKr.out.kept fun g hg => World.putObj_heap_other (fun e => ?_)
      obtain ⟨c9, fz9, hc9⟩ := HKr.out.kind hg
      first
        | (rw [e, HK2.out] at hc9; cases hc9)
        | (rw [← e, HK2.out] at hc9; cases hc9)
  case stop =>
    rintro D c pre Z W _ _ h _ _
    exact h.elim
end Go.Proofs.Ytkkngflpmdcfjaa
