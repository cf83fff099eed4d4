/-
  A region that draws its order, by what each of its operations comes to: one obligation an operation, whatever the order.
-/
import Derived.Orders
import Derived.OrdersIn
import Derived.RangeFuncCalls
import Derived.OwnWalkIn
import Derived.Tactics
import Derived.WalkKit
namespace Go.Proofs.Ytkkngflpmdcfjaa
open Go Go.RowKit

/-- What is said of a slot's value, and stays so while older blocks stay. -/
structure SF where
  p : Value → World → Prop
  st : ∀ v w w', p v w → Below w.heap.size w w' → p v w'
def SF.val (x : Value) : SF := ⟨fun v _ => v = x, fun _ _ _ h _ => h⟩
/-- What holds of the slots behind the operations that are listed. -/
structure FInv (ops : Array Oper) (F : Nat → SF) (wb : World) (a0 : Act) (listed : Array Bool) (a : Act) (w : World) : Prop where
  base : Below wb.heap.size wb w
  size : a.tmps.size = a0.tmps.size
  defers : a.defers = a0.defers
  others : ∀ t : Tmp, (∀ (i : Nat) (o : Oper), ops[i]? = some o → o.dst ≠ some t) → a.tmps[t]? = a0.tmps[t]?
  lsize : listed.size = ops.size
  facts : ∀ (i : Nat) (o : Oper) (d : Tmp), ops[i]? = some o → o.dst = some d → listed.getD i false = true → ∃ v, a.tmps[d]? = some v ∧ (F i).p v w
/-- What an operation finds. -/
structure FAt (ops : Array Oper) (F : Nat → SF) (wb : World) (a0 : Act) (md : Region.Mode) (o : Oper) (a : Act) (w : World) : Prop where
  base : Below wb.heap.size wb w
  others : ∀ t : Tmp, (∀ (i : Nat) (o : Oper), ops[i]? = some o → o.dst ≠ some t) → a.tmps[t]? = a0.tmps[t]?
  facts : ∀ e ∈ o.after, Region.binds md e = true → ∀ (oe : Oper) (d : Tmp), ops[e.on]? = some oe → oe.dst = some d → ∃ v, a.tmps[d]? = some v ∧ (F e.on).p v w

section
variable {P : Program} {ops : Array Oper} {md : Region.Mode} {Q : Exit → Act → World → Prop}
theorem getD_set (l : Array Bool) (i j : Nat) (h : i < l.size) : (l.setIfInBounds i true).getD j false = if i = j then true else l.getD j false := by
  simp only [Array.getD_eq_getD_getElem?, Array.getElem?_setIfInBounds]
  by_cases e : i = j
  · subst e; simp [h]
  · simp [e]
def unl (l : Array Bool) : Nat → Nat
  | 0 => 0
  | k + 1 => unl l k + if l.getD k false = true then 0 else 1
theorem unl_set (l : Array Bool) (i : Nat) (hi : i < l.size) (hl : l.getD i false = false) : ∀ k, unl (l.setIfInBounds i true) k = unl l k - if i < k then 1 else 0 := by
  intro k
  induction k with
  | zero => simp [unl]
  | succ k ih =>
    unfold unl
    rw [ih, getD_set l i k hi]
    by_cases e : i = k
    · subst e
      rw [hl]; simp
    · rw [if_neg e]
      by_cases h : i < k
      · have hpos : 0 < unl l k := by
          have key : ∀ m, i < m → 0 < unl l m := by
            intro m
            induction m with
            | zero => intro h; omega
            | succ m ih2 =>
              intro h
              unfold unl
              by_cases e2 : i = m
              · subst e2; rw [hl]; simp
              · have := ih2 (by omega); omega
          exact key k h
        rw [if_pos h, if_pos (show i < k + 1 by omega)]; omega
      · rw [if_neg h, if_neg (show ¬ i < k + 1 by omega)]; simp
theorem wpAny_facts (F : Nat → SF) (wb : World) (a0 : Act)
    (hdst : ∀ (i : Nat) (o : Oper) (d : Tmp), ops[i]? = some o → o.dst = some d → d < a0.tmps.size) (hinj : ∀ (i j : Nat) (oi oj : Oper) (d : Tmp), ops[i]? = some oi → ops[j]? = some oj → oi.dst = some d → oj.dst = some d → i = j)
    (hacy : ∀ (i : Nat) (o : Oper), ops[i]? = some o → ∀ e ∈ o.after, Region.binds md e = true → e.on < i)
    (hstep : ∀ (i : Nat) (o : Oper) (a : Act) (w : World), ops[i]? = some o → FAt ops F wb a0 md o a w → wpOp P ops Q i (fun a' w' => ∃ v, a' = a.put o.dst v ∧ (F i).p v w' ∧ Below w.heap.size w w') a w)
    (hend : ∀ listed a w, FInv ops F wb a0 listed a w → (∀ i, i < ops.size → listed.getD i false = true) → Q .normal a w) :
    ∀ (fuel : Nat) (listed : Array Bool) (a : Act) (w : World), FInv ops F wb a0 listed a w → unl listed ops.size ≤ fuel → wpAny P md ops Q fuel listed a w := by
  have hall : ∀ listed a w, FInv ops F wb a0 listed a w → Region.ready md ops listed = [] → ∀ i, i < ops.size → listed.getD i false = true := fun listed a w h hr i => by
    induction i using Nat.strongRecOn with
    | _ i ih =>
      intro hi
      cases hl : listed.getD i false with
      | true => rfl
      | false =>
        exfalso
        have hm : i ∈ Region.ready md ops listed := mem_ready.2 ⟨by
          have := h.lsize
          simp only [Array.getD_eq_getD_getElem?] at hl ⊢
          rw [Array.getElem?_eq_getElem (by omega)] at hl ⊢
          simpa using hl, ops[i], Array.getElem?_eq_getElem hi, fun e he hb => ih e.on (hacy i _ (Array.getElem?_eq_getElem hi) e he hb) (by have := hacy i _ (Array.getElem?_eq_getElem hi) e he hb; omega)⟩
        rw [hr] at hm
        cases hm
  intro fuel
  induction fuel with
  | zero =>
    intro listed a w h hu
    have h0 : ∀ k, unl listed k = 0 → ∀ i, i < k → listed.getD i false = true := by
      intro k
      induction k with
      | zero => intro _ i hi; omega
      | succ k ih =>
        intro hk i hi
        unfold unl at hk
        by_cases e : i = k
        · subst e
          cases hl : listed.getD i false with
          | true => rfl
          | false => rw [hl] at hk; simp at hk
        · exact ih (by omega) i (by omega)
    have hd := h0 ops.size (by omega)
    refine ⟨?_, hend _ _ _ h hd⟩
    rw [List.eq_nil_iff_forall_not_mem]
    intro j hj
    obtain ⟨h1, o, ho, _⟩ := mem_ready.1 hj
    have hj2 := (Array.getElem?_eq_some_iff.1 ho).1
    have := hd j hj2
    have hs := h.lsize
    simp only [Array.getD_eq_getD_getElem?] at h1 this
    rw [Array.getElem?_eq_getElem (by omega)] at h1 this
    simp at h1 this
    rw [this] at h1; cases h1
  | succ fuel ih =>
    intro listed a w h hu
    refine ⟨fun hr => hend _ _ _ h (hall _ _ _ h hr), fun i hi => ?_⟩
    obtain ⟨h1, o, ho, hdep⟩ := mem_ready.1 hi
    have hilt := (Array.getElem?_eq_some_iff.1 ho).1
    have hsz := h.lsize
    have hl0 : listed.getD i false = false := by
      simp only [Array.getD_eq_getD_getElem?] at h1 ⊢
      rw [Array.getElem?_eq_getElem (by omega)] at h1 ⊢
      simpa using h1
    refine wpOp_mono ?_ (hstep i o a w ho ⟨h.base, h.others, fun e he hb oe d hoe hd => h.facts e.on oe d hoe hd (hdep e he hb)⟩)
    rintro a' w' ⟨v, rfl, hF, hb⟩
    refine ih _ _ _ ⟨h.base.trans (hb.mono h.base.size), ?_, ?_, fun t ht => ?_, by simp [hsz], fun j oj d hj hd hl => ?_⟩ ?_
    · unfold Act.put; split <;> simp [h.size]
    · unfold Act.put; split <;> simp [h.defers]
    · cases hd : o.dst with
      | none => exact h.others t ht
      | some d =>
        show (a.tmps.setIfInBounds d v)[t]? = _
        rw [Array.getElem?_setIfInBounds, if_neg (fun e => ht i o ho (by rw [hd, e]))]
        exact h.others t ht
    · cases hdo : o.dst with
      | none =>
        by_cases e : j = i
        · subst e
          rw [hj] at ho; cases ho
          rw [hdo] at hd; cases hd
        · rw [getD_set listed i j (by omega), if_neg (fun h => e h.symm)] at hl
          obtain ⟨x, hx1, hx2⟩ := h.facts j oj d hj hd hl
          exact ⟨x, hx1, (F j).st _ _ _ hx2 hb⟩
      | some di =>
        show ∃ x, (a.tmps.setIfInBounds di v)[d]? = some x ∧ _
        rw [Array.getElem?_setIfInBounds]
        by_cases e : j = i
        · subst e
          rw [hj] at ho; cases ho
          rw [hdo] at hd; cases hd
          have := hdst j _ _ hj hdo
          rw [if_pos rfl, if_pos (by rw [h.size]; exact this)]
          exact ⟨v, rfl, hF⟩
        · rw [if_neg (fun h2 => by subst h2; exact e (hinj j i oj o di hj ho hd hdo))]
          rw [getD_set listed i j (by omega), if_neg (fun h => e h.symm)] at hl
          obtain ⟨x, hx1, hx2⟩ := h.facts j oj d hj hd hl
          exact ⟨x, hx1, (F j).st _ _ _ hx2 hb⟩
    · rw [unl_set listed i (by omega) hl0, if_pos hilt]; omega
/-- The region, whatever its order. -/
theorem region_facts {id : Nat} {a0 : Act} {w : World} (F : Nat → SF) (hm : P.follows .mixedOrders = true)
    (hdst : ∀ (i : Nat) (o : Oper) (d : Tmp), ops[i]? = some o → o.dst = some d → d < a0.tmps.size) (hinj : ∀ (i j : Nat) (oi oj : Oper) (d : Tmp), ops[i]? = some oi → ops[j]? = some oj → oi.dst = some d → oj.dst = some d → i = j)
    (hacy : ∀ (i : Nat) (o : Oper), ops[i]? = some o → ∀ e ∈ o.after, Region.binds .any e = true → e.on < i)
    (hstep : ∀ (i : Nat) (o : Oper) (a : Act) (w1 : World), ops[i]? = some o → FAt ops F w a0 .any o a w1 → wpOp P ops Q i (fun a' w' => ∃ v, a' = a.put o.dst v ∧ (F i).p v w' ∧ Below w1.heap.size w1 w') a w1)
    (hend : ∀ listed a w1, FInv ops F w a0 listed a w1 → (∀ i, i < ops.size → listed.getD i false = true) → Q .normal a w1) : (Code.region id ops true).wp P Q a0 w := by
  refine wp_region_any hm (wpAny_facts F w a0 hdst hinj hacy hstep hend _ _ _ _ ⟨⟨rfl, rfl, rfl, Nat.le_refl _, fun _ _ => rfl⟩, rfl, rfl, fun _ _ => rfl, by simp, fun i o d _ _ hl => ?_⟩ ?_)
  · simp only [Array.getD_eq_getD_getElem?] at hl
    by_cases h : i < ops.size
    · simp [h] at hl
    · rw [Array.getElem?_eq_none (by simp; omega)] at hl; simp at hl
  · have key : ∀ k, unl (Array.replicate ops.size false) k ≤ k := by
      intro k
      induction k with
      | zero => exact Nat.le_refl _
      | succ k ih => unfold unl; split <;> omega
    exact key _
theorem wpAnyIn_facts {G : Fence} {m : Nat} (F : Nat → SF) (wb : World) (a0 : Act)
    (hdst : ∀ (i : Nat) (o : Oper) (d : Tmp), ops[i]? = some o → o.dst = some d → d < a0.tmps.size) (hinj : ∀ (i j : Nat) (oi oj : Oper) (d : Tmp), ops[i]? = some oi → ops[j]? = some oj → oi.dst = some d → oj.dst = some d → i = j)
    (hacy : ∀ (i : Nat) (o : Oper), ops[i]? = some o → ∀ e ∈ o.after, Region.binds md e = true → e.on < i)
    (hstep : ∀ (i : Nat) (o : Oper) (a : Act) (w : World), ops[i]? = some o → FAt ops F wb a0 md o a w → wpOpIn G m P ops Q i (fun a' w' => ∃ v, a' = a.put o.dst v ∧ (F i).p v w' ∧ Below w.heap.size w w') a w)
    (hend : ∀ listed a w, FInv ops F wb a0 listed a w → (∀ i, i < ops.size → listed.getD i false = true) → Q .normal a w) :
    ∀ (fuel : Nat) (listed : Array Bool) (a : Act) (w : World), FInv ops F wb a0 listed a w → unl listed ops.size ≤ fuel → wpAnyIn G m P md ops Q fuel listed a w := by
  have hall : ∀ listed a w, FInv ops F wb a0 listed a w → Region.ready md ops listed = [] → ∀ i, i < ops.size → listed.getD i false = true := fun listed a w h hr i => by
    induction i using Nat.strongRecOn with
    | _ i ih =>
      intro hi
      cases hl : listed.getD i false with
      | true => rfl
      | false =>
        exfalso
        have hm : i ∈ Region.ready md ops listed := mem_ready.2 ⟨by
          have := h.lsize
          simp only [Array.getD_eq_getD_getElem?] at hl ⊢
          rw [Array.getElem?_eq_getElem (by omega)] at hl ⊢
          simpa using hl, ops[i], Array.getElem?_eq_getElem hi, fun e he hb => ih e.on (hacy i _ (Array.getElem?_eq_getElem hi) e he hb) (by have := hacy i _ (Array.getElem?_eq_getElem hi) e he hb; omega)⟩
        rw [hr] at hm
        cases hm
  intro fuel
  induction fuel with
  | zero =>
    intro listed a w h hu
    have h0 : ∀ k, unl listed k = 0 → ∀ i, i < k → listed.getD i false = true := by
      intro k
      induction k with
      | zero => intro _ i hi; omega
      | succ k ih =>
        intro hk i hi
        unfold unl at hk
        by_cases e : i = k
        · subst e
          cases hl : listed.getD i false with
          | true => rfl
          | false => rw [hl] at hk; simp at hk
        · exact ih (by omega) i (by omega)
    have hd := h0 ops.size (by omega)
    refine ⟨?_, hend _ _ _ h hd⟩
    rw [List.eq_nil_iff_forall_not_mem]
    intro j hj
    obtain ⟨h1, o, ho, _⟩ := mem_ready.1 hj
    have hj2 := (Array.getElem?_eq_some_iff.1 ho).1
    have := hd j hj2
    have hs := h.lsize
    simp only [Array.getD_eq_getD_getElem?] at h1 this
    rw [Array.getElem?_eq_getElem (by omega)] at h1 this
    simp at h1 this
    rw [this] at h1; cases h1
  | succ fuel ih =>
    intro listed a w h hu
    refine ⟨fun hr => hend _ _ _ h (hall _ _ _ h hr), fun i hi => ?_⟩
    obtain ⟨h1, o, ho, hdep⟩ := mem_ready.1 hi
    have hilt := (Array.getElem?_eq_some_iff.1 ho).1
    have hsz := h.lsize
    have hl0 : listed.getD i false = false := by
      simp only [Array.getD_eq_getD_getElem?] at h1 ⊢
      rw [Array.getElem?_eq_getElem (by omega)] at h1 ⊢
      simpa using h1
    refine wpOpIn_mono ?_ (hstep i o a w ho ⟨h.base, h.others, fun e he hb oe d hoe hd => h.facts e.on oe d hoe hd (hdep e he hb)⟩)
    rintro a' w' ⟨v, rfl, hF, hb⟩
    refine ih _ _ _ ⟨h.base.trans (hb.mono h.base.size), ?_, ?_, fun t ht => ?_, by simp [hsz], fun j oj d hj hd hl => ?_⟩ ?_
    · unfold Act.put; split <;> simp [h.size]
    · unfold Act.put; split <;> simp [h.defers]
    · cases hd : o.dst with
      | none => exact h.others t ht
      | some d =>
        show (a.tmps.setIfInBounds d v)[t]? = _
        rw [Array.getElem?_setIfInBounds, if_neg (fun e => ht i o ho (by rw [hd, e]))]
        exact h.others t ht
    · cases hdo : o.dst with
      | none =>
        by_cases e : j = i
        · subst e
          rw [hj] at ho; cases ho
          rw [hdo] at hd; cases hd
        · rw [getD_set listed i j (by omega), if_neg (fun h => e h.symm)] at hl
          obtain ⟨x, hx1, hx2⟩ := h.facts j oj d hj hd hl
          exact ⟨x, hx1, (F j).st _ _ _ hx2 hb⟩
      | some di =>
        show ∃ x, (a.tmps.setIfInBounds di v)[d]? = some x ∧ _
        rw [Array.getElem?_setIfInBounds]
        by_cases e : j = i
        · subst e
          rw [hj] at ho; cases ho
          rw [hdo] at hd; cases hd
          have := hdst j _ _ hj hdo
          rw [if_pos rfl, if_pos (by rw [h.size]; exact this)]
          exact ⟨v, rfl, hF⟩
        · rw [if_neg (fun h2 => by subst h2; exact e (hinj j i oj o di hj ho hd hdo))]
          rw [getD_set listed i j (by omega), if_neg (fun h => e h.symm)] at hl
          obtain ⟨x, hx1, hx2⟩ := h.facts j oj d hj hd hl
          exact ⟨x, hx1, (F j).st _ _ _ hx2 hb⟩
    · rw [unl_set listed i (by omega) hl0, if_pos hilt]; omega
/-- The same in a round of a range over a function. -/
theorem roundreg_facts {r m : Nat} {id : Nat} {a0 : Act} {w : World} (F : Nat → SF) (hm : P.follows .mixedOrders = true)
    (hdst : ∀ (i : Nat) (o : Oper) (d : Tmp), ops[i]? = some o → o.dst = some d → d < a0.tmps.size) (hinj : ∀ (i j : Nat) (oi oj : Oper) (d : Tmp), ops[i]? = some oi → ops[j]? = some oj → oi.dst = some d → oj.dst = some d → i = j)
    (hacy : ∀ (i : Nat) (o : Oper), ops[i]? = some o → ∀ e ∈ o.after, Region.binds .any e = true → e.on < i)
    (hstep : ∀ (i : Nat) (o : Oper) (a : Act) (w1 : World), ops[i]? = some o → FAt ops F w a0 .any o a w1 → wpOpIn (Fence.wide.inRound r) m P ops Q i (fun a' w' => ∃ v, a' = a.put o.dst v ∧ (F i).p v w' ∧ Below w1.heap.size w1 w') a w1)
    (hend : ∀ listed a w1, FInv ops F w a0 listed a w1 → (∀ i, i < ops.size → listed.getD i false = true) → Q .normal a w1) : (Code.region id ops true).wpIn (Fence.wide.inRound r) m P Q a0 w := by
  refine wpIn_region_any hm (wpAnyIn_facts F w a0 hdst hinj hacy hstep hend _ _ _ _ ⟨⟨rfl, rfl, rfl, Nat.le_refl _, fun _ _ => rfl⟩, rfl, rfl, fun _ _ => rfl, by simp, fun i o d _ _ hl => ?_⟩ ?_)
  · simp only [Array.getD_eq_getD_getElem?] at hl
    by_cases h : i < ops.size
    · simp [h] at hl
    · rw [Array.getElem?_eq_none (by simp; omega)] at hl; simp at hl
  · have key : ∀ k, unl (Array.replicate ops.size false) k ≤ k := by
      intro k
      induction k with
      | zero => exact Nat.le_refl _
      | succ k ih => unfold unl; split <;> omega
    exact key _
def dstB (ops : Array Oper) (n : Nat) : Bool := ops.toList.all fun o => match o.dst with | some d => decide (d < n) | none => true
def injB (ops : Array Oper) : Bool := (List.range ops.size).all fun i => (List.range ops.size).all fun j => decide (i = j) || ((ops[i]?.bind (·.dst)).isNone || !((ops[i]?.bind (·.dst)) == (ops[j]?.bind (·.dst))))
def acyB (ops : Array Oper) : Bool := (List.range ops.size).all fun i => match ops[i]? with | some o => o.after.toList.all fun e => !(Region.binds .any e) || decide (e.on < i) | none => true
theorem dst_of {n : Nat} (h : dstB ops n = true) : ∀ (i : Nat) (o : Oper) (d : Tmp), ops[i]? = some o → o.dst = some d → d < n := fun i o d ho hd => by
  have := List.all_eq_true.1 h o (by rw [Array.mem_toList_iff]; exact Array.mem_of_getElem? ho)
  rw [hd] at this
  simpa using this
theorem inj_of (h : injB ops = true) : ∀ (i j : Nat) (oi oj : Oper) (d : Tmp), ops[i]? = some oi → ops[j]? = some oj → oi.dst = some d → oj.dst = some d → i = j := fun i j oi oj d hi hj hdi hdj => by
  have h1 := List.all_eq_true.1 h i (List.mem_range.2 (Array.getElem?_eq_some_iff.1 hi).1)
  have h2 := List.all_eq_true.1 h1 j (List.mem_range.2 (Array.getElem?_eq_some_iff.1 hj).1)
  simp only [hi, hj, Option.bind_some, hdi, hdj] at h2
  simpa using h2
theorem acy_of (h : acyB ops = true) : ∀ (i : Nat) (o : Oper), ops[i]? = some o → ∀ e ∈ o.after, Region.binds .any e = true → e.on < i := fun i o ho e he hb => by
  have h1 := List.all_eq_true.1 h i (List.mem_range.2 (Array.getElem?_eq_some_iff.1 ho).1)
  simp only [ho] at h1
  have h2 := List.all_eq_true.1 h1 e (Array.mem_toList_iff.2 he)
  rw [hb] at h2
  simpa using h2
/-- An operation that is wanted, by its guard's fact. -/
theorem wpOp_go {i : Nat} {o : Oper} {K : Act → World → Prop} {a : Act} {w : World} (ho : ops[i]? = some o) (hw : Region.wanted o (yielded ops a.tmps) = true) (h : Oper.wp P o a w K Q) : wpOp P ops Q i K a w := by
  unfold wpOp
  simp only [ho, hw, if_true]
  exact .inl h
theorem wanted_guard {o oj : Oper} {j : Nat} {b : Bool} {d : Tmp} {a : Act} (hg : o.guard = some (j, b)) (hj : ops[j]? = some oj) (hd : oj.dst = some d) (hv : a.tmps[d]? = some (.bool b)) : Region.wanted o (yielded ops a.tmps) = true := by
  unfold Region.wanted yielded
  simp [hg, hj, hd, hv]
theorem wanted_free {o : Oper} {y : Nat → Option Bool} (hg : o.guard = none) : Region.wanted o y = true := by
  unfold Region.wanted; simp [hg]
theorem no_of {t : Tmp} (h : (ops.toList.all fun o => !(o.dst == some t)) = true) : ∀ (i : Nat) (o : Oper), ops[i]? = some o → o.dst ≠ some t := fun i o ho e => by
  have := List.all_eq_true.1 h o (by rw [Array.mem_toList_iff]; exact Array.mem_of_getElem? ho)
  rw [e] at this
  simp at this
theorem eval_at {a : Act} {t : Tmp} {v : Value} (h : a.tmps[t]? = some v) : a.eval (.tmp t) = v := by
  show a.tmps.getD t undef = v
  simp [Array.getD_eq_getD_getElem?, h]
theorem rows_wide {n : Nat} {F : Fence} (hF : F = Fence.wide) {row : String} {args : Array Value} {w : World} {R : Value → World → Prop} (h : Rows P row args w R) : RowsIn F n P row args w R := by
  subst hF
  exact fun c cs _ => let ⟨v, w', r, s⟩ := h c cs; ⟨v, w', r, stepsIn_wide.2 s⟩
theorem opIn_of_wp {r m : Nat} {o : Oper} {a : Act} {w : World} {K : Act → World → Prop} (hnd : ∀ c, o.op ≠ .defer c) (h : Oper.wp P o a w K Q) : Oper.wpIn (Fence.wide.inRound r) m P o a w K Q := by
  refine ⟨fun f _ => trivial, ?_⟩
  rw [Oper.semAt_plain (Fence.wide.inRound r) _ _ hnd]
  unfold Oper.wp at h
  generalize (execOp a.eval o).run P w = q at *
  cases q with
  | ok x w' =>
    cases x with
    | value v => exact h
    | skip => exact h
    | defer d => exact h
    | enter f args => exact ⟨fun h => (by cases h), CallsIn.inRound r (callsIn_wide.2 h)⟩
    | row row args => exact ⟨fun h => (by cases h), show RowsIn Fence.wide _ P row args w' _ from rows_wide rfl h⟩
    | _ => exact h.elim
  | halt x w' =>
    cases x with
    | panic v => exact h
    | _ => exact h.elim
theorem wpOpIn_go {r m i : Nat} {o : Oper} {K : Act → World → Prop} {a : Act} {w : World} (ho : ops[i]? = some o) (hw : Region.wanted o (yielded ops a.tmps) = true) (hnd : ∀ c, o.op ≠ .defer c) (h : Oper.wp P o a w K Q) : wpOpIn (Fence.wide.inRound r) m P ops Q i K a w := by
  unfold wpOpIn
  simp only [ho, hw, if_true]
  exact opIn_of_wp hnd h
theorem wpOpIn_off {r m i : Nat} {o : Oper} {K : Act → World → Prop} {a : Act} {w : World} (ho : ops[i]? = some o) (hw : Region.wanted o (yielded ops a.tmps) = false) (h : K (a.put o.dst undef) w) : wpOpIn (Fence.wide.inRound r) m P ops Q i K a w := by
  unfold wpOpIn
  simp only [ho, hw]
  exact ⟨fun f _ => trivial, h⟩
theorem wpOp_off {i : Nat} {o : Oper} {K : Act → World → Prop} {a : Act} {w : World} (ho : ops[i]? = some o) (hw : Region.wanted o (yielded ops a.tmps) = false) (h : K (a.put o.dst undef) w) : wpOp P ops Q i K a w := by
  unfold wpOp
  simp only [ho, hw]
  exact h
theorem unwanted_guard {o oj : Oper} {j : Nat} {b b' : Bool} {d : Tmp} {a : Act} (hg : o.guard = some (j, b)) (hj : ops[j]? = some oj) (hd : oj.dst = some d) (hv : a.tmps[d]? = some (.bool b')) (hb : (b' == b) = false) : Region.wanted o (yielded ops a.tmps) = false := by
  unfold Region.wanted yielded
  simp [hg, hj, hd, hv]
  simpa using hb
end
end Go.Proofs.Ytkkngflpmdcfjaa
