/-
  A region that draws its order in its first operations and ends in a row: the first by what each comes to, the rest one after the other.
-/
import Derived.Test.YtkkngflpmdcfjaaORfacts
import Derived.StillTail
namespace Go.Proofs.Ytkkngflpmdcfjaa
open Go Go.RowKit

section
variable {P : Program} {ops : Array Oper} {md : Region.Mode} {Q : Exit → Act → World → Prop}
def headL (n m : Nat) : Array Bool := Array.replicate n true ++ Array.replicate m false
theorem headL_getD (n m i : Nat) : (headL n m).getD i false = decide (i < n) := by
  unfold headL
  simp only [Array.getD_eq_getD_getElem?, Array.getElem?_append, Array.size_replicate]
  by_cases h : i < n
  · simp [h]
  · rw [if_neg h, decide_eq_false h]
    by_cases h2 : i - n < m
    · simp [h2]
    · rw [Array.getElem?_eq_none (by simp; omega)]; rfl
theorem headL_of {n : Nat} {listed : Array Bool} (inv : HeadInv md ops n listed) (hn : n ≤ ops.size) (h : ∀ i, i < n → listed.getD i false = true) : listed = headL n (ops.size - n) := by
  apply Array.ext
  · rw [inv.size]; unfold headL; simp; omega
  · intro i h1 h2
    have e1 : listed.getD i false = listed[i] := by simp [Array.getD_eq_getD_getElem?, h1]
    have e2 : (headL n (ops.size - n)).getD i false = (headL n (ops.size - n))[i] := by simp [Array.getD_eq_getD_getElem?, h2]
    rw [← e1, ← e2, headL_getD]
    by_cases hi : i < n
    · rw [h i hi, decide_eq_true hi]
    · have := inv.tail i (by omega) (by have := inv.size; omega)
      rw [decide_eq_false hi]
      exact getD_both this
theorem unl_head (n m : Nat) : ∀ k, unl (headL n m) k = k - n
  | 0 => by simp [unl]
  | k + 1 => by
    unfold unl
    rw [unl_head n m k, headL_getD]
    by_cases h : k < n
    · rw [decide_eq_true h, if_pos rfl]; omega
    · rw [decide_eq_false h, if_neg (by decide)]; omega
theorem wpAny_facts_tail (F : Nat → SF) (wb : World) (a0 : Act) (n : Nat) (hs : Region.sinkB md ops n = true) (hc : Region.chainB md ops n = true) (hn : n < ops.size) (hB : Region.seqB md ops (ops.size - n) n (headL n (ops.size - n)) = true)
    (hdst : ∀ (i : Nat) (o : Oper) (d : Tmp), ops[i]? = some o → o.dst = some d → d < a0.tmps.size) (hinj : ∀ (i j : Nat) (oi oj : Oper) (d : Tmp), ops[i]? = some oi → ops[j]? = some oj → oi.dst = some d → oj.dst = some d → i = j)
    (hacy : ∀ (i : Nat) (o : Oper), ops[i]? = some o → ∀ e ∈ o.after, Region.binds md e = true → e.on < i)
    (hstep : ∀ (i : Nat) (o : Oper) (a : Act) (w : World), i < n → ops[i]? = some o → FAt ops F wb a0 md o a w → wpOp P ops Q i (fun a' w' => ∃ v, a' = a.put o.dst v ∧ (F i).p v w' ∧ Below w.heap.size w w') a w)
    (hend : ∀ a w, FInv ops F wb a0 (headL n (ops.size - n)) a w → wpList P ops Q (ops.toList.drop n) a w) :
    ∀ (fuel : Nat) (listed : Array Bool) (a : Act) (w : World), HeadInv md ops n listed → FInv ops F wb a0 listed a w → unl listed ops.size = fuel → wpAny P md ops Q fuel listed a w := by
  intro fuel
  induction fuel with
  | zero =>
    intro listed a w inv h hu
    exfalso
    have h0 : ∀ k, k ≤ ops.size → n < k → unl listed k ≠ 0 := by
      intro k
      induction k with
      | zero => intro _ h; omega
      | succ k ih =>
        intro hk h
        unfold unl
        by_cases e : n < k
        · have := ih (by omega) e; omega
        · have e2 : k = n := by omega
          subst e2
          rw [getD_both (inv.tail k (Nat.le_refl _) (by omega))]
          simp
    exact h0 _ (Nat.le_refl _) hn hu
  | succ fuel ih =>
    intro listed a w inv h hu
    by_cases hall : ∀ i, i < n → listed.getD i false = true
    · have e := headL_of inv (by omega) hall
      subst e
      rw [unl_head] at hu
      rw [← hu]
      have hl : (ops.toList.drop n).length = ops.size - n := by simp
      have := wpAny_of_seq (P := P) (ops := ops) (md := md) (Q' := Q) (ops.toList.drop n) n _ a w (fun j => by simp [List.getElem?_drop]) (by rw [hl]; exact hB) (hend a w h)
      rwa [hl] at this
    · have hex : ∃ i, i < n ∧ listed.getD i false = false := by
        by_cases hx : ∃ i, i < n ∧ listed.getD i false = false
        · exact hx
        · exact absurd (fun i hi => by
            cases hl : listed.getD i false with
            | true => rfl
            | false => exact absurd ⟨i, hi, hl⟩ hx) hall
      obtain ⟨i0, hi0, hl0⟩ := hex
      have hlt : ∀ i ∈ Region.ready md ops listed, i < n := fun i hi => by
        rcases Nat.lt_or_ge i n with h' | h'
        · exact h'
        · exact absurd hi (tail_waits hs hc hn inv _ i0 rfl hi0 (getD_in (by rw [inv.size]; omega) hl0) i h')
      refine ⟨fun hr => ?_, fun i hi => ?_⟩
      · exfalso
        have hdone : ∀ i, i < ops.size → listed.getD i false = true := fun i => by
          induction i using Nat.strongRecOn with
          | _ i ih2 =>
            intro hi
            cases hl : listed.getD i false with
            | true => rfl
            | false =>
              exfalso
              have hm : i ∈ Region.ready md ops listed := mem_ready.2 ⟨getD_in (by rw [inv.size]; omega) hl, ops[i], Array.getElem?_eq_getElem hi, fun e he hb => ih2 e.on (hacy i _ (Array.getElem?_eq_getElem hi) e he hb) (by have := hacy i _ (Array.getElem?_eq_getElem hi) e he hb; omega)⟩
              rw [hr] at hm
              cases hm
        rw [hdone i0 (by omega)] at hl0
        cases hl0
      · have hin := hlt i hi
        obtain ⟨h1, o, ho, hdep⟩ := mem_ready.1 hi
        have hilt := (Array.getElem?_eq_some_iff.1 ho).1
        have hsz := h.lsize
        have hlf := getD_both h1
        refine wpOp_mono ?_ (hstep i o a w hin ho ⟨h.base, h.others, fun e he hb oe d hoe hd => h.facts e.on oe d hoe hd (hdep e he hb)⟩)
        rintro a' w' ⟨v, rfl, hF, hb⟩
        refine ih _ _ _ (inv.set hi hin) ⟨h.base.trans (hb.mono h.base.size), ?_, ?_, fun t ht => ?_, by simp [hsz], fun j oj d hj hd hl => ?_⟩ ?_
        · unfold Act.put; split <;> simp [h.size]
        · unfold Act.put; split <;> simp [h.defers]
        · cases hd : o.dst with
          | none => exact h.others t ht
          | some d =>
            show (a.tmps.setIfInBounds d v)[t]? = _
            rw [Array.getElem?_setIfInBounds, if_neg (fun e => ht i o ho (by rw [hd, e]))]
            exact h.others t ht
        · cases hdo : o.dst with
          | none =>
            by_cases e : j = i
            · subst e
              rw [hj] at ho; cases ho
              rw [hdo] at hd; cases hd
            · rw [getD_set listed i j (by omega), if_neg (fun h => e h.symm)] at hl
              obtain ⟨x, hx1, hx2⟩ := h.facts j oj d hj hd hl
              exact ⟨x, hx1, (F j).st _ _ _ hx2 hb⟩
          | some di =>
            show ∃ x, (a.tmps.setIfInBounds di v)[d]? = some x ∧ _
            rw [Array.getElem?_setIfInBounds]
            by_cases e : j = i
            · subst e
              rw [hj] at ho; cases ho
              rw [hdo] at hd; cases hd
              have := hdst j _ _ hj hdo
              rw [if_pos rfl, if_pos (by rw [h.size]; exact this)]
              exact ⟨v, rfl, hF⟩
            · rw [if_neg (fun h2 => by subst h2; exact e (hinj j i oj o di hj ho hd hdo))]
              rw [getD_set listed i j (by omega), if_neg (fun h => e h.symm)] at hl
              obtain ⟨x, hx1, hx2⟩ := h.facts j oj d hj hd hl
              exact ⟨x, hx1, (F j).st _ _ _ hx2 hb⟩
        · have hpos : unl (listed.setIfInBounds i true) ops.size = unl listed ops.size - 1 := by rw [unl_set listed i (by omega) hlf, if_pos hilt]
          omega
theorem region_facts_tail {id : Nat} {a0 : Act} {w : World} (F : Nat → SF) (n : Nat) (hm : P.follows .mixedOrders = true) (hs : Region.sinkB .any ops n = true) (hc : Region.chainB .any ops n = true) (hn : decide (n < ops.size) = true) (hB : Region.seqB .any ops (ops.size - n) n (headL n (ops.size - n)) = true)
    (hdst : ∀ (i : Nat) (o : Oper) (d : Tmp), ops[i]? = some o → o.dst = some d → d < a0.tmps.size) (hinj : ∀ (i j : Nat) (oi oj : Oper) (d : Tmp), ops[i]? = some oi → ops[j]? = some oj → oi.dst = some d → oj.dst = some d → i = j)
    (hacy : ∀ (i : Nat) (o : Oper), ops[i]? = some o → ∀ e ∈ o.after, Region.binds .any e = true → e.on < i)
    (hstep : ∀ (i : Nat) (o : Oper) (a : Act) (w1 : World), i < n → ops[i]? = some o → FAt ops F w a0 .any o a w1 → wpOp P ops Q i (fun a' w' => ∃ v, a' = a.put o.dst v ∧ (F i).p v w' ∧ Below w1.heap.size w1 w') a w1)
    (hend : ∀ a w1, FInv ops F w a0 (headL n (ops.size - n)) a w1 → wpList P ops Q (ops.toList.drop n) a w1) : (Code.region id ops true).wp P Q a0 w := by
  refine wp_region_any hm (wpAny_facts_tail F w a0 n hs hc (of_decide_eq_true hn) hB hdst hinj hacy hstep hend _ _ _ _ ⟨by simp, fun j oj _ hl => (by rw [getD_replicate_false] at hl; cases hl), fun t _ ht => getD_in (by simpa using ht) (getD_replicate_false _ _)⟩ ⟨⟨rfl, rfl, rfl, Nat.le_refl _, fun _ _ => rfl⟩, rfl, rfl, fun _ _ => rfl, by simp, fun i o d _ _ hl => by rw [getD_replicate_false] at hl; cases hl⟩ ?_)
  have key : ∀ k, unl (Array.replicate ops.size false) k = k := by
    intro k
    induction k with
    | zero => rfl
    | succ k ih => unfold unl; rw [ih, getD_replicate_false]; simp
  exact key _
end
end Go.Proofs.Ytkkngflpmdcfjaa
