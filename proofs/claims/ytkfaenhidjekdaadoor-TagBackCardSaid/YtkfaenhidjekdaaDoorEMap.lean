/-
  Maps keyed by int32 in a block of which the entries are known, whatever their elements: the look-up, the store at a new key, at the operation. No function of the program stands here.
-/
import Derived.Maps.OwnSet
import Derived.Maps.OwnOps
import Derived.WalkArith
namespace Go.Proofs.YtkfaenhidjekdaaDoor.E
open Go.RowKit Go.Maps Go.MapKept Go.ChangeMaps

/-- Block b is a map; its entries, in the order in which they came in. -/
def RMap (w : World) (b : Nat) (es : List (Int × Value)) : Prop :=
  ∃ arr clock, w.heap[b]? = some (.map arr clock) ∧ arr.toList.map (fun e => (e.key, e.val)) = es.map fun p => (Value.int .i32 p.1, p.2)
def fnd (es : List (Int × Value)) (r : Int) : Option Value := (es.find? fun p => p.1 == r).map (·.2)
def i32 (r : Int) : Prop := -2147483648 ≤ r ∧ r ≤ 2147483647

theorem RMap.kept {w w' : World} {b : Nat} {es : List (Int × Value)} (h : RMap w b es) (hk : w'.heap[b]? = w.heap[b]?) : RMap w' b es := by
  obtain ⟨arr, clock, hb, he⟩ := h
  exact ⟨arr, clock, hk.trans hb, he⟩
theorem RMap.lt {w : World} {b : Nat} {es : List (Int × Value)} (h : RMap w b es) : b < w.heap.size := by
  obtain ⟨arr, clock, hb, _⟩ := h
  exact (Array.getElem?_eq_some_iff.1 hb).1
theorem RMap.below {w w' : World} {B b : Nat} {es : List (Int × Value)} (h : RMap w b es) (hb : Below B w w') (hl : b < B) : RMap w' b es := h.kept (hb.block b hl)
theorem RMap.alloc {w : World} {b : Nat} {es : List (Int × Value)} (h : RMap w b es) (o : Obj) : RMap (w.alloc o) b es := h.kept (Below.heap_alloc w o b h.lt)
theorem RMap.made (w : World) : RMap (w.alloc (.map #[] 0)) w.heap.size [] := ⟨#[], 0, (MapKept.heap_alloc w _).1, rfl⟩
theorem RMap.drew {w : World} {b : Nat} {es : List (Int × Value)} (h : RMap w b es) : RMap w.drew b es := h

theorem fnd_mem : ∀ (es : List (Int × Value)) (p : Int × Value), p ∈ es → (es.map (·.1)).Nodup → fnd es p.1 = some p.2
  | [], p, h, _ => by cases h
  | q :: es, p, h, hd => by
    rw [List.map_cons, List.nodup_cons] at hd
    unfold fnd
    rw [List.find?_cons]
    by_cases e : q.1 = p.1
    · have : (q.1 == p.1) = true := by simpa using e
      rw [this]
      rcases List.mem_cons.1 h with rfl | h
      · rfl
      · exact absurd (e ▸ List.mem_map.2 ⟨p, h, rfl⟩) hd.1
    · have : (q.1 == p.1) = false := by simpa using e
      rw [this]
      rcases List.mem_cons.1 h with rfl | h
      · exact absurd rfl e
      · exact fnd_mem es p h hd.2
theorem fnd_none (es : List (Int × Value)) (r : Int) (h : ∀ p ∈ es, p.1 ≠ r) : fnd es r = none := by
  unfold fnd
  rw [List.find?_eq_none.2 (by intro p hp; simpa using h p hp)]; rfl

section
variable {P : Program} {t k e : TypeId}

/-- What is found of a key in such a block. -/
theorem find_rmap (hk : P.underlying k = some (.int .i32)) {w : World} {es : List (Int × Value)} (hw : ∀ p ∈ es, i32 p.1) (hd : (es.map (·.1)).Nodup) {r : Int} (hr : i32 r) {arr : Array MapEntry}
    (he : arr.toList.map (fun e => (e.key, e.val)) = es.map fun p => (Value.int .i32 p.1, p.2)) :
    ((Instr.findKey k (.int .i32 r) arr.toList).run P w = .ok none w ∧ fnd es r = none) ∨ ∃ j v, (Instr.findKey k (.int .i32 r) arr.toList).run P w = .ok (some (j, v)) w ∧ fnd es r = some v := by
  have hks : ∀ x ∈ arr.toList, ∃ p ∈ es, x.key = .int .i32 p.1 ∧ x.val = p.2 := fun x hx => by
    have : (x.key, x.val) ∈ es.map fun p => (Value.int .i32 p.1, p.2) := by rw [← he]; exact List.mem_map.2 ⟨x, hx, rfl⟩
    obtain ⟨p, hp, e⟩ := List.mem_map.1 this
    rw [Prod.mk.injEq] at e
    exact ⟨p, hp, e.1.symm, e.2.symm⟩
  have hkey : keyOf P k (.int .i32 r) = some (.int .i32 r) := keyOf_int_mk hk (WalkArith.wf_i32 hr)
  rcases (int_keyed hk).find w hkey arr.toList (fun x hx => by
    obtain ⟨p, hp, e1, _⟩ := hks x hx
    exact ⟨_, by rw [e1]; exact keyOf_int_mk hk (WalkArith.wf_i32 (hw p hp))⟩) with ⟨h1, h2⟩ | ⟨j, x, h1, h2, h3⟩
  · refine .inl ⟨h1, fnd_none es r fun p hp e => ?_⟩
    have : (Value.int .i32 p.1, p.2) ∈ arr.toList.map (fun e => (e.key, e.val)) := by rw [he]; exact List.mem_map.2 ⟨p, hp, rfl⟩
    obtain ⟨x, hx, e2⟩ := List.mem_map.1 this
    rw [Prod.mk.injEq] at e2
    exact h2 x hx (by rw [e2.1, e])
  · obtain ⟨p, hp, e1, e2⟩ := hks x (List.mem_of_getElem? h2)
    rw [h3] at e1
    have e3 : r = p.1 := by injection e1
    exact .inr ⟨j, _, h1, by rw [e3, e2]; exact fnd_mem es p hp hd⟩

theorem run_lookup_rmap (ht : P.underlying t = some (.map k e)) (hk : P.underlying k = some (.int .i32)) {w : World} {z : Value} (hz : (zeroValue e).run P w = .ok z w) {b : Nat} {es : List (Int × Value)} (hM : RMap w b es)
    (hw : ∀ p ∈ es, i32 p.1) (hd : (es.map (·.1)).Nodup) {r : Int} (hr : i32 r) (ok : Bool) :
    (Instr.lookup t (.map (some b)) (.int .i32 r) ok).run P w = .ok (if ok then .tuple #[(fnd es r).getD z, .bool (fnd es r).isSome] else (fnd es r).getD z) w := by
  obtain ⟨arr, clock, hb, he⟩ := hM
  have hkey : keyOf P k (.int .i32 r) = some (.int .i32 r) := keyOf_int_mk hk (WalkArith.wf_i32 hr)
  have hc := (int_keyed hk).check w arr.isEmpty hkey
  rcases find_rmap hk (w := w) hw hd hr he with ⟨h1, h2⟩ | ⟨j, v, h1, h2⟩
  · simp [Instr.lookup, run_underlying ht, MapKept.run_getObj_map hb, hc, h1, h2, hz, Result.andThen]
  · simp [Instr.lookup, run_underlying ht, MapKept.run_getObj_map hb, hc, h1, h2, Result.andThen]

/-- 'm[k]', 'v, ok := m[k]' at the operation. -/
theorem wpList_lookup_rmap (w : World) {ops : Array Oper} {rest : List Oper} {o : Oper} {a : Act} {Q : Exit → Act → World → Prop} (hg : o.guard = none) (m x : Operand) (ok : Bool) (hop : o.op = Op.lookup t m x ok)
    (ht : P.underlying t = some (.map k e)) (hk : P.underlying k = some (.int .i32)) (z : Value) (hz : (zeroValue e).run P w = .ok z w) (b : Nat) (es : List (Int × Value)) (hm : a.eval m = .map (some b)) (hM : RMap w b es)
    (hw : ∀ p ∈ es, i32 p.1) (hd : (es.map (·.1)).Nodup) (r : Int) (hx : a.eval x = .int .i32 r) (hr : i32 r)
    (hK : wpList P ops Q rest (a.put o.dst (if ok then .tuple #[(fnd es r).getD z, .bool (fnd es r).isSome] else (fnd es r).getD z)) w) :
    wpList P ops Q (o :: rest) a w := by
  refine wpList_plain hg fun K' hK' => ?_
  have hrun := run_lookup_rmap ht hk hz hM hw hd hr ok
  unfold Oper.wp
  simp [execOp, hop, hm, hx, hrun, Result.andThen]
  exact hK' _ _ hK

/-- 'm[k] = v' at a key that is not there. -/
theorem wpList_store_rmap (w : World) {ops : Array Oper} {rest : List Oper} {o : Oper} {a : Act} {Q : Exit → Act → World → Prop} (hg : o.guard = none) (m x v : Operand) (hop : o.op = Op.mapUpdate t m x v)
    (ht : P.underlying t = some (.map k e)) (hk : P.underlying k = some (.int .i32)) (b : Nat) (es : List (Int × Value)) (hm : a.eval m = .map (some b)) (hM : RMap w b es)
    (hw : ∀ p ∈ es, i32 p.1) (hd : (es.map (·.1)).Nodup) (r : Int) (val : Value) (hx : a.eval x = .int .i32 r) (hv : a.eval v = val) (hr : i32 r) (hn : fnd es r = none)
    (hK : ∀ w', RMap w' b (es ++ [(r, val)]) → w.grownBy w' (some b) → wpList P ops Q rest (a.put o.dst undef) w') :
    wpList P ops Q (o :: rest) a w := by
  refine wpList_plain hg fun K' hK' => ?_
  obtain ⟨arr, clock, hb, he⟩ := hM
  have hkey : keyOf P k (.int .i32 r) = some (.int .i32 r) := keyOf_int_mk hk (WalkArith.wf_i32 hr)
  have hc := (int_keyed hk).check w false hkey
  have h1 : (Instr.findKey k (.int .i32 r) arr.toList).run P w = .ok none w := by
    rcases find_rmap hk (w := w) hw hd hr he with ⟨h1, _⟩ | ⟨j, v, _, h2⟩
    · exact h1
    · rw [hn] at h2; cases h2
  have hrun : (Instr.mapUpdate t (.map (some b)) (.int .i32 r) val).run P w = .ok () (setBlock w b (.map (arr.push ⟨.int .i32 r, val, clock⟩) (clock + 1))) := by
    simp [Instr.mapUpdate, run_underlying ht, MapKept.run_getObj_map hb, hc, h1, MapKept.run_setObj_map _ hb, Result.andThen, setBlock]
  unfold Oper.wp
  simp [execOp, hop, hm, hx, hv, hrun, Result.andThen]
  refine hK' _ _ (hK _ ⟨_, _, heap_setBlock_same hb _, ?_⟩ ⟨rfl, rfl, rfl, by simp [setBlock], fun i _ hi => heap_setBlock_other hb _ (fun e => hi (by rw [e]))⟩)
  simp [he]
end
end Go.Proofs.YtkfaenhidjekdaaDoor.E
