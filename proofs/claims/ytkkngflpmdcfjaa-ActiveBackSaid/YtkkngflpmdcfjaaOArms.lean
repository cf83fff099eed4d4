/-
  The iterator's own makings, walked in a fence: the row of nodes that were gone into; one part more.
-/
import Derived.OwnWalkIn
import Derived.Laws.MakeOwn
import Derived.Laws.OwnMore
import Derived.Test.YtkkngflpmdcfjaaOMem
namespace Go.Proofs.Ytkkngflpmdcfjaa
open Go.RowKit

theorem wpListIn_make_run {F : Fence} {n : Nat} {P : Program} (w : World) {ops : Array Oper} {rest : List Oper} {o : Oper} {a : Act} {Q : Exit → Act → World → Prop}
    (hg : o.guard = none) (l c : Operand) (t : TypeId) (hop : o.op = Op.makeSlice t l c) (vl vc : Value) (hl : a.eval l = vl) (hc : a.eval c = vc) (v : Value) (w' : World)
    (hr : (Instr.makeSlice t vl vc).run P w = .ok v w') (hK : wpListIn F n P ops Q rest (a.put o.dst v) w') : wpListIn F n P ops Q (o :: rest) a w := by
  refine wpListIn_plain hg fun K hK' => ?_
  unfold Oper.wpIn
  refine ⟨?_, ?_⟩
  · simp [Oper.about, hop]
  · rw [Oper.semAt_plain F _ _ (by rw [hop]; intro c hc'; cases hc')]
    simp [execOp, hop, hl, hc, hr, Result.andThen]
    exact hK' _ _ hK
theorem wpListIn_append_run {F : Fence} {n : Nat} {P : Program} (w : World) {ops : Array Oper} {rest : List Oper} {o : Oper} {a : Act} {Q : Exit → Act → World → Prop}
    (hg : o.guard = none) (s x : Operand) (t : TypeId) (hop : o.op = Op.call { callee := Callee.builtin Builtin.append, args := #[s, x], argTypes := #[t, t] }) (vs vx : Value) (hs : a.eval s = vs) (hx : a.eval x = vx) (v : Value) (w' : World)
    (hr : (Builtin.append_ #[t, t] o.type #[vs, vx]).run P w = .ok v w') (hK : wpListIn F n P ops Q rest (a.put o.dst v) w') : wpListIn F n P ops Q (o :: rest) a w := by
  refine wpListIn_plain hg fun K hK' => ?_
  unfold Oper.wpIn
  refine ⟨?_, ?_⟩
  · simp [Oper.about, hop, resolve, Target.leads, Sem.run_pure]
  · rw [Oper.semAt_plain F _ _ (by rw [hop]; intro c hc'; cases hc')]
    simp [execOp, hop, resolve, invoke, builtin, hs, hx, hr, Result.andThen]
    exact hK' _ _ hK
theorem part_info : (Try.prog.info? 108).map (fun i => (i.zero, i.size, i.bytes)) = some (some (.agg #[.int .i64 0, .slice none 0 0]), 2, 32) := by kernel_rfl
theorem bool_info : (Try.prog.info? 4).map (fun i => (i.zero, i.size, i.bytes)) = some (some (.bool false), 1, 1) := by kernel_rfl
theorem run_append_part (w : World) (ty : TypeId) (v : Value) (l : List Pt) (hK : PR w v l) (b : Nat) (x : Pt) (hx : w.heap[b]? = some (.cells (ptC x).toArray 108 (0, 0))) (h1 : x.2.1.oneCell' = true) (h : l.length ≤ 1000000) :
    ∃ v' w', (Builtin.append_ #[109, 109] ty #[v, .slice (some ⟨b, 0, none⟩) 1 1]).run Try.prog w = .ok v' w' ∧ PR w' v' (l ++ [x]) ∧ w.grownBy w' v.ownBlock ∧ (v'.ownBlock = v.ownBlock ∨ v'.ownBlock = some w.heap.size) := by
  obtain ⟨i0, hi, hz0, hz1, hz2⟩ := info_parts part_info
  obtain ⟨v', w', hrun, h2, _, h4, h5⟩ := run_append_ok (P := Try.prog) w (fun _ _ => True) 0 109 ty 108 i0 _ 2 32 Try.underlying109 hi hz0 hz1 hz2 rfl (by omega) (fun _ _ _ => trivial) v l.length _ hK (fun _ _ _ _ _ _ _ _ _ => trivial) ⟨b, 0, none⟩ 1 1 (ptC x) rfl (by
      intro j u hu
      have ea : (⟨b, 0, none⟩ : Addr).add j = ⟨b, j, none⟩ := by unfold Addr.add; split <;> simp_all
      rw [ea, cell_of_row w b j _ _ (0, 0) hx]
      simpa using hu) (by
      intro u hu
      simp [ptC] at hu
      rcases hu with rfl | rfl
      · rfl
      · exact h1) (fun _ _ _ => trivial) (by unfold maxLen; omega) (by omega) (Nat.zero_le _)
  exact ⟨v', w', hrun, by unfold PR; rw [List.length_append, clP_app, clP_one]; exact h2, h4, h5⟩
theorem run_seen (w : World) (n : Nat) (h : n ≤ 1000000) : (Instr.makeSlice 41 (.int .i64 n) (.int .i64 n)).run Try.prog w = .ok (.slice (some ⟨w.heap.size, 0, none⟩) n n) (w.alloc (.cells (madeCells #[.bool false] n) 4)) := by
  obtain ⟨i0, hi, hz0, hz1, hz2⟩ := info_parts bool_info
  have hr := run_make (P := Try.prog) w 41 4 i0 _ Try.underlying41 hi hz0 .i64 .i64 n n (by omega) (Int.le_refl _) (by rw [hz2]; omega) (by omega)
  rw [hz1] at hr
  simp only [Int.toNat_natCast, Nat.mul_one] at hr
  exact hr
theorem seen_new (w : World) (n : Nat) : SR (w.alloc (.cells (madeCells #[.bool false] n) 4)) w.heap.size n (fun _ => false) := by
  refine ⟨_, heap_alloc_new w _, size_madeCells _ _, fun j hj => ?_⟩
  unfold madeCells
  rw [Array.getElem?_map, show (Array.range n)[j]? = some j by simp [hj]]
  simp [Nat.mod_one]
end Go.Proofs.Ytkkngflpmdcfjaa
