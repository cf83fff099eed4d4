/-
  Lists of nodes in memory: append onto them.
-/
import Derived.Test.YtkkngflpmdcfjaaNInts
import Derived.Deep.RegionLaw
namespace Go.Proofs.Ytkkngflpmdcfjaa
open Go.RowKit

def zeroN : Nd := ⟨0, 0, ⟨#[]⟩, .slice none 0 0, ⟨#[]⟩, 0, .slice none 0 0, [], []⟩
theorem node_info : (Try.prog.info? 66).map (fun i => (i.zero, i.size, i.bytes)) = some (some zeroN.val, 7, 104) := by kernel_rfl
/-- A node whose two slices are slices. -/
def Nd.fine (x : Nd) : Prop := (∃ a n c, x.av = .slice a n c) ∧ ∃ a n c, x.kv = .slice a n c
theorem fine_one {x : Nd} (h : x.fine) : ∀ u ∈ x.cells, u.oneCell' = true := by
  obtain ⟨⟨a, n, c, h1⟩, a', n', c', h2⟩ := h
  exact cells_one (by rw [h1]; rfl) (by rw [h2]; rfl)
theorem fine_ok {x : Nd} (h : x.fine) : ∀ j u, x.cells[j]? = some u → nOk (j % 7) u := by
  intro j u hu
  obtain ⟨h1, h2⟩ := h
  have hj : j < 7 := (List.getElem?_eq_some_iff.1 hu).1
  rw [Nat.mod_eq_of_lt hj]
  match j, hj with
  | 0, _ => simp [Nd.cells] at hu; subst hu; simp [nOk]
  | 1, _ => simp [Nd.cells] at hu; subst hu; simp [nOk]
  | 2, _ => simp [Nd.cells] at hu; subst hu; simp [nOk]
  | 3, _ => simp [Nd.cells] at hu; subst hu; simpa [nOk] using h1
  | 4, _ => simp [Nd.cells] at hu; subst hu; simp [nOk]
  | 5, _ => simp [Nd.cells] at hu; subst hu; simp [nOk]
  | 6, _ => simp [Nd.cells] at hu; subst hu; simpa [nOk] using h2
theorem zero_fine : zeroN.fine := ⟨⟨_, _, _, rfl⟩, ⟨_, _, _, rfl⟩⟩
theorem zero_nok : ∀ j u, zeroN.val.cells[j]? = some u → nOk j u := by
  intro j u hu
  have hu' : zeroN.cells[j]? = some u := by
    have e : zeroN.val.cells = zeroN.cells.toArray := rfl
    rw [e] at hu; simpa using hu
  have hj : j < 7 := (List.getElem?_eq_some_iff.1 hu').1
  have := fine_ok zero_fine j u hu'
  rwa [Nat.mod_eq_of_lt hj] at this
/-- A node in a block of its own. -/
abbrev box (x : Nd) : Obj := .cells x.cells.toArray 66
def NodeAt (w : World) (b o : Nat) (x : Nd) : Prop := ∀ k, k < 7 → w.cell? ⟨b, o + k, none⟩ = x.cells[k]?
theorem box_at (w : World) (x : Nd) : NodeAt (w.alloc (box x)) w.heap.size 0 x := fun k _ => by
  rw [Nat.zero_add, show box x = .cells x.cells.toArray 66 from rfl, cell_of_row _ w.heap.size k x.cells.toArray 66 (0, 0) (heap_alloc_new w _)]; simp
theorem NodeAt.lt {w : World} {b o : Nat} {x : Nd} (h : NodeAt w b o x) : b < w.heap.size :=
  World.block_lt_of_cell? w ⟨b, o + 0, none⟩ (u := .int .i64 x.kind) (by rw [h 0 (by omega)]; rfl)
theorem NodeAt.block {w w' : World} {b o : Nat} {x : Nd} (h : NodeAt w b o x) (hb : w'.heap[b]? = w.heap[b]?) : NodeAt w' b o x := fun k hk => (World.cell?_of_block (a := ⟨b, o + k, none⟩) hb).trans (h k hk)
theorem NodeAt.below {w w' : World} {b o : Nat} {x : Nd} (h : NodeAt w b o x) (hb : Below w.heap.size w w') : NodeAt w' b o x := h.block (hb.block b h.lt)
theorem NodeAt.c7 {w : World} {b o : Nat} {x : Nd} (h : NodeAt w b o x) : w.cell? ⟨b, o, none⟩ = some (.int .i64 x.kind) ∧ w.cell? ⟨b, o + 1, none⟩ = some (.int .i64 x.space) ∧ w.cell? ⟨b, o + 2, none⟩ = some (.string x.name) ∧ w.cell? ⟨b, o + 3, none⟩ = some x.av ∧ w.cell? ⟨b, o + 4, none⟩ = some (.string x.data) ∧ w.cell? ⟨b, o + 5, none⟩ = some (.int .i64 x.up) ∧ w.cell? ⟨b, o + 6, none⟩ = some x.kv :=
  ⟨h 0 (by omega), h 1 (by omega), h 2 (by omega), h 3 (by omega), h 4 (by omega), h 5 (by omega), h 6 (by omega)⟩
theorem node_news {w : World} {b o : Nat} {x : Nd} (h : NodeAt w b o x) : ∀ j u, x.cells[j]? = some u → w.cell? ((⟨b, o, none⟩ : Addr).add j) = some u := by
  intro j u hu
  have hj : j < 7 := (List.getElem?_eq_some_iff.1 hu).1
  have ea : (⟨b, o, none⟩ : Addr).add j = ⟨b, o + j, none⟩ := by unfold Addr.add; split <;> simp_all
  rw [ea, h j hj]; exact hu
theorem clN_one (x : Nd) : clN [x] = x.cells := by unfold clN; simp
theorem clN_snoc (l : List Nd) (x : Nd) : clN (l ++ [x]) = clN l ++ x.cells := by rw [clN_app, clN_one]
theorem NR.nil (w : World) : NR w (.slice none 0 0) [] := ⟨World.ownsRow_nil w _ _ _, okRow_none⟩
theorem NR.lt {w : World} {v : Value} {xs : List Nd} (h : NR w v xs) : ∀ k, v.ownBlock = some k → k < w.heap.size := fun k hk => (h.1.lt k hk).2
theorem NR.below {w w' : World} {v : Value} {xs : List Nd} (h : NR w v xs) (hb : Below w.heap.size w w') : NR w' v xs := h.kept fun g hg => hb.block g (h.lt g hg)
/-- append of one node. -/
theorem run_append_node (w : World) (ty : TypeId) (v : Value) (l : List Nd) (hK : NR w v l) (A : Nat) (x : Nd) (hx : NodeAt w A 0 x) (hf : x.fine) (h : l.length ≤ 1000000) :
    ∃ v' w', (Builtin.append_ #[22, 22] ty #[v, .slice (some ⟨A, 0, none⟩) 1 1]).run Try.prog w = .ok v' w' ∧ NR w' v' (l ++ [x]) ∧ w.grownBy w' v.ownBlock ∧ (v'.ownBlock = v.ownBlock ∨ v'.ownBlock = some w.heap.size) := by
  obtain ⟨i0, hi, hz0, hz1, hz2⟩ := info_parts node_info
  obtain ⟨v', w', hrun, h2, h3, h4, h5⟩ := run_append_ok (P := Try.prog) w nOk 0 22 ty 66 i0 _ 7 104 Try.underlying22 hi hz0 hz1 hz2 rfl (by omega) zero_nok v l.length _ hK.1 hK.2 ⟨A, 0, none⟩ 1 1 x.cells rfl (node_news hx) (fine_one hf) (fine_ok hf) (by unfold maxLen; omega) (by omega) (Nat.zero_le _)
  exact ⟨v', w', hrun, ⟨by rw [List.length_append, clN_snoc]; exact h2, h3⟩, h4, h5⟩
theorem run_append_fitN (w : World) (ty : TypeId) (g cap : Nat) (l : List Nd) (hK : NR w (.slice (some ⟨g, 0, none⟩) l.length cap) l) (A : Nat) (x : Nd) (hx : NodeAt w A 0 x) (hf : x.fine) (hroom : l.length < cap) (h : l.length ≤ 1000000) :
    ∃ w', (Builtin.append_ #[22, 22] ty #[.slice (some ⟨g, 0, none⟩) l.length cap, .slice (some ⟨A, 0, none⟩) 1 1]).run Try.prog w = .ok (.slice (some ⟨g, 0, none⟩) (l.length + 1) cap) w' ∧
      NR w' (.slice (some ⟨g, 0, none⟩) (l.length + 1) cap) (l ++ [x]) ∧ w.grownBy w' (some g) := by
  obtain ⟨i0, hi, hz0, hz1, hz2⟩ := info_parts node_info
  obtain ⟨v', w', hr, hK', hg, _⟩ := run_append_node w ty _ l hK A x hx hf h
  obtain ⟨w2, hr2, hown2, _⟩ := run_append_fits (P := Try.prog) w 0 22 ty 66 i0 7 Try.underlying22 hi hz1 g l.length cap _ hK.1 ⟨A, 0, none⟩ 1 1 x.cells rfl (node_news hx) (fine_one hf) hroom
  have e := hr.symm.trans hr2
  injection e with e1 e2
  rw [e1] at hK'
  rw [e2] at hK' hg
  exact ⟨w2, hr2, hK', hg⟩
theorem run_append_fullN (w : World) (ty : TypeId) (g c : Nat) (l : List Nd) (hK : NR w (.slice (some ⟨g, 0, none⟩) l.length c) l) (A : Nat) (x : Nd) (hx : NodeAt w A 0 x) (hf : x.fine) (h : l.length ≤ 1000000) :
    ∃ cap w', (Builtin.append_ #[22, 22] ty #[.slice (some ⟨g, 0, none⟩) l.length l.length, .slice (some ⟨A, 0, none⟩) 1 1]).run Try.prog w = .ok (.slice (some ⟨w.heap.size, 0, none⟩) (l.length + 1) cap) w' ∧
      NR w' (.slice (some ⟨w.heap.size, 0, none⟩) (l.length + 1) cap) (l ++ [x]) ∧ l.length + 1 ≤ cap ∧ cap ≤ maxLen ∧ w.grownBy w' none := by
  obtain ⟨i0, hi, hz0, hz1, hz2⟩ := info_parts node_info
  have hge := grownCap_ge w (l.length + 1) l.length 66
  have hcm := grownCap_le_maxLen w (l.length + 1) l.length 66 (by unfold maxLen; omega)
  have hl7 := clN_len l
  have hr := run_append_grow (P := Try.prog) w 22 ty 66 i0 _ Try.underlying22 hi hz0 ⟨g, 0, none⟩ l.length l.length (clN l) (by rw [hz1]; exact hl7) (hK.1.cells (g := g) rfl) ⟨A, 0, none⟩ 1 1 x.cells (by rw [hz1]; rfl)
    (node_news hx) (by omega) (by omega) (growslice_fits (by omega) (by rw [hz2]; omega))
  have hxs : ∀ j u, (clN l)[j]? = some u → nOk (j % 7) u := by
    rcases hK.1.2 with ⟨e, _⟩ | ⟨g', cap', cur, e, _, hg, _, _, _, ht⟩
    · cases e
    · intro j u hu
      rw [← ht, List.getElem?_take] at hu
      split at hu
      · exact hK.2 g' cur _ _ (by rw [e]; rfl) hg j u (by simpa using hu)
      · cases hu
  refine ⟨_, _, hr, ⟨⟨clN_len _, .inr ⟨w.heap.size, _, _, by rw [List.length_append]; rfl, Nat.zero_le _, heap_alloc_new w.drew _, by rw [List.length_append]; exact hge, hcm, ?_, ?_⟩⟩, okRow.allocD (ok_three (n := l.length) (m := 1) (size := 7) hl7 rfl rfl hxs (fine_ok hf) zero_nok)⟩, hge, hcm, ⟨rfl, rfl, rfl, by simp, fun k hk _ => Below.heap_alloc _ _ _ hk⟩⟩
  · simp only [Array.size_append, List.size_toArray, size_zeroCells, hl7]
    show l.length * 7 + 7 + (_ - (l.length + 1)) * 7 = _ * 7
    omega
  · simp only [Array.toList_append]
    rw [clN_snoc]
    have e : ((l ++ [x]).length * 7) = (clN l ++ x.cells).length := by rw [List.length_append, List.length_append, hl7]; show (l.length + 1) * 7 = l.length * 7 + 7; omega
    rw [e]
    exact List.take_left
/-- A store of one cell into the spare room. -/
theorem NR.spare {w : World} {g n c : Nat} {l : List Nd} (h : NR w (.slice (some ⟨g, 0, none⟩) n c) l) (j : Nat) (hj : l.length * 7 ≤ j) (u : Value) (hu : nOk (j % 7) u) :
    NR (w.setCell ⟨g, j, none⟩ u) (.slice (some ⟨g, 0, none⟩) n c) l ∧ w.grownBy (w.setCell ⟨g, j, none⟩ u) (some g) := by
  have h1 := h.1
  have hn : n = l.length := by
    rcases h1.2 with ⟨e, _⟩ | ⟨g', cap', cur, e, _⟩
    · cases e
    · injection e
  rw [hn] at h1 ⊢
  obtain ⟨s1, s2⟩ := h1.stored j u
  refine ⟨⟨?_, ?_⟩, s2⟩
  · rw [List.set_eq_of_length_le (by rw [clN_len]; exact hj)] at s1; exact s1
  · intro g' c' t fz hg hc i y hy
    simp only [Value.ownBlock, Option.some.injEq] at hg
    subst hg
    obtain ⟨cur, hcur⟩ : ∃ cur, w.heap[g]? = some (.cells cur 66 (0, 0)) := by
      rcases h1.2 with ⟨e2, _⟩ | ⟨g2, cap, cur, e2, _, hh, _⟩
      · cases e2
      · injection e2 with e1; cases e1; exact ⟨cur, hh⟩
    rw [heap_setCell_same w g j cur _ u hcur] at hc
    cases hc
    rw [Array.getElem?_setIfInBounds] at hy
    split at hy
    · rename_i e
      subst e
      split at hy
      · obtain rfl : u = y := by simpa using hy
        exact hu
      · cases hy
    · exact h.2 g cur _ _ rfl hcur i y hy
theorem step_append_run {P : Program} {ops : Array Oper} {o : Oper} {a : Act} {w : World} {K : Act → World → Prop} {Q : Exit → Act → World → Prop} {E : Prop} (hg : o.guard = none) (s x : Operand) (t tn : TypeId)
    (ho : o.op = .call { callee := .builtin .append, args := #[s, x], argTypes := #[t, tn] }) (vs vx : Value) (hs : a.eval s = vs) (hx : a.eval x = vx)
    (v' : Value) (w' : World) (hr : (Builtin.append_ #[t, tn] o.type #[vs, vx]).run P w = .ok v' w') (h : K (a.put o.dst v') w') :
    if Region.wanted o (yielded ops a.tmps) = true then Oper.wp P o a w K Q else E := by
  have hw : Region.wanted o (yielded ops a.tmps) = true := by simp [Region.wanted, hg]
  rw [if_pos hw]
  exact Lib.wp_append_run w s x t tn ho vs vx hs hx v' w' hr h
end Go.Proofs.Ytkkngflpmdcfjaa
