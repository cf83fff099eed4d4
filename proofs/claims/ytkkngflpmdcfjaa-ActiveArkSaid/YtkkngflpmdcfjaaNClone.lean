/-
  The walk of the document's Clone: a tree that shares nothing with the one that it was made of.
-/
import Derived.Test.YtkkngflpmdcfjaaNCut
namespace Go.Proofs.Ytkkngflpmdcfjaa
open Go.RowKit

/-- A node as it is read: its attributes and kids lie somewhere. -/
def ReadK (w : World) (x : Nd) : Prop := (∃ a c, x.kv = .slice a x.kids.length c ∧ IntsAt w a x.kids) ∧ ∃ a c, x.av = .slice a x.attrs.length c ∧ A.AttrsAt w a x.attrs
/-- Nodes as they are read. -/
def ReadN (w : World) (v : Value) (l : List Nd) : Prop :=
  ∃ a cap, v = .slice a l.length cap ∧ (l ≠ [] → ∃ b off, a = some ⟨b, off, none⟩ ∧ b < w.heap.size ∧ ∀ i (h : i < l.length), NodeAt w b (off + i * 7) l[i]) ∧ ∀ i (h : i < l.length), ReadK w l[i]
set_option maxRecDepth 100000 in
theorem ReadK.below {w w' : World} {x : Nd} (h : ReadK w x) (hb : Below w.heap.size w w') : ReadK w' x := by
  obtain ⟨⟨a, c, e, h1⟩, a', c', e', h2⟩ := h
  exact ⟨⟨a, c, e, h1.below hb⟩, a', c', e', h2.below hb⟩
set_option maxRecDepth 100000 in
theorem ReadN.below {w w' : World} {v : Value} {l : List Nd} (h : ReadN w v l) (hb : Below w.heap.size w w') : ReadN w' v l := by
  obtain ⟨a, cap, e, h1, h2⟩ := h
  refine ⟨a, cap, e, fun hne => ?_, fun i hi => (h2 i hi).below hb⟩
  obtain ⟨b, off, e2, hlt, hc⟩ := h1 hne
  exact ⟨b, off, e2, Nat.lt_of_lt_of_le hlt hb.size, fun i hi k hk => (hb.cell (p := ⟨b, off + i * 7 + k, none⟩) hlt).trans (hc i hi k hk)⟩
set_option maxRecDepth 100000 in
theorem NodesAt.read {w : World} {R : Nat → Prop} {v : Value} {l : List Nd} (h : NodesAt w R v l) : ReadN w v l := by
  obtain ⟨a, cap, e, _, _⟩ := h.nr.slice
  refine ⟨a, cap, e, fun hne => ?_, fun i hi => ⟨?_, ?_⟩⟩
  · obtain ⟨g, cap', e2, _, _, hg, hc, _⟩ := h.nr.form (by cases l with | nil => exact absurd rfl hne | cons => simp)
    rw [e] at e2
    injection e2 with e2
    exact ⟨g, 0, e2, hg, fun i hi k hk => by rw [Nat.zero_add]; exact hc i hi k hk⟩
  · have hk := h.kr i hi
    obtain ⟨a, c, e, _⟩ := hk.form
    rw [e] at hk
    exact ⟨a, c, e, hk.ints⟩
  · obtain ⟨a, c, e, h1, _⟩ := h.ar i hi
    exact ⟨a, c, e, h1⟩

set_option maxRecDepth 100000 in
/-- One node more, with kids in a row of its own. -/
theorem NodesAt.push2 {w w' : World} {R : Nat → Prop} {v v' : Value} {l : List Nd} {p : Nat} {pc : Array Value} {pf : Nat × Nat} {x : Nd} (h : NodesAt w R v l) (hp : w.heap[p]? = some (.cells pc 24 pf)) (hs : w.heap.size ≤ w'.heap.size)
    (hb : ∀ k, k < w.heap.size → some k ≠ v.ownBlock → k ≠ p → w'.heap[k]? = w.heap[k]?) (hn : NR w' v' (l ++ [x])) (hv : v'.ownBlock = v.ownBlock ∨ ∃ g, v'.ownBlock = some g ∧ w.heap.size ≤ g)
    (hx : AR w' (RN R w w') x.av x.attrs) (hk : KR w' x.kv x.kids) (hk2 : ∀ k, x.kv.ownBlock = some k → w.heap.size ≤ k) : NodesAt w' (RN R w w') v' (l ++ [x]) := by
  have keep : ∀ k c t f, w.heap[k]? = some (Obj.cells c t f) → t ≠ 66 → t ≠ 24 → w'.heap[k]? = w.heap[k]? := fun k c t f hk h1 h2 =>
    hb k (Array.getElem?_eq_some_iff.1 hk).1 (fun e => by obtain ⟨c', f', h3⟩ := h.nr.kind e.symm; exact kind_ne hk h3 h1 rfl) (fun e => kind_ne hk hp h2 e)
  have old : ∀ i (hi : i < (l ++ [x]).length), (∃ h' : i < l.length, (l ++ [x])[i] = l[i]) ∨ (i = l.length ∧ (l ++ [x])[i] = x) := fun i hi => by
    by_cases h' : i < l.length
    · exact .inl ⟨h', List.getElem_append_left h'⟩
    · have : i = l.length := by simp at hi; omega
      subst this; exact .inr ⟨rfl, by simp⟩
  refine ⟨hn, fun i hi => ?_, fun i hi => ?_, fun k hk' => ?_, fun i hi k hk' => ?_, fun i j hi hj k h1 h2 => ?_, fun k hk' => ?_⟩
  · rcases old i hi with ⟨h', e⟩ | ⟨_, e⟩
    · rw [e]; exact (h.kr i h').kept fun g hg => by obtain ⟨c, f, h1⟩ := (h.kr i h').kind hg; exact keep g c _ f h1 (by decide) (by decide)
    · rw [e]; exact hk
  · rcases old i hi with ⟨h', e⟩ | ⟨_, e⟩
    · rw [e]; exact (h.ar i h').kept (fun k hk => .inl hk) (fun g cs fz _ hg => keep g cs _ fz hg (by decide) (by decide)) hs
    · rw [e]; exact hx
  · rcases hv with e | ⟨g, e, hg⟩
    · exact .inl (h.rv k (e ▸ hk'))
    · rw [e] at hk'; injection hk' with hk'; subst hk'
      exact .inr ⟨hg, hn.lt g e⟩
  · rcases old i hi with ⟨h', e⟩ | ⟨_, e⟩
    · rw [e] at hk'; exact .inl (h.rk i h' k hk')
    · rw [e] at hk'; exact .inr ⟨hk2 k hk', hk.lt k hk'⟩
  · rcases old i hi with ⟨hi', e⟩ | ⟨e0, e⟩ <;> rcases old j hj with ⟨hj', e'⟩ | ⟨e0', e'⟩ <;> rw [e] at h1 <;> rw [e'] at h2
    · exact h.ne i j hi' hj' k h1 h2
    · have := h.lt k (h.rk i hi' k h1); have := hk2 k h2; omega
    · have := h.lt k (h.rk j hj' k h2); have := hk2 k h1; omega
    · omega
  · rcases hk' with hk' | hk'
    · exact Nat.lt_of_lt_of_le (h.lt k hk') hs
    · exact hk'.2
/-- What Clone leaves. -/
def NoR : Nat → Prop := fun _ => False
def RetCl (l : List Nd) (w : World) (e : Ending) (w' : World) : Prop := ∃ v l', e = .returned (.agg #[v]) ∧ Below w.heap.size w w' ∧ NodesAt w' (RN NoR w w') v l' ∧ l'.map norm = l.map norm
/-- The world behind the three boxes of Clone. -/
def C3 (w : World) (v : Value) : World := ((w.alloc (.cells #[v] 24)).alloc (.cells #[.slice none 0 0] 24)).alloc (.cells #[.slice none 0 0] 24)
set_option maxRecDepth 100000 in
theorem c3_below (w : World) (v : Value) : Below w.heap.size w (C3 w v) := ((below_box w _).alloc (by simp) _).alloc (by simp; omega) _
set_option maxRecDepth 100000 in
theorem c3_size (w : World) (v : Value) : (C3 w v).heap.size = w.heap.size + 3 := by simp [C3]
set_option maxRecDepth 100000 in
theorem c3_at (w : World) (v : Value) : (C3 w v).heap[w.heap.size]? = some (.cells #[v] 24 (0, 0)) ∧ (C3 w v).heap[w.heap.size + 1]? = some (.cells #[.slice none 0 0] 24 (0, 0)) ∧ (C3 w v).heap[w.heap.size + 2]? = some (.cells #[.slice none 0 0] 24 (0, 0)) := by
  refine ⟨?_, ?_, ?_⟩
  · exact (Below.heap_alloc _ _ _ (by simp; omega)).trans ((Below.heap_alloc _ _ _ (by simp)).trans (heap_alloc_new w _))
  · have h := heap_alloc_new (w.alloc (.cells #[v] 24)) (.cells #[.slice none 0 0] 24)
    rw [show (w.alloc (.cells #[v] 24)).heap.size = w.heap.size + 1 by simp] at h
    exact (Below.heap_alloc _ _ _ (by simp)).trans h
  · have h := heap_alloc_new ((w.alloc (.cells #[v] 24)).alloc (.cells #[.slice none 0 0] 24)) (.cells #[.slice none 0 0] 24)
    rw [show ((w.alloc (.cells #[v] 24)).alloc (.cells #[.slice none 0 0] 24)).heap.size = w.heap.size + 2 by simp] at h
    exact h

set_option maxRecDepth 100000 in
/-- A store into another tree's variable. -/
theorem NodesAt.setTree {w : World} {R : Nat → Prop} {v : Value} {l : List Nd} {q : Nat} {c : Array Value} {f : Nat × Nat} (h : NodesAt w R v l) (hq : w.heap[q]? = some (Obj.cells c 24 f)) (u : Value) : NodesAt (w.setCell ⟨q, 0, none⟩ u) R v l := by
  have hs : (w.setCell ⟨q, 0, none⟩ u).heap.size = w.heap.size := by simp
  refine ⟨h.nr.kept fun g hg => ?_, fun i hi => (h.kr i hi).kept fun g hg => ?_, fun i hi => (h.ar i hi).kept (fun _ h => h) (fun g cs fz _ hg => setCell_other (kind_ne hg hq (by decide))) (by rw [hs]; exact Nat.le_refl _), h.rv, h.rk, h.ne, fun k hk => by rw [hs]; exact h.lt k hk⟩
  · obtain ⟨c', f', h1⟩ := h.nr.kind hg
    exact setCell_other (kind_ne h1 hq (by decide))
  · obtain ⟨c', f', h1⟩ := (h.kr i hi).kind hg
    exact setCell_other (kind_ne h1 hq (by decide))
set_option maxRecDepth 100000 in
theorem NodesAt.wide {w : World} {R R' : Nat → Prop} {v : Value} {l : List Nd} (h : NodesAt w R v l) (hr : ∀ k, R k → R' k) (hl : ∀ k, R' k → k < w.heap.size) : NodesAt w R' v l := h.keep (Nat.le_refl _) (fun _ _ => rfl) hr hl
set_option maxRecDepth 100000 in
theorem rn_same {R : Nat → Prop} {w w1 w2 : World} (h : w2.heap.size = w1.heap.size) : ∀ k, RN R w w1 k → RN R w w2 k := fun k hk => by rcases hk with hk | hk; exact .inl hk; exact .inr ⟨hk.1, by rw [h]; exact hk.2⟩

end Go.Proofs.Ytkkngflpmdcfjaa
