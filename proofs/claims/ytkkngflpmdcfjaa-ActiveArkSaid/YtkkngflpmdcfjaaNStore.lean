/-
  Stores into a tree's nodes; a tree by what it says.
-/
import Derived.Test.YtkkngflpmdcfjaaNAdd
namespace Go.Proofs.Ytkkngflpmdcfjaa
open Go.RowKit

set_option maxRecDepth 100000 in
theorem NR.stored {w : World} {g n c : Nat} {l : List Nd} (h : NR w (.slice (some ⟨g, 0, none⟩) n c) l) (j : Nat) (u : Value) (hu : nOk (j % 7) u) (l' : List Nd) (hl : l'.length = l.length) (hc : (clN l).set j u = clN l') :
    NR (w.setCell ⟨g, j, none⟩ u) (.slice (some ⟨g, 0, none⟩) n c) l' := by
  have h1 := h.1
  have hn : n = l.length := by
    rcases h1.2 with ⟨e, _⟩ | ⟨g', cap', cur, e, _⟩
    · cases e
    · injection e
  rw [hn] at h1 ⊢
  obtain ⟨s1, s2⟩ := h1.stored j u
  refine ⟨?_, ?_⟩
  · rw [hl, ← hc]; exact s1
  · intro g' c' t fz hg hc' i y hy
    simp only [Value.ownBlock, Option.some.injEq] at hg
    subst hg
    obtain ⟨cur, hcur⟩ : ∃ cur, w.heap[g]? = some (Obj.cells cur 66 (0, 0)) := by
      rcases h1.2 with ⟨e2, _⟩ | ⟨g2, cap, cur, e2, _, hh, _⟩
      · cases e2
      · injection e2 with e1; cases e1; exact ⟨cur, hh⟩
    rw [heap_setCell_same w g j cur _ u hcur] at hc'
    cases hc'
    rw [Array.getElem?_setIfInBounds] at hy
    split at hy
    · rename_i e
      subst e
      split at hy
      · obtain rfl : u = y := by simpa using hy
        exact hu
      · cases hy
    · exact h.2 g cur _ _ rfl hcur i y hy
set_option maxRecDepth 100000 in
theorem setCell_other {w : World} {g j k : Nat} {u : Value} (h : k ≠ g) : (w.setCell ⟨g, j, none⟩ u).heap[k]? = w.heap[k]? := heap_setCell_other _ _ k _ h
set_option maxRecDepth 100000 in
theorem NodesAt.ne_kv {w : World} {R : Nat → Prop} {g n c : Nat} {l : List Nd} (h : NodesAt w R (.slice (some ⟨g, 0, none⟩) n c) l) {v : Value} {xs : List Int} (hk : KR w v xs) {q : Nat} (hq : v.ownBlock = some q) : q ≠ g := by
  obtain ⟨c1, f1, h1⟩ := hk.kind hq
  obtain ⟨c2, f2, h2⟩ := h.nr.kind (g := g) rfl
  exact kind_ne h1 h2 (by decide)
set_option maxRecDepth 100000 in
theorem NodesAt.ne_ar {w : World} {R : Nat → Prop} {g n c q : Nat} {l : List Nd} (h : NodesAt w R (.slice (some ⟨g, 0, none⟩) n c) l) {cs : Array Value} {fz : Nat × Nat} (hq : w.heap[q]? = some (Obj.cells cs 115 fz)) : q ≠ g := by
  obtain ⟨c2, f2, h2⟩ := h.nr.kind (g := g) rfl
  exact kind_ne hq h2 (by decide)
set_option maxRecDepth 100000 in
theorem modify_at {l : List Nd} {i j : Nat} {f : Nd → Nd} (h : j < (l.modify i f).length) : ∃ h' : j < l.length, (l.modify i f)[j] = if i = j then f l[j] else l[j] :=
  ⟨by simpa using h, by rw [List.getElem_modify]⟩
set_option maxRecDepth 100000 in
theorem NodesAt.setUp {w : World} {R : Nat → Prop} {g n c : Nat} {l : List Nd} (h : NodesAt w R (.slice (some ⟨g, 0, none⟩) n c) l) (i : Nat) (u : Int) :
    NodesAt (w.setCell ⟨g, i * 7 + 5, none⟩ (.int .i64 u)) R (.slice (some ⟨g, 0, none⟩) n c) (l.modify i (setUp u)) := by
  have hs : (w.setCell ⟨g, i * 7 + 5, none⟩ (.int .i64 u)).heap.size = w.heap.size := by simp
  have key : ∀ j (hj : j < (l.modify i (Go.Proofs.Ytkkngflpmdcfjaa.setUp u)).length), ∃ h' : j < l.length, (l.modify i (Go.Proofs.Ytkkngflpmdcfjaa.setUp u))[j].kv = l[j].kv ∧ (l.modify i (Go.Proofs.Ytkkngflpmdcfjaa.setUp u))[j].kids = l[j].kids ∧ (l.modify i (Go.Proofs.Ytkkngflpmdcfjaa.setUp u))[j].av = l[j].av ∧ (l.modify i (Go.Proofs.Ytkkngflpmdcfjaa.setUp u))[j].attrs = l[j].attrs := fun j hj => by
    obtain ⟨h', e⟩ := modify_at hj
    refine ⟨h', ?_⟩
    rw [e]
    split <;> exact ⟨rfl, rfl, rfl, rfl⟩
  refine ⟨h.nr.stored _ _ (by rw [show (i * 7 + 5) % 7 = 5 by omega]; exact ⟨u, rfl⟩) _ (by simp) (clN_setUp l i u), fun j hj => ?_, fun j hj => ?_, h.rv, fun j hj k hk => ?_, fun j j' hj hj' k h1 h2 => ?_, fun k hk => by rw [hs]; exact h.lt k hk⟩
  · obtain ⟨h', e1, e2, _⟩ := key j hj
    rw [e1, e2]; exact (h.kr j h').kept fun q hq => setCell_other (h.ne_kv (h.kr j h') hq)
  · obtain ⟨h', _, _, e1, e2⟩ := key j hj
    rw [e1, e2]; exact (h.ar j h').kept (fun _ h => h) (fun q cs fz _ hq => setCell_other (h.ne_ar hq)) (by rw [hs]; exact Nat.le_refl _)
  · obtain ⟨h', e1, _⟩ := key j hj
    rw [e1] at hk; exact h.rk j h' k hk
  · obtain ⟨g1, e1, _⟩ := key j hj
    obtain ⟨g2, e2, _⟩ := key j' hj'
    rw [e1] at h1; rw [e2] at h2; exact h.ne j j' g1 g2 k h1 h2
set_option maxRecDepth 100000 in
/-- The kids of a node are set to a list in a row of its own. -/
theorem NodesAt.setKids {w : World} {R : Nat → Prop} {g n c : Nat} {l : List Nd} (h : NodesAt w R (.slice (some ⟨g, 0, none⟩) n c) l) (i : Nat) (v : Value) (ks : List Int) (hv : KR w v ks)
    (hr : ∀ k, v.ownBlock = some k → R k ∧ ∀ j (hj : j < l.length), l[j].kv.ownBlock = some k → j = i) :
    NodesAt (w.setCell ⟨g, i * 7 + 6, none⟩ v) R (.slice (some ⟨g, 0, none⟩) n c) (l.modify i (setKids v ks)) := by
  have hs : (w.setCell ⟨g, i * 7 + 6, none⟩ v).heap.size = w.heap.size := by simp
  have key : ∀ j (hj : j < (l.modify i (Go.Proofs.Ytkkngflpmdcfjaa.setKids v ks)).length), ∃ h' : j < l.length, ((j = i ∧ (l.modify i (Go.Proofs.Ytkkngflpmdcfjaa.setKids v ks))[j].kv = v ∧ (l.modify i (Go.Proofs.Ytkkngflpmdcfjaa.setKids v ks))[j].kids = ks) ∨ (j ≠ i ∧ (l.modify i (Go.Proofs.Ytkkngflpmdcfjaa.setKids v ks))[j].kv = l[j].kv ∧ (l.modify i (Go.Proofs.Ytkkngflpmdcfjaa.setKids v ks))[j].kids = l[j].kids)) ∧ (l.modify i (Go.Proofs.Ytkkngflpmdcfjaa.setKids v ks))[j].av = l[j].av ∧ (l.modify i (Go.Proofs.Ytkkngflpmdcfjaa.setKids v ks))[j].attrs = l[j].attrs := fun j hj => by
    obtain ⟨h', e⟩ := modify_at hj
    refine ⟨h', ?_⟩
    rw [e]
    by_cases hij : i = j
    · rw [if_pos hij]; exact ⟨.inl ⟨hij.symm, rfl, rfl⟩, rfl, rfl⟩
    · rw [if_neg hij]; exact ⟨.inr ⟨fun e => hij e.symm, rfl, rfl⟩, rfl, rfl⟩
  have hone : ∃ a n c, v = .slice a n c := by obtain ⟨a, cap, e, _⟩ := hv.form; exact ⟨_, _, _, e⟩
  refine ⟨h.nr.stored _ _ (by rw [show (i * 7 + 6) % 7 = 6 by omega]; exact hone) _ (by simp) (clN_setKids l i v ks), fun j hj => ?_, fun j hj => ?_, h.rv, fun j hj k hk => ?_, fun j j' hj hj' k h1 h2 => ?_, fun k hk => by rw [hs]; exact h.lt k hk⟩
  · obtain ⟨h', (⟨_, e1, e2⟩ | ⟨_, e1, e2⟩), _⟩ := key j hj
    · rw [e1, e2]; exact hv.kept fun q hq => setCell_other (h.ne_kv hv hq)
    · rw [e1, e2]; exact (h.kr j h').kept fun q hq => setCell_other (h.ne_kv (h.kr j h') hq)
  · obtain ⟨h', _, e1, e2⟩ := key j hj
    rw [e1, e2]; exact (h.ar j h').kept (fun _ h => h) (fun q cs fz _ hq => setCell_other (h.ne_ar hq)) (by rw [hs]; exact Nat.le_refl _)
  · obtain ⟨h', (⟨_, e1, _⟩ | ⟨_, e1, _⟩), _⟩ := key j hj
    · rw [e1] at hk; exact (hr k hk).1
    · rw [e1] at hk; exact h.rk j h' k hk
  · obtain ⟨g1, (⟨n1, e1, _⟩ | ⟨n1, e1, _⟩), _⟩ := key j hj <;> obtain ⟨g2, (⟨n2, e2, _⟩ | ⟨n2, e2, _⟩), _⟩ := key j' hj' <;> rw [e1] at h1 <;> rw [e2] at h2
    · omega
    · have := (hr k h1).2 j' g2 h2; omega
    · have := (hr k h2).2 j g1 h1; omega
    · exact h.ne j j' g1 g2 k h1 h2

/-- A node by what it says. -/
def norm (x : Nd) : Nd := { x with av := .slice none 0 0, kv := .slice none 0 0 }
/-- A tree by what it says. -/
def TreeP (w : World) (R : Nat → Prop) (p : Nat) (P : List Nd) : Prop := ∃ v l, TreeAt w R p v l ∧ l.map norm = P
def RetTree (R : Nat → Prop) (p : Nat) (P : List Nd) (w : World) (e : Ending) (w' : World) : Prop := e = .returned (.tuple #[]) ∧ Keeps R w w' ∧ TreeP w' (RN R w w') p P
set_option maxRecDepth 100000 in
theorem nodeI_norm (l : List Nd) (k : Int) : nodeI (l.map norm) k = norm (nodeI l k) := by
  unfold nodeI
  rw [List.getD_eq_getElem?_getD, List.getD_eq_getElem?_getD, List.getElem?_map]
  cases l[k.toNat]? <;> rfl
set_option maxRecDepth 100000 in
theorem upI_norm (l : List Nd) (k : Int) : upI (l.map norm) k = upI l k := by unfold upI; rw [nodeI_norm]; rfl
set_option maxRecDepth 100000 in
theorem placeP_norm (l : List Nd) (k : Int) : placeP (l.map norm) k = placeP l k := by unfold placeP; rw [List.length_map, upI_norm, nodeI_norm]; rfl
set_option maxRecDepth 100000 in
theorem climb_norm (l : List Nd) (up : Int) : ∀ f k, climb (l.map norm) up f k = climb l up f k
  | 0, _ => rfl
  | f + 1, k => by unfold climb; rw [List.length_map, upI_norm, climb_norm l up f]
set_option maxRecDepth 100000 in
theorem holdsP_norm (l : List Nd) (a b : Int) : holdsP (l.map norm) a b = holdsP l a b := by unfold holdsP; rw [List.length_map, climb_norm]
set_option maxRecDepth 100000 in
theorem rholdsP_norm (l : List Nd) (a b : Int) : rholdsP (l.map norm) a b = rholdsP l a b := by unfold rholdsP; rw [List.length_map, climb_norm]
set_option maxRecDepth 100000 in
theorem mayP_norm (l : List Nd) (a b : Int) : mayP (l.map norm) a b = mayP l a b := by unfold mayP; rw [List.length_map, holdsP_norm]
set_option maxRecDepth 100000 in
theorem map_modify (l : List Nd) (i : Nat) (f g : Nd → Nd) (h : ∀ x, norm (f x) = g (norm x)) : (l.modify i f).map norm = (l.map norm).modify i g := by
  apply List.ext_getElem?
  intro j
  rw [List.getElem?_map, List.getElem?_modify, List.getElem?_modify, List.getElem?_map]
  cases l[j]? with
  | none => simp
  | some x => simp only [Option.map_some]; split <;> simp [h]
/-- What the operations do, plainly. -/
def putKids (ks : List Int) (x : Nd) : Nd := { x with kids := ks }
def cutP (l : List Nd) (kid : Int) : List Nd :=
  if inN l.length kid = true then
    (let l1 := if 0 ≤ placeP l kid then l.modify (upI l kid).toNat (putKids ((nodeI l (upI l kid)).kids.eraseIdx (placeP l kid).toNat)) else l
     if kid = 0 then l1 else l1.modify kid.toNat (setUp (-1)))
  else l
def insAt (ks : List Int) (at_ kid : Int) : List Int := ks.take (min at_.toNat ks.length) ++ kid :: ks.drop (min at_.toNat ks.length)
def putP (l : List Nd) (up at_ kid : Int) : List Nd :=
  if kid ≠ 0 ∧ mayP l kid up = true then
    (let l1 := cutP l kid
     (l1.modify up.toNat (putKids (insAt (nodeI l1 up).kids at_ kid))).modify kid.toNat (setUp up))
  else l
end Go.Proofs.Ytkkngflpmdcfjaa
