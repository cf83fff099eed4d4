/-
  Nodes in memory: a block of nodes, each with a block of its kids and one of its attributes; what is kept of them by a store.
-/
import Derived.Test.YtkkngflpmdcfjaaNRow
import Derived.Test.YtkkngflpmdcfjaaAAdd
import Derived.Test.YtkkngflpmdcfjaaASame
namespace Go.Proofs.Ytkkngflpmdcfjaa
open Go.RowKit

/-- A node: what its cells hold, and which kids and attributes these are. -/
structure Nd where
  kind : Int
  space : Int
  name : ByteArray
  av : Value
  data : ByteArray
  up : Int
  kv : Value
  kids : List Int
  attrs : List A.At
def Nd.cells (x : Nd) : List Value := [.int .i64 x.kind, .int .i64 x.space, .string x.name, x.av, .string x.data, .int .i64 x.up, x.kv]
def Nd.val (x : Nd) : Value := .agg #[.int .i64 x.kind, .int .i64 x.space, .string x.name, x.av, .string x.data, .int .i64 x.up, x.kv]
def clN (l : List Nd) : List Value := l.flatMap Nd.cells
def setUp (u : Int) (x : Nd) : Nd := { x with up := u }
def setKids (v : Value) (ks : List Int) (x : Nd) : Nd := { x with kv := v, kids := ks }
theorem clN_cons (x : Nd) (l : List Nd) : clN (x :: l) = .int .i64 x.kind :: .int .i64 x.space :: .string x.name :: x.av :: .string x.data :: .int .i64 x.up :: x.kv :: clN l := rfl
theorem clN_len : ∀ l : List Nd, (clN l).length = l.length * 7
  | [] => rfl
  | a :: l => by have := clN_len l; rw [clN_cons]; simp only [List.length_cons, this]; omega
theorem clN_app (l m : List Nd) : clN (l ++ m) = clN l ++ clN m := by unfold clN; rw [List.flatMap_append]
theorem clN_at : ∀ (l : List Nd) (j : Nat) (h : j < l.length) (k : Nat), k < 7 → (clN l)[j * 7 + k]? = l[j].cells[k]?
  | [], j, h, _, _ => by simp at h
  | a :: l, 0, _, k, hk => by
    have e : clN (a :: l) = a.cells ++ clN l := rfl
    rw [e, Nat.zero_mul, Nat.zero_add, List.getElem?_append, if_pos (by show k < 7; exact hk)]; rfl
  | a :: l, j + 1, h, k, hk => by
    have ih := clN_at l j (by simpa using h) k hk
    have e : clN (a :: l) = a.cells ++ clN l := rfl
    rw [e, List.getElem?_append, if_neg (by show ¬ _ < 7; omega)]
    have : (j + 1) * 7 + k - a.cells.length = j * 7 + k := by show (j + 1) * 7 + k - 7 = _; omega
    rw [this]; simpa using ih
theorem clN_setUp : ∀ (l : List Nd) (i : Nat) (u : Int), (clN l).set (i * 7 + 5) (.int .i64 u) = clN (l.modify i (setUp u))
  | [], i, u => by simp [clN]
  | a :: l, 0, u => by simp [clN_cons, setUp, List.modify]
  | a :: l, i + 1, u => by
    have ih := clN_setUp l i u
    rw [show (i + 1) * 7 + 5 = (i * 7 + 5) + 1 + 1 + 1 + 1 + 1 + 1 + 1 by omega, List.modify_succ_cons, clN_cons, clN_cons]
    simp only [List.set_cons_succ, ih]
theorem clN_setKids : ∀ (l : List Nd) (i : Nat) (v : Value) (ks : List Int), (clN l).set (i * 7 + 6) v = clN (l.modify i (setKids v ks))
  | [], i, v, ks => by simp [clN]
  | a :: l, 0, v, ks => by simp [clN_cons, setKids, List.modify]
  | a :: l, i + 1, v, ks => by
    have ih := clN_setKids l i v ks
    rw [show (i + 1) * 7 + 6 = (i * 7 + 6) + 1 + 1 + 1 + 1 + 1 + 1 + 1 by omega, List.modify_succ_cons, clN_cons, clN_cons]
    simp only [List.set_cons_succ, ih]
theorem cells_one {x : Nd} (ha : x.av.oneCell' = true) (hk : x.kv.oneCell' = true) : ∀ u ∈ x.cells, u.oneCell' = true := by
  intro u hu
  simp [Nd.cells] at hu
  rcases hu with rfl | rfl | rfl | rfl | rfl | rfl | rfl <;> first | rfl | assumption

/-- The kind of each cell of a node; of a number. -/
def nOk (k : Nat) (u : Value) : Prop :=
  if k = 2 ∨ k = 4 then ∃ s, u = .string s else if k = 3 ∨ k = 6 then ∃ a n c, u = .slice a n c else ∃ z, u = .int .i64 z
def iOk (_ : Nat) (u : Value) : Prop := ∃ z, u = .int .i64 z
def KR (w : World) (v : Value) (xs : List Int) : Prop := w.ownsRow 0 3 1 v xs.length (xs.map (Value.int .i64)) ∧ okRow w iOk 1 v
def NR (w : World) (v : Value) (l : List Nd) : Prop := w.ownsRow 0 66 7 v l.length (clN l) ∧ okRow w nOk 7 v
def AR (w : World) (R : Nat → Prop) (v : Value) (l : List A.At) : Prop :=
  ∃ a c, v = .slice a l.length c ∧ A.AttrsAt w a l ∧ ∀ b off, l ≠ [] → a = some ⟨b, off, none⟩ → R b ∧ ∃ cs fz, w.heap[b]? = some (.cells cs 115 fz)
structure NodesAt (w : World) (R : Nat → Prop) (v : Value) (l : List Nd) : Prop where
  nr : NR w v l
  kr : ∀ i (h : i < l.length), KR w l[i].kv l[i].kids
  ar : ∀ i (h : i < l.length), AR w R l[i].av l[i].attrs
  rv : ∀ k, v.ownBlock = some k → R k
  rk : ∀ i (h : i < l.length) k, l[i].kv.ownBlock = some k → R k
  ne : ∀ i j (hi : i < l.length) (hj : j < l.length) k, l[i].kv.ownBlock = some k → l[j].kv.ownBlock = some k → i = j
  lt : ∀ k, R k → k < w.heap.size
/-- A tree in a variable. -/
structure TreeAt (w : World) (R : Nat → Prop) (p : Nat) (v : Value) (l : List Nd) : Prop where
  at_p : w.heap[p]? = some (.cells #[v] 24 (0, 0))
  rp : R p
  nodes : NodesAt w R v l
/-- Nothing but what R names has changed. -/
structure Keeps (R : Nat → Prop) (w w' : World) : Prop where
  os : w'.os = w.os
  tape : w'.tape = w.tape
  output : w'.output = w.output
  size : w.heap.size ≤ w'.heap.size
  block : ∀ k, k < w.heap.size → ¬ R k → w'.heap[k]? = w.heap[k]?
def More (R R' : Nat → Prop) (w : World) : Prop := ∀ k, R' k → R k ∨ w.heap.size ≤ k

theorem Keeps.refl (R : Nat → Prop) (w : World) : Keeps R w w := ⟨rfl, rfl, rfl, Nat.le_refl _, fun _ _ _ => rfl⟩
theorem Keeps.trans {R R' : Nat → Prop} {w w1 w2 : World} (h : Keeps R w w1) (hm : More R R' w) (h2 : Keeps R' w1 w2) : Keeps R w w2 :=
  ⟨h2.os.trans h.os, h2.tape.trans h.tape, h2.output.trans h.output, Nat.le_trans h.size h2.size, fun k hk hr =>
    (h2.block k (Nat.lt_of_lt_of_le hk h.size) (fun e => by rcases hm k e with h | h; exact hr h; omega)).trans (h.block k hk hr)⟩
theorem Keeps.mono {R R' : Nat → Prop} {w w1 : World} (h : Keeps R w w1) (hm : ∀ k, R k → R' k) : Keeps R' w w1 :=
  ⟨h.os, h.tape, h.output, h.size, fun k hk hr => h.block k hk fun e => hr (hm k e)⟩
theorem Keeps.of_below {R : Nat → Prop} {w w1 : World} (h : Below w.heap.size w w1) : Keeps R w w1 := ⟨h.os, h.tape, h.output, h.size, fun k hk _ => h.block k hk⟩
theorem Keeps.below {R : Nat → Prop} {b : Nat} {w w1 : World} (h : Keeps R w w1) (hb : b ≤ w.heap.size) (hr : ∀ k, R k → b ≤ k) : Below b w w1 :=
  ⟨h.os, h.tape, h.output, h.size, fun k hk => h.block k (by omega) fun e => by have := hr k e; omega⟩
theorem Keeps.drew {R : Nat → Prop} {w w1 : World} (h : Keeps R w w1) : Keeps R w w1.drew := ⟨h.os, h.tape, h.output, h.size, h.block⟩
theorem Keeps.grown {R : Nat → Prop} {w w1 : World} {row : Option Nat} (h : w.grownBy w1 row) (hr : ∀ k, row = some k → R k) : Keeps R w w1 :=
  ⟨h.os, h.tape, h.output, h.size, fun k hk hn => h.block k hk fun e => hn (hr k e.symm)⟩
theorem More.refl (R : Nat → Prop) (w : World) : More R R w := fun _ h => .inl h
theorem More.trans {R R1 R2 : Nat → Prop} {w w1 : World} (h : More R R1 w) (h2 : More R1 R2 w1) (hs : w.heap.size ≤ w1.heap.size) : More R R2 w := fun k hk => by
  rcases h2 k hk with h3 | h3
  · exact h k h3
  · exact .inr (by omega)

theorem own_block {w w' : World} {base : Nat} {e : TypeId} {size : Nat} {v : Value} {n : Nat} {xs : List Value} (h : w.ownsRow base e size v n xs) (hb : ∀ g, v.ownBlock = some g → w'.heap[g]? = w.heap[g]?) : w'.ownsRow base e size v n xs := by
  refine ⟨h.1, ?_⟩
  rcases h.2 with hn | ⟨g, cap, cur, rfl, hb2, hg, rest⟩
  · exact .inl hn
  · exact .inr ⟨g, cap, cur, rfl, hb2, (hb g rfl).trans hg, rest⟩
theorem KR.kept {w w' : World} {v : Value} {xs : List Int} (h : KR w v xs) (hb : ∀ g, v.ownBlock = some g → w'.heap[g]? = w.heap[g]?) : KR w' v xs := ⟨own_block h.1 hb, h.2.kept hb⟩
theorem NR.kept {w w' : World} {v : Value} {xs : List Nd} (h : NR w v xs) (hb : ∀ g, v.ownBlock = some g → w'.heap[g]? = w.heap[g]?) : NR w' v xs := ⟨own_block h.1 hb, h.2.kept hb⟩
theorem KR.kind {w : World} {v : Value} {xs : List Int} (h : KR w v xs) {g : Nat} (hg : v.ownBlock = some g) : ∃ c fz, w.heap[g]? = some (.cells c 3 fz) := by
  rcases h.1.2 with ⟨rfl, _⟩ | ⟨g', cap, cur, rfl, _, hh, _⟩
  · cases hg
  · simp [Value.ownBlock] at hg; subst hg; exact ⟨cur, _, hh⟩
theorem NR.kind {w : World} {v : Value} {xs : List Nd} (h : NR w v xs) {g : Nat} (hg : v.ownBlock = some g) : ∃ c fz, w.heap[g]? = some (.cells c 66 fz) := by
  rcases h.1.2 with ⟨rfl, _⟩ | ⟨g', cap, cur, rfl, _, hh, _⟩
  · cases hg
  · simp [Value.ownBlock] at hg; subst hg; exact ⟨cur, _, hh⟩
theorem KR.one {w : World} {v : Value} {xs : List Int} (h : KR w v xs) : v.oneCell' = true := by
  rcases h.1.2 with ⟨rfl, _⟩ | ⟨g', cap, cur, rfl, _⟩ <;> rfl
theorem AR.one {w : World} {R : Nat → Prop} {v : Value} {xs : List A.At} (h : AR w R v xs) : v.oneCell' = true := by
  obtain ⟨a, c, rfl, _⟩ := h; rfl
theorem AR.kept {w w' : World} {R R' : Nat → Prop} {v : Value} {l : List A.At} (h : AR w R v l) (hr : ∀ k, R k → R' k) (hb : ∀ g cs fz, R g → w.heap[g]? = some (.cells cs 115 fz) → w'.heap[g]? = w.heap[g]?) (hs : w.heap.size ≤ w'.heap.size) : AR w' R' v l := by
  obtain ⟨a, c, rfl, h1, h2⟩ := h
  refine ⟨a, c, rfl, fun hne => ?_, fun b off hne e => ?_⟩
  · obtain ⟨b, off, rfl, hlt, hc⟩ := h1 hne
    obtain ⟨hR, cs, fz, hh⟩ := h2 b off hne rfl
    have hk := hb b cs fz hR hh
    exact ⟨b, off, rfl, Nat.lt_of_lt_of_le hlt hs, fun j hj => ⟨(World.cell?_of_block (a := ⟨b, off + j * 2, none⟩) hk).trans (hc j hj).1, (World.cell?_of_block (a := ⟨b, off + j * 2 + 1, none⟩) hk).trans (hc j hj).2⟩⟩
  · obtain ⟨hR, cs, fz, hh⟩ := h2 b off hne e
    exact ⟨hr b hR, cs, fz, (hb b cs fz hR hh).trans hh⟩
theorem NodesAt.keep {w w' : World} {R R' : Nat → Prop} {v : Value} {l : List Nd} (h : NodesAt w R v l) (hs : w.heap.size ≤ w'.heap.size) (hb : ∀ k, R k → w'.heap[k]? = w.heap[k]?) (hr : ∀ k, R k → R' k) (hl : ∀ k, R' k → k < w'.heap.size) : NodesAt w' R' v l :=
  ⟨h.nr.kept fun g hg => hb g (h.rv g hg), fun i hi => (h.kr i hi).kept fun g hg => hb g (h.rk i hi g hg), fun i hi => (h.ar i hi).kept hr (fun g _ _ hg _ => hb g hg) hs,
    fun k hk => hr k (h.rv k hk), fun i hi k hk => hr k (h.rk i hi k hk), h.ne, hl⟩
theorem NodesAt.below {w w' : World} {R : Nat → Prop} {v : Value} {l : List Nd} (h : NodesAt w R v l) (hb : Below w.heap.size w w') : NodesAt w' R v l :=
  h.keep hb.size (fun k hk => hb.block k (h.lt k hk)) (fun _ h => h) fun k hk => Nat.lt_of_lt_of_le (h.lt k hk) hb.size
theorem NodesAt.other {w w' : World} {R S : Nat → Prop} {v : Value} {l : List Nd} (h : NodesAt w R v l) (hk : Keeps S w w') (hd : ∀ k, R k → ¬ S k) : NodesAt w' R v l :=
  h.keep hk.size (fun k hr => hk.block k (h.lt k hr) (hd k hr)) (fun _ h => h) fun k hr => Nat.lt_of_lt_of_le (h.lt k hr) hk.size
theorem NodesAt.drew {w : World} {R : Nat → Prop} {v : Value} {l : List Nd} (h : NodesAt w R v l) : NodesAt w.drew R v l :=
  h.keep (Nat.le_refl _) (fun _ _ => rfl) (fun _ h => h) h.lt
theorem TreeAt.below {w w' : World} {R : Nat → Prop} {p : Nat} {v : Value} {l : List Nd} (h : TreeAt w R p v l) (hb : Below w.heap.size w w') : TreeAt w' R p v l :=
  ⟨(hb.block p (h.nodes.lt p h.rp)).trans h.at_p, h.rp, h.nodes.below hb⟩
theorem TreeAt.other {w w' : World} {R S : Nat → Prop} {p : Nat} {v : Value} {l : List Nd} (h : TreeAt w R p v l) (hk : Keeps S w w') (hd : ∀ k, R k → ¬ S k) : TreeAt w' R p v l :=
  ⟨(hk.block p (h.nodes.lt p h.rp) (hd p h.rp)).trans h.at_p, h.rp, h.nodes.other hk hd⟩
theorem TreeAt.drew {w : World} {R : Nat → Prop} {p : Nat} {v : Value} {l : List Nd} (h : TreeAt w R p v l) : TreeAt w.drew R p v l := ⟨h.at_p, h.rp, h.nodes.drew⟩
theorem TreeAt.cell {w : World} {R : Nat → Prop} {p : Nat} {v : Value} {l : List Nd} (h : TreeAt w R p v l) : w.cell? ⟨p, 0, none⟩ = some v := by simp [World.cell?, h.at_p]
theorem TreeAt.frozen {w : World} {R : Nat → Prop} {p : Nat} {v : Value} {l : List Nd} (h : TreeAt w R p v l) : w.frozen? ⟨p, 0, none⟩ = false := by simp [World.frozen?, h.at_p]

/-- A list of numbers as the walk reads it. -/
theorem KR.form {w : World} {v : Value} {xs : List Int} (h : KR w v xs) : ∃ a cap, v = .slice a xs.length cap ∧ xs.length ≤ cap ∧ cap ≤ maxLen ∧ (a = none → cap = 0) ∧
    ∀ ad, a = some ad → ∃ g, ad = ⟨g, 0, none⟩ ∧ g < w.heap.size ∧ (∀ j (h : j < xs.length), w.cell? ⟨g, j, none⟩ = some (.int .i64 xs[j])) ∧ (∀ j, j < cap → ∃ z, w.cell? ⟨g, j, none⟩ = some (.int .i64 z)) ∧ ∀ j, w.frozen? ⟨g, j, none⟩ = false := by
  rcases h.1.2 with ⟨rfl, e⟩ | ⟨g, cap, cur, rfl, _, hg, hn, hm, hs, ht⟩
  · exact ⟨none, 0, by rw [e], by omega, by omega, fun _ => rfl, fun ad h => by cases h⟩
  · refine ⟨_, cap, rfl, hn, hm, (fun h => by cases h), fun ad e => ⟨g, by cases e; rfl, (Array.getElem?_eq_some_iff.1 hg).1, fun j hj => ?_, fun j hj => ?_, fun j => frozen_of_row w g j cur _ hg⟩⟩
    · rw [cell_of_row w g j cur _ _ hg]
      have e : (cur.toList.take (xs.length * 1))[j]? = (xs.map (Value.int .i64))[j]? := by rw [ht]
      rw [List.getElem?_take, if_pos (by omega), List.getElem?_map, List.getElem?_eq_getElem hj] at e
      simpa using e
    · rw [cell_of_row w g j cur _ _ hg]
      have hj' : j < cur.size := by omega
      obtain ⟨z, hz⟩ := h.2 g cur _ _ rfl hg j cur[j] (Array.getElem?_eq_getElem hj')
      exact ⟨z, by rw [Array.getElem?_eq_getElem hj', hz]⟩
/-- The nodes as the walk reads them. -/
theorem NR.form {w : World} {v : Value} {l : List Nd} (h : NR w v l) (hne : 0 < l.length) : ∃ g cap, v = .slice (some ⟨g, 0, none⟩) l.length cap ∧ l.length ≤ cap ∧ cap ≤ maxLen ∧ g < w.heap.size ∧
    (∀ i (h : i < l.length) k, k < 7 → w.cell? ⟨g, i * 7 + k, none⟩ = l[i].cells[k]?) ∧ (∀ i, i < cap → ∃ x : Nd, ∀ k, k < 7 → w.cell? ⟨g, i * 7 + k, none⟩ = x.cells[k]?) ∧ ∀ j, w.frozen? ⟨g, j, none⟩ = false := by
  rcases h.1.2 with ⟨rfl, e⟩ | ⟨g, cap, cur, rfl, _, hg, hn, hm, hs, ht⟩
  · omega
  · refine ⟨g, cap, rfl, hn, hm, (Array.getElem?_eq_some_iff.1 hg).1, fun i hi k hk => ?_, fun i hi => ?_, fun j => frozen_of_row w g j cur _ hg⟩
    · rw [cell_of_row w g _ cur _ _ hg, ← clN_at l i hi k hk, ← ht, List.getElem?_take, if_pos (by omega)]; simp
    · have key : ∀ k, k < 7 → ∃ u, cur[i * 7 + k]? = some u ∧ nOk k u := fun k hk => by
        have hj : i * 7 + k < cur.size := by omega
        have := h.2 g cur _ _ rfl hg (i * 7 + k) cur[i * 7 + k] (Array.getElem?_eq_getElem hj)
        rw [show (i * 7 + k) % 7 = k by omega] at this
        exact ⟨_, Array.getElem?_eq_getElem hj, this⟩
      obtain ⟨u0, h0, k0⟩ := key 0 (by omega)
      obtain ⟨u1, h1, k1⟩ := key 1 (by omega)
      obtain ⟨u2, h2, k2⟩ := key 2 (by omega)
      obtain ⟨u3, h3, k3⟩ := key 3 (by omega)
      obtain ⟨u4, h4, k4⟩ := key 4 (by omega)
      obtain ⟨u5, h5, k5⟩ := key 5 (by omega)
      obtain ⟨u6, h6, k6⟩ := key 6 (by omega)
      simp [nOk] at k0 k1 k2 k3 k4 k5 k6
      obtain ⟨z0, rfl⟩ := k0
      obtain ⟨z1, rfl⟩ := k1
      obtain ⟨z2, rfl⟩ := k2
      obtain ⟨z4, rfl⟩ := k4
      obtain ⟨z5, rfl⟩ := k5
      refine ⟨⟨z0, z1, z2, u3, z4, z5, u6, [], []⟩, fun k hk => ?_⟩
      rw [cell_of_row w g _ cur _ _ hg]
      match k, hk with
      | 0, _ => exact h0
      | 1, _ => exact h1
      | 2, _ => exact h2
      | 3, _ => exact h3
      | 4, _ => exact h4
      | 5, _ => exact h5
      | 6, _ => exact h6
end Go.Proofs.Ytkkngflpmdcfjaa
