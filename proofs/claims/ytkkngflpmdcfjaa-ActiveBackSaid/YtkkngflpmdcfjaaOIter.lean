/-
  The walk of the iterator of layer 13: all that go through a tree.
-/
import Derived.OwnWalkIn
import Derived.TacticsInMore
import Derived.LoopNIn
import Derived.LoopIn
import Derived.Test.YtkkngflpmdcfjaaOArms
namespace Go.Proofs.Ytkkngflpmdcfjaa
open Go.RowKit

attribute [local go_sem] Oper.semAt_some

/-- A node of a tree of n nodes, and whether it is gone into. -/
abbrev Ev (n : Nat) := { x : Nat × Bool // x.1 < n }
def encE {n : Nat} (x : Ev n) : Array Value := #[.int .i64 (x.1.1 : Nat), .bool x.1.2]
/-- A tree that the iterator reads: its variable, its nodes' kids. -/
structure TreeR (w : World) (n₀ Bn n : Nat) (K : Nat → List Int) : Prop where
  box : ∃ a cap, w.heap[Bn]? = some (.cells #[.slice a n cap] 24 (0, 0)) ∧ n ≤ cap ∧ (0 < n → ∃ b off, a = some ⟨b, off, none⟩ ∧ b < n₀ ∧
    ∀ i, i < n → ∃ ka kc, w.cell? ⟨b, off + i * 7 + 6, none⟩ = some (.slice ka (K i).length kc) ∧ (K i).length ≤ kc ∧ (K i ≠ [] → ∃ kb ko, ka = some ⟨kb, ko, none⟩ ∧ kb < n₀ ∧ ∀ j (h : j < (K i).length), w.cell? ⟨kb, ko + j, none⟩ = some (.int .i64 (K i)[j])))
theorem TreeR.below {w w' : World} {n₀ Bn n : Nat} {K : Nat → List Int} (h : TreeR w n₀ Bn n K) (hb : Below n₀ w w') (hB : w'.heap[Bn]? = w.heap[Bn]?) : TreeR w' n₀ Bn n K := by
  obtain ⟨⟨a, cap, h1, h2, h3⟩⟩ := h
  refine ⟨⟨a, cap, hB.trans h1, h2, fun hn => ?_⟩⟩
  obtain ⟨b, off, ea, hb0, hc⟩ := h3 hn
  refine ⟨b, off, ea, hb0, fun i hi => ?_⟩
  obtain ⟨ka, kc, k1, k2, k3⟩ := hc i hi
  refine ⟨ka, kc, (hb.cell (p := ⟨b, off + i * 7 + 6, none⟩) hb0).trans k1, k2, fun hne => ?_⟩
  obtain ⟨kb, ko, e, hkb, hkc⟩ := k3 hne
  exact ⟨kb, ko, e, hkb, fun j hj => (hb.cell (p := ⟨kb, ko + j, none⟩) hkb).trans (hkc j hj)⟩
theorem st_len : ∀ s : Stk, s.length ≤ st s
  | [] => Nat.le_refl _
  | (_, ks) :: r => by have := st_len r; simp only [st, List.length_cons]; omega
theorem stk_len (l : List Pt) : (stk l).length = l.length := by unfold stk; simp
/-- What holds between two steps. -/
structure Rj {n : Nat} (K : Nat → List Int) (n₀ Bn S L : Nat) (J : List (Ev n) → (Nat → Prop) → World → Prop) (g : Nat) (wr : World) (pre : List (Ev n)) (Z : Nat → Prop) (seen : Nat → Bool) (l : List Pt) (x : Pt) (b c : Nat) : Prop where
  row : PR wr (.slice (some ⟨b, 0, none⟩) (l ++ [x]).length c) (l ++ [x])
  seenR : SR wr S n seen
  kids : ∀ y ∈ l ++ [x], KA wr n₀ L y
  zb : Z b
  zS : Z S
  zL : Z L
  bL : b ≠ L
  SL : S ≠ L
  bS : b ≠ S
  zlt : ∀ k, Z k → n₀ ≤ k ∧ k < wr.heap.size
  zB : ¬ Z Bn
  bB : Bn < wr.heap.size
  tree : TreeR wr n₀ Bn n K
  all : pre.map (·.1) ++ evs K n g seen (stk (l ++ [x])) = evA K n
  less : ms K n seen (stk (l ++ [x])) < g
  few : g ≤ 1000000
  node : ∀ y ∈ (l ++ [x]).drop 1, y.1 < n
  n₀le : n₀ ≤ wr.heap.size
  inv : J pre Z wr
def Ri {n : Nat} (K : Nat → List Int) (n₀ Bn S L : Nat) (J : List (Ev n) → (Nat → Prop) → World → Prop) (g : Nat) (v : Value) (wr : World) : Prop :=
  ∃ (pre : List (Ev n)) (Z : Nat → Prop) (seen : Nat → Bool) (l : List Pt) (x : Pt) (b c : Nat), v = .slice (some ⟨b, 0, none⟩) (l.length + 1) c ∧ Rj K n₀ Bn S L J g wr pre Z seen l x b c
/-- The iterator's own blocks, made. -/
def W3 (W : World) (n : Nat) : World := ((W.alloc (.cells (madeCells #[.bool false] n) 4)).alloc (.cells #[.int .i64 0] 3)).alloc (.cells #[.int .i64 0, .slice (some ⟨W.heap.size + 1, 0, none⟩) 1 1] 108)
theorem w3_below (W : World) (n : Nat) : Below W.heap.size W (W3 W n) := (((Below.refl _ _).alloc (Nat.le_refl _) _).alloc (by simp) _).alloc (by simp; omega) _
theorem w3_size (W : World) (n : Nat) : (W3 W n).heap.size = W.heap.size + 3 := by simp [W3]
theorem outs_below {Z : Nat → Prop} {A B : World} (h : Below A.heap.size A B) : Outs Z A B := ⟨h.os, h.tape, h.output, h.size, fun k hk _ => h.block k hk⟩
theorem ri_start {n : Nat} (K : Nat → List Int) (n₀ Bn : Nat) (J : List (Ev n) → (Nat → Prop) → World → Prop) (W : World) (hJ : ∀ pre Z A B, J pre Z A → Outs Z A B → J pre (Zs Z A B) B) (hT : TreeR W n₀ Bn n K) (hn₀ : n₀ ≤ W.heap.size) (hBn : Bn < W.heap.size)
    (hms : ms K n (fun _ => false) [(0, [0])] + 1 ≤ 1000000) (h0 : J [] (fun _ => False) W) :
    Ri K n₀ Bn W.heap.size (W.heap.size + 1) J (ms K n (fun _ => false) [(0, [0])] + 1) (.slice (some ⟨W.heap.size + 1 + 1, 0, none⟩) 1 1) (W3 W n) := by
  have hb := w3_below W n
  have hz := w3_size W n
  have hs1 : SR (W.alloc (.cells (madeCells #[.bool false] n) 4)) W.heap.size n (fun _ => false) := seen_new W n
  have hL1 := heap_alloc_new (W.alloc (.cells (madeCells #[.bool false] n) 4)) (.cells #[.int .i64 0] 3)
  have e1 : (W.alloc (.cells (madeCells #[.bool false] n) 4)).heap.size = W.heap.size + 1 := by simp
  have e2 : ((W.alloc (.cells (madeCells #[.bool false] n) 4)).alloc (.cells #[.int .i64 0] 3)).heap.size = W.heap.size + 1 + 1 := by simp
  rw [e1] at hL1
  have hL3 : (W3 W n).heap[W.heap.size + 1]? = some (.cells #[.int .i64 0] 3 (0, 0)) := (Below.heap_alloc _ _ _ (by rw [e2]; omega)).trans hL1
  have hS3 : SR (W3 W n) W.heap.size n (fun _ => false) := (hs1.of (Below.heap_alloc _ _ _ (by rw [e1]; omega))).of (Below.heap_alloc _ _ _ (by rw [e2]; omega))
  have hG3 : (W3 W n).heap[W.heap.size + 1 + 1]? = some (.cells #[.int .i64 0, .slice (some ⟨W.heap.size + 1, 0, none⟩) 1 1] 108 (0, 0)) := by
    have := heap_alloc_new ((W.alloc (.cells (madeCells #[.bool false] n) 4)).alloc (.cells #[.int .i64 0] 3)) (.cells #[.int .i64 0, .slice (some ⟨W.heap.size + 1, 0, none⟩) 1 1] 108)
    rw [e2] at this; exact this
  refine ⟨[], Zs (fun _ => False) W (W3 W n), fun _ => false, [], (0, .slice (some ⟨W.heap.size + 1, 0, none⟩) 1 1, [0]), W.heap.size + 1 + 1, 1, rfl, ?_⟩
  exact {
    row := ⟨rfl, .inr ⟨W.heap.size + 1 + 1, 1, _, rfl, Nat.zero_le _, hG3, Nat.le_refl _, by unfold maxLen; omega, rfl, rfl⟩⟩
    seenR := hS3
    kids := fun y hy => by
      obtain rfl : y = (0, .slice (some ⟨W.heap.size + 1, 0, none⟩) 1 1, [0]) := by simpa using hy
      exact ⟨_, 1, rfl, Nat.le_refl _, fun _ => ⟨_, 0, rfl, .inr rfl, fun j hj => by
        have hj0 : j = 0 := Nat.lt_one_iff.1 hj
        subst hj0
        exact cell_of_row _ _ 0 _ _ (0, 0) hL3⟩⟩
    zb := .inr ⟨by omega, by omega⟩
    zS := .inr ⟨by omega, by omega⟩
    zL := .inr ⟨by omega, by omega⟩
    bL := by omega
    SL := by omega
    bS := by omega
    zlt := fun k hk => hk.elim (fun h => h.elim) (fun h => ⟨by omega, h.2⟩)
    zB := fun hk => hk.elim (fun h => h) (fun h => by omega)
    bB := by omega
    tree := hT.below (hb.mono hn₀) (hb.block Bn hBn)
    all := rfl
    less := Nat.lt_succ_self _
    few := hms
    node := fun y hy => by simp at hy
    n₀le := by omega
    inv := hJ _ _ _ _ h0 (outs_below hb) }

theorem outs_grown {Z : Nat → Prop} {A B : World} {b : Nat} (hg : A.grownBy B (some b)) (hb : Z b) : Outs Z A B := ⟨hg.os, hg.tape, hg.output, hg.size, fun k hk hz => hg.block k hk (fun e => by cases e; exact hz hb)⟩
theorem outs_trans {Z : Nat → Prop} {A B C : World} (h1 : Outs Z A B) (h2 : Outs (Zs Z A B) B C) : Outs Z A C :=
  ⟨h2.os.trans h1.os, h2.tape.trans h1.tape, h2.output.trans h1.output, Nat.le_trans h1.size h2.size, fun k hk hz =>
    (h2.block k (Nat.lt_of_lt_of_le hk h1.size) (fun e => e.elim hz (fun h => by omega))).trans (h1.block k hk hz)⟩
/-- The slice of kids, and behind its first one. -/
def KN (n₀ L : Nat) (kb ko kc : Nat) (ks : List Int) (v : Value) : Prop := (∃ a c, v = .slice a ks.length c ∧ ks.length ≤ c ∧ (ks ≠ [] → a = some ⟨kb, ko + 1, none⟩)) ∧ (kb < n₀ ∨ kb = L) ∧ ks.length < kc
theorem ka_next {w : World} {n₀ L nd kb ko kc : Nat} {k : Int} {ks : List Int} {v : Value} (hv : KN n₀ L kb ko kc ks v) (hc : ∀ j (h : j < (k :: ks).length), w.cell? ⟨kb, ko + j, none⟩ = some (.int .i64 (k :: ks)[j])) : KA w n₀ L (nd, v, ks) := by
  obtain ⟨⟨a, c, e, hl, ha⟩, hb, _⟩ := hv
  exact ⟨a, c, e, hl, fun hne => ⟨kb, ko + 1, ha hne, hb, fun j hj => by
    have := hc (j + 1) (by simpa using hj)
    rw [show ko + 1 + j = ko + (j + 1) by omega]
    simpa using this⟩⟩
section
variable {n : Nat} {K : Nat → List Int} {n₀ Bn S L : Nat} {J : List (Ev n) → (Nat → Prop) → World → Prop} {f : Nat} {wr : World} {pre : List (Ev n)} {Z : Nat → Prop} {seen : Nat → Bool} {l : List Pt} {b c : Nat}
theorem Rj.far {x : Pt} {g : Nat} (h : Rj K n₀ Bn S L J g wr pre Z seen l x b c) : n₀ ≤ b ∧ n₀ ≤ S ∧ n₀ ≤ L := ⟨(h.zlt _ h.zb).1, (h.zlt _ h.zS).1, (h.zlt _ h.zL).1⟩
theorem below_set {w : World} {b' i n' : Nat} (hb : n' ≤ b') (u : Value) : Below n' w (w.setCell ⟨b', i, none⟩ u) := (Below.refl _ _).setCell (p := ⟨b', i, none⟩) hb u
theorem rj_skip {nd : Nat} {v v' : Value} {k : Int} {ks : List Int} {kb ko kc : Nat} (hJ : ∀ pre Z A B, J pre Z A → Outs Z A B → J pre (Zs Z A B) B) (h : Rj K n₀ Bn S L J (f + 1) wr pre Z seen l (nd, v, k :: ks) b c)
    (hfr : fresh n seen k = false) (hv : KN n₀ L kb ko kc ks v') (hc : ∀ j (hj : j < (k :: ks).length), wr.cell? ⟨kb, ko + j, none⟩ = some (.int .i64 (k :: ks)[j])) :
    Rj K n₀ Bn S L J f (wr.setCell ⟨b, l.length * 2 + 1, none⟩ v') pre (Zs Z wr (wr.setCell ⟨b, l.length * 2 + 1, none⟩ v')) seen l (nd, v', ks) b c := by
  obtain ⟨f1, f2, f3⟩ := h.far
  obtain ⟨s1, s2⟩ := h.row.set v' ks
  have hsz : (wr.setCell ⟨b, l.length * 2 + 1, none⟩ v').heap.size = wr.heap.size := by simp
  have hblk : ∀ j, j < n₀ ∨ j = L → (wr.setCell ⟨b, l.length * 2 + 1, none⟩ v').heap[j]? = wr.heap[j]? := fun j hj => heap_setCell_other wr _ j _ (by rcases hj with h1 | h1 <;> (have := h.bL; show j ≠ b; omega))
  have hev := h.all
  rw [stk_snoc] at hev
  have hms := h.less
  rw [stk_snoc] at hms
  exact {
    row := s1
    seenR := h.seenR.of (heap_setCell_other wr _ S _ (fun e => h.bS e.symm))
    kids := fun y hy => by
      rcases List.mem_append.1 hy with h1 | h1
      · exact (h.kids y (List.mem_append_left _ h1)).kept hblk
      · obtain rfl := List.mem_singleton.1 h1
        exact (ka_next hv hc).kept hblk
    zb := .inl h.zb
    zS := .inl h.zS
    zL := .inl h.zL
    bL := h.bL
    SL := h.SL
    bS := h.bS
    zlt := fun j hj => hj.elim (fun h1 => by rw [hsz]; exact h.zlt j h1) (fun h1 => by rw [hsz] at h1; omega)
    zB := fun hj => hj.elim h.zB (fun h1 => by rw [hsz] at h1; omega)
    bB := by rw [hsz]; exact h.bB
    tree := h.tree.below (below_set f1 v') (heap_setCell_other wr ⟨b, l.length * 2 + 1, none⟩ Bn _ (fun e => h.zB (by rw [e]; exact h.zb)))
    all := by rw [stk_snoc]; rw [evs_skip hfr] at hev; exact hev
    less := by rw [stk_snoc]; have := ms_skip (K := K) (n := n) (seen := seen) (nd := nd) (k := k) (ks := ks) (rest := stk l); dsimp only at hms ⊢; omega
    few := by have := h.few; omega
    node := fun y hy => by
      have h2 := h.node
      cases l with
      | nil => simp at hy
      | cons q l =>
        simp only [List.cons_append, List.drop_succ_cons, List.drop_zero] at hy h2
        rcases List.mem_append.1 hy with h1 | h1
        · exact h2 y (List.mem_append_left _ h1)
        · obtain rfl := List.mem_singleton.1 h1
          exact h2 (nd, v, k :: ks) (List.mem_append_right _ (List.mem_singleton.2 rfl))
    n₀le := by rw [hsz]; exact h.n₀le
    inv := hJ _ _ _ _ h.inv (outs_grown s2 h.zb) }
theorem rj_out {nd : Nat} {v : Value} {y : Pt} {W3 : World} {x : Ev n} (h : Rj K n₀ Bn S L J (f + 1) wr pre Z seen (l ++ [y]) (nd, v, []) b c) (hx : x.1 = (nd, false)) (hj : J (pre ++ [x]) Z W3) (hb0 : Below n₀ wr W3 ∧ W3.heap[Bn]? = wr.heap[Bn]?) (hz : ∀ k, Z k → W3.heap[k]? = wr.heap[k]?) :
    Rj K n₀ Bn S L J f W3 (pre ++ [x]) Z seen l y b c := by
  obtain ⟨hb, hBn⟩ := hb0
  have hev := h.all
  rw [stk_snoc, stk_snoc] at hev
  have hms := h.less
  rw [stk_snoc, stk_snoc] at hms
  exact {
    row := h.row.front.kept fun g hg => by cases hg; exact hz _ h.zb
    seenR := h.seenR.of (hz _ h.zS)
    kids := fun z hz2 => (h.kids z (List.mem_append_left _ hz2)).kept (fun j hj => by
      rcases hj with h1 | rfl
      · exact hb.block j h1
      · exact hz _ h.zL)
    zb := h.zb
    zS := h.zS
    zL := h.zL
    bL := h.bL
    SL := h.SL
    bS := h.bS
    zlt := fun j hj => ⟨(h.zlt j hj).1, Nat.lt_of_lt_of_le (h.zlt j hj).2 hb.size⟩
    zB := h.zB
    bB := Nat.lt_of_lt_of_le h.bB hb.size
    tree := h.tree.below hb hBn
    all := by
      rw [stk_snoc, List.map_append, List.append_assoc]
      dsimp only at hev
      rw [evs_out] at hev
      simpa [hx] using hev
    less := by rw [stk_snoc]; have := ms_out (K := K) (n := n) (seen := seen) (nd := nd) (rest := (y.1, y.2.2) :: stk l); dsimp only at hms ⊢; omega
    few := by have := h.few; omega
    node := fun z hz2 => h.node z (by
      cases l with
      | nil => simp at hz2
      | cons q l =>
        simp only [List.cons_append, List.drop_succ_cons, List.drop_zero] at hz2 ⊢
        exact List.mem_append_left _ hz2)
    n₀le := Nat.le_trans h.n₀le hb.size
    inv := hj }
theorem PR.form {w : World} {v : Value} {l : List Pt} (h : PR w v l) (hne : l ≠ []) : ∃ b c, v = .slice (some ⟨b, 0, none⟩) l.length c := by
  rcases h.2 with ⟨_, h0⟩ | ⟨g, cap, cur, e, _⟩
  · exact absurd (List.eq_nil_of_length_eq_zero h0) hne
  · exact ⟨g, cap, e⟩
/-- Both stores ahead of a node's being gone into. -/
def W2 (wr : World) (b S q kn : Nat) (V : Value) : World := (wr.setCell ⟨b, q, none⟩ V).setCell ⟨S, kn, none⟩ (.bool true)
theorem outs_two {nd : Nat} {v V : Value} {ks ks' : List Int} {g kn : Nat} (h : Rj K n₀ Bn S L J g wr pre Z seen l (nd, v, ks') b c) (_ : ks = ks) : Outs Z wr (W2 wr b S (l.length * 2 + 1) kn V) :=
  ⟨rfl, rfl, rfl, by simp [W2], fun k _ hz => (heap_setCell_other _ ⟨S, kn, none⟩ k _ (fun e => hz (e ▸ h.zS))).trans (heap_setCell_other _ ⟨b, l.length * 2 + 1, none⟩ k _ (fun e => hz (e ▸ h.zb)))⟩
theorem w2_below {b' S' q kn n' : Nat} {V : Value} {w : World} (h1 : n' ≤ b') (h2 : n' ≤ S') : Below n' w (W2 w b' S' q kn V) := (below_set h1 V).trans (below_set h2 _)
theorem w2_row {nd : Nat} {v V : Value} {ks ks' : List Int} {g kn : Nat} (h : Rj K n₀ Bn S L J g wr pre Z seen l (nd, v, ks') b c) : PR (W2 wr b S (l.length * 2 + 1) kn V) (.slice (some ⟨b, 0, none⟩) (l ++ [(nd, V, ks)]).length c) (l ++ [(nd, V, ks)]) :=
  (h.row.set V ks).1.kept fun g hg => by cases hg; exact heap_setCell_other _ ⟨S, kn, none⟩ b _ h.bS
theorem rj_in {nd : Nat} {v V : Value} {kn : Nat} {ks : List Int} {kb ko kc b5 c5 : Nat} {x : Ev n} {W3 w5 : World} {p : Pt} {o : Obj} (hJ : ∀ pre Z A B, J pre Z A → Outs Z A B → J pre (Zs Z A B) B) (h : Rj K n₀ Bn S L J (f + 1) wr pre Z seen l (nd, v, (kn : Int) :: ks) b c)
    (hkn : kn < n) (hse : seen kn = false) (hv : KN n₀ L kb ko kc ks V) (hc : ∀ j (hj : j < ((kn : Int) :: ks).length), wr.cell? ⟨kb, ko + j, none⟩ = some (.int .i64 ((kn : Int) :: ks)[j])) (hx : x.1 = (kn, true))
    (hj3 : J (pre ++ [x]) (Zs Z wr (W2 wr b S (l.length * 2 + 1) kn V)) W3) (hb30 : Below n₀ (W2 wr b S (l.length * 2 + 1) kn V) W3 ∧ W3.heap[Bn]? = (W2 wr b S (l.length * 2 + 1) kn V).heap[Bn]?) (hz3 : ∀ k, Zs Z wr (W2 wr b S (l.length * 2 + 1) kn V) k → W3.heap[k]? = (W2 wr b S (l.length * 2 + 1) kn V).heap[k]?)
    (hp : p.1 = kn ∧ p.2.2 = K kn) (hpk : KA W3 n₀ L p) (h5 : PR w5 (.slice (some ⟨b5, 0, none⟩) ((l ++ [(nd, V, ks)]) ++ [p]).length c5) ((l ++ [(nd, V, ks)]) ++ [p])) (hg5 : (W3.alloc o).grownBy w5 (some b)) (hat : b5 = b ∨ b5 = W3.heap.size + 1) (hb5 : b5 < w5.heap.size) :
    Rj K n₀ Bn S L J f w5 (pre ++ [x]) (Zs (Zs Z wr (W2 wr b S (l.length * 2 + 1) kn V)) W3 w5) (mark1 seen kn) (l ++ [(nd, V, ks)]) p b5 c5 := by
  obtain ⟨hb3, hB3⟩ := hb30
  obtain ⟨f1, f2, f3⟩ := h.far
  have hsz2 : (W2 wr b S (l.length * 2 + 1) kn V).heap.size = wr.heap.size := by simp [W2]
  have hs3 := hb3.size
  rw [hsz2] at hs3
  have hs5 : W3.heap.size ≤ w5.heap.size := Nat.le_trans (by simp) hg5.size
  have hZ2 : ∀ k, Zs Z wr (W2 wr b S (l.length * 2 + 1) kn V) k → Z k := fun k hk => hk.elim id (fun h1 => by rw [hsz2] at h1; omega)
  have hlt : ∀ k, Z k → n₀ ≤ k ∧ k < wr.heap.size := h.zlt
  have hfr : fresh n seen (kn : Int) = true := fresh_iff.2 ⟨by omega, by omega, by simpa using hse⟩
  -- what lies beyond b in w5 is as in W3
  have h35 : ∀ k, k < W3.heap.size → k ≠ b → w5.heap[k]? = W3.heap[k]? := fun k hk hne => (hg5.block k (by simp; omega) (fun e => hne (by cases e; rfl))).trans (Below.heap_alloc _ _ _ hk)
  have h2S : (W2 wr b S (l.length * 2 + 1) kn V).heap[S]? = ((wr.setCell ⟨b, l.length * 2 + 1, none⟩ V).setCell ⟨S, kn, none⟩ (.bool true)).heap[S]? := rfl
  have hseen2 : SR (W2 wr b S (l.length * 2 + 1) kn V) S n (mark1 seen kn) := (h.seenR.of (heap_setCell_other wr ⟨b, l.length * 2 + 1, none⟩ S V (fun e => h.bS e.symm))).set hkn
  have hn2 : ∀ k, k ≠ b → k ≠ S → (W2 wr b S (l.length * 2 + 1) kn V).heap[k]? = wr.heap[k]? := fun k h1 h2 => (heap_setCell_other _ ⟨S, kn, none⟩ k _ h2).trans (heap_setCell_other _ ⟨b, l.length * 2 + 1, none⟩ k _ h1)
  have hk5 : ∀ k, k < n₀ ∨ k = L → w5.heap[k]? = wr.heap[k]? := fun k hk => by
    have h1 : k ≠ b := by rcases hk with hk | hk <;> (have := h.bL; omega)
    have h2 : k ≠ S := by rcases hk with hk | hk <;> (have := h.SL; omega)
    have h3 : k < wr.heap.size := by rcases hk with hk | hk; (have := h.n₀le; omega); (have := (hlt _ h.zL).2; omega)
    have h4 : W3.heap[k]? = (W2 wr b S (l.length * 2 + 1) kn V).heap[k]? := by
      rcases hk with hk | rfl
      · exact hb3.block k hk
      · exact hz3 _ (.inl h.zL)
    exact (h35 k (by omega) h1).trans (h4.trans (hn2 k h1 h2))
  have hk35 : ∀ k, k < n₀ ∨ k = L → w5.heap[k]? = W3.heap[k]? := fun k hk => h35 k (by rcases hk with hk | hk; (have := h.n₀le; omega); (have := (hlt _ h.zL).2; omega)) (by rcases hk with hk | hk <;> (have := h.bL; omega))
  have hev := h.all
  rw [stk_snoc] at hev
  have hms := h.less
  rw [stk_snoc] at hms
  obtain ⟨hp1, hp2⟩ := hp
  have hbS5 : b5 ≠ S := by rcases hat with e | e; (rw [e]; exact h.bS); (have := (hlt _ h.zS).2; omega)
  have hbL5 : b5 ≠ L := by rcases hat with e | e; (rw [e]; exact h.bL); (have := (hlt _ h.zL).2; omega)
  exact {
    row := h5
    seenR := hseen2.of ((h35 S (by have := (hlt _ h.zS).2; omega) (fun e => h.bS e.symm)).trans (hz3 S (.inl h.zS)))
    kids := fun y hy => by
      rcases List.mem_append.1 hy with h1 | h1
      · rcases List.mem_append.1 h1 with h2 | h2
        · exact (h.kids y (List.mem_append_left _ h2)).kept hk5
        · obtain rfl := List.mem_singleton.1 h2
          exact (ka_next hv hc).kept hk5
      · obtain rfl := List.mem_singleton.1 h1
        exact hpk.kept hk35
    zb := by
      rcases hat with e | e
      · rw [e]; exact .inl (.inl h.zb)
      · exact .inr ⟨by omega, hb5⟩
    zS := .inl (.inl h.zS)
    zL := .inl (.inl h.zL)
    bL := hbL5
    SL := h.SL
    bS := hbS5
    zlt := fun k hk => hk.elim (fun h1 => by have := hlt k (hZ2 k h1); omega) (fun h1 => ⟨by have := h.n₀le; omega, h1.2⟩)
    zB := fun hk => hk.elim (fun h1 => h.zB (hZ2 _ h1)) (fun h1 => by have := h.bB; omega)
    bB := by have := h.bB; omega
    tree := h.tree.below ⟨hg5.os.trans (hb3.os.trans rfl), hg5.tape.trans (hb3.tape.trans rfl), hg5.output.trans (hb3.output.trans rfl), by omega, fun k hk => hk5 k (.inl hk)⟩ ((h35 Bn (by have := h.bB; omega) (fun e => h.zB (by rw [e]; exact h.zb))).trans (hB3.trans (hn2 Bn (fun e => h.zB (by rw [e]; exact h.zb)) (fun e => h.zB (by rw [e]; exact h.zS)))))
    all := by
      rw [stk_snoc, stk_snoc, hp1, hp2]
      dsimp only at hev
      rw [evs_in hfr] at hev
      simpa [hx] using hev
    less := by
      rw [stk_snoc, stk_snoc, hp1, hp2]
      have := ms_in (K := K) (nd := nd) (ks := ks) (rest := stk l) hfr
      simp only [Int.toNat_natCast] at this
      dsimp only at hms ⊢
      omega
    few := by have := h.few; omega
    node := fun y hy => by
      have h2 := h.node
      rcases List.mem_append.1 ((List.drop_append (l₁ := l ++ [(nd, V, ks)]) (l₂ := [p]) (i := 1)) ▸ hy) with h1 | h1
      · cases l with
        | nil => simp at h1
        | cons q l =>
          simp only [List.cons_append, List.drop_succ_cons, List.drop_zero] at h1 h2
          rcases List.mem_append.1 h1 with h3 | h3
          · exact h2 y (List.mem_append_left _ h3)
          · obtain rfl := List.mem_singleton.1 h3
            exact h2 (nd, v, (kn : Int) :: ks) (List.mem_append_right _ (List.mem_singleton.2 rfl))
      · have h3 := List.mem_of_mem_drop h1
        obtain rfl := List.mem_singleton.1 h3
        rw [hp1]; exact hkn
    n₀le := by have := h.n₀le; omega
    inv := hJ _ _ _ _ hj3 ⟨hg5.os, hg5.tape, hg5.output, hs5, fun k hk hz => h35 k hk (fun e => hz (by rw [e]; exact .inl h.zb))⟩ }
end

set_option maxRecDepth 100000 in
set_option maxHeartbeats 4000000 in
theorem steps1_in (F : Fence) (m : Nat) (h6 : F.fn 129) (hro : F.round = none) (hm : 1 ≤ m) (lp Bn n₀ n : Nat) (hn : n ≤ 10000) (K : Nat → List Int) (hms : ms K n (fun _ => false) [(0, [0])] + 1 ≤ 1000000) (J : List (Ev n) → (Nat → Prop) → World → Prop) (Jx : List (Ev n) → World → Prop) (W : World)
    (hJ : ∀ pre Z A B, J pre Z A → Outs Z A B → J pre (Zs Z A B) B)
    (hY : ∀ pre Z (x : Ev n) W1, J pre Z W1 → (pre ++ [x]).map (fun y => y.1) <+: evA K n → YieldAt F (m - 1) Try.prog lp (encE x) W1 fun e W' =>
      (e = .returned (.bool true) ∧ J (pre ++ [x]) Z W' ∧ (Below n₀ W1 W' ∧ W'.heap[Bn]? = W1.heap[Bn]?) ∧ ∀ k, Z k → W'.heap[k]? = W1.heap[k]?) ∨ (e = .returned (.bool false) ∧ Jx (pre ++ [x]) W'))
    (hT : TreeR W n₀ Bn n K) (hn₀ : n₀ ≤ W.heap.size) (hBn : Bn < W.heap.size) (h0 : J [] (fun _ => False) W) :
    CallsIn F m Try.prog 129 #[.func (.yield lp) #[] #[], .pointer (some ⟨Bn, 0, none⟩)] W fun e W' => (∃ v, e = .returned v) ∧
      ((∃ (xs : List (Ev n)) (Z : Nat → Prop), xs.map (·.1) = evA K n ∧ J xs Z W') ∨ (∃ pre : List (Ev n), pre.map (·.1) <+: evA K n ∧ Jx pre W')) := by
  have HS := Lib.hid (ri_start K n₀ Bn J W hJ hT hn₀ hBn hms h0)
  obtain ⟨⟨ta, tcap, tb, tle, tn⟩⟩ := hT
  have tc : W.cell? ⟨Bn, 0, none⟩ = some (.slice ta n tcap) := cell_of_row W Bn 0 _ _ (0, 0) tb
  have hz : n ≤ 9223372036854775807 := by omega
  have HJ := Lib.hid hJ
  have HY := Lib.hid hY
  refine callsIn_of_wp Try.func129 rfl h6 ?_ hro
  simp only [Try.ntmps129, List.size_toArray, List.length_cons, List.length_nil, Nat.reduceAdd, Nat.reduceSub, Array.replicate_succ, Array.replicate_zero, List.push_toArray, List.append_toArray, List.nil_append, List.cons_append]
  clear hJ hY h0 tb tn
  gi_wp2_with (gi_at_make; refine wpListIn_make_run _ rfl _ _ _ rfl _ _ rfl rfl _ _ (run_seen W n (by omega)) ?_)
  gi_loopw [4] (fun v wr => ∃ g, Ri K n₀ Bn W.heap.size (W.heap.size + 1) J g v wr) (fun v wr => lst (fun g => Ri K n₀ Bn W.heap.size (W.heap.size + 1) J g v wr))
  case atStart => exact ⟨_, HS.out⟩
  case round =>
    obtain ⟨g0, hg0⟩ := hrel
    obtain ⟨g, hg⟩ : ∃ g, g = lst (fun g => Ri K n₀ Bn W.heap.size (W.heap.size + 1) J g u4 wr) := ⟨_, rfl⟩
    have hR : Ri K n₀ Bn W.heap.size (W.heap.size + 1) J g u4 wr := by rw [hg]; exact lst_is (R := fun g => Ri K n₀ Bn W.heap.size (W.heap.size + 1) J g u4 wr) hg0
    have HG := Lib.hid hg
    clear hg hg0 HS
    obtain ⟨pre, Z, seen, l, x, b, c, rfl, hj⟩ := hR
    obtain ⟨nd, kv, ks⟩ := x
    obtain ⟨p0, p1, pf⟩ := hj.row.at
    obtain ⟨ka, kc, ekv, hkc, hkr⟩ := hj.kids _ (List.mem_append_right _ (List.mem_singleton.2 rfl))
    dsimp only at ekv hkc hkr p0 p1 pf
    subst ekv
    have hgl : g ≤ 1000000 := hj.few
    have hlc := (hj.row.le).1
    have hll : l.length + 1 ≤ 1000000 := by
      have h1 := st_len (stk (l ++ [(nd, .slice ka ks.length kc, ks)]))
      have h2 := hj.less
      unfold ms at h2
      rw [stk_len, List.length_append] at h1
      simp at h1
      omega
    obtain ⟨f, rfl⟩ : ∃ f, g = f + 1 := ⟨g - 1, by have := hj.less; omega⟩
    have HR := Lib.hid hj
    rw [List.length_append, List.length_singleton] at hlc
    have hl0 : (0 : Int) ≤ (l.length : Int) := by omega
    have hl1 : (l.length : Int) < (l.length : Int) + 1 := by omega
    have hl2 : (l.length : Int) + 1 ≤ (c : Int) := by omega
    have hl3 : (l.length : Int) ≤ (c : Int) := by omega
    clear hj
    have hbx := HR.out.tree.box
    obtain ⟨ra, rcap, rb, rle, rn⟩ := hbx
    have tcr : wr.cell? ⟨Bn, 0, none⟩ = some (.slice ra n rcap) := cell_of_row wr Bn 0 _ _ (0, 0) rb
    cases ks with
    | nil =>
      by_cases hl : l = []
      · subst hl
        simp only [List.length_nil, Nat.zero_mul, Nat.zero_add] at p0 p1 pf
        gi_wp2
        refine ⟨fun _ h => (by cases h), ?_⟩
        gi_wp2
        refine bodyPost_ret (results_none rfl _ _ _) rfl ?_
        refine ⟨⟨_, rfl⟩, .inl ⟨pre, Z, ?_, HR.out.inv⟩⟩
        have h1 := HR.out.all
        simpa [stk, evs_end] using h1
      · obtain ⟨l, y, rfl⟩ : ∃ l' y, l = l' ++ [y] := by
          rcases List.eq_nil_or_concat l with h | ⟨l', y, h⟩
          · exact absurd h hl
          · exact ⟨l', y, by rw [h, List.concat_eq_append]⟩
        have hnd : nd < n := by
          refine HR.out.node (nd, .slice ka 0 kc, []) ?_
          cases l with
          | nil => simp
          | cons q l => simp
        have hev : ∃ r, evs K n (f + 1) seen (stk ((l ++ [y]) ++ [(nd, .slice ka ([] : List Int).length kc, [])])) = (nd, false) :: r := by
          rw [stk_snoc, stk_snoc]; exact ⟨_, evs_out⟩
        obtain ⟨r, hr⟩ := hev
        have HAll : Hid ((pre ++ [(⟨(nd, false), hnd⟩ : Ev n)]).map (fun x => x.1) <+: evA K n) := Lib.hid ⟨r, by
          have h1 := HR.out.all
          rw [hr] at h1
          rw [← h1, List.map_append, List.append_assoc]; rfl⟩
        obtain ⟨fn, tmps, assign, body, hy, hY2⟩ := HY.out pre Z ⟨(nd, false), hnd⟩ wr HR.out.inv HAll.out
        dsimp only [encE] at hy
        have hq1 : (l ++ [y]).length = l.length + 1 := by simp
        rw [hq1] at p0 p1 pf hl0 hl1 hl2 hl3 hlc ⊢
        have HQ := Lib.hid hq1
        obtain ⟨q, hq⟩ : ∃ q, q = l.length + 1 := ⟨_, rfl⟩
        have HQ2 := Lib.hid hq
        rw [← hq] at p0 p1 pf hl0 hl1 hl2 hl3 hlc ⊢
        have hq2 : (((q : Nat) : Int) + 1 == 1) = false := by simp; omega
        have hqb : q ≤ 1000000 := by rw [hq, ← hq1]; exact Nat.le_of_succ_le hll
        have HG2 : Hid (f + 1 = lst (fun g => Ri K n₀ Bn W.heap.size (W.heap.size + 1) J g (.slice (some ⟨b, 0, none⟩) (q + 1) c) wr)) := Lib.hid (by have h1 := HG.out; rw [hq1, ← hq] at h1; exact h1)
        clear hq hq1 hr hll HG
        gi_wp2
        refine hY2.mono ?_
        rintro e W3 (⟨rfl, hJ3, hb3, hz3⟩ | ⟨rfl, hJx3⟩)
        · have hnew : Ri K n₀ Bn W.heap.size (W.heap.size + 1) J f (.slice (some ⟨b, 0, none⟩) q c) W3 := ⟨_, Z, seen, l, y, b, c, by rw [HQ2.out], rj_out HR.out rfl hJ3 hb3 hz3⟩
          gi_wp2
          go_roundw
          case rel => exact ⟨f, hnew⟩
          case measure =>
            have h1 := lst_le (R := fun g => Ri K n₀ Bn W.heap.size (W.heap.size + 1) J g (.slice (some ⟨b, 0, none⟩) q c) W3) hnew
            have h2 := HG2.out
            omega
        · gi_wp2
          refine bodyPost_ret (results_none rfl _ _ _) rfl ?_
          exact ⟨⟨_, rfl⟩, .inr ⟨_, HAll.out, hJx3⟩⟩
    | cons k ks =>
      obtain ⟨kb, ko, rfl, hkb, hkc2⟩ := hkr (by simp)
      have q0 : wr.cell? ⟨kb, ko, none⟩ = some (.int .i64 k) := hkc2 0 (by simp)
      have HKc := Lib.hid hkc2
      have hkl : ks.length + 1 ≤ kc := hkc
      clear hkr hkc2 hkc
      by_cases hkc1 : kc = 1
      · obtain rfl : ks = [] := by
          cases ks with
          | nil => rfl
          | cons a r => simp at hkl; omega
        subst hkc1
        have HV : Hid (KN n₀ (W.heap.size + 1) kb ko 1 [] (.slice (some ⟨kb, ko, none⟩) 0 0)) := Lib.hid ⟨⟨_, 0, rfl, Nat.le_refl _, fun h => absurd rfl h⟩, hkb, Nat.lt_succ_self _⟩
        have hbB : Bn ≠ b := fun e => HR.out.zB (by rw [e]; exact HR.out.zb)
        have tcw : (wr.setCell ⟨b, l.length * 2 + 1, none⟩ (.slice (some ⟨kb, ko, none⟩) 0 0)).cell? ⟨Bn, 0, none⟩ = some (.slice ra n rcap) := (World.cell?_of_block (a := ⟨Bn, 0, none⟩) (heap_setCell_other wr ⟨b, l.length * 2 + 1, none⟩ Bn _ hbB)).trans tcr
        have hSb : W.heap.size ≠ b := fun e => HR.out.bS e.symm
        clear hbB
        by_cases hk0 : k < 0
        · clear hSb
          have hfr : fresh n seen k = false := by
            cases h : fresh n seen k with
            | false => rfl
            | true =>
              have h1 := fresh_iff.1 h
              omega
          have hnew : Ri K n₀ Bn W.heap.size (W.heap.size + 1) J f (.slice (some ⟨b, 0, none⟩) (l.length + 1) c) (wr.setCell ⟨b, l.length * 2 + 1, none⟩ (.slice (some ⟨kb, ko, none⟩) 0 0)) := ⟨_, _, _, _, _, _, _, rfl, rj_skip HJ.out HR.out hfr HV.out HKc.out⟩
          gi_wp2
          exact ⟨⟨f, hnew⟩, by have h1 := lst_le (R := fun g => Ri K n₀ Bn W.heap.size (W.heap.size + 1) J g (.slice (some ⟨b, 0, none⟩) (l.length + 1) c) (wr.setCell ⟨b, l.length * 2 + 1, none⟩ (.slice (some ⟨kb, ko, none⟩) 0 0))) hnew; have h2 := HG.out; omega⟩
        · obtain ⟨kn, rfl⟩ : ∃ kn : Nat, k = (kn : Int) := ⟨k.toNat, by omega⟩
          have hkn0 : (0 : Int) ≤ (kn : Int) := by omega
          by_cases hkn : kn < n
          · obtain ⟨s0, sf⟩ := HR.out.seenR.at hkn
            have s1 : (wr.setCell ⟨b, l.length * 2 + 1, none⟩ (.slice (some ⟨kb, ko, none⟩) 0 0)).cell? ⟨W.heap.size, kn, none⟩ = some (.bool (seen kn)) := (World.cell?_of_block (a := ⟨W.heap.size, kn, none⟩) (heap_setCell_other wr ⟨b, l.length * 2 + 1, none⟩ W.heap.size _ hSb)).trans s0
            have s2 : (wr.setCell ⟨b, l.length * 2 + 1, none⟩ (.slice (some ⟨kb, ko, none⟩) 0 0)).frozen? ⟨W.heap.size, kn, none⟩ = false := (World.frozen?_of_block (a := ⟨W.heap.size, kn, none⟩) (heap_setCell_other wr ⟨b, l.length * 2 + 1, none⟩ W.heap.size _ hSb)).trans sf
            have hki : (kn : Int) < (n : Int) := by omega
            cases hse : seen kn with
            | true =>
              rw [hse] at s1
              clear hSb s0 sf
              have hfr : fresh n seen (kn : Int) = false := by
                cases h : fresh n seen (kn : Int) with
                | false => rfl
                | true =>
                  have h1 := fresh_iff.1 h
                  simp [hse] at h1
              have hnew : Ri K n₀ Bn W.heap.size (W.heap.size + 1) J f (.slice (some ⟨b, 0, none⟩) (l.length + 1) c) (wr.setCell ⟨b, l.length * 2 + 1, none⟩ (.slice (some ⟨kb, ko, none⟩) 0 0)) := ⟨_, _, _, _, _, _, _, rfl, rj_skip HJ.out HR.out hfr HV.out HKc.out⟩
              gi_wp2
              exact ⟨⟨f, hnew⟩, by have h1 := lst_le (R := fun g => Ri K n₀ Bn W.heap.size (W.heap.size + 1) J g (.slice (some ⟨b, 0, none⟩) (l.length + 1) c) (wr.setCell ⟨b, l.length * 2 + 1, none⟩ (.slice (some ⟨kb, ko, none⟩) 0 0))) hnew; have h2 := HG.out; omega⟩
            | false =>
              rw [hse] at s1
              clear hSb s0 sf
              have hev : ∃ r, evs K n (f + 1) seen (stk (l ++ [(nd, .slice (some ⟨kb, ko, none⟩) ((kn : Int) :: []).length 1, (kn : Int) :: [])])) = (kn, true) :: r := by
                rw [stk_snoc]
                exact ⟨_, by rw [evs_in (fresh_iff.2 ⟨by omega, by omega, by simpa using hse⟩)]; simp only [Int.toNat_natCast]; rfl⟩
              obtain ⟨r, hr⟩ := hev
              have HAll : Hid ((pre ++ [(⟨(kn, true), hkn⟩ : Ev n)]).map (fun x => x.1) <+: evA K n) := Lib.hid ⟨r, by
                have h1 := HR.out.all
                rw [hr] at h1
                rw [← h1, List.map_append, List.append_assoc]; rfl⟩
              obtain ⟨fn, tmps, assign, body, hy, hY2⟩ := HY.out pre _ ⟨(kn, true), hkn⟩ (W2 wr b W.heap.size (l.length * 2 + 1) kn (.slice (some ⟨kb, ko, none⟩) 0 0)) (HJ.out _ _ _ _ HR.out.inv (outs_two (ks := []) HR.out rfl)) HAll.out
              dsimp only [encE, W2] at hy
              clear hr
              gi_wp2
              refine hY2.mono ?_
              rintro e W3 (⟨rfl, hJ3, hb3, hz3⟩ | ⟨rfl, hJx3⟩)
              · have hT3 := (HR.out.tree.below (w2_below (q := l.length * 2 + 1) (kn := kn) (V := (.slice (some ⟨kb, ko, none⟩) 0 0)) HR.out.far.1 HR.out.far.2.1) ((heap_setCell_other _ ⟨W.heap.size, kn, none⟩ Bn _ (fun e => HR.out.zB (by rw [e]; exact HR.out.zS))).trans (heap_setCell_other wr ⟨b, l.length * 2 + 1, none⟩ Bn _ (fun e => HR.out.zB (by rw [e]; exact HR.out.zb))))).below hb3.1 hb3.2
                obtain ⟨⟨ra3, rcap3, rb3, rle3, rn3⟩⟩ := hT3
                have tc3 : W3.cell? ⟨Bn, 0, none⟩ = some (.slice ra3 n rcap3) := cell_of_row W3 Bn 0 _ _ (0, 0) rb3
                obtain ⟨b3, off3, rfl, hb30, hc3⟩ := rn3 (by omega)
                obtain ⟨ka3, kc3, k1, k2, k3⟩ := hc3 kn hkn
                have hcap3 : (n : Int) ≤ (rcap3 : Int) := by omega
                have hpk : KA W3 n₀ (W.heap.size + 1) (kn, .slice ka3 (K kn).length kc3, K kn) := ⟨ka3, kc3, rfl, k2, fun hne => by
                  obtain ⟨kb3, ko3, e3, hlt3, hcl3⟩ := k3 hne
                  exact ⟨kb3, ko3, e3, .inl hlt3, hcl3⟩⟩
                have HPK := Lib.hid hpk
                have hP3 : PR W3 (.slice (some ⟨b, 0, none⟩) (l ++ [((nd, (.slice (some ⟨kb, ko, none⟩) 0 0), []) : Pt)]).length c) (l ++ [((nd, (.slice (some ⟨kb, ko, none⟩) 0 0), []) : Pt)]) := (w2_row HR.out).kept fun g hg => by cases hg; exact hz3 _ (.inl HR.out.zb)
                have hbl : b < W3.heap.size := by
                  have h1 := hb3.1.size
                  have h2 := (HR.out.zlt _ HR.out.zb).2
                  have h3 : (W2 wr b W.heap.size (l.length * 2 + 1) kn (.slice (some ⟨kb, ko, none⟩) 0 0)).heap.size = wr.heap.size := by simp [W2]
                  omega
                obtain ⟨v5, w5, hr5, hP5, hg5, hat5⟩ := run_append_part (W3.alloc (.cells #[.int .i64 (kn : Nat), .slice ka3 (K kn).length kc3] 108)) 109 _ (l ++ [((nd, (.slice (some ⟨kb, ko, none⟩) 0 0), []) : Pt)]) (hP3.kept fun g hg => by cases hg; exact Below.heap_alloc _ _ _ hbl) W3.heap.size (kn, .slice ka3 (K kn).length kc3, K kn) (heap_alloc_new _ _) rfl (by simp; omega)
                obtain ⟨b5, c5, rfl⟩ := hP5.form (by simp)
                have hb5 : b5 < w5.heap.size := (PR.le hP5).2.1
                have hat6 : b5 = b ∨ b5 = W3.heap.size + 1 := by
                  rcases hat5 with h1 | h1
                  · left; simpa [Value.ownBlock] using h1
                  · right; simpa [Value.ownBlock] using h1
                have hrj := rj_in HJ.out HR.out hkn hse HV.out HKc.out (x := ⟨(kn, true), hkn⟩) rfl hJ3 hb3 hz3 ⟨rfl, rfl⟩ HPK.out hP5 hg5 hat6 hb5
                have hl1 : (l ++ [((nd, (.slice (some ⟨kb, ko, none⟩) 0 0), []) : Pt)]).length = l.length + 1 := by simp
                have hl2' : ((l ++ [((nd, (.slice (some ⟨kb, ko, none⟩) 0 0), []) : Pt)]) ++ [((kn, .slice ka3 (K kn).length kc3, K kn) : Pt)]).length = l.length + 1 + 1 := by simp
                rw [hl1, hl2'] at hr5
                have hnew : Ri K n₀ Bn W.heap.size (W.heap.size + 1) J f (.slice (some ⟨b5, 0, none⟩) (l.length + 1 + 1) c5) w5 := ⟨_, _, _, _, _, _, _, by rw [hl1], hrj⟩
                have HNew := Lib.hid hnew
                clear hrj hpk hP3 hP5 hg5 hat5 hat6 hl1 hl2' hnew k3 hc3 rn3 rb3 hz3 hJ3
                gi_wp2_with (gi_at_builtin; refine wpListIn_append_run _ rfl _ _ _ rfl _ _ rfl rfl _ _ hr5 ?_)
                exact ⟨⟨f, HNew.out⟩, by have h1 := lst_le (R := fun g => Ri K n₀ Bn W.heap.size (W.heap.size + 1) J g (.slice (some ⟨b5, 0, none⟩) (l.length + 1 + 1) c5) w5) HNew.out; have h2 := HG.out; omega⟩
              · gi_wp2
                refine bodyPost_ret (results_none rfl _ _ _) rfl ?_
                exact ⟨⟨_, rfl⟩, .inr ⟨_, HAll.out, hJx3⟩⟩
          · have hki : ¬ (kn : Int) < (n : Int) := by omega
            have hki2 : (n : Int) ≤ (kn : Int) := by omega
            clear hSb
            have hfr : fresh n seen (kn : Int) = false := by
              cases h : fresh n seen (kn : Int) with
              | false => rfl
              | true =>
                have h1 := fresh_iff.1 h
                omega
            have hnew : Ri K n₀ Bn W.heap.size (W.heap.size + 1) J f (.slice (some ⟨b, 0, none⟩) (l.length + 1) c) (wr.setCell ⟨b, l.length * 2 + 1, none⟩ (.slice (some ⟨kb, ko, none⟩) 0 0)) := ⟨_, _, _, _, _, _, _, rfl, rj_skip HJ.out HR.out hfr HV.out HKc.out⟩
            gi_wp2
            exact ⟨⟨f, hnew⟩, by have h1 := lst_le (R := fun g => Ri K n₀ Bn W.heap.size (W.heap.size + 1) J g (.slice (some ⟨b, 0, none⟩) (l.length + 1) c) (wr.setCell ⟨b, l.length * 2 + 1, none⟩ (.slice (some ⟨kb, ko, none⟩) 0 0))) hnew; have h2 := HG.out; omega⟩
      · have hkl1 : (ks.length : Int) + 1 ≤ (kc : Int) := by omega
        have HV : Hid (KN n₀ (W.heap.size + 1) kb ko kc ks (.slice (some ⟨kb, ko + 1, none⟩) ks.length (kc - 1))) := Lib.hid ⟨⟨_, _, rfl, by omega, fun _ => rfl⟩, hkb, by omega⟩
        have hbB : Bn ≠ b := fun e => HR.out.zB (by rw [e]; exact HR.out.zb)
        have tcw : (wr.setCell ⟨b, l.length * 2 + 1, none⟩ (.slice (some ⟨kb, ko + 1, none⟩) ks.length (kc - 1))).cell? ⟨Bn, 0, none⟩ = some (.slice ra n rcap) := (World.cell?_of_block (a := ⟨Bn, 0, none⟩) (heap_setCell_other wr ⟨b, l.length * 2 + 1, none⟩ Bn _ hbB)).trans tcr
        have hSb : W.heap.size ≠ b := fun e => HR.out.bS e.symm
        clear hbB
        by_cases hk0 : k < 0
        · clear hSb
          have hfr : fresh n seen k = false := by
            cases h : fresh n seen k with
            | false => rfl
            | true =>
              have h1 := fresh_iff.1 h
              omega
          have hnew : Ri K n₀ Bn W.heap.size (W.heap.size + 1) J f (.slice (some ⟨b, 0, none⟩) (l.length + 1) c) (wr.setCell ⟨b, l.length * 2 + 1, none⟩ (.slice (some ⟨kb, ko + 1, none⟩) ks.length (kc - 1))) := ⟨_, _, _, _, _, _, _, rfl, rj_skip HJ.out HR.out hfr HV.out HKc.out⟩
          gi_wp2
          exact ⟨⟨f, hnew⟩, by have h1 := lst_le (R := fun g => Ri K n₀ Bn W.heap.size (W.heap.size + 1) J g (.slice (some ⟨b, 0, none⟩) (l.length + 1) c) (wr.setCell ⟨b, l.length * 2 + 1, none⟩ (.slice (some ⟨kb, ko + 1, none⟩) ks.length (kc - 1)))) hnew; have h2 := HG.out; omega⟩
        · obtain ⟨kn, rfl⟩ : ∃ kn : Nat, k = (kn : Int) := ⟨k.toNat, by omega⟩
          have hkn0 : (0 : Int) ≤ (kn : Int) := by omega
          by_cases hkn : kn < n
          · obtain ⟨s0, sf⟩ := HR.out.seenR.at hkn
            have s1 : (wr.setCell ⟨b, l.length * 2 + 1, none⟩ (.slice (some ⟨kb, ko + 1, none⟩) ks.length (kc - 1))).cell? ⟨W.heap.size, kn, none⟩ = some (.bool (seen kn)) := (World.cell?_of_block (a := ⟨W.heap.size, kn, none⟩) (heap_setCell_other wr ⟨b, l.length * 2 + 1, none⟩ W.heap.size _ hSb)).trans s0
            have s2 : (wr.setCell ⟨b, l.length * 2 + 1, none⟩ (.slice (some ⟨kb, ko + 1, none⟩) ks.length (kc - 1))).frozen? ⟨W.heap.size, kn, none⟩ = false := (World.frozen?_of_block (a := ⟨W.heap.size, kn, none⟩) (heap_setCell_other wr ⟨b, l.length * 2 + 1, none⟩ W.heap.size _ hSb)).trans sf
            have hki : (kn : Int) < (n : Int) := by omega
            cases hse : seen kn with
            | true =>
              rw [hse] at s1
              clear hSb s0 sf
              have hfr : fresh n seen (kn : Int) = false := by
                cases h : fresh n seen (kn : Int) with
                | false => rfl
                | true =>
                  have h1 := fresh_iff.1 h
                  simp [hse] at h1
              have hnew : Ri K n₀ Bn W.heap.size (W.heap.size + 1) J f (.slice (some ⟨b, 0, none⟩) (l.length + 1) c) (wr.setCell ⟨b, l.length * 2 + 1, none⟩ (.slice (some ⟨kb, ko + 1, none⟩) ks.length (kc - 1))) := ⟨_, _, _, _, _, _, _, rfl, rj_skip HJ.out HR.out hfr HV.out HKc.out⟩
              gi_wp2
              exact ⟨⟨f, hnew⟩, by have h1 := lst_le (R := fun g => Ri K n₀ Bn W.heap.size (W.heap.size + 1) J g (.slice (some ⟨b, 0, none⟩) (l.length + 1) c) (wr.setCell ⟨b, l.length * 2 + 1, none⟩ (.slice (some ⟨kb, ko + 1, none⟩) ks.length (kc - 1)))) hnew; have h2 := HG.out; omega⟩
            | false =>
              rw [hse] at s1
              clear hSb s0 sf
              have hev : ∃ r, evs K n (f + 1) seen (stk (l ++ [(nd, .slice (some ⟨kb, ko, none⟩) ((kn : Int) :: ks).length kc, (kn : Int) :: ks)])) = (kn, true) :: r := by
                rw [stk_snoc]
                exact ⟨_, by rw [evs_in (fresh_iff.2 ⟨by omega, by omega, by simpa using hse⟩)]; simp only [Int.toNat_natCast]; rfl⟩
              obtain ⟨r, hr⟩ := hev
              have HAll : Hid ((pre ++ [(⟨(kn, true), hkn⟩ : Ev n)]).map (fun x => x.1) <+: evA K n) := Lib.hid ⟨r, by
                have h1 := HR.out.all
                rw [hr] at h1
                rw [← h1, List.map_append, List.append_assoc]; rfl⟩
              obtain ⟨fn, tmps, assign, body, hy, hY2⟩ := HY.out pre _ ⟨(kn, true), hkn⟩ (W2 wr b W.heap.size (l.length * 2 + 1) kn (.slice (some ⟨kb, ko + 1, none⟩) ks.length (kc - 1))) (HJ.out _ _ _ _ HR.out.inv (outs_two (ks := ks) HR.out rfl)) HAll.out
              dsimp only [encE, W2] at hy
              clear hr
              gi_wp2
              refine hY2.mono ?_
              rintro e W3 (⟨rfl, hJ3, hb3, hz3⟩ | ⟨rfl, hJx3⟩)
              · have hT3 := (HR.out.tree.below (w2_below (q := l.length * 2 + 1) (kn := kn) (V := (.slice (some ⟨kb, ko + 1, none⟩) ks.length (kc - 1))) HR.out.far.1 HR.out.far.2.1) ((heap_setCell_other _ ⟨W.heap.size, kn, none⟩ Bn _ (fun e => HR.out.zB (by rw [e]; exact HR.out.zS))).trans (heap_setCell_other wr ⟨b, l.length * 2 + 1, none⟩ Bn _ (fun e => HR.out.zB (by rw [e]; exact HR.out.zb))))).below hb3.1 hb3.2
                obtain ⟨⟨ra3, rcap3, rb3, rle3, rn3⟩⟩ := hT3
                have tc3 : W3.cell? ⟨Bn, 0, none⟩ = some (.slice ra3 n rcap3) := cell_of_row W3 Bn 0 _ _ (0, 0) rb3
                obtain ⟨b3, off3, rfl, hb30, hc3⟩ := rn3 (by omega)
                obtain ⟨ka3, kc3, k1, k2, k3⟩ := hc3 kn hkn
                have hcap3 : (n : Int) ≤ (rcap3 : Int) := by omega
                have hpk : KA W3 n₀ (W.heap.size + 1) (kn, .slice ka3 (K kn).length kc3, K kn) := ⟨ka3, kc3, rfl, k2, fun hne => by
                  obtain ⟨kb3, ko3, e3, hlt3, hcl3⟩ := k3 hne
                  exact ⟨kb3, ko3, e3, .inl hlt3, hcl3⟩⟩
                have HPK := Lib.hid hpk
                have hP3 : PR W3 (.slice (some ⟨b, 0, none⟩) (l ++ [((nd, (.slice (some ⟨kb, ko + 1, none⟩) ks.length (kc - 1)), ks) : Pt)]).length c) (l ++ [((nd, (.slice (some ⟨kb, ko + 1, none⟩) ks.length (kc - 1)), ks) : Pt)]) := (w2_row HR.out).kept fun g hg => by cases hg; exact hz3 _ (.inl HR.out.zb)
                have hbl : b < W3.heap.size := by
                  have h1 := hb3.1.size
                  have h2 := (HR.out.zlt _ HR.out.zb).2
                  have h3 : (W2 wr b W.heap.size (l.length * 2 + 1) kn (.slice (some ⟨kb, ko + 1, none⟩) ks.length (kc - 1))).heap.size = wr.heap.size := by simp [W2]
                  omega
                obtain ⟨v5, w5, hr5, hP5, hg5, hat5⟩ := run_append_part (W3.alloc (.cells #[.int .i64 (kn : Nat), .slice ka3 (K kn).length kc3] 108)) 109 _ (l ++ [((nd, (.slice (some ⟨kb, ko + 1, none⟩) ks.length (kc - 1)), ks) : Pt)]) (hP3.kept fun g hg => by cases hg; exact Below.heap_alloc _ _ _ hbl) W3.heap.size (kn, .slice ka3 (K kn).length kc3, K kn) (heap_alloc_new _ _) rfl (by simp; omega)
                obtain ⟨b5, c5, rfl⟩ := hP5.form (by simp)
                have hb5 : b5 < w5.heap.size := (PR.le hP5).2.1
                have hat6 : b5 = b ∨ b5 = W3.heap.size + 1 := by
                  rcases hat5 with h1 | h1
                  · left; simpa [Value.ownBlock] using h1
                  · right; simpa [Value.ownBlock] using h1
                have hrj := rj_in HJ.out HR.out hkn hse HV.out HKc.out (x := ⟨(kn, true), hkn⟩) rfl hJ3 hb3 hz3 ⟨rfl, rfl⟩ HPK.out hP5 hg5 hat6 hb5
                have hl1 : (l ++ [((nd, (.slice (some ⟨kb, ko + 1, none⟩) ks.length (kc - 1)), ks) : Pt)]).length = l.length + 1 := by simp
                have hl2' : ((l ++ [((nd, (.slice (some ⟨kb, ko + 1, none⟩) ks.length (kc - 1)), ks) : Pt)]) ++ [((kn, .slice ka3 (K kn).length kc3, K kn) : Pt)]).length = l.length + 1 + 1 := by simp
                rw [hl1, hl2'] at hr5
                have hnew : Ri K n₀ Bn W.heap.size (W.heap.size + 1) J f (.slice (some ⟨b5, 0, none⟩) (l.length + 1 + 1) c5) w5 := ⟨_, _, _, _, _, _, _, by rw [hl1], hrj⟩
                have HNew := Lib.hid hnew
                clear hrj hpk hP3 hP5 hg5 hat5 hat6 hl1 hl2' hnew k3 hc3 rn3 rb3 hz3 hJ3
                gi_wp2_with (gi_at_builtin; refine wpListIn_append_run _ rfl _ _ _ rfl _ _ rfl rfl _ _ hr5 ?_)
                exact ⟨⟨f, HNew.out⟩, by have h1 := lst_le (R := fun g => Ri K n₀ Bn W.heap.size (W.heap.size + 1) J g (.slice (some ⟨b5, 0, none⟩) (l.length + 1 + 1) c5) w5) HNew.out; have h2 := HG.out; omega⟩
              · gi_wp2
                refine bodyPost_ret (results_none rfl _ _ _) rfl ?_
                exact ⟨⟨_, rfl⟩, .inr ⟨_, HAll.out, hJx3⟩⟩
          · have hki : ¬ (kn : Int) < (n : Int) := by omega
            have hki2 : (n : Int) ≤ (kn : Int) := by omega
            clear hSb
            have hfr : fresh n seen (kn : Int) = false := by
              cases h : fresh n seen (kn : Int) with
              | false => rfl
              | true =>
                have h1 := fresh_iff.1 h
                omega
            have hnew : Ri K n₀ Bn W.heap.size (W.heap.size + 1) J f (.slice (some ⟨b, 0, none⟩) (l.length + 1) c) (wr.setCell ⟨b, l.length * 2 + 1, none⟩ (.slice (some ⟨kb, ko + 1, none⟩) ks.length (kc - 1))) := ⟨_, _, _, _, _, _, _, rfl, rj_skip HJ.out HR.out hfr HV.out HKc.out⟩
            gi_wp2
            exact ⟨⟨f, hnew⟩, by have h1 := lst_le (R := fun g => Ri K n₀ Bn W.heap.size (W.heap.size + 1) J g (.slice (some ⟨b, 0, none⟩) (l.length + 1) c) (wr.setCell ⟨b, l.length * 2 + 1, none⟩ (.slice (some ⟨kb, ko + 1, none⟩) ks.length (kc - 1)))) hnew; have h2 := HG.out; omega⟩
end Go.Proofs.Ytkkngflpmdcfjaa
