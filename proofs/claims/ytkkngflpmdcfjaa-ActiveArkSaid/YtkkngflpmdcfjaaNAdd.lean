/-
  The walks of slices.Clone at attributes, and of Add.
-/
import Derived.Test.YtkkngflpmdcfjaaNBehindN
import Derived.Test.YtkkngflpmdcfjaaNInts
import Derived.Test.YtkkngflpmdcfjaaNPlace
import Derived.Lib.SliceRun
namespace Go.Proofs.Ytkkngflpmdcfjaa
open Go.RowKit

/-- Attributes in new memory. -/
def RetClone (l : List A.At) (w : World) (e : Ending) (w' : World) : Prop := ∃ v, e = .returned v ∧ AR w' (fun k => w.heap.size ≤ k ∧ k < w'.heap.size) v l ∧ Below w.heap.size w w'
set_option maxRecDepth 100000 in
theorem own_ar {w : World} {base : Nat} {v : Value} {l : List A.At} (h : w.ownsRow base 115 2 v l.length (A.clA l)) : AR w (fun k => base ≤ k ∧ k < w.heap.size) v l := by
  obtain ⟨a, c, _, rfl, h2⟩ := A.own_attrs h
  refine ⟨a, c, rfl, h2, fun b off hne e => ?_⟩
  subst e
  rcases h.2 with ⟨e, hn⟩ | ⟨g, cap, cur, e, hb, hg, _⟩
  · cases e
  · injection e with e1 e2 e3
    injection e1 with e1
    injection e1 with e1
    subst e1
    exact ⟨⟨hb, (Array.getElem?_eq_some_iff.1 hg).1⟩, cur, _, hg⟩

set_option maxRecDepth 100000 in
set_option maxHeartbeats 1600000 in
theorem aclone_any (a : Option Addr) (c : Nat) (l : List A.At) (w : World) (hA : A.AttrsAt w a l) (hl : l.length ≤ 100000) :
    Calls Try.prog 131 #[.slice a l.length c] w (RetClone l w) := by
  have hq : ∀ (w : World) (a : Option Addr) (n c n' c' : Nat), (binOp .eql 64 (.slice a n c) (.slice none n' c')).run Try.prog w = .ok (.bool a.isNone) w := fun w a n c n' c' => Lib.run_eql_slice_nil w _ _ a n c n' c' Try.underlying64
  cases a with
  | none =>
    have hn : l = [] := Classical.byContradiction fun e => by obtain ⟨b, off, h, _⟩ := hA e; cases h
    subst hn
    have HF : Hid (RetClone [] w (.returned (.slice none 0 0)) w) := Lib.hid ⟨_, rfl, ⟨none, 0, rfl, A.AttrsAt.nil _ _, fun _ _ h => absurd rfl h⟩, Below.refl _ _⟩
    go_enter Try.func131, Try.ntmps131
    go_wp2
    go_ret
    exact HF.out
  | some ad =>
    have HA := Lib.hid (hA.alloc (.cells #[] 115))
    have HO : Hid ((w.alloc (.cells #[] 115)).ownsRow w.heap.size 115 2 (.slice (some ⟨w.heap.size, 0, none⟩) 0 0) ([] : List A.At).length (A.clA [])) := Lib.hid (World.ownsRow_lit w #[] 0 (Nat.le_refl _) (Nat.zero_le _) rfl)
    clear hA
    go_enter Try.func131, Try.ntmps131
    go_wp2_with (at_builtin; refine A.wpList_append_attrs _ rfl _ _ rfl w.heap.size _ [] rfl HO.out (some ad) c l rfl HA.out (by simp; omega) (by simp) ?_; intro v1 w1 hown1 hgrow1)
    go_ret
    exact ⟨_, rfl, own_ar hown1, (below_box w _).grown hgrow1 (by simp) (fun k hk => (HO.out.lt k hk).1)⟩

/-- What is R's, or new between two worlds. -/
def RN (R : Nat → Prop) (w w' : World) (k : Nat) : Prop := R k ∨ (w.heap.size ≤ k ∧ k < w'.heap.size)
set_option maxRecDepth 100000 in
theorem RN.more (R : Nat → Prop) (w w' : World) : More R (RN R w w') w := fun _ h => h.imp id And.left
set_option maxRecDepth 100000 in
theorem kind_ne {w : World} {a b : Nat} {c c' : Array Value} {t t' : TypeId} {f f' : Nat × Nat} (h : w.heap[a]? = some (Obj.cells c t f)) (h' : w.heap[b]? = some (Obj.cells c' t' f')) (ht : t ≠ t') : a ≠ b := fun e => by
  subst e; rw [h] at h'; injection h' with h'; injection h' with _ h' _; exact ht h'
set_option maxRecDepth 100000 in
theorem NodesAt.v_ne_kids {w : World} {R : Nat → Prop} {v : Value} {l : List Nd} (h : NodesAt w R v l) {i : Nat} (hi : i < l.length) {a b : Nat} (ha : v.ownBlock = some a) (hb : l[i].kv.ownBlock = some b) : a ≠ b := by
  obtain ⟨c, f, h1⟩ := h.nr.kind ha
  obtain ⟨c', f', h2⟩ := (h.kr i hi).kind hb
  exact kind_ne h1 h2 (by decide)
set_option maxRecDepth 100000 in
/-- One node more. -/
theorem NodesAt.push {w w' : World} {R : Nat → Prop} {v v' : Value} {l : List Nd} {p : Nat} {pc : Array Value} {pf : Nat × Nat} {x : Nd} (h : NodesAt w R v l) (hp : w.heap[p]? = some (.cells pc 24 pf)) (hs : w.heap.size ≤ w'.heap.size)
    (hb : ∀ k, k < w.heap.size → some k ≠ v.ownBlock → k ≠ p → w'.heap[k]? = w.heap[k]?) (hn : NR w' v' (l ++ [x])) (hv : v'.ownBlock = v.ownBlock ∨ ∃ g, v'.ownBlock = some g ∧ w.heap.size ≤ g)
    (hx : AR w' (RN R w w') x.av x.attrs) (hk1 : x.kv = .slice none 0 0) (hk2 : x.kids = []) : NodesAt w' (RN R w w') v' (l ++ [x]) := by
  have keep : ∀ k c t f, w.heap[k]? = some (Obj.cells c t f) → t ≠ 66 → t ≠ 24 → w'.heap[k]? = w.heap[k]? := fun k c t f hk h1 h2 =>
    hb k (Array.getElem?_eq_some_iff.1 hk).1 (fun e => by obtain ⟨c', f', h3⟩ := h.nr.kind e.symm; exact kind_ne hk h3 h1 rfl) (fun e => kind_ne hk hp h2 e)
  have old : ∀ i (hi : i < (l ++ [x]).length), (∃ h' : i < l.length, (l ++ [x])[i] = l[i]) ∨ (i = l.length ∧ (l ++ [x])[i] = x) := fun i hi => by
    by_cases h' : i < l.length
    · exact .inl ⟨h', List.getElem_append_left h'⟩
    · have : i = l.length := by simp at hi; omega
      subst this; exact .inr ⟨rfl, by simp⟩
  refine ⟨hn, fun i hi => ?_, fun i hi => ?_, fun k hk => ?_, fun i hi k hk => ?_, fun i j hi hj k h1 h2 => ?_, fun k hk => ?_⟩
  · rcases old i hi with ⟨h', e⟩ | ⟨_, e⟩
    · rw [e]; exact (h.kr i h').kept fun g hg => by obtain ⟨c, f, h1⟩ := (h.kr i h').kind hg; exact keep g c _ f h1 (by decide) (by decide)
    · rw [e, hk1, hk2]; exact KR.nil _
  · rcases old i hi with ⟨h', e⟩ | ⟨_, e⟩
    · rw [e]; exact (h.ar i h').kept (fun k hk => .inl hk) (fun g cs fz _ hg => keep g cs _ fz hg (by decide) (by decide)) hs
    · rw [e]; exact hx
  · rcases hv with e | ⟨g, e, hg⟩
    · exact .inl (h.rv k (e ▸ hk))
    · rw [e] at hk; injection hk with hk; subst hk
      exact .inr ⟨hg, hn.lt g e⟩
  · rcases old i hi with ⟨h', e⟩ | ⟨_, e⟩
    · rw [e] at hk; exact .inl (h.rk i h' k hk)
    · rw [e, hk1] at hk; cases hk
  · rcases old i hi with ⟨hi', e⟩ | ⟨_, e⟩
    · rcases old j hj with ⟨hj', e'⟩ | ⟨_, e'⟩
      · rw [e] at h1; rw [e'] at h2; exact h.ne i j hi' hj' k h1 h2
      · rw [e', hk1] at h2; cases h2
    · rw [e, hk1] at h1; cases h1
  · rcases hk with hk | hk
    · exact Nat.lt_of_lt_of_le (h.lt k hk) hs
    · exact hk.2
/-- What Add leaves. -/
def RetAdd (R : Nat → Prop) (p : Nat) (l : List Nd) (x : Nd) (w : World) (e : Ending) (w' : World) : Prop :=
  e = .returned (.int .i64 l.length) ∧ Keeps R w w' ∧ ∃ v' av, TreeAt w' (RN R w w') p v' (l ++ [{ x with av := av, up := -1, kv := .slice none 0 0, kids := [] }])
def boxN (w : World) (x : Nd) : World := w.alloc (.cells #[.int .i64 x.kind, .int .i64 x.space, .string x.name, x.av, .string x.data, .int .i64 x.up, x.kv] 66)

def setBox (w : World) (B : Nat) (av : Value) : World := ((w.setCell ⟨B, 3, none⟩ av).setCell ⟨B, 5, none⟩ (.int .i64 (-1))).setCell ⟨B, 6, none⟩ (.slice none 0 0)
set_option maxRecDepth 100000 in
theorem box_set {w : World} {B : Nat} {kind space up : Int} {name data : ByteArray} {av kv av2 : Value} (attrs : List A.At) (h : w.heap[B]? = some (Obj.cells #[.int .i64 kind, .int .i64 space, .string name, av, .string data, .int .i64 up, kv] 66 (0, 0))) :
    NodeAt (setBox w B av2) B 0 ⟨kind, space, name, av2, data, -1, .slice none 0 0, [], attrs⟩ := by
  have h1 := heap_setCell_same w B 3 _ _ av2 h
  have h2 := heap_setCell_same _ B 5 _ _ (.int .i64 (-1)) h1
  have h3 := heap_setCell_same _ B 6 _ _ (.slice none 0 0) h2
  intro k hk
  unfold setBox
  rw [Nat.zero_add, cell_of_row _ B k _ _ _ h3]
  match k, hk with
  | 0, _ => rfl
  | 1, _ => rfl
  | 2, _ => rfl
  | 3, _ => rfl
  | 4, _ => rfl
  | 5, _ => rfl
  | 6, _ => rfl
set_option maxRecDepth 100000 in
theorem setBox_below {b : Nat} {w w1 : World} {B : Nat} {av : Value} (h : Below b w w1) (hB : b ≤ B) : Below b w (setBox w1 B av) := ((h.setCell (p := ⟨B, 3, none⟩) hB _).setCell (p := ⟨B, 5, none⟩) hB _).setCell (p := ⟨B, 6, none⟩) hB _
set_option maxRecDepth 100000 in
theorem setBox_other {w : World} {B k : Nat} {av : Value} (h : k ≠ B) : (setBox w B av).heap[k]? = w.heap[k]? := by
  unfold setBox
  rw [heap_setCell_other _ _ k _ h, heap_setCell_other _ _ k _ h, heap_setCell_other _ _ k _ h]
set_option maxRecDepth 100000 in
theorem AR.shift {w : World} {R R' : Nat → Prop} {v : Value} {l : List A.At} (h : AR w R v l) (hr : ∀ k, R k → R' k) : AR w R' v l := h.kept hr (fun _ _ _ _ h => by rw [h]) (Nat.le_refl _)

set_option maxRecDepth 100000 in
set_option maxHeartbeats 1600000 in
theorem add_any (R : Nat → Prop) (p : Nat) (v : Value) (l : List Nd) (x : Nd) (a : Option Addr) (c : Nat) (w : World) (hT : TreeAt w R p v l) (hne : 0 < l.length) (hl : l.length ≤ 10000) (hav : x.av = .slice a x.attrs.length c) (hA : A.AttrsAt w a x.attrs) (hal : x.attrs.length ≤ 100000) :
    Calls Try.prog 82 #[.pointer (some ⟨p, 0, none⟩), x.val] w (RetAdd R p l x w) := by
  obtain ⟨kind, space, name, av, data, up, kv, kids, attrs⟩ := x
  dsimp only at hav hA hal
  subst hav
  have HT := Lib.hid hT
  have HCl := Lib.hid (fun W (hW : A.AttrsAt W a attrs) => aclone_any a c attrs W hW hal)
  have HA := Lib.hid hA
  have HW1 := Lib.hid (below_box w (box ⟨kind, space, name, .slice a attrs.length c, data, up, kv, kids, attrs⟩))
  have HX1 := Lib.hid (box_at w ⟨kind, space, name, .slice a attrs.length c, data, up, kv, kids, attrs⟩)
  have HBx1 : Hid ((w.alloc (box ⟨kind, space, name, .slice a attrs.length c, data, up, kv, kids, attrs⟩)).heap[w.heap.size]? = some (Obj.cells #[.int .i64 kind, .int .i64 space, .string name, .slice a attrs.length c, .string data, .int .i64 up, kv] 66 (0, 0))) := Lib.hid (heap_alloc_new w _)
  have HZ1 : Hid ((w.alloc (box ⟨kind, space, name, .slice a attrs.length c, data, up, kv, kids, attrs⟩)).heap.size = w.heap.size + 1) := Lib.hid (by simp)
  clear hT hA
  unfold Nd.val
  dsimp only
  go_enter Try.func82, Try.ntmps82
  go_upto_region 1 with fail
  show Code.wp _ _ _ _ (w.alloc (box ⟨kind, space, name, .slice a attrs.length c, data, up, kv, kids, attrs⟩))
  obtain ⟨w1, ew⟩ : ∃ w1, w1 = w.alloc (box ⟨kind, space, name, .slice a attrs.length c, data, up, kv, kids, attrs⟩) := ⟨_, rfl⟩
  rw [← ew] at HW1 HX1 HZ1 HBx1 ⊢
  clear ew
  obtain ⟨x0, x1, x2, x3, x4, x5, x6⟩ := HX1.out.c7
  dsimp only at x0 x1 x2 x3 x4 x5 x6
  have HC1 := Lib.hid (HCl.out w1 (HA.out.below HW1.out))
  clear x0 x1 x2 x4 x5 x6
  go_wp2_with fail
  refine HC1.out.mono ?_
  rintro e w2 ⟨av2, rfl, hav2, hb2⟩
  have HBx : Hid (w2.heap[w.heap.size]? = some (Obj.cells #[.int .i64 kind, .int .i64 space, .string name, .slice a attrs.length c, .string data, .int .i64 up, kv] 66 (0, 0))) := Lib.hid ((hb2.block _ HX1.out.lt).trans HBx1.out)
  have HX2 := Lib.hid (HX1.out.below hb2)
  have HW2 : Hid (Below w.heap.size w w2) := Lib.hid (HW1.out.trans (hb2.mono HW1.out.size))
  have HSz2 : Hid (w.heap.size + 1 ≤ w2.heap.size) := Lib.hid (by have := hb2.size; rw [HZ1.out] at this; exact this)
  have HAv := Lib.hid hav2
  obtain ⟨x0, x1, x2, x3, x4, x5, x6⟩ := HX2.out.c7
  dsimp only at x0 x1 x2 x3 x4 x5 x6
  have f3 : w2.frozen? ⟨w.heap.size, 3, none⟩ = false := frozen_of_row w2 w.heap.size 3 _ _ HBx.out
  have f5 : w2.frozen? ⟨w.heap.size, 5, none⟩ = false := frozen_of_row w2 w.heap.size 5 _ _ HBx.out
  have f6 : w2.frozen? ⟨w.heap.size, 6, none⟩ = false := frozen_of_row w2 w.heap.size 6 _ _ HBx.out
  clear hb2 hav2 HC1
  obtain ⟨a2, c2, e2, hat2, hin2⟩ := HAv.out
  subst e2
  clear hat2 hin2
  go_upto_region 5 with fail
  show Code.wp _ _ _ _ (setBox w2 w.heap.size (.slice a2 attrs.length c2))
  have hne2 : ∀ k, w.heap.size + 1 ≤ k → k ≠ w.heap.size := fun k hk => by omega
  have HX3 := Lib.hid (box_set (av2 := .slice a2 attrs.length c2) attrs HBx.out)
  have HW3 : Hid (Below w.heap.size w (setBox w2 w.heap.size (.slice a2 attrs.length c2))) := Lib.hid (setBox_below HW2.out (Nat.le_refl _))
  have HAv3 : Hid (AR (setBox w2 w.heap.size (.slice a2 attrs.length c2)) (fun k => w.heap.size + 1 ≤ k ∧ k < w2.heap.size) (.slice a2 attrs.length c2) attrs) := Lib.hid (HAv.out.kept (fun k hk => by rw [HZ1.out] at hk; exact hk) (fun g _ _ hg _ => setBox_other (hne2 g (by rw [HZ1.out] at hg; exact hg.1))) (by simp [setBox]))
  have hsz3 : (setBox w2 w.heap.size (.slice a2 attrs.length c2)).heap.size = w2.heap.size := by simp [setBox]
  have HZ3 := Lib.hid hsz3
  clear hsz3 hne2 x0 x1 x2 x3 x4 x5 x6 f3 f5 f6 HX2 HX1 HBx HAv
  obtain ⟨w3, ew⟩ : ∃ w3, w3 = setBox w2 w.heap.size (.slice a2 attrs.length c2) := ⟨_, rfl⟩
  rw [← ew] at HX3 HW3 HAv3 HZ3 ⊢
  clear ew
  obtain ⟨x0, x1, x2, x3, x4, x5, x6⟩ := HX3.out.c7
  dsimp only at x0 x1 x2 x3 x4 x5 x6
  have HT3 := Lib.hid (HT.out.below HW3.out)
  have hp3 := HT3.out.cell
  have HB := Lib.hid (behindN_any v l ⟨kind, space, name, .slice a2 attrs.length c2, data, -1, .slice none 0 0, [], attrs⟩ w3.drew HT3.out.drew.nodes.nr hne ⟨⟨_, _, _, rfl⟩, ⟨_, _, _, rfl⟩⟩ (by omega))
  unfold Nd.val roomN at HB
  dsimp only at HB
  go_region_law ((go_simp; go_at_call 132; (refine HB.out.mono ?_); rintro e w4 ⟨v4, rfl, hn4, hg4, hv4⟩
                  obtain ⟨a4, c4, rfl, hc4, _⟩ := hn4.slice
                  have HG4 := Lib.hid hg4
                  have HN4 := Lib.hid hn4
                  have HV4 := Lib.hid hv4
                  have HP4 : Hid (w4.heap[p]? = some (.cells #[v] 24 (0, 0))) := Lib.hid ((hg4.block p (HT3.out.nodes.lt p HT3.out.rp) (fun e => by obtain ⟨c', f', h3⟩ := HT3.out.nodes.nr.kind e.symm; exact kind_ne HT3.out.at_p h3 (by decide) rfl)).trans HT3.out.at_p)
                  have hp4 : w4.cell? ⟨p, 0, none⟩ = some v := by simp [World.cell?, HP4.out]
                  have hf4 : w4.frozen? ⟨p, 0, none⟩ = false := by simp [World.frozen?, HP4.out]
                  clear hn4 hg4 hv4))
  all_goals
    have HTf : Hid (RetAdd R p l ⟨kind, space, name, .slice a attrs.length c, data, up, kv, kids, attrs⟩ w (.returned (.int .i64 l.length)) (w4.setCell ⟨p, 0, none⟩ (.slice a4 (l ++ [(⟨kind, space, name, .slice a2 attrs.length c2, data, -1, .slice none 0 0, [], attrs⟩ : Nd)]).length c4))) := Lib.hid (by
      have hpR := HT3.out.rp
      have hK3 : Keeps R w w3 := Keeps.of_below HW3.out
      have h34 : ∀ k, k < w3.heap.size → some k ≠ v.ownBlock → w4.heap[k]? = w3.heap[k]? := fun k hk hne => HG4.out.block k hk hne
      have h45 : ∀ k, k ≠ p → (w4.setCell ⟨p, 0, none⟩ (.slice a4 (l ++ [(⟨kind, space, name, .slice a2 attrs.length c2, data, -1, .slice none 0 0, [], attrs⟩ : Nd)]).length c4)).heap[k]? = w4.heap[k]? := fun k hk => heap_setCell_other _ _ k _ hk
      have hs45 : (w4.setCell ⟨p, 0, none⟩ (.slice a4 (l ++ [(⟨kind, space, name, .slice a2 attrs.length c2, data, -1, .slice none 0 0, [], attrs⟩ : Nd)]).length c4)).heap.size = w4.heap.size := by simp
      have hs34 := HG4.out.size
      have hsw3 := HW3.out.size
      refine ⟨rfl, ⟨HG4.out.os.trans HW3.out.os, HG4.out.tape.trans HW3.out.tape, HG4.out.output.trans HW3.out.output, by rw [hs45]; exact Nat.le_trans hsw3 hs34, fun k hk hr => ?_⟩, .slice a4 (l ++ [(⟨kind, space, name, .slice a2 attrs.length c2, data, -1, .slice none 0 0, [], attrs⟩ : Nd)]).length c4, .slice a2 attrs.length c2, ?_, .inl hpR, ?_⟩
      · rw [h45 k (fun e => hr (e ▸ hpR)), h34 k (Nat.lt_of_lt_of_le hk hsw3) (fun e => hr (HT3.out.nodes.rv k e.symm))]
        exact HW3.out.block k hk
      · exact heap_setCell_same w4 p 0 _ _ _ HP4.out
      · have hnv : ∀ q, (Value.slice a4 (l ++ [(⟨kind, space, name, .slice a2 attrs.length c2, data, -1, .slice none 0 0, [], attrs⟩ : Nd)]).length c4).ownBlock = some q → q ≠ p := fun q hq e => by
          subst e
          obtain ⟨c', f', h1⟩ := HN4.out.kind hq
          rw [HP4.out] at h1
          injection h1 with h1
          injection h1 with _ h1 _
          exact absurd h1 (by decide)
        have hT0 := HT.out
        refine NodesAt.push (p := p) hT0.nodes hT0.at_p (by rw [hs45]; exact Nat.le_trans hsw3 hs34) (fun k hk h1 h2 => ?_) (HN4.out.kept fun q hq => h45 q (hnv q hq)) ?_ (HAv3.out.kept (fun k hk => .inr ⟨by omega, by rw [hs45]; have := HZ3.out; have := hs34; simp at this; omega⟩) (fun q cs fz hq hh => ?_) (by rw [hs45]; exact hs34)) rfl rfl
        · rw [h45 k h2, h34 k (Nat.lt_of_lt_of_le hk hsw3) h1]; exact HW3.out.block k hk
        · rcases HV4.out with e | ⟨q, e, hq⟩
          · exact .inl e
          · exact .inr ⟨q, e, Nat.le_trans hsw3 hq⟩
        · have hqp : q ≠ p := fun e => by subst e; exact kind_ne hh HT3.out.at_p (by decide) rfl
          rw [h45 q hqp]
          exact h34 q (Array.getElem?_eq_some_iff.1 hh).1 (fun e => by obtain ⟨c', f', h3⟩ := HT3.out.nodes.nr.kind e.symm; exact kind_ne hh h3 (by decide) rfl))
    clear hp3 x0 x1 x2 x3 x4 x5 x6
    go_wp2
    go_ret
    have h := HTf.out
    rw [List.length_append] at h
    exact h
end Go.Proofs.Ytkkngflpmdcfjaa
