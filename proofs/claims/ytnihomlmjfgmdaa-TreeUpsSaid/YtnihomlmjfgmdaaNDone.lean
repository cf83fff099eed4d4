/-
  One operation on both trees: on the program's what the plain functions say, on the document's what keeps its size.
-/
import Derived.Test.YtnihomlmjfgmdaaNRadd
import Derived.Test.YtnihomlmjfgmdaaNClone
import Derived.Deep.RegionHeld3
namespace Go.Proofs.Ytnihomlmjfgmdaa
open Go.RowKit

/-- Both trees, in blocks of their own, behind w0. -/
def Duo (w0 : World) (ok : Nat → Prop) (p q : Nat) (P : List Nd) (n S : Nat) (W : World) : Prop :=
  Below w0.heap.size w0 W ∧ ∃ R1 R2 : Nat → Prop, TreeP W R1 p P ∧ TreeQ W R2 q n S ∧ (∀ k, R1 k → ¬ R2 k) ∧ ∀ k, R1 k ∨ R2 k → ok k
def Stays (ok : Nat → Prop) (W W' : World) : Prop := W.heap.size ≤ W'.heap.size ∧ ∀ k, k < W.heap.size → ¬ ok k → W'.heap[k]? = W.heap[k]?
def RetD (w0 : World) (ok : Nat → Prop) (p q : Nat) (P : List Nd) (n S : Nat) (v : Value) (W : World) (e : Ending) (W' : World) : Prop := e = .returned v ∧ Duo w0 ok p q P n S W' ∧ Stays ok W W'
theorem TreeP.lt {W : World} {R : Nat → Prop} {p : Nat} {P : List Nd} (h : TreeP W R p P) : ∀ k, R k → k < W.heap.size := by obtain ⟨_, _, h, _⟩ := h; exact h.nodes.lt
theorem TreeQ.lt {W : World} {R : Nat → Prop} {p n S : Nat} (h : TreeQ W R p n S) : ∀ k, R k → k < W.heap.size := by obtain ⟨_, _, h, _⟩ := h; exact h.nodes.lt
theorem TreeP.other {w w' : World} {R S : Nat → Prop} {p : Nat} {P : List Nd} (h : TreeP w R p P) (hk : Keeps S w w') (hd : ∀ k, R k → ¬ S k) : TreeP w' R p P := by obtain ⟨v, l, h, e⟩ := h; exact ⟨v, l, h.other hk hd, e⟩
theorem TreeQ.other {w w' : World} {R S : Nat → Prop} {p n s : Nat} (h : TreeQ w R p n s) (hk : Keeps S w w') (hd : ∀ k, R k → ¬ S k) : TreeQ w' R p n s := by obtain ⟨v, l, h, e⟩ := h; exact ⟨v, l, h.other hk hd, e⟩
theorem TreeP.below {w w' : World} {R : Nat → Prop} {p : Nat} {P : List Nd} (h : TreeP w R p P) (hb : Below w.heap.size w w') : TreeP w' R p P := by obtain ⟨v, l, h, e⟩ := h; exact ⟨v, l, h.below hb, e⟩
theorem TreeQ.below {w w' : World} {R : Nat → Prop} {p n s : Nat} (h : TreeQ w R p n s) (hb : Below w.heap.size w w') : TreeQ w' R p n s := by obtain ⟨v, l, h, e⟩ := h; exact ⟨v, l, h.below hb, e⟩
theorem Duo.below {w0 : World} {ok ok' : Nat → Prop} {p q : Nat} {P : List Nd} {n S : Nat} {W W' : World} (h : Duo w0 ok p q P n S W) (hb : Below W.heap.size W W') (hk : ∀ k, ok k → k < W.heap.size → ok' k) : Duo w0 ok' p q P n S W' := by
  obtain ⟨h0, R1, R2, h1, h2, h3, h4⟩ := h
  refine ⟨h0.trans (hb.mono h0.size), R1, R2, h1.below hb, h2.below hb, h3, fun k hk1 => hk k (h4 k hk1) ?_⟩
  rcases hk1 with h | h
  · exact h1.lt k h
  · exact h2.lt k h
theorem Duo.drew {w0 : World} {ok : Nat → Prop} {p q : Nat} {P : List Nd} {n S : Nat} {W : World} (h : Duo w0 ok p q P n S W) : Duo w0 ok p q P n S W.drew := h.below (below_drewN W 1) fun _ h _ => h
theorem duo_first {w0 : World} {ok : Nat → Prop} {p q : Nat} {P P' : List Nd} {n S : Nat} {W : World} {f : Nat} {args : Array Value} {v : Value} (h : Duo w0 ok p q P n S W) (hk : ∀ k, ok k → w0.heap.size ≤ k) (hn : ∀ k, W.heap.size ≤ k → ok k)
    (hc : ∀ R, TreeP W R p P → Calls Try.prog f args W (fun e W' => e = .returned v ∧ Keeps R W W' ∧ TreeP W' (RN R W W') p P')) : Calls Try.prog f args W (RetD w0 ok p q P' n S v W) := by
  obtain ⟨h0, R1, R2, h1, h2, h3, h4⟩ := h
  refine (hc R1 h1).mono ?_
  rintro e W' ⟨rfl, hkp, ht⟩
  refine ⟨rfl, ⟨h0.trans (hkp.below h0.size fun k hk1 => hk k (h4 k (.inl hk1))), RN R1 W W', R2, ht, h2.other hkp (fun k hr1 hr2 => h3 k hr2 hr1), fun k hr1 hr2 => ?_, fun k hr => ?_⟩, hkp.size, fun k hlt hno => hkp.block k hlt fun hr => hno (h4 k (.inl hr))⟩
  · rcases hr1 with hr | hr
    · exact h3 k hr hr2
    · have := h2.lt k hr2; omega
  · rcases hr with (hr | hr) | hr
    · exact h4 k (.inl hr)
    · exact hn k hr.1
    · exact h4 k (.inr hr)
theorem duo_second {w0 : World} {ok : Nat → Prop} {p q : Nat} {P : List Nd} {n S n' S' : Nat} {W : World} {f : Nat} {args : Array Value} {v : Value} (h : Duo w0 ok p q P n S W) (hk : ∀ k, ok k → w0.heap.size ≤ k) (hn : ∀ k, W.heap.size ≤ k → ok k)
    (hc : ∀ R, TreeQ W R q n S → Calls Try.prog f args W (fun e W' => e = .returned v ∧ Keeps R W W' ∧ TreeQ W' (RN R W W') q n' S')) : Calls Try.prog f args W (RetD w0 ok p q P n' S' v W) := by
  obtain ⟨h0, R1, R2, h1, h2, h3, h4⟩ := h
  refine (hc R2 h2).mono ?_
  rintro e W' ⟨rfl, hkp, ht⟩
  refine ⟨rfl, ⟨h0.trans (hkp.below h0.size fun k hk1 => hk k (h4 k (.inr hk1))), R1, RN R2 W W', h1.other hkp (fun k hr1 hr2 => h3 k hr1 hr2), ht, fun k hr1 hr2 => ?_, fun k hr => ?_⟩, hkp.size, fun k hlt hno => hkp.block k hlt fun hr => hno (h4 k (.inr hr))⟩
  · rcases hr2 with hr | hr
    · exact h3 k hr1 hr
    · have := h1.lt k hr1; omega
  · rcases hr with hr | (hr | hr)
    · exact h4 k (.inl hr)
    · exact h4 k (.inr hr)
    · exact hn k hr.1
/-- The node that Add makes of x, by what it says. -/
def newN (x : Nd) : Nd := { x with av := .slice none 0 0, up := -1, kv := .slice none 0 0, kids := [] }
def opP (d a b c : Int) (x : Nd) (P : List Nd) : List Nd := if d = 0 then P ++ [newN x] else if d = 1 then cutP P a else if d = 2 then putP P a b c else moveP P a b
theorem length_putP (P : List Nd) (u a k : Int) : (putP P u a k).length = P.length := by unfold putP; split <;> simp [length_cutP]
theorem length_moveP (P : List Nd) (a b : Int) : (moveP P a b).length = P.length := by unfold moveP; split <;> simp [upsP_len]
/-- A box behind w0 that no tree owns. -/
def okB (w0 : World) (B : Nat) (k : Nat) : Prop := w0.heap.size ≤ k ∧ k ≠ B
def okA (w0 : World) (k : Nat) : Prop := w0.heap.size ≤ k
theorem Duo.free {w0 : World} {B p q : Nat} {P : List Nd} {n S : Nat} {W : World} (h : Duo w0 (okB w0 B) p q P n S W) : Duo w0 (okA w0) p q P n S W := h.below (Below.refl _ _) fun _ h _ => h.1
theorem Stays.box {w0 : World} {B : Nat} {W W' : World} {o : Obj} (h : Stays (okB w0 B) W W') (hB : W.heap[B]? = some o) : W'.heap[B]? = some o := (h.2 B (Array.getElem?_eq_some_iff.1 hB).1 fun e => e.2 rfl).trans hB
structure Fit (w0 : World) (x : Nd) (P : List Nd) (n S : Nat) : Prop where
  read : ReadK w0 x
  pos : 0 < P.length
  len : P.length = n
  le : n ≤ 10000
  kids : ∀ y ∈ P, y.kids.length ≤ 10000
  sum : S ≤ 10000
  attrs : x.attrs.length ≤ 100000
def RetDone (w0 : World) (p q : Nat) (P : List Nd) (n S : Nat) (e : Ending) (W' : World) : Prop := e = .returned (.bool true) ∧ Duo w0 (okA w0) p q P n S W'

set_option maxRecDepth 100000 in
set_option maxHeartbeats 3200000 in
theorem done_cut (w0 : World) (p q : Nat) (P : List Nd) (n S : Nat) (d a b c : Int) (x : Nd) (w : World) (hD : Duo w0 (okA w0) p q P n S w) (hF : Fit w0 x P n S) (hd : d = 1) :
    Calls Try.prog 7 #[.pointer (some ⟨p, 0, none⟩), .pointer (some ⟨q, 0, none⟩), .agg #[.int .i64 d, .int .i64 a, .int .i64 b, .int .i64 c, .int .i64 x.kind, .int .i64 x.space, .string x.name, x.av, .string x.data, .int .i64 x.up, x.kv]] w (RetDone w0 p q (cutP P a) n S) := by
  subst hd
  have HF := Lib.hid hF
  obtain ⟨⟨xka, xkc, hxk, _⟩, xaa, xac, hxa, hxat⟩ := hF.read
  rw [hxk, hxa]
  have HXA := Lib.hid hxa
  have HXAt := Lib.hid hxat
  have hs0 : w0.heap.size ≤ w.heap.size := hD.1.size
  have HS0 := Lib.hid hs0
  have HD1 : Hid (Duo w0 (okB w0 w.heap.size) p q P n S (w.alloc (.cells #[.int .i64 1, .int .i64 a, .int .i64 b, .int .i64 c, .int .i64 x.kind, .int .i64 x.space, .string x.name, .slice xaa x.attrs.length xac, .string x.data, .int .i64 x.up, .slice xka x.kids.length xkc] 32))) := Lib.hid (hD.below (below_box w _) fun k hk hlt => ⟨hk, by omega⟩)
  have HB1 : Hid ((w.alloc (.cells #[.int .i64 1, .int .i64 a, .int .i64 b, .int .i64 c, .int .i64 x.kind, .int .i64 x.space, .string x.name, .slice xaa x.attrs.length xac, .string x.data, .int .i64 x.up, .slice xka x.kids.length xkc] 32)).heap[w.heap.size]? = some (Obj.cells #[.int .i64 1, .int .i64 a, .int .i64 b, .int .i64 c, .int .i64 x.kind, .int .i64 x.space, .string x.name, .slice xaa x.attrs.length xac, .string x.data, .int .i64 x.up, .slice xka x.kids.length xkc] 32 (0, 0))) := Lib.hid (heap_alloc_new w _)
  have HZ1 : Hid (w.heap.size < (w.alloc (.cells #[.int .i64 1, .int .i64 a, .int .i64 b, .int .i64 c, .int .i64 x.kind, .int .i64 x.space, .string x.name, .slice xaa x.attrs.length xac, .string x.data, .int .i64 x.up, .slice xka x.kids.length xkc] 32)).heap.size) := Lib.hid (by simp)
  have hok : ∀ k, okB w0 w.heap.size k → w0.heap.size ≤ k := fun k h => h.1
  have HOk := Lib.hid hok
  clear hD hF hs0 hok hxat hxk hxa
  go_enter Try.func7, Try.ntmps7
  go_upto_region 1 with fail
  show Code.wp _ _ _ _ (w.alloc (.cells #[.int .i64 1, .int .i64 a, .int .i64 b, .int .i64 c, .int .i64 x.kind, .int .i64 x.space, .string x.name, .slice xaa x.attrs.length xac, .string x.data, .int .i64 x.up, .slice xka x.kids.length xkc] 32))
  obtain ⟨w1, ew⟩ : ∃ w1, w1 = w.alloc (.cells #[.int .i64 1, .int .i64 a, .int .i64 b, .int .i64 c, .int .i64 x.kind, .int .i64 x.space, .string x.name, .slice xaa x.attrs.length xac, .string x.data, .int .i64 x.up, .slice xka x.kids.length xkc] 32) := ⟨_, rfl⟩
  rw [← ew] at HD1 HB1 HZ1 ⊢
  clear ew
  have HBx := HB1
  have w1c0 : w1.cell? ⟨w.heap.size, 0, none⟩ = some (.int .i64 1) := cell_of_row w1 _ 0 _ _ _ HB1.out
  have w1c1 : w1.cell? ⟨w.heap.size, 1, none⟩ = some (.int .i64 a) := cell_of_row w1 _ 1 _ _ _ HB1.out
  have w1c2 : w1.cell? ⟨w.heap.size, 2, none⟩ = some (.int .i64 b) := cell_of_row w1 _ 2 _ _ _ HB1.out
  have w1c3 : w1.cell? ⟨w.heap.size, 3, none⟩ = some (.int .i64 c) := cell_of_row w1 _ 3 _ _ _ HB1.out
  have w1c4 : w1.cell? ⟨w.heap.size, 4, none⟩ = some (.int .i64 x.kind) := cell_of_row w1 _ 4 _ _ _ HB1.out
  have w1c5 : w1.cell? ⟨w.heap.size, 5, none⟩ = some (.int .i64 x.space) := cell_of_row w1 _ 5 _ _ _ HB1.out
  have w1c6 : w1.cell? ⟨w.heap.size, 6, none⟩ = some (.string x.name) := cell_of_row w1 _ 6 _ _ _ HB1.out
  have w1c7 : w1.cell? ⟨w.heap.size, 7, none⟩ = some (.slice xaa x.attrs.length xac) := cell_of_row w1 _ 7 _ _ _ HB1.out
  have w1c8 : w1.cell? ⟨w.heap.size, 8, none⟩ = some (.string x.data) := cell_of_row w1 _ 8 _ _ _ HB1.out
  have w1c9 : w1.cell? ⟨w.heap.size, 9, none⟩ = some (.int .i64 x.up) := cell_of_row w1 _ 9 _ _ _ HB1.out
  have w1c10 : w1.cell? ⟨w.heap.size, 10, none⟩ = some (.slice xka x.kids.length xkc) := cell_of_row w1 _ 10 _ _ _ HB1.out
  have HC1 := Lib.hid (duo_first (P' := (cutP P a)) (v := .tuple #[]) HD1.out HOk.out (fun k hk => ⟨by have := HS0.out; have := HZ1.out; omega, by have := HZ1.out; omega⟩) fun R hT => cut_any R p P a w1 hT fun y hy => Nat.le_trans (HF.out.kids y hy) (by omega))
  go_wp2_with fail
  refine HC1.out.mono ?_
  rintro e w2 ⟨rfl, hd2, hs2⟩
  have HD2 := Lib.hid hd2
  have HB2 := Lib.hid (hs2.box HB1.out)
  have HZ2 : Hid (w.heap.size < w2.heap.size) := Lib.hid (Nat.lt_of_lt_of_le HZ1.out hs2.1)
  clear hd2 hs2 w1c0 w1c1 w1c2 w1c3 w1c4 w1c5 w1c6 w1c7 w1c8 w1c9 w1c10
  have w2c0 : w2.cell? ⟨w.heap.size, 0, none⟩ = some (.int .i64 1) := cell_of_row w2 _ 0 _ _ _ HB2.out
  have w2c1 : w2.cell? ⟨w.heap.size, 1, none⟩ = some (.int .i64 a) := cell_of_row w2 _ 1 _ _ _ HB2.out
  have w2c2 : w2.cell? ⟨w.heap.size, 2, none⟩ = some (.int .i64 b) := cell_of_row w2 _ 2 _ _ _ HB2.out
  have w2c3 : w2.cell? ⟨w.heap.size, 3, none⟩ = some (.int .i64 c) := cell_of_row w2 _ 3 _ _ _ HB2.out
  have w2c4 : w2.cell? ⟨w.heap.size, 4, none⟩ = some (.int .i64 x.kind) := cell_of_row w2 _ 4 _ _ _ HB2.out
  have w2c5 : w2.cell? ⟨w.heap.size, 5, none⟩ = some (.int .i64 x.space) := cell_of_row w2 _ 5 _ _ _ HB2.out
  have w2c6 : w2.cell? ⟨w.heap.size, 6, none⟩ = some (.string x.name) := cell_of_row w2 _ 6 _ _ _ HB2.out
  have w2c7 : w2.cell? ⟨w.heap.size, 7, none⟩ = some (.slice xaa x.attrs.length xac) := cell_of_row w2 _ 7 _ _ _ HB2.out
  have w2c8 : w2.cell? ⟨w.heap.size, 8, none⟩ = some (.string x.data) := cell_of_row w2 _ 8 _ _ _ HB2.out
  have w2c9 : w2.cell? ⟨w.heap.size, 9, none⟩ = some (.int .i64 x.up) := cell_of_row w2 _ 9 _ _ _ HB2.out
  have w2c10 : w2.cell? ⟨w.heap.size, 10, none⟩ = some (.slice xka x.kids.length xkc) := cell_of_row w2 _ 10 _ _ _ HB2.out
  have HC2 := Lib.hid (duo_second (n' := n) (S' := S) (v := .tuple #[]) HD2.out HOk.out (fun k hk => ⟨by have := HS0.out; have := HZ2.out; omega, by have := HZ2.out; omega⟩) fun R hT => rcut_any R q n S a w2 hT (by have := HF.out.sum; omega))
  go_wp2_with fail
  refine HC2.out.mono ?_
  rintro e w3 ⟨rfl, hd3, _⟩
  have HD3 := Lib.hid hd3
  clear hd3 w2c0 w2c1 w2c2 w2c3 w2c4 w2c5 w2c6 w2c7 w2c8 w2c9 w2c10
  go_wp2
  go_ret
  exact ⟨rfl, HD3.out.free⟩

set_option maxRecDepth 100000 in
set_option maxHeartbeats 3200000 in
theorem done_put (w0 : World) (p q : Nat) (P : List Nd) (n S : Nat) (d a b c : Int) (x : Nd) (w : World) (hD : Duo w0 (okA w0) p q P n S w) (hF : Fit w0 x P n S) (hd : d = 2) :
    Calls Try.prog 7 #[.pointer (some ⟨p, 0, none⟩), .pointer (some ⟨q, 0, none⟩), .agg #[.int .i64 d, .int .i64 a, .int .i64 b, .int .i64 c, .int .i64 x.kind, .int .i64 x.space, .string x.name, x.av, .string x.data, .int .i64 x.up, x.kv]] w (RetDone w0 p q (putP P a b c) n (S + 1)) := by
  subst hd
  have HF := Lib.hid hF
  obtain ⟨⟨xka, xkc, hxk, _⟩, xaa, xac, hxa, hxat⟩ := hF.read
  rw [hxk, hxa]
  have HXA := Lib.hid hxa
  have HXAt := Lib.hid hxat
  have hs0 : w0.heap.size ≤ w.heap.size := hD.1.size
  have HS0 := Lib.hid hs0
  have HD1 : Hid (Duo w0 (okB w0 w.heap.size) p q P n S (w.alloc (.cells #[.int .i64 2, .int .i64 a, .int .i64 b, .int .i64 c, .int .i64 x.kind, .int .i64 x.space, .string x.name, .slice xaa x.attrs.length xac, .string x.data, .int .i64 x.up, .slice xka x.kids.length xkc] 32))) := Lib.hid (hD.below (below_box w _) fun k hk hlt => ⟨hk, by omega⟩)
  have HB1 : Hid ((w.alloc (.cells #[.int .i64 2, .int .i64 a, .int .i64 b, .int .i64 c, .int .i64 x.kind, .int .i64 x.space, .string x.name, .slice xaa x.attrs.length xac, .string x.data, .int .i64 x.up, .slice xka x.kids.length xkc] 32)).heap[w.heap.size]? = some (Obj.cells #[.int .i64 2, .int .i64 a, .int .i64 b, .int .i64 c, .int .i64 x.kind, .int .i64 x.space, .string x.name, .slice xaa x.attrs.length xac, .string x.data, .int .i64 x.up, .slice xka x.kids.length xkc] 32 (0, 0))) := Lib.hid (heap_alloc_new w _)
  have HZ1 : Hid (w.heap.size < (w.alloc (.cells #[.int .i64 2, .int .i64 a, .int .i64 b, .int .i64 c, .int .i64 x.kind, .int .i64 x.space, .string x.name, .slice xaa x.attrs.length xac, .string x.data, .int .i64 x.up, .slice xka x.kids.length xkc] 32)).heap.size) := Lib.hid (by simp)
  have hok : ∀ k, okB w0 w.heap.size k → w0.heap.size ≤ k := fun k h => h.1
  have HOk := Lib.hid hok
  clear hD hF hs0 hok hxat hxk hxa
  go_enter Try.func7, Try.ntmps7
  go_upto_region 1 with fail
  show Code.wp _ _ _ _ (w.alloc (.cells #[.int .i64 2, .int .i64 a, .int .i64 b, .int .i64 c, .int .i64 x.kind, .int .i64 x.space, .string x.name, .slice xaa x.attrs.length xac, .string x.data, .int .i64 x.up, .slice xka x.kids.length xkc] 32))
  obtain ⟨w1, ew⟩ : ∃ w1, w1 = w.alloc (.cells #[.int .i64 2, .int .i64 a, .int .i64 b, .int .i64 c, .int .i64 x.kind, .int .i64 x.space, .string x.name, .slice xaa x.attrs.length xac, .string x.data, .int .i64 x.up, .slice xka x.kids.length xkc] 32) := ⟨_, rfl⟩
  rw [← ew] at HD1 HB1 HZ1 ⊢
  clear ew
  have HBx := HB1
  have w1c0 : w1.cell? ⟨w.heap.size, 0, none⟩ = some (.int .i64 2) := cell_of_row w1 _ 0 _ _ _ HB1.out
  have w1c1 : w1.cell? ⟨w.heap.size, 1, none⟩ = some (.int .i64 a) := cell_of_row w1 _ 1 _ _ _ HB1.out
  have w1c2 : w1.cell? ⟨w.heap.size, 2, none⟩ = some (.int .i64 b) := cell_of_row w1 _ 2 _ _ _ HB1.out
  have w1c3 : w1.cell? ⟨w.heap.size, 3, none⟩ = some (.int .i64 c) := cell_of_row w1 _ 3 _ _ _ HB1.out
  have w1c4 : w1.cell? ⟨w.heap.size, 4, none⟩ = some (.int .i64 x.kind) := cell_of_row w1 _ 4 _ _ _ HB1.out
  have w1c5 : w1.cell? ⟨w.heap.size, 5, none⟩ = some (.int .i64 x.space) := cell_of_row w1 _ 5 _ _ _ HB1.out
  have w1c6 : w1.cell? ⟨w.heap.size, 6, none⟩ = some (.string x.name) := cell_of_row w1 _ 6 _ _ _ HB1.out
  have w1c7 : w1.cell? ⟨w.heap.size, 7, none⟩ = some (.slice xaa x.attrs.length xac) := cell_of_row w1 _ 7 _ _ _ HB1.out
  have w1c8 : w1.cell? ⟨w.heap.size, 8, none⟩ = some (.string x.data) := cell_of_row w1 _ 8 _ _ _ HB1.out
  have w1c9 : w1.cell? ⟨w.heap.size, 9, none⟩ = some (.int .i64 x.up) := cell_of_row w1 _ 9 _ _ _ HB1.out
  have w1c10 : w1.cell? ⟨w.heap.size, 10, none⟩ = some (.slice xka x.kids.length xkc) := cell_of_row w1 _ 10 _ _ _ HB1.out
  have HC1 := Lib.hid (duo_first (P' := (putP P a b c)) (v := .tuple #[]) HD1.out HOk.out (fun k hk => ⟨by have := HS0.out; have := HZ1.out; omega, by have := HZ1.out; omega⟩) fun R hT => put_any R p P a b c w1 hT fun y hy => Nat.le_trans (HF.out.kids y hy) (by omega))
  go_wp2_with fail
  refine HC1.out.mono ?_
  rintro e w2 ⟨rfl, hd2, hs2⟩
  have HD2 := Lib.hid hd2
  have HB2 := Lib.hid (hs2.box HB1.out)
  have HZ2 : Hid (w.heap.size < w2.heap.size) := Lib.hid (Nat.lt_of_lt_of_le HZ1.out hs2.1)
  clear hd2 hs2 w1c0 w1c1 w1c2 w1c3 w1c4 w1c5 w1c6 w1c7 w1c8 w1c9 w1c10
  have w2c0 : w2.cell? ⟨w.heap.size, 0, none⟩ = some (.int .i64 2) := cell_of_row w2 _ 0 _ _ _ HB2.out
  have w2c1 : w2.cell? ⟨w.heap.size, 1, none⟩ = some (.int .i64 a) := cell_of_row w2 _ 1 _ _ _ HB2.out
  have w2c2 : w2.cell? ⟨w.heap.size, 2, none⟩ = some (.int .i64 b) := cell_of_row w2 _ 2 _ _ _ HB2.out
  have w2c3 : w2.cell? ⟨w.heap.size, 3, none⟩ = some (.int .i64 c) := cell_of_row w2 _ 3 _ _ _ HB2.out
  have w2c4 : w2.cell? ⟨w.heap.size, 4, none⟩ = some (.int .i64 x.kind) := cell_of_row w2 _ 4 _ _ _ HB2.out
  have w2c5 : w2.cell? ⟨w.heap.size, 5, none⟩ = some (.int .i64 x.space) := cell_of_row w2 _ 5 _ _ _ HB2.out
  have w2c6 : w2.cell? ⟨w.heap.size, 6, none⟩ = some (.string x.name) := cell_of_row w2 _ 6 _ _ _ HB2.out
  have w2c7 : w2.cell? ⟨w.heap.size, 7, none⟩ = some (.slice xaa x.attrs.length xac) := cell_of_row w2 _ 7 _ _ _ HB2.out
  have w2c8 : w2.cell? ⟨w.heap.size, 8, none⟩ = some (.string x.data) := cell_of_row w2 _ 8 _ _ _ HB2.out
  have w2c9 : w2.cell? ⟨w.heap.size, 9, none⟩ = some (.int .i64 x.up) := cell_of_row w2 _ 9 _ _ _ HB2.out
  have w2c10 : w2.cell? ⟨w.heap.size, 10, none⟩ = some (.slice xka x.kids.length xkc) := cell_of_row w2 _ 10 _ _ _ HB2.out
  have HC2 := Lib.hid (duo_second (n' := n) (S' := (S + 1)) (v := .tuple #[]) HD2.out HOk.out (fun k hk => ⟨by have := HS0.out; have := HZ2.out; omega, by have := HZ2.out; omega⟩) fun R hT => rput_any R q n S a b c w2 hT (by have := HF.out.sum; omega) (by have := HF.out.le; omega))
  go_wp2_with fail
  refine HC2.out.mono ?_
  rintro e w3 ⟨rfl, hd3, _⟩
  have HD3 := Lib.hid hd3
  clear hd3 w2c0 w2c1 w2c2 w2c3 w2c4 w2c5 w2c6 w2c7 w2c8 w2c9 w2c10
  go_wp2
  go_ret
  exact ⟨rfl, HD3.out.free⟩

set_option maxRecDepth 100000 in
set_option maxHeartbeats 3200000 in
theorem done_move (w0 : World) (p q : Nat) (P : List Nd) (n S : Nat) (d a b c : Int) (x : Nd) (w : World) (hD : Duo w0 (okA w0) p q P n S w) (hF : Fit w0 x P n S) (h0 : d ≠ 0) (h1 : d ≠ 1) (h2 : d ≠ 2) :
    Calls Try.prog 7 #[.pointer (some ⟨p, 0, none⟩), .pointer (some ⟨q, 0, none⟩), .agg #[.int .i64 d, .int .i64 a, .int .i64 b, .int .i64 c, .int .i64 x.kind, .int .i64 x.space, .string x.name, x.av, .string x.data, .int .i64 x.up, x.kv]] w (RetDone w0 p q (moveP P a b) n S) := by
  have HF := Lib.hid hF
  obtain ⟨⟨xka, xkc, hxk, _⟩, xaa, xac, hxa, hxat⟩ := hF.read
  rw [hxk, hxa]
  have HXA := Lib.hid hxa
  have HXAt := Lib.hid hxat
  have hs0 : w0.heap.size ≤ w.heap.size := hD.1.size
  have HS0 := Lib.hid hs0
  have HD1 : Hid (Duo w0 (okB w0 w.heap.size) p q P n S (w.alloc (.cells #[.int .i64 d, .int .i64 a, .int .i64 b, .int .i64 c, .int .i64 x.kind, .int .i64 x.space, .string x.name, .slice xaa x.attrs.length xac, .string x.data, .int .i64 x.up, .slice xka x.kids.length xkc] 32))) := Lib.hid (hD.below (below_box w _) fun k hk hlt => ⟨hk, by omega⟩)
  have HB1 : Hid ((w.alloc (.cells #[.int .i64 d, .int .i64 a, .int .i64 b, .int .i64 c, .int .i64 x.kind, .int .i64 x.space, .string x.name, .slice xaa x.attrs.length xac, .string x.data, .int .i64 x.up, .slice xka x.kids.length xkc] 32)).heap[w.heap.size]? = some (Obj.cells #[.int .i64 d, .int .i64 a, .int .i64 b, .int .i64 c, .int .i64 x.kind, .int .i64 x.space, .string x.name, .slice xaa x.attrs.length xac, .string x.data, .int .i64 x.up, .slice xka x.kids.length xkc] 32 (0, 0))) := Lib.hid (heap_alloc_new w _)
  have HZ1 : Hid (w.heap.size < (w.alloc (.cells #[.int .i64 d, .int .i64 a, .int .i64 b, .int .i64 c, .int .i64 x.kind, .int .i64 x.space, .string x.name, .slice xaa x.attrs.length xac, .string x.data, .int .i64 x.up, .slice xka x.kids.length xkc] 32)).heap.size) := Lib.hid (by simp)
  have hok : ∀ k, okB w0 w.heap.size k → w0.heap.size ≤ k := fun k h => h.1
  have HOk := Lib.hid hok
  clear hD hF hs0 hok hxat hxk hxa
  have e0 : (d == 0) = false := by simpa using h0
  have e1 : (d == 1) = false := by simpa using h1
  have e2 : (d == 2) = false := by simpa using h2
  clear h0 h1 h2
  go_enter Try.func7, Try.ntmps7
  go_upto_region 1 with fail
  show Code.wp _ _ _ _ (w.alloc (.cells #[.int .i64 d, .int .i64 a, .int .i64 b, .int .i64 c, .int .i64 x.kind, .int .i64 x.space, .string x.name, .slice xaa x.attrs.length xac, .string x.data, .int .i64 x.up, .slice xka x.kids.length xkc] 32))
  obtain ⟨w1, ew⟩ : ∃ w1, w1 = w.alloc (.cells #[.int .i64 d, .int .i64 a, .int .i64 b, .int .i64 c, .int .i64 x.kind, .int .i64 x.space, .string x.name, .slice xaa x.attrs.length xac, .string x.data, .int .i64 x.up, .slice xka x.kids.length xkc] 32) := ⟨_, rfl⟩
  rw [← ew] at HD1 HB1 HZ1 ⊢
  clear ew
  have HBx := HB1
  have w1c0 : w1.cell? ⟨w.heap.size, 0, none⟩ = some (.int .i64 d) := cell_of_row w1 _ 0 _ _ _ HB1.out
  have w1c1 : w1.cell? ⟨w.heap.size, 1, none⟩ = some (.int .i64 a) := cell_of_row w1 _ 1 _ _ _ HB1.out
  have w1c2 : w1.cell? ⟨w.heap.size, 2, none⟩ = some (.int .i64 b) := cell_of_row w1 _ 2 _ _ _ HB1.out
  have w1c3 : w1.cell? ⟨w.heap.size, 3, none⟩ = some (.int .i64 c) := cell_of_row w1 _ 3 _ _ _ HB1.out
  have w1c4 : w1.cell? ⟨w.heap.size, 4, none⟩ = some (.int .i64 x.kind) := cell_of_row w1 _ 4 _ _ _ HB1.out
  have w1c5 : w1.cell? ⟨w.heap.size, 5, none⟩ = some (.int .i64 x.space) := cell_of_row w1 _ 5 _ _ _ HB1.out
  have w1c6 : w1.cell? ⟨w.heap.size, 6, none⟩ = some (.string x.name) := cell_of_row w1 _ 6 _ _ _ HB1.out
  have w1c7 : w1.cell? ⟨w.heap.size, 7, none⟩ = some (.slice xaa x.attrs.length xac) := cell_of_row w1 _ 7 _ _ _ HB1.out
  have w1c8 : w1.cell? ⟨w.heap.size, 8, none⟩ = some (.string x.data) := cell_of_row w1 _ 8 _ _ _ HB1.out
  have w1c9 : w1.cell? ⟨w.heap.size, 9, none⟩ = some (.int .i64 x.up) := cell_of_row w1 _ 9 _ _ _ HB1.out
  have w1c10 : w1.cell? ⟨w.heap.size, 10, none⟩ = some (.slice xka x.kids.length xkc) := cell_of_row w1 _ 10 _ _ _ HB1.out
  have HC1 := Lib.hid (duo_first (P' := (moveP P a b)) (v := .tuple #[]) HD1.out HOk.out (fun k hk => ⟨by have := HS0.out; have := HZ1.out; omega, by have := HZ1.out; omega⟩) fun R hT => move_any R p P a b w1 hT fun y hy => Nat.le_trans (HF.out.kids y hy) (by omega))
  go_wp2_with fail
  refine HC1.out.mono ?_
  rintro e w2 ⟨rfl, hd2, hs2⟩
  have HD2 := Lib.hid hd2
  have HB2 := Lib.hid (hs2.box HB1.out)
  have HZ2 : Hid (w.heap.size < w2.heap.size) := Lib.hid (Nat.lt_of_lt_of_le HZ1.out hs2.1)
  clear hd2 hs2 w1c0 w1c1 w1c2 w1c3 w1c4 w1c5 w1c6 w1c7 w1c8 w1c9 w1c10
  have w2c0 : w2.cell? ⟨w.heap.size, 0, none⟩ = some (.int .i64 d) := cell_of_row w2 _ 0 _ _ _ HB2.out
  have w2c1 : w2.cell? ⟨w.heap.size, 1, none⟩ = some (.int .i64 a) := cell_of_row w2 _ 1 _ _ _ HB2.out
  have w2c2 : w2.cell? ⟨w.heap.size, 2, none⟩ = some (.int .i64 b) := cell_of_row w2 _ 2 _ _ _ HB2.out
  have w2c3 : w2.cell? ⟨w.heap.size, 3, none⟩ = some (.int .i64 c) := cell_of_row w2 _ 3 _ _ _ HB2.out
  have w2c4 : w2.cell? ⟨w.heap.size, 4, none⟩ = some (.int .i64 x.kind) := cell_of_row w2 _ 4 _ _ _ HB2.out
  have w2c5 : w2.cell? ⟨w.heap.size, 5, none⟩ = some (.int .i64 x.space) := cell_of_row w2 _ 5 _ _ _ HB2.out
  have w2c6 : w2.cell? ⟨w.heap.size, 6, none⟩ = some (.string x.name) := cell_of_row w2 _ 6 _ _ _ HB2.out
  have w2c7 : w2.cell? ⟨w.heap.size, 7, none⟩ = some (.slice xaa x.attrs.length xac) := cell_of_row w2 _ 7 _ _ _ HB2.out
  have w2c8 : w2.cell? ⟨w.heap.size, 8, none⟩ = some (.string x.data) := cell_of_row w2 _ 8 _ _ _ HB2.out
  have w2c9 : w2.cell? ⟨w.heap.size, 9, none⟩ = some (.int .i64 x.up) := cell_of_row w2 _ 9 _ _ _ HB2.out
  have w2c10 : w2.cell? ⟨w.heap.size, 10, none⟩ = some (.slice xka x.kids.length xkc) := cell_of_row w2 _ 10 _ _ _ HB2.out
  have HC2 := Lib.hid (duo_second (n' := n) (S' := S) (v := .tuple #[]) HD2.out HOk.out (fun k hk => ⟨by have := HS0.out; have := HZ2.out; omega, by have := HZ2.out; omega⟩) fun R hT => rmove_any R q n S a b w2 hT (by have := HF.out.sum; omega) (by have := HF.out.le; omega))
  go_wp2_with fail
  refine HC2.out.mono ?_
  rintro e w3 ⟨rfl, hd3, _⟩
  have HD3 := Lib.hid hd3
  clear hd3 w2c0 w2c1 w2c2 w2c3 w2c4 w2c5 w2c6 w2c7 w2c8 w2c9 w2c10
  go_wp2
  go_ret
  exact ⟨rfl, HD3.out.free⟩

set_option maxRecDepth 100000 in
set_option maxHeartbeats 3200000 in
theorem done_add (w0 : World) (p q : Nat) (P : List Nd) (n S : Nat) (d a b c : Int) (x : Nd) (w : World) (hD : Duo w0 (okA w0) p q P n S w) (hF : Fit w0 x P n S) (hd : d = 0) :
    Calls Try.prog 7 #[.pointer (some ⟨p, 0, none⟩), .pointer (some ⟨q, 0, none⟩), .agg #[.int .i64 d, .int .i64 a, .int .i64 b, .int .i64 c, .int .i64 x.kind, .int .i64 x.space, .string x.name, x.av, .string x.data, .int .i64 x.up, x.kv]] w (RetDone w0 p q (P ++ [newN x]) (n + 1) S) := by
  subst hd
  have HF := Lib.hid hF
  obtain ⟨⟨xka, xkc, hxk, _⟩, xaa, xac, hxa, hxat⟩ := hF.read
  rw [hxk, hxa]
  have HXA := Lib.hid hxa
  have HXAt := Lib.hid hxat
  have hs0 : w0.heap.size ≤ w.heap.size := hD.1.size
  have HS0 := Lib.hid hs0
  have HD1 : Hid (Duo w0 (okB w0 w.heap.size) p q P n S (w.alloc (.cells #[.int .i64 0, .int .i64 a, .int .i64 b, .int .i64 c, .int .i64 x.kind, .int .i64 x.space, .string x.name, .slice xaa x.attrs.length xac, .string x.data, .int .i64 x.up, .slice xka x.kids.length xkc] 32))) := Lib.hid (hD.below (below_box w _) fun k hk hlt => ⟨hk, by omega⟩)
  have HB1 : Hid ((w.alloc (.cells #[.int .i64 0, .int .i64 a, .int .i64 b, .int .i64 c, .int .i64 x.kind, .int .i64 x.space, .string x.name, .slice xaa x.attrs.length xac, .string x.data, .int .i64 x.up, .slice xka x.kids.length xkc] 32)).heap[w.heap.size]? = some (Obj.cells #[.int .i64 0, .int .i64 a, .int .i64 b, .int .i64 c, .int .i64 x.kind, .int .i64 x.space, .string x.name, .slice xaa x.attrs.length xac, .string x.data, .int .i64 x.up, .slice xka x.kids.length xkc] 32 (0, 0))) := Lib.hid (heap_alloc_new w _)
  have HZ1 : Hid (w.heap.size < (w.alloc (.cells #[.int .i64 0, .int .i64 a, .int .i64 b, .int .i64 c, .int .i64 x.kind, .int .i64 x.space, .string x.name, .slice xaa x.attrs.length xac, .string x.data, .int .i64 x.up, .slice xka x.kids.length xkc] 32)).heap.size) := Lib.hid (by simp)
  have hok : ∀ k, okB w0 w.heap.size k → w0.heap.size ≤ k := fun k h => h.1
  have HOk := Lib.hid hok
  have HXat : Hid (∀ W, Below w0.heap.size w0 W → A.AttrsAt W xaa x.attrs) := Lib.hid fun W hW => hxat.below hW
  have HXv : Hid (x.val = .agg #[.int .i64 x.kind, .int .i64 x.space, .string x.name, .slice xaa x.attrs.length xac, .string x.data, .int .i64 x.up, .slice xka x.kids.length xkc]) := Lib.hid (by unfold Nd.val; rw [hxk, hxa])
  clear hD hF hs0 hok hxat hxk hxa
  go_enter Try.func7, Try.ntmps7
  go_upto_region 1 with fail
  show Code.wp _ _ _ _ (w.alloc (.cells #[.int .i64 0, .int .i64 a, .int .i64 b, .int .i64 c, .int .i64 x.kind, .int .i64 x.space, .string x.name, .slice xaa x.attrs.length xac, .string x.data, .int .i64 x.up, .slice xka x.kids.length xkc] 32))
  obtain ⟨w1, ew⟩ : ∃ w1, w1 = w.alloc (.cells #[.int .i64 0, .int .i64 a, .int .i64 b, .int .i64 c, .int .i64 x.kind, .int .i64 x.space, .string x.name, .slice xaa x.attrs.length xac, .string x.data, .int .i64 x.up, .slice xka x.kids.length xkc] 32) := ⟨_, rfl⟩
  rw [← ew] at HD1 HB1 HZ1 ⊢
  clear ew
  have HBx := HB1
  have HA : Hid (∀ W m s, w.heap.size < W.heap.size → Duo w0 (okB w0 w.heap.size) p q P m s W → Calls Try.prog 12 #[.pointer (some ⟨p, 0, none⟩), .agg #[.int .i64 x.kind, .int .i64 x.space, .string x.name, .slice xaa x.attrs.length xac, .string x.data, .int .i64 x.up, .slice xka x.kids.length xkc]] W (RetD w0 (okB w0 w.heap.size) p q (P ++ [newN x]) m s (.int .i64 n) W)) := Lib.hid fun W m s hz hd => by
    rw [← HXv.out]
    refine duo_first hd HOk.out (fun k hk => ⟨by have := HS0.out; omega, by omega⟩) fun R hT => ?_
    obtain ⟨v, l, hT, rfl⟩ := hT
    have hl : l.length = n := by have := HF.out.len; simpa using this
    refine (add_any R p v l x xaa xac W hT (by have := HF.out.pos; simpa using this) (by have := HF.out.le; omega) HXA.out (HXat.out W hd.1) HF.out.attrs).mono ?_
    rintro e W' ⟨rfl, hk, v', av, ht⟩
    rw [hl]
    exact ⟨rfl, hk, v', _, ht, by rw [List.map_append]; rfl⟩
  have HR : Hid (∀ W Q, w.heap.size < W.heap.size → Duo w0 (okB w0 w.heap.size) p q Q n S W → Calls Try.prog 19 #[.pointer (some ⟨q, 0, none⟩), .agg #[.int .i64 x.kind, .int .i64 x.space, .string x.name, .slice xaa x.attrs.length xac, .string x.data, .int .i64 x.up, .slice xka x.kids.length xkc]] W (RetD w0 (okB w0 w.heap.size) p q Q (n + 1) S (.int .i64 n) W)) := Lib.hid fun W Q hz hd => by
    rw [← HXv.out]
    exact duo_second hd HOk.out (fun k hk => ⟨by have := HS0.out; omega, by omega⟩) fun R hT => radd_any R q n S x xaa xac W hT (by have := HF.out.pos; have := HF.out.len; omega) HF.out.le HXA.out (HXat.out W hd.1) HF.out.attrs
  have w1c0 : w1.cell? ⟨w.heap.size, 0, none⟩ = some (.int .i64 0) := cell_of_row w1 _ 0 _ _ _ HB1.out
  have w1c1 : w1.cell? ⟨w.heap.size, 1, none⟩ = some (.int .i64 a) := cell_of_row w1 _ 1 _ _ _ HB1.out
  have w1c2 : w1.cell? ⟨w.heap.size, 2, none⟩ = some (.int .i64 b) := cell_of_row w1 _ 2 _ _ _ HB1.out
  have w1c3 : w1.cell? ⟨w.heap.size, 3, none⟩ = some (.int .i64 c) := cell_of_row w1 _ 3 _ _ _ HB1.out
  have w1c4 : w1.cell? ⟨w.heap.size, 4, none⟩ = some (.int .i64 x.kind) := cell_of_row w1 _ 4 _ _ _ HB1.out
  have w1c5 : w1.cell? ⟨w.heap.size, 5, none⟩ = some (.int .i64 x.space) := cell_of_row w1 _ 5 _ _ _ HB1.out
  have w1c6 : w1.cell? ⟨w.heap.size, 6, none⟩ = some (.string x.name) := cell_of_row w1 _ 6 _ _ _ HB1.out
  have w1c7 : w1.cell? ⟨w.heap.size, 7, none⟩ = some (.slice xaa x.attrs.length xac) := cell_of_row w1 _ 7 _ _ _ HB1.out
  have w1c8 : w1.cell? ⟨w.heap.size, 8, none⟩ = some (.string x.data) := cell_of_row w1 _ 8 _ _ _ HB1.out
  have w1c9 : w1.cell? ⟨w.heap.size, 9, none⟩ = some (.int .i64 x.up) := cell_of_row w1 _ 9 _ _ _ HB1.out
  have w1c10 : w1.cell? ⟨w.heap.size, 10, none⟩ = some (.slice xka x.kids.length xkc) := cell_of_row w1 _ 10 _ _ _ HB1.out
  have hd1 := HD1.out.drew
  have hz1 : w.heap.size < w1.drew.heap.size := HZ1.out
  have hb1 : w1.drew.heap[w.heap.size]? = some (Obj.cells #[.int .i64 0, .int .i64 a, .int .i64 b, .int .i64 c, .int .i64 x.kind, .int .i64 x.space, .string x.name, .slice xaa x.attrs.length xac, .string x.data, .int .i64 x.up, .slice xka x.kids.length xkc] 32 (0, 0)) := HB1.out
  go_upto_region 5 with fail
  go_region_held3 (fun w' => w'.cell? ⟨w.heap.size, 4, none⟩ = some (.int .i64 x.kind) ∧ w'.cell? ⟨w.heap.size, 5, none⟩ = some (.int .i64 x.space) ∧ w'.cell? ⟨w.heap.size, 6, none⟩ = some (.string x.name) ∧ w'.cell? ⟨w.heap.size, 7, none⟩ = some (.slice xaa x.attrs.length xac) ∧ w'.cell? ⟨w.heap.size, 8, none⟩ = some (.string x.data) ∧ w'.cell? ⟨w.heap.size, 9, none⟩ = some (.int .i64 x.up) ∧ w'.cell? ⟨w.heap.size, 10, none⟩ = some (.slice xka x.kids.length xkc) ∧ w.heap.size < w'.heap.size ∧ w'.heap[w.heap.size]? = some (Obj.cells #[.int .i64 0, .int .i64 a, .int .i64 b, .int .i64 c, .int .i64 x.kind, .int .i64 x.space, .string x.name, .slice xaa x.attrs.length xac, .string x.data, .int .i64 x.up, .slice xka x.kids.length xkc] 32 (0, 0)))
    ((go_split_ands; refine ⟨?_, ?_, ?_, ?_, ?_, ?_, ?_, ?_, ?_⟩ <;> first | assumption | go_keep))
    (((first
      | (go_at_call 12; go_split_ands; (refine (HA.out _ _ _ (by assumption) (by assumption)).mono ?_))
      | (go_at_call 19; go_split_ands; (refine (HR.out _ _ (by assumption) (by assumption)).mono ?_))); rintro e w4 ⟨rfl, hd4, hs4⟩; have hb4 := hs4.box (by assumption); have hz4 : w.heap.size < w4.heap.size := Nat.lt_of_lt_of_le (by assumption) hs4.1; have k0 : w4.cell? ⟨w.heap.size, 4, none⟩ = some (.int .i64 x.kind) := cell_of_row w4 _ 4 _ _ _ hb4; have k1 : w4.cell? ⟨w.heap.size, 5, none⟩ = some (.int .i64 x.space) := cell_of_row w4 _ 5 _ _ _ hb4; have k2 : w4.cell? ⟨w.heap.size, 6, none⟩ = some (.string x.name) := cell_of_row w4 _ 6 _ _ _ hb4; have k3 : w4.cell? ⟨w.heap.size, 7, none⟩ = some (.slice xaa x.attrs.length xac) := cell_of_row w4 _ 7 _ _ _ hb4; have k4 : w4.cell? ⟨w.heap.size, 8, none⟩ = some (.string x.data) := cell_of_row w4 _ 8 _ _ _ hb4; have k5 : w4.cell? ⟨w.heap.size, 9, none⟩ = some (.int .i64 x.up) := cell_of_row w4 _ 9 _ _ _ hb4; have k6 : w4.cell? ⟨w.heap.size, 10, none⟩ = some (.slice xka x.kids.length xkc) := cell_of_row w4 _ 10 _ _ _ hb4))
  all_goals
    have HD5 := Lib.hid (by assumption : Duo w0 (okB w0 w.heap.size) p q (P ++ [newN x]) (n + 1) S _)
    go_wp2
    go_ret
    exact ⟨rfl, HD5.out.free⟩

theorem done_any (w0 : World) (p q : Nat) (P : List Nd) (n S : Nat) (d a b c : Int) (x : Nd) (w : World) (hD : Duo w0 (okA w0) p q P n S w) (hF : Fit w0 x P n S) :
    Calls Try.prog 7 #[.pointer (some ⟨p, 0, none⟩), .pointer (some ⟨q, 0, none⟩), .agg #[.int .i64 d, .int .i64 a, .int .i64 b, .int .i64 c, .int .i64 x.kind, .int .i64 x.space, .string x.name, x.av, .string x.data, .int .i64 x.up, x.kv]] w (fun e W' => e = .returned (.bool true) ∧ ∃ S', S' ≤ S + 1 ∧ Duo w0 (okA w0) p q (opP d a b c x P) (opP d a b c x P).length S' W') := by
  have hn := hF.len
  unfold opP
  by_cases h0 : d = 0
  · rw [if_pos h0]
    exact (done_add w0 p q P n S d a b c x w hD hF h0).mono fun e W h => ⟨h.1, S, by omega, by rw [List.length_append, hn]; exact h.2⟩
  · rw [if_neg h0]
    by_cases h1 : d = 1
    · rw [if_pos h1]
      exact (done_cut w0 p q P n S d a b c x w hD hF h1).mono fun e W h => ⟨h.1, S, by omega, by rw [length_cutP, hn]; exact h.2⟩
    · rw [if_neg h1]
      by_cases h2 : d = 2
      · rw [if_pos h2]
        exact (done_put w0 p q P n S d a b c x w hD hF h2).mono fun e W h => ⟨h.1, S + 1, by omega, by rw [length_putP, hn]; exact h.2⟩
      · rw [if_neg h2]
        exact (done_move w0 p q P n S d a b c x w hD hF h0 h1 h2).mono fun e W h => ⟨h.1, S, by omega, by rw [length_moveP, hn]; exact h.2⟩
end Go.Proofs.Ytnihomlmjfgmdaa
