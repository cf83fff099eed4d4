/-
  The walk of Marks.
-/
import Derived.WalkLawsBesides
import Derived.Test.YtkkngflpmdcfjaaOList
import Derived.Test.YtkkngflpmdcfjaaOFloat
import Derived.Test.YtkkngflpmdcfjaaORound
namespace Go.Proofs.Ytkkngflpmdcfjaa
open Go.RowKit

attribute [local go_sem] Oper.semAt_some
theorem run_store_float {P : Program} {w : World} {a : Addr} {m : Mode} (k : FloatKind) (b : Nat) : (store a (.float k b) m).run P w = stored P w a (.float k b) m := run_store P w a _ m rfl
theorem run_store_complex {P : Program} {w : World} {a : Addr} {m : Mode} (k : FloatKind) (b c : Nat) : (store a (.complex k b c) m).run P w = stored P w a (.complex k b c) m := run_store P w a _ m rfl
attribute [local go_sem] run_store_float run_store_complex

/-- A mark: when a node was gone into, and left. -/
def cx (p : Int × Int) : Value := .complex .f64 (fb p.1) (fb p.2)
def mkS (s : (Nat → Int × Int) × Nat) (x : Nat × Bool) : (Nat → Int × Int) × Nat :=
  (fun j => if j = x.1 then (if x.2 = true then ((s.2 : Int), 0) else ((s.1 j).1, (s.2 : Int))) else s.1 j, s.2 + 1)
def mkE (A : List (Nat × Bool)) : (Nat → Int × Int) × Nat := A.foldl mkS (fun _ => (-1, -1), 0)
theorem mkE_snoc (A : List (Nat × Bool)) (x : Nat × Bool) : mkE (A ++ [x]) = mkS (mkE A) x := by unfold mkE; rw [List.foldl_append]; rfl
theorem mkE_two' : ∀ (A : List (Nat × Bool)) (s : (Nat → Int × Int) × Nat), (A.foldl mkS s).2 = s.2 + A.length
  | [], _ => rfl
  | x :: A, s => by rw [List.foldl_cons, mkE_two' A, List.length_cons]; show s.2 + 1 + _ = _; omega
theorem mkE_two (A : List (Nat × Bool)) : (mkE A).2 = A.length := by unfold mkE; rw [mkE_two']; simp
/-- A row of marks. -/
def MR (w : World) (S n : Nat) (m : Nat → Int × Int) : Prop := ∃ cs, w.heap[S]? = some (.cells cs 35 (0, 0)) ∧ cs.size = n ∧ ∀ j, j < n → cs[j]? = some (cx (m j))
theorem MR.of {w w' : World} {S n : Nat} {m : Nat → Int × Int} (h : MR w S n m) (hg : w'.heap[S]? = w.heap[S]?) : MR w' S n m := by
  obtain ⟨cs, h1, h2⟩ := h
  exact ⟨cs, hg.trans h1, h2⟩
theorem MR.same {w : World} {S n : Nat} {m m' : Nat → Int × Int} (h : MR w S n m) (e : ∀ j, j < n → m j = m' j) : MR w S n m' := by
  obtain ⟨cs, h1, h2, h3⟩ := h
  exact ⟨cs, h1, h2, fun j hj => by rw [← e j hj]; exact h3 j hj⟩
theorem MR.lt {w : World} {S n : Nat} {m : Nat → Int × Int} (h : MR w S n m) : S < w.heap.size := by
  obtain ⟨cs, h1, _⟩ := h
  exact (Array.getElem?_eq_some_iff.1 h1).1
theorem MR.at {w : World} {S n : Nat} {m : Nat → Int × Int} (h : MR w S n m) {j : Nat} (hj : j < n) : w.cell? ⟨S, j, none⟩ = some (cx (m j)) ∧ w.frozen? ⟨S, j, none⟩ = false := by
  obtain ⟨cs, h1, h2, h3⟩ := h
  exact ⟨(cell_of_row w S j _ _ (0, 0) h1).trans (h3 j hj), frozen_of_row w S j _ _ h1⟩
theorem MR.set {w : World} {S n : Nat} {m : Nat → Int × Int} (h : MR w S n m) {k : Nat} (hk : k < n) (p : Int × Int) : MR (w.setCell ⟨S, k, none⟩ (cx p)) S n (fun j => if j = k then p else m j) := by
  obtain ⟨cs, h1, h2, h3⟩ := h
  refine ⟨_, heap_setCell_same w S k _ _ _ h1, by simp [h2], fun j hj => ?_⟩
  rw [Array.getElem?_setIfInBounds]
  by_cases e : k = j
  · subst e
    rw [if_pos rfl, if_pos (by omega)]
    dsimp only
    rw [if_pos rfl]
  · rw [if_neg e]
    dsimp only
    rw [if_neg (fun e2 => e e2.symm)]
    exact h3 j hj
theorem cx_info : (Try.prog.info? 35).map (fun i => (i.zero, i.size, i.bytes)) = some (some (.complex .f64 0 0), 1, 16) := by kernel_rfl
theorem run_marks (w : World) (n : Nat) (h : n ≤ 1000000) : (Instr.makeSlice 27 (.int .i64 n) (.int .i64 n)).run Try.prog w = .ok (.slice (some ⟨w.heap.size, 0, none⟩) n n) (w.alloc (.cells (madeCells #[.complex .f64 0 0] n) 35)) := by
  obtain ⟨i0, hi, hz0, hz1, hz2⟩ := info_parts cx_info
  have hr := run_make (P := Try.prog) w 27 35 i0 _ Try.underlying27 hi hz0 .i64 .i64 n n (by omega) (Int.le_refl _) (by rw [hz2]; omega) (by omega)
  rw [hz1] at hr
  simp only [Int.toNat_natCast, Nat.mul_one] at hr
  exact hr
theorem marks_new (w : World) (n : Nat) : MR (w.alloc (.cells (madeCells #[.complex .f64 0 0] n) 35)) w.heap.size n (fun _ => (0, 0)) := by
  refine ⟨_, heap_alloc_new w _, size_madeCells _ _, fun j hj => ?_⟩
  unfold madeCells
  rw [Array.getElem?_map, show (Array.range n)[j]? = some j by simp [hj]]
  simp [Nat.mod_one, cx, fb_0]
/-- A row of marks that is new. -/
def RetM (n : Nat) (m : Nat → Int × Int) (w : World) (e : Ending) (w' : World) : Prop :=
  ∃ S, e = .returned (.slice (some ⟨S, 0, none⟩) n n) ∧ MR w' S n m ∧ w.heap.size ≤ S ∧ Below w.heap.size w w'

/-- What Marks keeps: the marks so far, their place, the count. -/
def HoldM (n : Nat) (w : World) (s : (Nat → Int × Int) × Nat) (Z : Nat → Prop) (W : World) : Prop :=
  MR W (w.heap.size + 1) n s.1 ∧ Boxed W (w.heap.size + 1 + 1) 27 (.slice (some ⟨w.heap.size + 1, 0, none⟩) n n) ∧ Boxed W (w.heap.size + 1 + 1 + 1) 36 (.float .f64 (fb s.2)) ∧
    (∀ k, Z k → w.heap.size + 5 ≤ k ∧ k < W.heap.size) ∧ Below w.heap.size w W ∧ w.heap.size + 5 ≤ W.heap.size
theorem HoldM.outs {n : Nat} {w A W : World} {s : (Nat → Int × Int) × Nat} {Z : Nat → Prop} (h : HoldM n w s Z A) (hO : Outs Z A W) : HoldM n w s (Zs Z A W) W := by
  obtain ⟨h1, h2, h3, hz, hb, hn⟩ := h
  have key : ∀ k, k < w.heap.size + 5 → W.heap[k]? = A.heap[k]? := fun k hk => hO.block k (by omega) (fun e => by have := (hz k e).1; omega)
  exact ⟨h1.of (key _ (by omega)), (key _ (by omega)).trans h2, (key _ (by omega)).trans h3, fun k hk => hk.elim (fun h => ⟨(hz k h).1, Nat.lt_of_lt_of_le (hz k h).2 hO.size⟩) (fun h => ⟨by omega, h.2⟩),
    ⟨hO.os.trans hb.os, hO.tape.trans hb.tape, hO.output.trans hb.output, Nat.le_trans hb.size hO.size, fun k hk => (key k (by omega)).trans (hb.block k hk)⟩, Nat.le_trans hn hO.size⟩
theorem HoldM.drew {n : Nat} {w X : World} {s : (Nat → Int × Int) × Nat} {Z : Nat → Prop} (h : HoldM n w s Z X) (d : Nat) : HoldM n w s Z { X with drawn := d } := by
  obtain ⟨h1, h2, h3, hz, hb, hn⟩ := h
  exact ⟨h1, h2, h3, hz, ⟨hb.os, hb.tape, hb.output, hb.size, hb.block⟩, hn⟩
theorem HoldM.alloc {n : Nat} {w A : World} {s : (Nat → Int × Int) × Nat} {Z : Nat → Prop} (h : HoldM n w s Z A) (o : Obj) : HoldM n w s Z (A.alloc o) := by
  obtain ⟨h1, h2, h3, hz, hb, hn⟩ := h
  have hs : A.heap.size ≤ (A.alloc o).heap.size := by simp
  exact ⟨h1.of (Below.heap_alloc _ _ _ h1.lt), h2.alloc o, h3.alloc o, fun k hk => ⟨(hz k hk).1, Nat.lt_of_lt_of_le (hz k hk).2 hs⟩, hb.alloc hb.size o, Nat.le_trans hn hs⟩
theorem HoldM.put {n : Nat} {w A : World} {s : (Nat → Int × Int) × Nat} {Z : Nat → Prop} (h : HoldM n w s Z A) {l : Nat} {o o' : Obj} (hl : w.heap.size + 5 ≤ l) (hlo : A.heap[l]? = some o) : HoldM n w s Z (A.putObj l o') := by
  obtain ⟨h1, h2, h3, hz, hb, hn⟩ := h
  have hs : (A.putObj l o').heap.size = A.heap.size := Nat.le_antisymm (by simp [World.putObj]) (grownBy_putObj' A l o').size
  exact ⟨h1.of (World.putObj_heap_other (by omega)), (World.putObj_heap_other (by omega)).trans h2, (World.putObj_heap_other (by omega)).trans h3, fun k hk => by rw [hs]; exact hz k hk, hb.trans (put_below (by omega) hlo), by rw [hs]; exact hn⟩

set_option maxRecDepth 100000 in
set_option maxHeartbeats 4000000 in
theorem marks_any (u : Value) (n : Nat) (K : Nat → List Int) (w : World) (hu : TreeV w u n K) (hn : n ≤ 30) (hms : ms K n (fun _ => false) [(0, [0])] + 1 ≤ 1000000) (hev : (evA K n).length ≤ 62) :
    Calls Try.prog 17 #[.agg #[u]] w (RetM n (mkE (evA K n)).1 w) := by
  have HU := Lib.hid hu
  obtain ⟨⟨a, cap, rfl, hcap, _⟩⟩ := hu
  refine (callsIn_wide (n := 3)).1 ?_
  refine callsIn_of_wp_marks Try.func17 rfl trivial ?_ rfl
  simp only [Try.ntmps17, List.size_toArray, List.length_cons, List.length_nil, Nat.reduceAdd, Nat.reduceSub, Array.replicate_succ, Array.replicate_zero, List.push_toArray, List.append_toArray, List.nil_append, List.cons_append]
  gi_wp2_with (gi_at_make; refine wpListIn_make_run _ rfl _ _ _ rfl _ _ rfl rfl _ _ (run_marks _ n (by omega)) ?_)
  obtain ⟨w1, ew1⟩ : ∃ w1, w1 = w.alloc (.cells #[.slice a n cap] 24) := ⟨_, rfl⟩
  rw [← ew1]
  obtain ⟨w2, ew2⟩ : ∃ w2, w2 = w1.alloc (.cells (madeCells #[.complex .f64 0 0] n) 35) := ⟨_, rfl⟩
  rw [← ew2]
  obtain ⟨w3, ew3⟩ : ∃ w3, w3 = w2.alloc (.cells #[.slice (some ⟨w.heap.size + 1, 0, none⟩) n n] 27) := ⟨_, rfl⟩
  rw [← ew3]
  have s1 : w1.heap.size = w.heap.size + 1 := by rw [ew1]; simp
  have s2 : w2.heap.size = w.heap.size + 1 + 1 := by rw [ew2]; simp [s1]
  have s3 : w3.heap.size = w.heap.size + 1 + 1 + 1 := by rw [ew3]; simp [s2]
  have m0 : MR w3 (w.heap.size + 1) n (fun _ => (0, 0)) := by
    have h := marks_new w1 n
    rw [← ew2, s1] at h
    exact h.of (by rw [ew3]; exact Below.heap_alloc _ _ _ (by omega))
  have b2 : Boxed w3 (w.heap.size + 1 + 1) 27 (.slice (some ⟨w.heap.size + 1, 0, none⟩) n n) := by
    have h := Boxed.new w2 27 (.slice (some ⟨w.heap.size + 1, 0, none⟩) n n)
    rw [← ew3, s2] at h
    exact h
  have b1 : Boxed w3 w.heap.size 24 (.slice a n cap) := by
    have h := Boxed.new w 24 (.slice a n cap)
    rw [← ew1] at h
    rw [ew3, ew2]
    exact (h.alloc _).alloc _
  have hB0 : Below w.heap.size w w3 := by
    rw [ew3, ew2, ew1]
    exact (((Below.refl _ w).alloc (Nat.le_refl _) _).alloc (by simp) _).alloc (by simp; omega) _
  clear ew1 ew2 ew3
  have H0 := Lib.hid (And.intro m0 (And.intro b2 (And.intro b1 hB0)))
  clear m0 b2 b1 hB0
  gi_loopw [14] (fun v wr => ∃ j : Nat, j ≤ n ∧ v = .int .i64 j ∧ MR wr (w.heap.size + 1) n (fun k => if k < j then (-1, -1) else (0, 0)) ∧ Boxed wr (w.heap.size + 1 + 1) 27 (.slice (some ⟨w.heap.size + 1, 0, none⟩) n n) ∧ Boxed wr w.heap.size 24 (.slice a n cap) ∧ Below w.heap.size w wr ∧ wr.heap.size = w.heap.size + 1 + 1 + 1) (fun v _ => n - (intOf v).toNat)
  case atStart => exact ⟨0, by omega, rfl, H0.out.1.same (fun j hj => by rw [if_neg (by omega)]), H0.out.2.1, H0.out.2.2.1, H0.out.2.2.2, s3⟩
  case round =>
    obtain ⟨j, hj, rfl, hM, hV, hT, hb, hs⟩ := hrel
    clear H0 s1 s2 s3
    have HM := Lib.hid hM
    have HV := Lib.hid hV
    have HT := Lib.hid hT
    have HB := Lib.hid hb
    have hvc := hV.cell
    by_cases hlt : j < n
    · obtain ⟨mc, mf⟩ := hM.at hlt
      have hlt2 : (j : Int) < (n : Int) := by omega
      clear hM hV hT hb
      gi_wp2
      have hsz : (wr.setCell ⟨w.heap.size + 1, j, none⟩ (.complex .f64 13830554455654793216 13830554455654793216)).heap.size = wr.heap.size := by simp
      have hoth : ∀ k, k ≠ w.heap.size + 1 → (wr.setCell ⟨w.heap.size + 1, j, none⟩ (.complex .f64 13830554455654793216 13830554455654793216)).heap[k]? = wr.heap[k]? := fun k hk => heap_setCell_other wr ⟨w.heap.size + 1, j, none⟩ k _ hk
      refine ⟨⟨j + 1, hlt, by simp, ?_, (hoth _ (by omega)).trans HV.out, (hoth _ (by omega)).trans HT.out, HB.out.setCell (p := ⟨w.heap.size + 1, j, none⟩) (by show w.heap.size ≤ w.heap.size + 1; omega) _, by rw [hsz]; exact hs⟩, ?_⟩
      · have h := HM.out.set hlt (-1, -1)
        have e : cx (-1, -1) = .complex .f64 13830554455654793216 13830554455654793216 := by unfold cx; rw [fb_m1]
        rw [e] at h
        refine h.same fun k hk => ?_
        by_cases h1 : k = j
        · rw [if_pos h1, if_pos (by omega)]
        · rw [if_neg h1]
          by_cases h2 : k < j
          · rw [if_pos h2, if_pos (by omega)]
          · rw [if_neg h2, if_neg (by omega)]
      · show n - (((j : Int) + 1)).toNat < n - ((j : Int)).toNat
        omega
    · have e : n = j := by omega
      subst e
      have htc := hT.cell
      clear hM hV hT hb
      gi_wp2_with (refine ⟨trivial, ?_⟩; gi_at_call 79; refine (steps_any Fence.wide _ trivial rfl _ _ ⟨_, _, _, rfl⟩).mono ?_; rintro e w' ⟨rfl, rfl⟩)
      obtain ⟨w4, ew4⟩ : ∃ w4, w4 = wr.alloc (.cells #[.float .f64 0] 36) := ⟨_, rfl⟩
      rw [← ew4]
      obtain ⟨w5, ew5⟩ : ∃ w5, w5 = w4.alloc (.cells #[.slice a n cap] 24) := ⟨_, rfl⟩
      rw [← ew5]
      have s4 : w4.heap.size = w.heap.size + 1 + 1 + 1 + 1 := by rw [ew4]; simp [hs]
      have s5 : w5.heap.size = w.heap.size + 5 := by rw [ew5]; simp [s4]
      have b4 : Boxed w5 (w.heap.size + 1 + 1 + 1) 36 (.float .f64 (fb ((0 : Nat) : Int))) := by
        have h := Boxed.new wr 36 (.float .f64 0)
        rw [← ew4, hs] at h
        rw [ew5, Int.natCast_zero, fb_0]
        exact h.alloc _
      have b5 : w5.heap[w.heap.size + 1 + 1 + 1 + 1]? = some (.cells #[.slice a n cap] 24 (0, 0)) := by
        have h := heap_alloc_new w4 (.cells #[.slice a n cap] 24)
        rw [← ew5, s4] at h
        exact h
      have hup : ∀ k, k < w.heap.size + 1 + 1 + 1 → w5.heap[k]? = wr.heap[k]? := fun k hk => by
        rw [ew5, ew4]
        exact (Below.heap_alloc _ _ _ (by simp; omega)).trans (Below.heap_alloc _ _ _ (by omega))
      have hB5 : Below w.heap.size w w5 := by
        rw [ew5, ew4]
        exact (HB.out.alloc (by omega) _).alloc (by simp; omega) _
      have m5 : MR w5 (w.heap.size + 1) n (mkE []).1 := (HM.out.of (hup _ (by omega))).same fun k hk => by rw [if_pos hk]; rfl
      have v5 : Boxed w5 (w.heap.size + 1 + 1) 27 (.slice (some ⟨w.heap.size + 1, 0, none⟩) n n) := (hup _ (by omega)).trans HV.out
      clear ew4 ew5 hvc htc hup
      refine wpIn_rangeFunc_Z rfl (by omega) (gf := 129) (lb := #[.pointer (some ⟨w.heap.size + 1 + 1 + 1 + 1, 0, none⟩)]) rfl trivial (enters_of Try.func129 (by kernel_rfl) rfl)
        (steps_stops Fence.wide _ trivial rfl (by omega) (w.heap.size + 1 + 1 + 1 + 1) w.heap.size n (by omega) K hms w5 (HU.out.boxed hB5 b5 (Nat.le_refl _)) (by omega) (by omega)) (by omega) (by omega) (Below.refl _ _) (fun _ => rfl)
        (fun (pre : List (Ev n)) Z W => HoldM n w (mkE (pre.map fun (x : Ev n) => x.1)) Z W)
        (fun _ _ _ => False)
        ?hI ?hIa ?hIp (fun _ _ _ _ _ _ h _ _ _ => h)
        ?h0
        (fun x => { tmps := #[.agg #[.slice a n cap], .pointer (some ⟨w.heap.size, 0, none⟩), .slice none 0 0, .pointer (some ⟨w.heap.size + 1 + 1, 0, none⟩), u4, .pointer (some ⟨w.heap.size + 1 + 1 + 1, 0, none⟩), .int .i64 (x.1.1 : Nat), .bool x.1.2,
          .pointer (some ⟨w.heap.size, 0, none⟩), .slice a n cap, .int .i64 n, .slice (some ⟨w.heap.size + 1, 0, none⟩) n n, .slice (some ⟨w.heap.size + 1, 0, none⟩) n n, .int .i64 n, .int .i64 n, .bool false, u16, u17, u18, u19, u20, .agg #[.slice a n cap],
          .func (.func 129) #[] #[.pointer (some ⟨w.heap.size + 1 + 1 + 1 + 1, 0, none⟩)], .int .i64 (x.1.1 : Nat), .bool x.1.2, undef, undef, undef, undef, undef, undef, undef, undef, undef, undef, undef, undef, undef, undef, undef, undef, undef, undef, undef], defers := [] }) ?assign ?body ?done ?stop
      case hI => intro pre Z A B h hO; exact h.outs hO
      case hIa => intro pre Z A o h; exact h.alloc o
      case hIp => intro pre Z A l o o' h hl hlo hc; exact h.put (by omega) hlo
      case h0 => exact ⟨m5, v5, b4, fun k h => h.elim, hB5, by omega⟩
      case assign =>
        intro l x W K hK
        dsimp only [encE]
        gi_wp2
        exact hK
      case body =>
        rintro l pre Z ⟨⟨k, gi⟩, hi⟩ W hI hpre
        have hlen : pre.length < (evA K n).length := by have := hpre.length_le; simp at this; omega
        clear hpre
        have HE : Hid (mkE ((pre ++ [(⟨(k, gi), hi⟩ : Ev n)]).map fun (x : Ev n) => x.1) = mkS (mkE (pre.map fun (x : Ev n) => x.1)) (k, gi)) := Lib.hid (by rw [List.map_append, List.map_singleton, mkE_snoc])
        have h2 := mkE_two (pre.map fun (x : Ev n) => x.1)
        rw [List.length_map] at h2
        generalize mkE (pre.map fun (x : Ev n) => x.1) = s at *
        obtain ⟨m, c⟩ := s
        dsimp only at h2
        have HI := Lib.hid hI
        obtain ⟨hm, hv, hf, hz, hb, hn5⟩ := hI
        dsimp only at hm hf hi
        obtain ⟨mc, mf⟩ := hm.at hi
        obtain ⟨x, hx⟩ : ∃ x, x = fb (c : Nat) := ⟨_, rfl⟩
        obtain ⟨y, hy⟩ : ∃ y, y = fb ((c : Nat) + 1) := ⟨_, rfl⟩
        have hadd : ∀ W, (binOp .add 36 (.float .f64 x) (.float .f64 4607182418800017408)).run Try.prog W = .ok (.float .f64 y) W := fun W => run_float_arith W .add _ .f64 _ _ _ (by rw [hx, hy]; exact fb_add (by omega))
        obtain ⟨r1, hr1⟩ : ∃ r1, r1 = fb (m k).1 := ⟨_, rfl⟩
        obtain ⟨r2, hr2⟩ : ∃ r2, r2 = fb (m k).2 := ⟨_, rfl⟩
        unfold cx at mc
        rw [← hr1, ← hr2] at mc
        have hfc := hf.cell
        have hff := hf.frozen
        rw [← hx] at hfc
        have hvc := hv.cell
        have hkn : (k : Int) < (n : Int) := by omega
        have fin : ∀ (p : Int × Int), (p = if gi = true then ((c : Int), 0) else ((m k).1, (c : Int))) → postZ w5.heap.size w.heap.size (w.heap.size + 1 + 1 + 1 + 1) (fun (pre : List (Ev n)) Z W => HoldM n w (mkE (pre.map fun (x : Ev n) => x.1)) Z W) (fun _ _ _ => False) (pre ++ [⟨(k, gi), hi⟩]) Z W Exit.normal { tmps := #[], defers := [] }
            ((W.setCell ⟨w.heap.size + 1, k, none⟩ (cx p)).setCell ⟨w.heap.size + 1 + 1 + 1, 0, none⟩ (.float .f64 y)) := fun p hp => by
          have hoth : ∀ j, j ≠ w.heap.size + 1 → j ≠ w.heap.size + 1 + 1 + 1 → ((W.setCell ⟨w.heap.size + 1, k, none⟩ (cx p)).setCell ⟨w.heap.size + 1 + 1 + 1, 0, none⟩ (.float .f64 y)).heap[j]? = W.heap[j]? := fun j h1 h2 =>
            (heap_setCell_other _ ⟨w.heap.size + 1 + 1 + 1, 0, none⟩ j _ h2).trans (heap_setCell_other W ⟨w.heap.size + 1, k, none⟩ j _ h1)
          have hsS : ((W.setCell ⟨w.heap.size + 1, k, none⟩ (cx p)).setCell ⟨w.heap.size + 1 + 1 + 1, 0, none⟩ (.float .f64 y)).heap.size = W.heap.size := by simp
          refine ⟨((KeepsOthers.setCell _ _ _).from _).trans ((KeepsOthers.setCell _ _ _).from _), ⟨((Below.refl _ _).setCell (p := ⟨w.heap.size + 1, k, none⟩) (by show w.heap.size ≤ w.heap.size + 1; omega) _).setCell (p := ⟨w.heap.size + 1 + 1 + 1, 0, none⟩) (by show w.heap.size ≤ w.heap.size + 1 + 1 + 1; omega) _, hoth _ (by omega) (by omega)⟩, fun j hj => hoth j (by have := (hz j hj).1; omega) (by have := (hz j hj).1; omega), ?_⟩
          show HoldM n w (mkE ((pre ++ [(⟨(k, gi), hi⟩ : Ev n)]).map fun (x : Ev n) => x.1)) Z _
          rw [HE.out]
          obtain ⟨hm, hv, hf, hz, hb, hn5⟩ := HI.out
          dsimp only at hm hf
          refine ⟨?_, (hoth _ (by omega) (by omega)).trans hv, ?_, fun j hj => by rw [hsS]; exact hz j hj, (hb.setCell (p := ⟨w.heap.size + 1, k, none⟩) (by show w.heap.size ≤ w.heap.size + 1; omega) _).setCell (p := ⟨w.heap.size + 1 + 1 + 1, 0, none⟩) (by show w.heap.size ≤ w.heap.size + 1 + 1 + 1; omega) _, by rw [hsS]; exact hn5⟩
          · refine ((hm.set hi p).of (heap_setCell_other _ ⟨w.heap.size + 1 + 1 + 1, 0, none⟩ _ _ (by show w.heap.size + 1 ≠ w.heap.size + 1 + 1 + 1; omega))).same fun j hj => ?_
            unfold mkS
            dsimp only
            rw [hp]
            by_cases hjk : j = k
            · rw [if_pos hjk, if_pos hjk, hjk]
            · rw [if_neg hjk, if_neg hjk]
          · have h3 : Boxed (W.setCell ⟨w.heap.size + 1, k, none⟩ (cx p)) (w.heap.size + 1 + 1 + 1) 36 (.float .f64 (fb (c : Nat))) := (heap_setCell_other W ⟨w.heap.size + 1, k, none⟩ _ _ (by show w.heap.size + 1 + 1 + 1 ≠ w.heap.size + 1; omega)).trans hf
            have h4 := h3.set (.float .f64 y)
            rw [hy] at h4 ⊢
            exact h4
        have HFin := Lib.hid fin
        have HX := Lib.hid hx
        have HR1 := Lib.hid hr1
        clear fin hx hy hr1 hr2 hm hv hf hz hb
        cases gi with
        | true =>
          have h := HFin.out (c, 0) (by rw [if_pos rfl])
          have e : cx ((c : Int), 0) = .complex .f64 x 0 := by unfold cx; rw [fb_0, HX.out]
          rw [e] at h
          have H := Lib.hid h
          clear h e HFin
          gi_wp2
          exact H.out
        | false =>
          have h := HFin.out ((m k).1, c) (by rw [if_neg (by decide)])
          have e : cx ((m k).1, (c : Int)) = .complex .f64 r1 x := by unfold cx; rw [HX.out, HR1.out]
          rw [e] at h
          have H := Lib.hid h
          clear h e HFin
          gi_wp2
          refine region_tail 10 ?_ (by kernel_rfl) (by kernel_rfl) ?_
          · intro i o ho c e
            have hmem := Array.mem_of_getElem? ho
            simp only [List.mem_toArray, List.mem_cons, List.not_mem_nil, or_false] at hmem
            rcases hmem with rfl | rfl | rfl | rfl | rfl | rfl | rfl | rfl | rfl | rfl | rfl <;> cases e
          simp only [List.take_succ_cons, List.take_zero, List.drop_succ_cons, List.drop_zero]
          repeat still_step
          refine wpStill_nil ?_
          gi_wp2
          obtain ⟨k1, ⟨b1, b2⟩, z1, h1⟩ := H.out
          exact ⟨⟨k1.1, k1.2⟩, ⟨⟨b1.os, b1.tape, b1.output, b1.size, b1.block⟩, b2⟩, z1, HoldM.drew h1 _⟩
      case done =>
        rintro D ys Z W hD hall hI hK
        have hvc := hI.2.1.cell
        rw [hall] at hI
        gi_wp2
        refine ⟨by simp, .inl ⟨_, _, rfl, run_takeDeferred hK, ?_⟩⟩
        refine ⟨_, results_tmp rfl _ _ _, _, rfl, hI.1.of (World.putObj_heap_other (by omega)), by omega, hI.2.2.2.2.1.trans (put_below (by omega) hK)⟩
      case stop =>
        rintro D c pre W _ _ h _
        exact h.elim
end Go.Proofs.Ytkkngflpmdcfjaa
