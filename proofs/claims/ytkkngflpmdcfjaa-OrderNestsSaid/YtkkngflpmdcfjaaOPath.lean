/-
  The walk of Path.
-/
import Derived.Test.YtkkngflpmdcfjaaOList
import Derived.Test.YtkkngflpmdcfjaaOPathP
namespace Go.Proofs.Ytkkngflpmdcfjaa
open Go.RowKit

attribute [local go_sem] Oper.semAt_some

theorem results_cell1 {fn : Func} {p : Tmp} (h : fn.results = #[.cell p 29]) (tmps : Array Value) (w : World) (B : Nat) (v : Value)
    (hp : tmps.getD p undef = .pointer (some ⟨B, 0, none⟩)) (hv : Boxed w B 29 v) : (results fn tmps).run Try.prog w = .ok v w := by
  have hp' : tmps[p]?.getD undef = .pointer (some ⟨B, 0, none⟩) := by simpa using hp
  have hc := hv.cell
  have hl : (loadVar 29 ⟨B, 0, none⟩).run Try.prog w = .ok v w := by
    simp [loadVar, go_sem, hc]
  simp [results, h, hp', asAddr, hl]
/-- What Path keeps: the number that is looked for, the answer's place, what is open. -/
def HoldP (B n₀ : Nat) (w : World) (i : Int) (A : List (Nat × Bool)) (Z : Nat → Prop) (W : World) : Prop :=
  HoldK (B + 1 + 1) n₀ w (opE A) Z W ∧ (Boxed W B 3 (.int .i64 i) ∧ ¬ Z B) ∧ (Boxed W (B + 1) 29 (.slice none 0 0) ∧ ¬ Z (B + 1)) ∧ w.heap.size ≤ B ∧ hasI i A = false
theorem boxed_outs {A W : World} {Z : Nat → Prop} {k : Nat} {t : TypeId} {v : Value} (hO : Outs Z A W) (h : Boxed A k t v ∧ ¬ Z k) : Boxed W k t v ∧ ¬ Zs Z A W k :=
  ⟨(hO.block k h.1.lt h.2).trans h.1, fun e => e.elim h.2 (fun h2 => by have := h.1.lt; omega)⟩
theorem HoldP.outs {B n₀ : Nat} {w A W : World} {i : Int} {l : List (Nat × Bool)} {Z : Nat → Prop} (h : HoldP B n₀ w i l Z A) (hO : Outs Z A W) : HoldP B n₀ w i l (Zs Z A W) W :=
  ⟨h.1.outs hO, boxed_outs hO h.2.1, boxed_outs hO h.2.2.1, h.2.2.2⟩
theorem HoldP.alloc {B n₀ : Nat} {w A : World} {i : Int} {l : List (Nat × Bool)} {Z : Nat → Prop} (h : HoldP B n₀ w i l Z A) (o : Obj) : HoldP B n₀ w i l Z (A.alloc o) :=
  ⟨h.1.alloc o, ⟨h.2.1.1.alloc o, h.2.1.2⟩, ⟨h.2.2.1.1.alloc o, h.2.2.1.2⟩, h.2.2.2⟩
theorem HoldP.put {B n₀ : Nat} {w A : World} {i : Int} {xs : List (Nat × Bool)} {Z : Nat → Prop} (h : HoldP B n₀ w i xs Z A) {l : Nat} {o o' : Obj} (hl : n₀ ≤ l) (hlo : A.heap[l]? = some o) (hc : o.isCells = false) : HoldP B n₀ w i xs Z (A.putObj l o') := by
  have hB := h.1.2.2.2.1
  exact ⟨h.1.put hl hlo hc, ⟨(World.putObj_heap_other (by omega)).trans h.2.1.1, h.2.1.2⟩, ⟨(World.putObj_heap_other (by omega)).trans h.2.2.1.1, h.2.2.1.2⟩, h.2.2.2⟩
/-- What Path has when it returns out of a round. -/
def EndP (B n₀ : Nat) (w : World) (xs : List Int) (c : Code) (W : World) : Prop :=
  c = .ret ∧ ∃ v, Boxed W B 29 v ∧ KR W v xs ∧ (∀ g, v.ownBlock = some g → n₀ ≤ g) ∧ Below w.heap.size w W ∧ w.heap.size ≤ B ∧ B < n₀
theorem EndP.put {B n₀ : Nat} {w A : World} {xs : List Int} {c : Code} (h : EndP B n₀ w xs c A) {l : Nat} {o o' : Obj} (hl : n₀ ≤ l) (hlo : A.heap[l]? = some o) (hc : o.isCells = false) : EndP B n₀ w xs c (A.putObj l o') := by
  obtain ⟨rfl, v, hv, hk, ho, hb, hB, hn⟩ := h
  refine ⟨rfl, v, (World.putObj_heap_other (by omega)).trans hv, hk.kept fun g hg => World.putObj_heap_other (fun e => ?_), ho, hb.trans (put_below (by omega) hlo), hB, hn⟩
  obtain ⟨c, fz, hc2⟩ := hk.kind hg
  first
    | (rw [e] at hc2; rw [hlo] at hc2; cases hc2; cases hc)
    | (rw [← e] at hc2; rw [hlo] at hc2; cases hc2; cases hc)

set_option maxRecDepth 100000 in
set_option maxHeartbeats 4000000 in
theorem path_any (u : Value) (i : Int) (n : Nat) (K : Nat → List Int) (w : World) (hu : TreeV w u n K) (hn : n ≤ 10000) (hms : ms K n (fun _ => false) [(0, [0])] + 1 ≤ 1000000) :
    Calls Try.prog 26 #[.agg #[u], .int .i64 i] w (RetK (pthE i [] (evA K n)) w) := by
  have HU := Lib.hid hu
  have hle := evA_len hms
  obtain ⟨⟨a, cap, rfl, hcap, _⟩⟩ := hu
  refine (callsIn_wide (n := 3)).1 ?_
  refine callsIn_of_wp_marks Try.func26 rfl trivial ?_ rfl
  simp only [Try.ntmps26, List.size_toArray, List.length_cons, List.length_nil, Nat.reduceAdd, Nat.reduceSub, Array.replicate_succ, Array.replicate_zero, List.push_toArray, List.append_toArray, List.nil_append, List.cons_append]
  gi_wp2_with (refine ⟨trivial, ?_⟩; gi_at_call 79; refine (steps_any Fence.wide _ trivial rfl _ _ ⟨_, _, _, rfl⟩).mono ?_; rintro e w' ⟨rfl, rfl⟩)
  obtain ⟨w1, ew1⟩ : ∃ w1, w1 = w.alloc (.cells #[.slice a n cap] 24) := ⟨_, rfl⟩
  rw [← ew1]
  obtain ⟨w2, ew2⟩ : ∃ w2, w2 = w1.alloc (.cells #[.int .i64 i] 3) := ⟨_, rfl⟩
  rw [← ew2]
  obtain ⟨w4, ew4⟩ : ∃ w4, w4 = w2.alloc (.cells #[.slice none 0 0] 29) := ⟨_, rfl⟩
  rw [← ew4]
  obtain ⟨w5, ew5⟩ : ∃ w5, w5 = w4.alloc (.cells #[.slice none 0 0] 29) := ⟨_, rfl⟩
  rw [← ew5]
  obtain ⟨w3, ew3⟩ : ∃ w3, w3 = w5.alloc (.cells #[.slice a n cap] 24) := ⟨_, rfl⟩
  rw [← ew3]
  have s1 : w1.heap.size = w.heap.size + 1 := by rw [ew1]; simp
  have s2 : w2.heap.size = w.heap.size + 1 + 1 := by rw [ew2]; simp [s1]
  have s4 : w4.heap.size = w.heap.size + 1 + 1 + 1 := by rw [ew4]; simp [s2]
  have s5 : w5.heap.size = w.heap.size + 1 + 1 + 1 + 1 := by rw [ew5]; simp [s4]
  have hsz : w3.heap.size = w.heap.size + 5 := by rw [ew3]; simp [s5]
  have b1 : Boxed w3 (w.heap.size + 1) 3 (.int .i64 i) := by
    have h := Boxed.new w1 3 (.int .i64 i)
    rw [← ew2, s1] at h
    rw [ew3, ew5, ew4]
    exact ((h.alloc _).alloc _).alloc _
  have b2 : Boxed w3 (w.heap.size + 1 + 1) 29 (.slice none 0 0) := by
    have h := Boxed.new w2 29 (.slice none 0 0)
    rw [← ew4, s2] at h
    rw [ew3, ew5]
    exact (h.alloc _).alloc _
  have b4 : Boxed w3 (w.heap.size + 1 + 1 + 1) 29 (.slice none 0 0) := by
    have h := Boxed.new w4 29 (.slice none 0 0)
    rw [← ew5, s4] at h
    rw [ew3]
    exact h.alloc _
  have b3 : w3.heap[w.heap.size + 1 + 1 + 1 + 1]? = some (.cells #[.slice a n cap] 24 (0, 0)) := by
    have h := heap_alloc_new w5 (.cells #[.slice a n cap] 24)
    rw [← ew3, s5] at h
    exact h
  have hB0 : Below w.heap.size w w3 := by
    rw [ew3, ew5, ew4, ew2, ew1]
    exact (((((Below.refl _ w).alloc (Nat.le_refl _) _).alloc (by simp) _).alloc (by simp; omega) _).alloc (by simp; omega) _).alloc (by simp; omega) _
  clear ew1 ew2 ew3 ew4 ew5
  refine wpIn_rangeFunc_Z rfl (by omega) (gf := 129) (lb := #[.pointer (some ⟨w.heap.size + 1 + 1 + 1 + 1, 0, none⟩)]) rfl trivial (enters_of Try.func129 (by kernel_rfl) rfl)
    (steps_stops Fence.wide _ trivial rfl (by omega) (w.heap.size + 1 + 1 + 1 + 1) w.heap.size n hn K hms w3 (HU.out.boxed hB0 b3 (Nat.le_refl _)) (by omega) (by omega)) (by omega) (by omega) (Below.refl _ _) (fun _ => rfl)
    (fun (pre : List (Ev n)) Z W => HoldP (w.heap.size + 1) (w.heap.size + 5) w i (pre.map fun (x : Ev n) => x.1) Z W)
    (fun c _ W => EndP (w.heap.size + 1 + 1) (w.heap.size + 5) w (pthE i [] (evA K n)) c W)
    ?hI ?hIa ?hIp ?hIx
    ?h0
    (fun x => { tmps := #[.agg #[.slice a n cap], .int .i64 i, .pointer (some ⟨w.heap.size, 0, none⟩), .pointer (some ⟨w.heap.size + 1, 0, none⟩), .pointer (some ⟨w.heap.size + 1 + 1, 0, none⟩), .pointer (some ⟨w.heap.size + 1 + 1 + 1, 0, none⟩), .int .i64 (x.1.1 : Nat), .bool x.1.2, .agg #[.slice a n cap], .func (.func 129) #[] #[.pointer (some ⟨w.heap.size + 1 + 1 + 1 + 1, 0, none⟩)], .int .i64 (x.1.1 : Nat), .bool x.1.2, undef, undef, undef, undef, undef, undef, undef, undef, undef, undef, undef, undef, undef, undef, undef, undef, undef], defers := [] }) ?assign ?body ?done ?stop
  case hI => intro pre Z A B h hO; exact h.outs hO
  case hIa => intro pre Z A o h; exact h.alloc o
  case hIp => intro pre Z A l o o' h hl hlo hc; exact h.put (by omega) hlo hc
  case hIx => intro c pre A l o o' h hl hlo hc; exact h.put (by omega) hlo hc
  case h0 => exact ⟨⟨⟨_, b4, ⟨World.ownsRow_nil _ _ _ _, okRow_none⟩, fun g h => (by cases h)⟩, fun h => h, by omega, by omega, fun k h => h.elim, hB0, by omega, by omega⟩, ⟨b1, fun h => h⟩, ⟨b2, fun h => h⟩, by omega, rfl⟩
  case assign =>
    intro l x W K hK
    dsimp only [encE]
    gi_wp2
    exact hK
  case body =>
    rintro l pre Z ⟨⟨k, gi⟩, hi⟩ W hI hpre
    have hlen : pre.length < (evA K n).length := by have := hpre.length_le; simp at this; omega
    have HPre := Lib.hid hpre
    have HI := Lib.hid hI
    clear hpre
    obtain ⟨⟨⟨v, hv, hk, ho⟩, hzB, hwB, hB, hz, hb, hn1, hw⟩, ⟨hv1, hz1⟩, ⟨hv2, hz2⟩, _, hno⟩ := hI
    have ci := hv1.cell
    have HNo := Lib.hid hno
    clear hno
    cases gi with
    | false =>
      have hne : opE (pre.map fun x => x.1) ≠ [] := opE_out (nd := k) (by have := HPre.out; rw [List.map_append] at this; exact this)
      have HE : Hid (opE ((pre ++ [(⟨(k, false), hi⟩ : Ev n)]).map fun x => x.1) = (opE (pre.map fun x => x.1)).dropLast) := Lib.hid (by rw [List.map_append, List.map_singleton, opE_snoc]; rfl)
      have HH : Hid (hasI i ((pre ++ [(⟨(k, false), hi⟩ : Ev n)]).map fun x => x.1) = false) := Lib.hid (by rw [List.map_append, List.map_singleton, hasI_snoc, HNo.out]; rfl)
      have hll := opE_len (pre.map fun x => x.1)
      rw [List.length_map] at hll
      obtain ⟨xs, hxs⟩ : ∃ xs, xs = opE (pre.map fun x => x.1) := ⟨_, rfl⟩
      rw [← hxs] at hne hk hll
      have HXs := Lib.hid hxs
      clear hxs
      obtain ⟨ys, z, rfl⟩ : ∃ ys z, xs = ys ++ [z] := by
        rcases List.eq_nil_or_concat xs with h | ⟨l', y, h⟩
        · exact absurd h hne
        · exact ⟨l', y, by rw [h, List.concat_eq_append]⟩
      obtain ⟨va, vc, ev, hvc, hmx, hva, hva2⟩ := hk.form
      subst ev
      have hf := hk.front
      obtain ⟨q, hq⟩ : ∃ q, q = ys.length := ⟨_, rfl⟩
      have hq1 : (ys ++ [z]).length = q + 1 := by simp [hq]
      have HF := Lib.hid hf
      have HK := Lib.hid hk
      cases va with
      | none => have := hva rfl; omega
      | some ad =>
        obtain ⟨g, rfl, hgl, _, _, _⟩ := hva2 _ rfl
        rw [hq1] at hvc hv ho hll
        have hc := hv.cell
        have hfz := hv.frozen
        have hvc1 : ((q : Int) + 1) ≤ (vc : Int) := by omega
        have hvc2 : (vc : Int) ≤ 9223372036854775807 := by unfold maxLen at hmx; omega
        have hq2 : (q : Int) ≤ 1000000 := by omega
        have HV := Lib.hid hv
        clear hk hf hq1 hva hva2 hne hmx
        gi_wp2
        have hne5 : g ≠ w.heap.size + 1 + 1 + 1 := fun e => by have := (ho g rfl).1; omega
        have hsS : (W.setCell ⟨w.heap.size + 1 + 1 + 1, 0, none⟩ (.slice (some ⟨g, 0, none⟩) ys.length vc)).heap.size = W.heap.size := by simp
        have hoth : ∀ k, k ≠ w.heap.size + 1 + 1 + 1 → (W.setCell ⟨w.heap.size + 1 + 1 + 1, 0, none⟩ (.slice (some ⟨g, 0, none⟩) ys.length vc)).heap[k]? = W.heap[k]? := fun k hk => heap_setCell_other W ⟨w.heap.size + 1 + 1 + 1, 0, none⟩ k _ hk
        refine ⟨(KeepsOthers.setCell _ _ _).from _, ⟨(Below.refl _ _).setCell (p := ⟨w.heap.size + 1 + 1 + 1, 0, none⟩) (by show w.heap.size ≤ w.heap.size + 1 + 1 + 1; omega) _, hoth _ (by omega)⟩, fun k hk => hoth k (fun e => hzB (e ▸ hk)), ?_⟩
        show HoldP _ _ _ _ ((pre ++ [(⟨(k, false), hi⟩ : Ev n)]).map fun x => x.1) _ _
        refine ⟨?_, ⟨(hoth _ (by omega)).trans hv1, hz1⟩, ⟨(hoth _ (by omega)).trans hv2, hz2⟩, by omega, HH.out⟩
        rw [HE.out, ← HXs.out, List.dropLast_concat]
        exact ⟨⟨_, HV.out.set _, HF.out.kept fun j hj => by cases hj; exact hoth _ hne5, fun j hj => by rw [hsS]; exact ho j hj⟩, hzB, hwB, hB, fun j hj => by rw [hsS]; exact hz j hj, hb.setCell (p := ⟨w.heap.size + 1 + 1 + 1, 0, none⟩) (by show w.heap.size ≤ w.heap.size + 1 + 1 + 1; omega) _, by rw [hsS]; exact hn1, hw⟩
    | true =>
      by_cases hki : (k : Int) = i
      · have HEnd : Hid (pthE i [] (evA K n) = opE (pre.map fun x => x.1)) := Lib.hid (pthE_hit (k := k) HNo.out hki (by have := HPre.out; rw [List.map_append] at this; exact this))
        have hkb : ((k : Int) == i) = true := by simp [hki]
        have hc2 := hv2.cell
        have hf2 := hv2.frozen
        have hc := hv.cell
        obtain ⟨va, vc, ev, _, _, _, _⟩ := hk.form
        subst ev
        gi_wp2
        have hoth : ∀ k, k ≠ w.heap.size + 1 + 1 → (W.setCell ⟨w.heap.size + 1 + 1, 0, none⟩ (.slice va (opE (pre.map fun x => x.1)).length vc)).heap[k]? = W.heap[k]? := fun k hk => heap_setCell_other W ⟨w.heap.size + 1 + 1, 0, none⟩ k _ hk
        refine ⟨(KeepsOthers.setCell _ _ _).from _, ?_⟩
        show EndP _ _ _ _ _ _
        rw [HEnd.out]
        exact ⟨rfl, _, hv2.set _, hk.kept fun j hj => hoth _ (fun e => by have := (ho j hj).1; omega), fun j hj => (ho j hj).1, hb.setCell (p := ⟨w.heap.size + 1 + 1, 0, none⟩) (by show w.heap.size ≤ w.heap.size + 1 + 1; omega) _, by omega, by omega⟩
      · have hkb : ((k : Int) == i) = false := by simp [hki]
        have HH : Hid (hasI i ((pre ++ [(⟨(k, true), hi⟩ : Ev n)]).map fun x => x.1) = false) := Lib.hid (by rw [List.map_append, List.map_singleton, hasI_snoc, HNo.out]; simp [hki])
        have HHit := Lib.hid hki
        clear hki
        have hxl : (opE (pre.map fun x => x.1)).length ≤ 1000000 := by
          have h1 := opE_len (pre.map fun x => x.1)
          rw [List.length_map] at h1
          omega
        have HE : Hid (opE ((pre ++ [(⟨(k, true), hi⟩ : Ev n)]).map fun x => x.1) = opE (pre.map fun x => x.1) ++ [(k : Int)]) := Lib.hid (by rw [List.map_append, List.map_singleton, opE_snoc]; rfl)
        clear HI
        generalize opE (pre.map fun x => x.1) = xs at *
        obtain ⟨va, vc, ev, _, _, _, _⟩ := hk.form
        subst ev
        obtain ⟨v5, w5, hr5, hK5, hg5, hat5⟩ := run_append_ints (W.alloc (.cells #[.int .i64 (k : Nat)] 3)) 29 _ xs (hk.alloc _) (some ⟨W.heap.size, 0, none⟩) 1 [(k : Int)] (one_int W k) (by simp; omega)
        obtain ⟨va5, vc5, ev5, _, _, _, _⟩ := hK5.form
        subst ev5
        have hc := hv.cell
        have hsa : (W.alloc (.cells #[.int .i64 (k : Nat)] 3)).heap.size = W.heap.size + 1 := by simp
        have hne : some (w.heap.size + 1 + 1 + 1) ≠ (Value.slice va xs.length vc).ownBlock := fun e => by have := (ho _ e.symm).1; omega
        have hv5 : Boxed w5 (w.heap.size + 1 + 1 + 1) 29 (.slice va xs.length vc) := (hg5.block _ (by have := hv.lt; omega) hne).trans (hv.alloc _)
        have hc5 := hv5.cell
        have hf5 := hv5.frozen
        have hs5 : W.heap.size + 1 ≤ w5.heap.size := by have := hg5.size; omega
        have key : ∀ (u : Value) k, k < W.heap.size → k ≠ w.heap.size + 1 + 1 + 1 → some k ≠ (Value.slice va xs.length vc).ownBlock → (w5.setCell ⟨w.heap.size + 1 + 1 + 1, 0, none⟩ u).heap[k]? = W.heap[k]? := fun u k hk1 hk2 hk3 =>
          (heap_setCell_other w5 ⟨w.heap.size + 1 + 1 + 1, 0, none⟩ k u hk2).trans ((hg5.block k (by omega) hk3).trans (Below.heap_alloc _ _ _ hk1))
        have HKey := Lib.hid key
        have HK5 := Lib.hid hK5
        have HAt := Lib.hid hat5
        have HV5 := Lib.hid hv5
        have HOs : Hid (w5.os = W.os ∧ w5.tape = W.tape ∧ w5.output = W.output) := Lib.hid ⟨hg5.os, hg5.tape, hg5.output⟩
        rw [List.length_append, List.length_singleton] at hr5
        clear key hK5 hat5 hg5 hv5
        gi_wp2_with (gi_at_builtin; refine wpListIn_append_run _ rfl _ _ _ rfl _ _ rfl rfl _ _ hr5 ?_)
        have hsS : ∀ u, (w5.setCell ⟨w.heap.size + 1 + 1 + 1, 0, none⟩ u).heap.size = w5.heap.size := fun u => by simp
        refine ⟨⟨by rw [hsS]; omega, fun k o hk0 hko hoc => ?_⟩, ⟨⟨HOs.out.1, HOs.out.2.1, HOs.out.2.2, by rw [hsS]; omega, fun k hkw => ?_⟩, ?_⟩, fun k hkz => ?_, ?_⟩
        · refine (HKey.out _ k (Array.getElem?_eq_some_iff.1 hko).1 (by omega) (fun e => ?_)).trans hko
          obtain ⟨c9, fz9, hc9⟩ := hk.kind e.symm
          rw [hko] at hc9
          cases hc9
          cases hoc
        · exact HKey.out _ k (Nat.lt_of_lt_of_le hkw hb.size) (by omega) (fun e => by have := (ho _ e.symm).1; omega)
        · exact HKey.out _ _ (by omega) (by omega) (fun e => by have := (ho _ e.symm).1; omega)
        · exact HKey.out _ k (hz k hkz).2 (fun e => hzB (e ▸ hkz)) (fun e => (ho _ e.symm).2.2 hkz)
        · show HoldP _ _ _ _ ((pre ++ [(⟨(k, true), hi⟩ : Ev n)]).map fun x => x.1) _ _
          have hoth : ∀ (u : Value) j, j < w.heap.size + 5 → j ≠ w.heap.size + 1 + 1 + 1 → (w5.setCell ⟨w.heap.size + 1 + 1 + 1, 0, none⟩ u).heap[j]? = W.heap[j]? := fun u j h1 h2 => HKey.out _ j (by omega) h2 (fun e => by have := (ho _ e.symm).1; omega)
          refine ⟨?_, ⟨(hoth _ _ (by omega) (by omega)).trans hv1, hz1⟩, ⟨(hoth _ _ (by omega) (by omega)).trans hv2, hz2⟩, by omega, HH.out⟩
          rw [HE.out]
          have ho5 : ∀ g, (Value.slice va5 (xs ++ [(k : Int)]).length vc5).ownBlock = some g → w.heap.size + 5 ≤ g ∧ g < w5.heap.size ∧ ¬ Z g := fun g hg => by
            rcases HAt.out with h1 | h1
            · have h2 := ho g (h1 ▸ hg)
              exact ⟨h2.1, by omega, h2.2.2⟩
            · rw [h1] at hg
              have : g = W.heap.size + 1 := by simpa [hsa] using hg.symm
              subst this
              have h3 := HK5.out.lt _ h1
              exact ⟨by omega, by rw [hsa] at h3; exact h3, fun e => by have := (hz _ e).2; omega⟩
          have hlen : (xs ++ [(k : Int)]).length = xs.length + 1 := by simp
          rw [← hlen]
          refine ⟨⟨_, HV5.out.set _, HK5.out.kept fun g hg => heap_setCell_other w5 ⟨w.heap.size + 1 + 1 + 1, 0, none⟩ g _ (by have := (ho5 g hg).1; show g ≠ w.heap.size + 1 + 1 + 1; omega), fun g hg => ⟨(ho5 g hg).1, by rw [hsS]; exact (ho5 g hg).2.1, (ho5 g hg).2.2⟩⟩, hzB, hwB, hB, fun k hk1 => ⟨(hz k hk1).1, by rw [hsS]; have := (hz k hk1).2; omega⟩, ?_, by rw [hsS]; omega, hw⟩
          exact hb.trans ⟨HOs.out.1, HOs.out.2.1, HOs.out.2.2, by rw [hsS]; omega, fun k hkw => HKey.out _ k (Nat.lt_of_lt_of_le hkw hb.size) (by omega) (fun e => by have := (ho _ e.symm).1; omega)⟩
  case done =>
    rintro D ys Z W hD hall ⟨⟨⟨v, hv, hk, ho⟩, hzB, hwB, hB, hz, hb, hn1, hw⟩, ⟨hv1, hz1⟩, ⟨hv2, hz2⟩, _, hno⟩ hK
    rw [hall] at hno
    have hc2 := hv2.cell
    have hf2 := hv2.frozen
    gi_wp2
    have hD2 : D ≠ w.heap.size + 1 + 1 := by omega
    have hK2 : (W.setCell ⟨w.heap.size + 1 + 1, 0, none⟩ (.slice none 0 0)).heap[D]? = some (.deferred (some [])) := (heap_setCell_other W ⟨w.heap.size + 1 + 1, 0, none⟩ D _ hD2).trans hK
    refine ⟨by simp, .inl ⟨_, _, rfl, run_takeDeferred hK2, ?_⟩⟩
    have hv3 : Boxed ((W.setCell ⟨w.heap.size + 1 + 1, 0, none⟩ (.slice none 0 0)).putObj D (.deferred none)) (w.heap.size + 1 + 1) 29 (.slice none 0 0) := (World.putObj_heap_other (by omega)).trans (hv2.set _)
    refine ⟨_, results_cell1 rfl _ _ _ _ rfl hv3, _, rfl, ?_, fun g hg => (by cases hg), (hb.setCell (p := ⟨w.heap.size + 1 + 1, 0, none⟩) (by show w.heap.size ≤ w.heap.size + 1 + 1; omega) _).trans (put_below (by omega) hK2)⟩
    rw [pthE_none hno]
    exact ⟨World.ownsRow_nil _ _ _ _, okRow_none⟩
  case stop =>
    rintro D c pre W hD _ ⟨rfl, v, hv, hk, ho, hb, hB, hn⟩ hK
    gi_wp2
    refine ⟨by simp, .inl ⟨_, _, rfl, run_takeDeferred hK, ?_⟩⟩
    have hv3 : Boxed (W.putObj D (.deferred none)) (w.heap.size + 1 + 1) 29 v := (World.putObj_heap_other (by omega)).trans hv
    refine ⟨_, results_cell1 rfl _ _ _ _ rfl hv3, _, rfl, ?_, fun g hg => by have := ho g hg; omega, hb.trans (put_below (by omega) hK)⟩
    refine hk.kept fun g hg => World.putObj_heap_other (fun e => ?_)
    obtain ⟨c9, fz9, hc9⟩ := hk.kind hg
    first
      | (rw [e, hK] at hc9; cases hc9)
      | (rw [← e, hK] at hc9; cases hc9)
end Go.Proofs.Ytkkngflpmdcfjaa
