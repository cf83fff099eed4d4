/-
  The walks of places, an iterator, and of plain, which goes through it.
-/
import Derived.RangeFuncNested
import Derived.RangeFuncBound
import Derived.RangeFuncCalls
import Derived.RangeFuncLeaves
import Derived.OwnWalkIn
import Derived.TacticsInMore
import Derived.LoopNIn
import Derived.LoopIn
import Derived.Test.YtceelfomgcbkiaaGreatDoorLMarkZ
namespace Go.Proofs.YtceelfomgcbkiaaGreatDoor
open Go.RowKit Go.Shelf
open Go.Proofs.YtceelfomgcbkiaaGreatDoor.R (MaxAt)
open Go.Proofs.YtceelfomgcbkiaaGreatDoor.C (StAt)

attribute [local go_sem] Oper.semAt_some

/-- A place in a text. -/
abbrev Pl (s : ByteArray) := { x : Nat // x ≤ s.size }
/-- All places of a < have come. -/
def AllLt (s : ByteArray) (ys : List (Pl s)) : Prop := ∀ k, s.data.toList[k]? = some 60 → ∃ y ∈ ys, y.1 = k
/-- All ahead of the last one have come ahead of it. -/
def Lts (s : ByteArray) (pre : List (Pl s)) : Prop := ∀ q x, pre = q ++ [x] → ∀ k, k < x.1 → s.data.toList[k]? = some 60 → ∃ y ∈ q, y.1 = k
theorem pln_is : ∀ (l : List UInt8) (k : Nat), k ≤ l.length → (∀ j, j < k → mk (l.drop j) = false) → (k = l.length ∨ mk (l.drop k) = true) → pln l = k
  | [], k, hk, _, _ => by have : k = 0 := by simpa using hk
                          subst this; rfl
  | a :: r, 0, _, _, h => by
    rcases h with h | h
    · simp at h
    · unfold pln; rw [if_pos (by simpa using h)]
  | a :: r, k + 1, hk, hn, h => by
    have h0 := hn 0 (by omega)
    unfold pln
    rw [if_neg (by rw [show (a :: r).drop 0 = a :: r from rfl] at h0; rw [h0]; decide)]
    rw [pln_is r k (by simpa using hk) (fun j hj => by have := hn (j + 1) (by omega); simpa using this) (by simpa using h)]
    omega
theorem mk_lt {l : List UInt8} {k : Nat} (h : mk (l.drop k) = true) : l[k]? = some 60 := by
  have := mk_head h
  rwa [List.getElem?_drop, Nat.add_zero] at this
theorem pln_done (s : ByteArray) (ys : List (Pl s)) (h : AllLt s ys) (hn : ∀ y ∈ ys, mk (s.data.toList.drop y.1) = false) : pln s.data.toList = s.size := by
  rw [← C.size_list]
  refine pln_is _ _ (Nat.le_refl _) (fun j _ => ?_) (.inl rfl)
  cases hm : mk (s.data.toList.drop j) with
  | false => rfl
  | true =>
    obtain ⟨y, hy, rfl⟩ := h j (mk_lt hm)
    rw [hn y hy] at hm; cases hm
theorem pln_stop (s : ByteArray) (q : List (Pl s)) (x : Pl s) (h : Lts s (q ++ [x])) (hn : ∀ y ∈ q, mk (s.data.toList.drop y.1) = false) (hx : mk (s.data.toList.drop x.1) = true) : pln s.data.toList = x.1 := by
  refine pln_is _ _ (by rw [C.size_list]; exact x.2) (fun j hj => ?_) (.inr hx)
  cases hm : mk (s.data.toList.drop j) with
  | false => rfl
  | true =>
    obtain ⟨y, hy, rfl⟩ := h q x rfl j hj (mk_lt hm)
    rw [hn y hy] at hm; cases hm
/-- What IndexByte tells of what is left. -/
theorem lt_none {l : List UInt8} {k : Nat} (h : Lib.indexByte (l.drop k) 60 = -1) : ∀ j, k ≤ j → l[j]? ≠ some 60 := fun j hj e => by
  refine Lib.indexByte_none h (j - k) ?_
  rw [List.getElem?_drop, show k + (j - k) = j by omega]; exact e

set_option maxRecDepth 100000 in
set_option maxHeartbeats 2000000 in
/-- The iterator: for every loop body that keeps what lay below n₀. -/
theorem places1_in (n : Nat) (hn : 1 ≤ n) (l Bn n₀ : Nat) (s : ByteArray) (hs : s.size ≤ 10000) (J Jx : List (Pl s) → World → Prop)
    (hY : ∀ pre (x : Pl s) W, J pre W → pre.length < s.size → YieldAt Fence.wide (n - 1) Tryz.prog l #[.int .i64 (x.1 : Nat)] W fun e W' =>
      (e = .returned (.bool true) ∧ J (pre ++ [x]) W' ∧ Below n₀ W W') ∨ (e = .returned (.bool false) ∧ Jx (pre ++ [x]) W'))
    (W : World) (hBn : Boxed W Bn 9 (.string s)) (hlt : Bn < n₀) (h0 : J [] W) :
    CallsIn Fence.wide n Tryz.prog 61 #[.func (.yield l) #[] #[], .pointer (some ⟨Bn, 0, none⟩)] W fun e W' => (∃ v, e = .returned v) ∧
      ((∃ ys, AllLt s ys ∧ J ys W') ∨ (∃ pre, Lts s pre ∧ Jx pre W')) := by
  have HI : Hid (∀ (u : ByteArray) (W : World), Calls Tryz.prog 33 #[.string u, .int .u8 60] W fun e w' => e = .returned (.int .i64 (Lib.indexByte u.data.toList 60)) ∧ w' = W) := Lib.hid (fun u W => Tryz.strings_IndexByte u 60 W)
  refine callsIn_of_wp Tryz.func61 rfl trivial ?_ rfl
  simp only [Tryz.ntmps61, List.size_toArray, List.length_cons, List.length_nil, Nat.reduceAdd, Nat.reduceSub, Array.replicate_succ, Array.replicate_zero, List.push_toArray, List.append_toArray, List.nil_append, List.cons_append]
  gi_wp2
  gi_loopw [3] (fun p wr => ∃ (pre : List (Pl s)) (k : Nat), p = .int .i64 (k : Nat) ∧ k ≤ s.size ∧ pre.length ≤ k ∧ (∀ j, j < k → s.data.toList[j]? = some 60 → ∃ y ∈ pre, y.1 = j) ∧ Boxed wr Bn 9 (.string s) ∧ J pre wr)
    (fun p _ => s.size + 1 - (intOf p).toNat)
  case atStart =>
    exact ⟨[], 0, rfl, Nat.zero_le _, Nat.zero_le _, fun j hj => absurd hj (Nat.not_lt_zero _), hBn, h0⟩
  case round =>
    obtain ⟨pre, k, rfl, hk, hpl, hcov, hbx, hJs⟩ := hrel
    have hc := hbx.cell
    have hi0 : (0 : Int) ≤ (k : Int) := by omega
    have hi1 : (k : Int) ≤ (s.size : Int) := by omega
    have HX : Hid (Calls Tryz.prog 33 #[.string (s.extract k s.size), .int .u8 60] wr fun e w' => e = .returned (.int .i64 (Lib.indexByte (s.data.toList.drop k) 60)) ∧ wr = w') := Lib.hid (by
      have h := (HI.out (s.extract k s.size) wr).mono (R' := fun e w' => e = .returned (.int .i64 (Lib.indexByte (s.data.toList.drop k) 60)) ∧ wr = w') (fun _ _ h => ⟨by rw [h.1, C.ext_tail], h.2.symm⟩)
      exact h)
    have hge := Lib.indexByte_ge (s.data.toList.drop k) 60
    by_cases hneg : 0 ≤ Lib.indexByte (s.data.toList.drop k) 60
    · obtain ⟨i, hi⟩ : ∃ i : Nat, Lib.indexByte (s.data.toList.drop k) 60 = (i : Int) := ⟨(Lib.indexByte (s.data.toList.drop k) 60).toNat, by omega⟩
      obtain ⟨h60, hpre⟩ := Lib.indexByte_some hi
      rw [hi] at HX
      rw [List.getElem?_drop] at h60
      have hlt2 : k + i < s.size := by rw [← C.size_list]; exact (List.getElem?_eq_some_iff.1 h60).1
      have HJ1 : Hid (∀ j, j < k + i → s.data.toList[j]? = some 60 → ∃ y ∈ pre, y.1 = j) := Lib.hid (fun j hj hj2 => by
        rcases Nat.lt_or_ge j k with h | h
        · exact hcov j h hj2
        · exfalso
          refine hpre (j - k) (by omega) ?_
          rw [List.getElem?_drop, show k + (j - k) = j by omega]; exact hj2)
      obtain ⟨fn, tmps, assign, body, hy, hR⟩ := hY pre ⟨k + i, Nat.le_of_lt hlt2⟩ wr hJs (by omega)
      have HJ2 : Hid (Boxed wr Bn 9 (.string s)) := Lib.hid hbx
      have hi2 : ¬ ((i : Int) < 0) := by omega
      have hk2 : (k : Int) + (i : Int) ≤ 10000 := by omega
      simp only [Int.natCast_add] at hy
      clear hi hneg hge hpre h60 hcov hbx hJs
      gi_wp2_with (refine ⟨trivial, ?_⟩; gi_at_call 33; refine (callsIn_wide.2 HX.out).mono ?_; rintro e w' ⟨rfl, rfl⟩)
      refine hR.mono ?_
      rintro e W3 (⟨rfl, hJ3, hk3⟩ | ⟨rfl, hJx3⟩)
      · have hb3 : Boxed W3 Bn 9 (.string s) := (hk3.block Bn hlt).trans HJ2.out
        gi_wp2
        go_roundw
        case rel =>
          refine ⟨pre ++ [⟨k + i, Nat.le_of_lt hlt2⟩], k + i + 1, by go_num, by omega, by simp; omega, fun j hj hj2 => ?_, hb3, hJ3⟩
          rcases Nat.lt_or_ge j (k + i) with h | h
          · obtain ⟨y, hy1, hy2⟩ := HJ1.out j h hj2
            exact ⟨y, List.mem_append_left _ hy1, hy2⟩
          · exact ⟨⟨k + i, Nat.le_of_lt hlt2⟩, by simp, by show k + i = j; omega⟩
        case measure => simp [intOf]; omega
      · gi_wp2
        refine bodyPost_ret (results_none rfl _ _ _) rfl ?_
        refine ⟨⟨_, rfl⟩, .inr ⟨_, fun q x e j hj hj2 => ?_, hJx3⟩⟩
        obtain ⟨rfl, e2⟩ := List.append_inj' e rfl
        obtain rfl : (⟨k + i, Nat.le_of_lt hlt2⟩ : Pl s) = x := by simpa using e2
        exact HJ1.out j hj hj2
    · have hx : Lib.indexByte (s.data.toList.drop k) 60 = -1 := by omega
      rw [hx] at HX
      have HJ1 := Lib.hid (lt_none hx)
      clear hge hneg hx
      gi_wp2_with (refine ⟨trivial, ?_⟩; gi_at_call 33; refine (callsIn_wide.2 HX.out).mono ?_; rintro e w' ⟨rfl, rfl⟩)
      refine bodyPost_ret (results_none rfl _ _ _) rfl ?_
      refine ⟨⟨_, rfl⟩, .inl ⟨pre, fun j hj => ?_, hJs⟩⟩
      rcases Nat.lt_or_ge j k with h | h
      · exact hcov j h hj
      · exact absurd hj (HJ1.out j h)

set_option maxHeartbeats 1000000 in
theorem places_any (n : Nat) (s : ByteArray) (w : World) :
    CallsIn Fence.wide n Tryz.prog 31 #[.string s] w fun e w' => e = .returned (.func (.func 61) #[] #[.pointer (some ⟨w.heap.size, 0, none⟩)]) ∧ w.alloc (.cells #[.string s] 9) = w' := by
  refine callsIn_of_wp Tryz.func31 rfl trivial ?_ rfl
  simp only [Tryz.ntmps31, List.size_toArray, List.length_cons, List.length_nil, Nat.reduceAdd, Nat.reduceSub, Array.replicate_succ, Array.replicate_zero, List.push_toArray, List.append_toArray, List.nil_append, List.cons_append]
  gi_wp2
  go_ret
  exact ⟨rfl, rfl⟩
theorem places_stops (n : Nat) (hn : 1 ≤ n) (Bn n₀ : Nat) (s : ByteArray) (hs : s.size ≤ 10000) (w : World) (hb : Boxed w Bn 9 (.string s)) (hlt : Bn < n₀) :
    SeqStopsK Fence.wide n Tryz.prog 61 #[.pointer (some ⟨Bn, 0, none⟩)] (fun x : Pl s => #[Value.int .i64 (x.1 : Nat)]) (Below n₀) (AllLt s) (Lts s) s.size w := fun l J Jx W hW _ _ hY h0 =>
  places1_in n hn l Bn n₀ s hs J Jx hY W ((hW.block Bn hb.lt).trans hb) hlt h0

set_option maxRecDepth 100000 in
set_option maxHeartbeats 2000000 in
theorem plain_any (s : ByteArray) (w : World) (hT : StAt w) (hM : MaxAt w) (hs : s.size ≤ 10000) :
    Calls Tryz.prog 20 #[.string s] w fun e w' => e = .returned (.int .i64 (pln s.data.toList : Nat)) ∧ Below w.heap.size w w' := by
  have HG : Hid (∀ (k : Nat) (W : World), k ≤ s.size → Below w.heap.size w W → Calls Tryz.prog 32 #[.string (s.extract k s.size)] W fun e w' => e = .returned (.bool (mk (s.data.toList.drop k))) ∧ Below W.heap.size W w') := Lib.hid (fun k W hk hW => by
    have := begins_any (s.extract k s.size) W (hT.below hW) (hM.below hW) (by rw [ByteArray.size_extract]; omega)
    rw [C.ext_tail] at this; exact this)
  clear hT hM
  refine (callsIn_wide (n := 3)).1 ?_
  refine callsIn_of_wp_marks Tryz.func20 rfl trivial ?_ rfl
  simp only [Tryz.ntmps20, List.size_toArray, List.length_cons, List.length_nil, Nat.reduceAdd, Nat.reduceSub, Array.replicate_succ, Array.replicate_zero, List.push_toArray, List.append_toArray, List.nil_append, List.cons_append]
  gi_wp2_with (refine ⟨trivial, ?_⟩; gi_at_call 31; refine (places_any _ s _).mono ?_; rintro e w' ⟨rfl, rfl⟩)
  have b0 := Boxed.new w 9 (.string s)
  have b1 := Boxed.new (w.alloc (.cells #[.string s] 9)) 3 (.int .i64 0)
  have b2 := Boxed.new ((w.alloc (.cells #[.string s] 9)).alloc (.cells #[.int .i64 0] 3)) 9 (.string s)
  have hB0 : Below w.heap.size w (((w.alloc (.cells #[.string s] 9)).alloc (.cells #[.int .i64 0] 3)).alloc (.cells #[.string s] 9)) := (((Below.refl _ w).alloc (Nat.le_refl _) _).alloc (by simp) _).alloc (by simp; omega) _
  replace b0 := (b0.alloc (.cells #[.int .i64 0] 3)).alloc (.cells #[.string s] 9)
  replace b1 := b1.alloc (.cells #[.string s] 9)
  rw [World.size_alloc] at b1
  rw [World.size_alloc, World.size_alloc] at b2
  have hsz : (((w.alloc (.cells #[.string s] 9)).alloc (.cells #[.int .i64 0] 3)).alloc (.cells #[.string s] 9)).heap.size = w.heap.size + 3 := by simp
  generalize ((w.alloc (.cells #[.string s] 9)).alloc (.cells #[.int .i64 0] 3)).alloc (.cells #[.string s] 9) = w3 at *
  refine wpIn_rangeFunc_ownG rfl (by omega) (gf := 61) (lb := #[.pointer (some ⟨w.heap.size + 1 + 1, 0, none⟩)]) rfl trivial (enters_of Tryz.func61 (by kernel_rfl) rfl)
    (places_stops _ (by omega) (w.heap.size + 1 + 1) (w.heap.size + 3) s hs w3 b2 (by omega)) belowK_t (belowK_b (by omega)) (Below.refl _ _) (fun _ => rfl)
    (fun pre W => ((∀ y ∈ pre, mk (s.data.toList.drop y.1) = false) ∧ Boxed W w.heap.size 9 (.string s) ∧ Boxed W (w.heap.size + 1) 3 (.int .i64 0) ∧ w.heap.size + 3 ≤ W.heap.size) ∧ Below w.heap.size w W)
    (fun c pre W => (∃ q x, c = .ret ∧ pre = q ++ [x] ∧ (∀ y ∈ q, mk (s.data.toList.drop y.1) = false) ∧ mk (s.data.toList.drop x.1) = true ∧ Boxed W (w.heap.size + 1) 3 (.int .i64 (x.1 : Nat))) ∧ Below w.heap.size w W)
    ?hI ?hIx ?h0
    (fun x => { tmps := #[.string s, .pointer (some ⟨w.heap.size, 0, none⟩), .pointer (some ⟨w.heap.size + 1, 0, none⟩), .int .i64 (x.1 : Nat), .string s, .func (.func 61) #[] #[.pointer (some ⟨w.heap.size + 1 + 1, 0, none⟩)], .int .i64 (x.1 : Nat), undef, undef, undef, undef, undef, undef, undef], defers := [] }) ?assign ?body ?done ?stop
  case hI =>
    rintro pre A B' row ⟨⟨h1, h2, h3, h5⟩, h4⟩ hg hr
    exact ⟨⟨h1, h2.kept hg (fun e => by have := (hr _ e.symm).1; omega), h3.kept hg (fun e => by have := (hr _ e.symm).1; omega), Nat.le_trans h5 hg.size⟩, h4.grown hg h4.size (fun k e => by have := (hr _ e).1; omega)⟩
  case hIx =>
    rintro c pre A B' row ⟨⟨q, x, e1, e2, h1, h2, h3⟩, h4⟩ hg hr
    exact ⟨⟨q, x, e1, e2, h1, h2, h3.kept hg (fun e => by have := (hr _ e.symm).1; omega)⟩, h4.grown hg h4.size (fun k e => by have := (hr _ e).1; omega)⟩
  case h0 => exact ⟨⟨fun _ h => (by cases h), b0, b1, by omega⟩, hB0⟩
  case assign =>
    intro l x W K hK
    gi_wp2
    exact hK
  case body =>
    rintro l pre x W ⟨⟨hn, hx0, hx1, hxs⟩, hB⟩ hlen
    have HX := Lib.hid (HG.out x.1 W x.2 hB)
    have hc := hx0.cell
    have hle := x.2
    have hi0 : (0 : Int) ≤ (x.1 : Int) := by omega
    have hi1 : (x.1 : Int) ≤ (s.size : Int) := by omega
    have HBx := Lib.hid hB
    have HN := Lib.hid hn
    have HS : Hid (w3.heap.size = w.heap.size + 3) := Lib.hid hsz
    clear hB hn hB0 b0 b1 b2 HG
    obtain ⟨x, hxl⟩ := x
    dsimp only at *
    cases hq : mk (s.data.toList.drop x) with
    | false =>
      rw [hq] at HX
      gi_wp2_with (refine ⟨trivial, ?_⟩; gi_at_call 32; refine (CallsIn.inRound l (callsIn_wide.2 HX.out)).mono ?_; rintro e w' ⟨rfl, hb⟩)
      refine ⟨⟨hb.size, fun k o _ h _ => (hb.block k (Array.getElem?_eq_some_iff.1 h).1).trans h⟩, hb.mono hxs, ⟨fun y hy => ?_, (hb.block _ hx0.lt).trans hx0, (hb.block _ hx1.lt).trans hx1, Nat.le_trans hxs hb.size⟩, HBx.out.trans (hb.mono HBx.out.size)⟩
      rcases List.mem_append.1 hy with h | h
      · exact HN.out y h
      · obtain rfl := List.mem_singleton.1 h
        exact hq
    | true =>
      rw [hq] at HX
      gi_wp2_with (refine ⟨trivial, ?_⟩; gi_at_call 32; refine (CallsIn.inRound l (callsIn_wide.2 HX.out)).mono ?_; rintro e w' ⟨rfl, hb⟩; have hx1' : Boxed w' (w.heap.size + 1) 3 (.int .i64 0) := (hb.block _ hx1.lt).trans hx1; have hc1 := hx1'.cell; have hf1 := hx1'.frozen)
      have hb2 : Below w.heap.size w w' := HBx.out.trans (hb.mono HBx.out.size)
      exact ⟨(KeepsFrom.mk hb.size (fun k o _ h _ => (hb.block k (Array.getElem?_eq_some_iff.1 h).1).trans h)).trans ((KeepsOthers.setCell _ _ _).from _), ⟨pre, ⟨x, hxl⟩, rfl, rfl, HN.out, hq, hx1'.set _⟩, hb2.setCell (p := ⟨w.heap.size + 1, 0, none⟩) (by simp) _⟩
  case done =>
    rintro D ys W hD hall ⟨⟨hn, hx0, hx1, hxs⟩, hB⟩ hK
    have hp := pln_done s ys hall hn
    have hc := hx0.cell
    have hc1 := hx1.cell
    have hf1 := hx1.frozen
    gi_wp2
    have hK' := (KeepsOthers.setCell W ⟨w.heap.size + 1, 0, none⟩ (.int .i64 (s.size : Nat))).same D _ hK rfl
    refine ⟨by simp, .inl ⟨_, _, rfl, run_takeDeferred hK', ?_⟩⟩
    have hc5 := cell_kept (World.cell?_setCell_same' W ⟨w.heap.size + 1, 0, none⟩ (.int .i64 (s.size : Nat)) (by rw [hc1]; rfl)) (grownBy_putObj' _ D (.deferred none)) (fun r e => by cases e; exact ⟨_, hK', rfl⟩)
    refine ⟨.int .i64 (s.size : Nat), ?_, by rw [hp], (hB.setCell (p := ⟨w.heap.size + 1, 0, none⟩) (by simp) _).trans (belowK_b (w := w) (Nat.le_refl _) _ D _ _ (by omega) hK' rfl rfl)⟩
    simp [results, Tryz.results20, go_sem, hc5]
  case stop =>
    rintro D c pre W hD hl ⟨⟨q, x, rfl, rfl, hn, hx, hx1⟩, hB⟩ hK
    have hp := pln_stop s q x hl hn hx
    gi_wp2
    refine ⟨by simp, .inl ⟨_, _, rfl, run_takeDeferred hK, ?_⟩⟩
    have hc5 := cell_kept hx1.cell (grownBy_putObj' _ D (.deferred none)) (fun r e => by cases e; exact ⟨_, hK, rfl⟩)
    refine ⟨.int .i64 (x.1 : Nat), ?_, by rw [hp], hB.trans (belowK_b (w := w) (Nat.le_refl _) W D _ _ (by omega) hK rfl rfl)⟩
    simp [results, Tryz.results20, go_sem, hc5]
end Go.Proofs.YtceelfomgcbkiaaGreatDoor
