/-
  The walk of Deep.
-/
import Derived.Test.YtkkngflpmdcfjaaOList
namespace Go.Proofs.Ytkkngflpmdcfjaa
open Go.RowKit

attribute [local go_sem] Oper.semAt_some

/-- How deep it is behind these steps, and how deep at most. -/
def dpS (s : Int × Int) (x : Nat × Bool) : Int × Int := if x.2 = true then (s.1 + 1, max s.2 s.1) else (s.1 - 1, s.2)
def dpE (A : List (Nat × Bool)) : Int × Int := A.foldl dpS (0, 0)
theorem dpE_snoc (A : List (Nat × Bool)) (x : Nat × Bool) : dpE (A ++ [x]) = dpS (dpE A) x := by unfold dpE; rw [List.foldl_append]; rfl
theorem dpE_bd' : ∀ (A : List (Nat × Bool)) (s : Int × Int) (b : Nat), -(b : Int) ≤ s.1 → s.1 ≤ b → 0 ≤ s.2 → s.2 ≤ b → -((b + A.length : Nat) : Int) ≤ (A.foldl dpS s).1 ∧ (A.foldl dpS s).1 ≤ ((b + A.length : Nat) : Int) ∧ 0 ≤ (A.foldl dpS s).2 ∧ (A.foldl dpS s).2 ≤ ((b + A.length : Nat) : Int)
  | [], s, b, h1, h2, h3, h4 => by simpa using ⟨h1, h2, h3, h4⟩
  | x :: A, s, b, h1, h2, h3, h4 => by
    have ih := dpE_bd' A (dpS s x) (b + 1) (by unfold dpS; split <;> dsimp only <;> omega) (by unfold dpS; split <;> dsimp only <;> omega) (by unfold dpS; split <;> dsimp only <;> omega) (by unfold dpS; split <;> dsimp only <;> omega)
    have e : b + 1 + A.length = b + (x :: A).length := by simp; omega
    rw [e] at ih
    exact ih
theorem dpE_bd (A : List (Nat × Bool)) : -(A.length : Int) ≤ (dpE A).1 ∧ (dpE A).1 ≤ (A.length : Int) ∧ 0 ≤ (dpE A).2 ∧ (dpE A).2 ≤ (A.length : Int) := by
  have := dpE_bd' A (0, 0) 0 (by simp) (by simp) (by simp) (by simp)
  unfold dpE
  simpa using this
/-- Two variables with numbers. -/
def HoldD (B n₁ : Nat) (w : World) (s : Int × Int) (Z : Nat → Prop) (W : World) : Prop :=
  (Boxed W B 3 (.int .i64 s.1) ∧ Boxed W (B + 1) 3 (.int .i64 s.2)) ∧ (¬ Z B ∧ ¬ Z (B + 1)) ∧ w.heap.size ≤ B ∧ B + 1 < n₁ ∧ (∀ k, Z k → n₁ ≤ k ∧ k < W.heap.size) ∧ Below w.heap.size w W ∧ n₁ ≤ W.heap.size
theorem HoldD.outs {B n₁ : Nat} {w A W : World} {s : Int × Int} {Z : Nat → Prop} (h : HoldD B n₁ w s Z A) (hO : Outs Z A W) : HoldD B n₁ w s (Zs Z A W) W := by
  obtain ⟨⟨h1, h2⟩, ⟨z1, z2⟩, hwB, hB, hz, hb, hn⟩ := h
  refine ⟨⟨(hO.block B h1.lt z1).trans h1, (hO.block _ h2.lt z2).trans h2⟩, ⟨fun e => e.elim z1 (fun h => by omega), fun e => e.elim z2 (fun h => by omega)⟩, hwB, hB, fun k hk => hk.elim (fun h => ⟨(hz k h).1, Nat.lt_of_lt_of_le (hz k h).2 hO.size⟩) (fun h => ⟨by omega, h.2⟩), ?_, Nat.le_trans hn hO.size⟩
  exact ⟨hO.os.trans hb.os, hO.tape.trans hb.tape, hO.output.trans hb.output, Nat.le_trans hb.size hO.size, fun k hk => (hO.block k (Nat.lt_of_lt_of_le hk hb.size) (fun e => by have := (hz k e).1; omega)).trans (hb.block k hk)⟩
theorem HoldD.alloc {B n₁ : Nat} {w A : World} {s : Int × Int} {Z : Nat → Prop} (h : HoldD B n₁ w s Z A) (o : Obj) : HoldD B n₁ w s Z (A.alloc o) := by
  obtain ⟨⟨h1, h2⟩, hzz, hwB, hB, hz, hb, hn⟩ := h
  have hs : A.heap.size ≤ (A.alloc o).heap.size := by simp
  exact ⟨⟨h1.alloc o, h2.alloc o⟩, hzz, hwB, hB, fun k hk => ⟨(hz k hk).1, Nat.lt_of_lt_of_le (hz k hk).2 hs⟩, hb.alloc hb.size o, Nat.le_trans hn hs⟩
theorem HoldD.put {B n₁ : Nat} {w A : World} {s : Int × Int} {Z : Nat → Prop} (h : HoldD B n₁ w s Z A) {l : Nat} {o o' : Obj} (hl : n₁ ≤ l) (hlo : A.heap[l]? = some o) : HoldD B n₁ w s Z (A.putObj l o') := by
  obtain ⟨⟨h1, h2⟩, hzz, hwB, hB, hz, hb, hn⟩ := h
  have hs : (A.putObj l o').heap.size = A.heap.size := Nat.le_antisymm (by simp [World.putObj]) (grownBy_putObj' A l o').size
  exact ⟨⟨(World.putObj_heap_other (by omega)).trans h1, (World.putObj_heap_other (by omega)).trans h2⟩, hzz, hwB, hB, fun k hk => by rw [hs]; exact hz k hk, hb.trans (put_below (by omega) hlo), by rw [hs]; exact hn⟩
/-- Both are stored anew. -/
theorem HoldD.set {B n₁ : Nat} {w A : World} {s : Int × Int} {Z : Nat → Prop} (h : HoldD B n₁ w s Z A) (j : Nat) (hj : j = B ∨ j = B + 1) (u : Int) : HoldD B n₁ w (if j = B then (u, s.2) else (s.1, u)) Z (A.setCell ⟨j, 0, none⟩ (.int .i64 u)) := by
  obtain ⟨⟨h1, h2⟩, hzz, hwB, hB, hz, hb, hn⟩ := h
  have hs : (A.setCell ⟨j, 0, none⟩ (.int .i64 u)).heap.size = A.heap.size := by simp
  refine ⟨?_, hzz, hwB, hB, fun k hk => by rw [hs]; exact hz k hk, hb.setCell (p := ⟨j, 0, none⟩) (by show w.heap.size ≤ j; omega) _, by rw [hs]; exact hn⟩
  rcases hj with rfl | rfl
  · rw [if_pos rfl]
    exact ⟨h1.set _, (heap_setCell_other A ⟨j, 0, none⟩ (j + 1) _ (by show j + 1 ≠ j; omega)).trans h2⟩
  · rw [if_neg (by omega)]
    exact ⟨(heap_setCell_other A ⟨B + 1, 0, none⟩ B _ (by show B ≠ B + 1; omega)).trans h1, h2.set _⟩

set_option maxRecDepth 100000 in
set_option maxHeartbeats 4000000 in
theorem deep_any (u : Value) (n : Nat) (K : Nat → List Int) (w : World) (hu : TreeV w u n K) (hn : n ≤ 10000) (hms : ms K n (fun _ => false) [(0, [0])] + 1 ≤ 1000000) :
    Calls Try.prog 22 #[.agg #[u]] w fun e w' => e = .returned (.int .i64 (dpE (evA K n)).2) ∧ Below w.heap.size w w' := by
  have HU := Lib.hid hu
  have hle := evA_len hms
  obtain ⟨⟨a, cap, rfl, hcap, _⟩⟩ := hu
  refine (callsIn_wide (n := 3)).1 ?_
  refine callsIn_of_wp_marks Try.func22 rfl trivial ?_ rfl
  simp only [Try.ntmps22, List.size_toArray, List.length_cons, List.length_nil, Nat.reduceAdd, Nat.reduceSub, Array.replicate_succ, Array.replicate_zero, List.push_toArray, List.append_toArray, List.nil_append, List.cons_append]
  gi_wp2_with (refine ⟨trivial, ?_⟩; gi_at_call 79; refine (steps_any Fence.wide _ trivial rfl _ _ ⟨_, _, _, rfl⟩).mono ?_; rintro e w' ⟨rfl, rfl⟩)
  have b1 := Boxed.new (w.alloc (.cells #[.slice a n cap] 24)) 3 (.int .i64 0)
  have b2 := Boxed.new ((w.alloc (.cells #[.slice a n cap] 24)).alloc (.cells #[.int .i64 0] 3)) 3 (.int .i64 0)
  have b3 := heap_alloc_new (((w.alloc (.cells #[.slice a n cap] 24)).alloc (.cells #[.int .i64 0] 3)).alloc (.cells #[.int .i64 0] 3)) (.cells #[.slice a n cap] 24)
  replace b1 := (b1.alloc (.cells #[.int .i64 0] 3)).alloc (.cells #[.slice a n cap] 24)
  replace b2 := b2.alloc (.cells #[.slice a n cap] 24)
  rw [World.size_alloc] at b1
  rw [World.size_alloc, World.size_alloc] at b2
  rw [World.size_alloc, World.size_alloc, World.size_alloc] at b3
  have hB0 : Below w.heap.size w ((((w.alloc (.cells #[.slice a n cap] 24)).alloc (.cells #[.int .i64 0] 3)).alloc (.cells #[.int .i64 0] 3)).alloc (.cells #[.slice a n cap] 24)) := ((((Below.refl _ w).alloc (Nat.le_refl _) _).alloc (by simp) _).alloc (by simp; omega) _).alloc (by simp; omega) _
  have hsz : ((((w.alloc (.cells #[.slice a n cap] 24)).alloc (.cells #[.int .i64 0] 3)).alloc (.cells #[.int .i64 0] 3)).alloc (.cells #[.slice a n cap] 24)).heap.size = w.heap.size + 4 := by simp
  generalize (((w.alloc (.cells #[.slice a n cap] 24)).alloc (.cells #[.int .i64 0] 3)).alloc (.cells #[.int .i64 0] 3)).alloc (.cells #[.slice a n cap] 24) = w3 at *
  refine wpIn_rangeFunc_Z rfl (by omega) (gf := 129) (lb := #[.pointer (some ⟨w.heap.size + 1 + 1 + 1, 0, none⟩)]) rfl trivial (enters_of Try.func129 (by kernel_rfl) rfl)
    (steps_stops Fence.wide _ trivial rfl (by omega) (w.heap.size + 1 + 1 + 1) w.heap.size n hn K hms w3 (HU.out.boxed hB0 b3 (Nat.le_refl _)) (by omega) (by omega)) (by omega) (by omega) (Below.refl _ _) (fun _ => rfl)
    (fun (pre : List (Ev n)) Z W => HoldD (w.heap.size + 1) (w.heap.size + 4) w (dpE (pre.map fun (x : Ev n) => x.1)) Z W)
    (fun _ _ _ => False)
    ?hI ?hIa ?hIp (fun _ _ _ _ _ _ h _ _ _ => h)
    ?h0
    (fun x => { tmps := #[.agg #[.slice a n cap], .pointer (some ⟨w.heap.size, 0, none⟩), .int .i64 0, .pointer (some ⟨w.heap.size + 1, 0, none⟩), .pointer (some ⟨w.heap.size + 1 + 1, 0, none⟩), undef, .bool x.1.2, .agg #[.slice a n cap], .func (.func 129) #[] #[.pointer (some ⟨w.heap.size + 1 + 1 + 1, 0, none⟩)], .int .i64 (x.1.1 : Nat), .bool x.1.2, undef, undef, undef, undef, undef, undef, undef, undef, undef], defers := [] }) ?assign ?body ?done ?stop
  case hI => intro pre Z A B h hO; exact h.outs hO
  case hIa => intro pre Z A o h; exact h.alloc o
  case hIp => intro pre Z A l o o' h hl hlo hc; exact h.put (by omega) hlo
  case h0 => exact ⟨⟨b1, b2⟩, ⟨fun h => h, fun h => h⟩, by omega, by omega, fun k h => h.elim, hB0, by omega⟩
  case assign =>
    intro l x W K hK
    dsimp only [encE]
    gi_wp2
    exact hK
  case body =>
    rintro l pre Z ⟨⟨i, gi⟩, hi⟩ W hI hpre
    have hlen : pre.length < (evA K n).length := by have := hpre.length_le; simp at this; omega
    clear hpre
    have HI := Lib.hid hI
    have hbd := dpE_bd (pre.map fun (x : Ev n) => x.1)
    rw [List.length_map] at hbd
    have HE : Hid (dpE ((pre ++ [(⟨(i, gi), hi⟩ : Ev n)]).map fun (x : Ev n) => x.1) = dpS (dpE (pre.map fun (x : Ev n) => x.1)) (i, gi)) := Lib.hid (by rw [List.map_append, List.map_singleton, dpE_snoc])
    generalize dpE (pre.map fun (x : Ev n) => x.1) = s at *
    obtain ⟨d, m⟩ := s
    dsimp only at hbd
    have hd1 : d ≤ 1000000 := by omega
    have hd2 : -1000000 ≤ d := by omega
    have hm1 : m ≤ 1000000 := by omega
    have hm2 : 0 ≤ m := hbd.2.2.1
    have hc1 := hI.1.1.cell
    have hf1 := hI.1.1.frozen
    have hc2 := hI.1.2.cell
    have hf2 := hI.1.2.frozen
    have keep : ∀ (u : Int) (j : Nat), (j = w.heap.size + 1 ∨ j = w.heap.size + 1 + 1) → ∀ A : World, KeepsFrom (w.heap.size + 4) A (A.setCell ⟨j, 0, none⟩ (.int .i64 u)) ∧ (Below w.heap.size A (A.setCell ⟨j, 0, none⟩ (.int .i64 u)) ∧ (A.setCell ⟨j, 0, none⟩ (.int .i64 u)).heap[w.heap.size + 1 + 1 + 1]? = A.heap[w.heap.size + 1 + 1 + 1]?) ∧ ∀ k, Z k → (A.setCell ⟨j, 0, none⟩ (.int .i64 u)).heap[k]? = A.heap[k]? := fun u j hj A =>
      ⟨(KeepsOthers.setCell _ _ _).from _, ⟨(Below.refl _ _).setCell (p := ⟨j, 0, none⟩) (by show w.heap.size ≤ j; omega) _, heap_setCell_other A ⟨j, 0, none⟩ _ _ (by show w.heap.size + 1 + 1 + 1 ≠ j; omega)⟩,
        fun k hk => heap_setCell_other A ⟨j, 0, none⟩ k _ (by have := (HI.out.2.2.2.2.1 k hk).1; show k ≠ j; omega)⟩
    cases gi with
    | false =>
      gi_wp2
      obtain ⟨k1, k2, k3⟩ := keep (d - 1) _ (.inl rfl) W
      refine ⟨k1, k2, k3, ?_⟩
      show HoldD _ _ _ (dpE ((pre ++ [(⟨(i, false), hi⟩ : Ev n)]).map fun (x : Ev n) => x.1)) Z _
      rw [HE.out]
      have h1 := HI.out.set (w.heap.size + 1) (.inl rfl) (d - 1)
      rw [if_pos rfl] at h1
      exact h1
    | true =>
      have fin : ∀ q : Int, q = max m d → postZ (w.heap.size + 4) w.heap.size (w.heap.size + 1 + 1 + 1) (fun (pre : List (Ev n)) Z W => HoldD (w.heap.size + 1) (w.heap.size + 4) w (dpE (pre.map fun (x : Ev n) => x.1)) Z W) (fun _ _ _ => False) (pre ++ [⟨(i, true), hi⟩]) Z W Exit.normal { tmps := #[], defers := [] }
          ((W.setCell ⟨w.heap.size + 1 + 1, 0, none⟩ (.int .i64 q)).setCell ⟨w.heap.size + 1, 0, none⟩ (.int .i64 (d + 1))) := fun q hq => by
        obtain ⟨k1, k2, k3⟩ := keep q _ (.inr rfl) W
        obtain ⟨j1, j2, j3⟩ := keep (d + 1) _ (.inl rfl) (W.setCell ⟨w.heap.size + 1 + 1, 0, none⟩ (.int .i64 q))
        refine ⟨k1.trans j1, ⟨k2.1.trans j2.1, j2.2.trans k2.2⟩, fun k hk => (j3 k hk).trans (k3 k hk), ?_⟩
        show HoldD _ _ _ (dpE ((pre ++ [(⟨(i, true), hi⟩ : Ev n)]).map fun (x : Ev n) => x.1)) Z _
        rw [HE.out]
        have h1 := HI.out.set (w.heap.size + 1 + 1) (.inr rfl) q
        rw [if_neg (by omega)] at h1
        have h2 := h1.set (w.heap.size + 1) (.inl rfl) (d + 1)
        rw [if_pos rfl] at h2
        have e : dpS (d, m) (i, true) = (d + 1, q) := by unfold dpS; rw [if_pos rfl, hq]
        rw [e]
        exact h2
      gi_wp2
      · exact fin _ (by omega)
      · exact fin _ (by omega)
  case done =>
    rintro D ys Z W hD hall hI hK
    have hc2 := hI.1.2.cell
    rw [hall] at hc2
    gi_wp2
    refine ⟨by simp, .inl ⟨_, _, rfl, run_takeDeferred hK, ?_⟩⟩
    exact ⟨_, results_tmp rfl _ _ _, rfl, hI.2.2.2.2.2.1.trans (put_below (by omega) hK)⟩
  case stop =>
    rintro D c pre W _ _ h _
    exact h.elim
end Go.Proofs.Ytkkngflpmdcfjaa
