/-
  The iterator's contract; the walk of List.
-/
import Derived.Shelf.Abstract
import Derived.Test.YtkkngflpmdcfjaaOIter
namespace Go.Proofs.Ytkkngflpmdcfjaa
open Go.RowKit

attribute [local go_sem] Oper.semAt_some

set_option maxHeartbeats 1000000 in
theorem steps_any (F : Fence) (m : Nat) (hF : F.fn 79) (hro : F.round = none) (u : Value) (w : World) (hu : ∃ a n c, u = .slice a n c) :
    CallsIn F m Try.prog 79 #[.agg #[u]] w fun e w' => e = .returned (.func (.func 129) #[] #[.pointer (some ⟨w.heap.size, 0, none⟩)]) ∧ w.alloc (.cells #[u] 24) = w' := by
  obtain ⟨a, n, c, rfl⟩ := hu
  refine callsIn_of_wp Try.func79 rfl hF ?_ hro
  simp only [Try.ntmps79, List.size_toArray, List.length_cons, List.length_nil, Nat.reduceAdd, Nat.reduceSub, Array.replicate_succ, Array.replicate_zero, List.push_toArray, List.append_toArray, List.nil_append, List.cons_append]
  gi_wp2
  go_ret
  exact ⟨rfl, rfl⟩
theorem steps_stops (F : Fence) (m : Nat) (hF : F.fn 129) (hro : F.round = none) (hm : 1 ≤ m) (Bn n₀ n : Nat) (hn : n ≤ 10000) (K : Nat → List Int) (hms : ms K n (fun _ => false) [(0, [0])] + 1 ≤ 1000000) (w : World) (hT : TreeR w n₀ Bn n K) (hn₀ : n₀ ≤ w.heap.size) (hBn : Bn < w.heap.size) :
    SeqZ F m Try.prog 129 #[.pointer (some ⟨Bn, 0, none⟩)] (encE (n := n)) n₀ Bn (fun xs => xs.map (fun x => x.1) = evA K n) (fun pre => pre.map (fun x => x.1) <+: evA K n) w := fun l J Jx W hW hJ hY h0 =>
  (steps1_in F m hF hro hm l Bn n₀ n hn K hms J Jx W hJ hY (hT.below (hW.mono hn₀) (hW.block Bn hBn)) (Nat.le_trans hn₀ hW.size) (Nat.lt_of_lt_of_le hBn hW.size) h0).mono fun _ _ h => ⟨h.1, h.2.elim (fun ⟨xs, Z, h1, h2⟩ => .inl ⟨xs, Z, h1, h2⟩) (fun ⟨p, h1, h2⟩ => .inr ⟨p, h1, h2⟩)⟩
/-- A tree as it is read, with room in its lists. -/
structure TreeV (w : World) (u : Value) (n : Nat) (K : Nat → List Int) : Prop where
  box : ∃ a cap, u = .slice a n cap ∧ n ≤ cap ∧ (0 < n → ∃ b off, a = some ⟨b, off, none⟩ ∧ b < w.heap.size ∧
    ∀ i, i < n → ∃ ka kc, w.cell? ⟨b, off + i * 7 + 6, none⟩ = some (.slice ka (K i).length kc) ∧ (K i).length ≤ kc ∧ (K i ≠ [] → ∃ kb ko, ka = some ⟨kb, ko, none⟩ ∧ kb < w.heap.size ∧ ∀ j (h : j < (K i).length), w.cell? ⟨kb, ko + j, none⟩ = some (.int .i64 (K i)[j])))
theorem TreeV.below {w w' : World} {u : Value} {n : Nat} {K : Nat → List Int} (h : TreeV w u n K) (hb : Below w.heap.size w w') : TreeV w' u n K := by
  obtain ⟨a, cap, h1, h2, h3⟩ := h.box
  refine ⟨a, cap, h1, h2, fun hn => ?_⟩
  obtain ⟨b, off, ea, hb0, hc⟩ := h3 hn
  refine ⟨b, off, ea, Nat.lt_of_lt_of_le hb0 hb.size, fun i hi => ?_⟩
  obtain ⟨ka, kc, k1, k2, k3⟩ := hc i hi
  refine ⟨ka, kc, (hb.cell (p := ⟨b, off + i * 7 + 6, none⟩) hb0).trans k1, k2, fun hne => ?_⟩
  obtain ⟨kb, ko, e, hkb, hkc⟩ := k3 hne
  exact ⟨kb, ko, e, Nat.lt_of_lt_of_le hkb hb.size, fun j hj => (hb.cell (p := ⟨kb, ko + j, none⟩) hkb).trans (hkc j hj)⟩
theorem TreeV.boxed {w w' : World} {u : Value} {n : Nat} {K : Nat → List Int} {Bn n₀ : Nat} (h : TreeV w u n K) (hb : Below w.heap.size w w') (hB : w'.heap[Bn]? = some (.cells #[u] 24 (0, 0))) (h1 : w.heap.size ≤ n₀) : TreeR w' n₀ Bn n K := by
  obtain ⟨a, cap, rfl, hc, h3⟩ := h.box
  refine ⟨⟨a, cap, hB, hc, fun hn => ?_⟩⟩
  obtain ⟨b, off, ea, hb0, hcc⟩ := h3 hn
  refine ⟨b, off, ea, by omega, fun i hi => ?_⟩
  obtain ⟨ka, kc, k1, k2, k3⟩ := hcc i hi
  refine ⟨ka, kc, (hb.cell (p := ⟨b, off + i * 7 + 6, none⟩) hb0).trans k1, k2, fun hne => ?_⟩
  obtain ⟨kb, ko, e, hkb, hkc⟩ := k3 hne
  exact ⟨kb, ko, e, by omega, fun j hj => (hb.cell (p := ⟨kb, ko + j, none⟩) hkb).trans (hkc j hj)⟩
/-- The nodes that are gone into, in their order. -/
def insE (A : List (Nat × Bool)) : List Int := (A.filter fun x => x.2).map fun x => (x.1 : Int)
theorem insE_snoc_t (A : List (Nat × Bool)) (i : Nat) : insE (A ++ [(i, true)]) = insE A ++ [(i : Int)] := by simp [insE]
theorem insE_snoc_f (A : List (Nat × Bool)) (i : Nat) : insE (A ++ [(i, false)]) = insE A := by simp [insE]
theorem insE_len (A : List (Nat × Bool)) : (insE A).length ≤ A.length := by unfold insE; rw [List.length_map]; exact List.length_filter_le _ _
/-- A variable with a list of numbers that is the caller's own. -/
def HoldK (B : Nat) (n₀ : Nat) (w : World) (xs : List Int) (Z : Nat → Prop) (W : World) : Prop :=
  (∃ v, Boxed W B 29 v ∧ KR W v xs ∧ (∀ g, v.ownBlock = some g → n₀ ≤ g ∧ g < W.heap.size ∧ ¬ Z g)) ∧ ¬ Z B ∧ w.heap.size ≤ B ∧ B < n₀ ∧ (∀ k, Z k → n₀ ≤ k ∧ k < W.heap.size) ∧ Below w.heap.size w W ∧ n₀ ≤ W.heap.size ∧ w.heap.size ≤ n₀
theorem HoldK.outs {B n₀ : Nat} {w A W : World} {xs : List Int} {Z : Nat → Prop} (h : HoldK B n₀ w xs Z A) (hO : Outs Z A W) : HoldK B n₀ w xs (Zs Z A W) W := by
  obtain ⟨⟨v, hv, hk, ho⟩, hzB, hwB, hB, hz, hb, hn, hw⟩ := h
  have hBl := hv.lt
  refine ⟨⟨v, (hO.block B hBl hzB).trans hv, hk.kept fun g hg => hO.block g (ho g hg).2.1 (ho g hg).2.2, fun g hg => ⟨(ho g hg).1, Nat.lt_of_lt_of_le (ho g hg).2.1 hO.size, fun e => e.elim (ho g hg).2.2 (fun h => by have := (ho g hg).2.1; omega)⟩⟩, fun e => e.elim hzB (fun h => by omega), hwB, hB, fun k hk => hk.elim (fun h => ⟨(hz k h).1, Nat.lt_of_lt_of_le (hz k h).2 hO.size⟩) (fun h => ⟨by omega, h.2⟩), ?_, Nat.le_trans hn hO.size, hw⟩
  exact ⟨hO.os.trans hb.os, hO.tape.trans hb.tape, hO.output.trans hb.output, Nat.le_trans hb.size hO.size, fun k hk => (hO.block k (Nat.lt_of_lt_of_le hk hb.size) (fun e => by have := (hz k e).1; omega)).trans (hb.block k hk)⟩
theorem HoldK.alloc {B n₀ : Nat} {w A : World} {xs : List Int} {Z : Nat → Prop} (h : HoldK B n₀ w xs Z A) (o : Obj) : HoldK B n₀ w xs Z (A.alloc o) := by
  obtain ⟨⟨v, hv, hk, ho⟩, hzB, hwB, hB, hz, hb, hn, hw⟩ := h
  have hs : A.heap.size ≤ (A.alloc o).heap.size := by simp
  exact ⟨⟨v, hv.alloc o, hk.kept fun g hg => Below.heap_alloc _ _ _ (ho g hg).2.1, fun g hg => ⟨(ho g hg).1, Nat.lt_of_lt_of_le (ho g hg).2.1 hs, (ho g hg).2.2⟩⟩, hzB, hwB, hB, fun k hk => ⟨(hz k hk).1, Nat.lt_of_lt_of_le (hz k hk).2 hs⟩, hb.alloc hb.size o, Nat.le_trans hn hs, hw⟩
theorem HoldK.put {B n₀ : Nat} {w A : World} {xs : List Int} {Z : Nat → Prop} (h : HoldK B n₀ w xs Z A) {l : Nat} {o o' : Obj} (hl : n₀ ≤ l) (hlo : A.heap[l]? = some o) (hc : o.isCells = false) : HoldK B n₀ w xs Z (A.putObj l o') := by
  obtain ⟨⟨v, hv, hk, ho⟩, hzB, hwB, hB, hz, hb, hn, hw⟩ := h
  have hs : (A.putObj l o').heap.size = A.heap.size := Nat.le_antisymm (by simp [World.putObj]) (grownBy_putObj' A l o').size
  refine ⟨⟨v, (World.putObj_heap_other (by omega)).trans hv, hk.kept fun g hg => World.putObj_heap_other (fun e => ?_), fun g hg => by rw [hs]; exact ho g hg⟩, hzB, hwB, hB, fun k hk => by rw [hs]; exact hz k hk, hb.trans (put_below (by omega) hlo), by rw [hs]; exact hn, hw⟩
  obtain ⟨c, fz, hc2⟩ := hk.kind hg
  first
    | (rw [e] at hc2; rw [hlo] at hc2; cases hc2; cases hc)
    | (rw [← e] at hc2; rw [hlo] at hc2; cases hc2; cases hc)
theorem evs_len (K : Nat → List Int) (n : Nat) : ∀ (f : Nat) (seen : Nat → Bool) (s : Stk), (evs K n f seen s).length ≤ f
  | 0, _, _ => Nat.le_refl _
  | _ + 1, _, [] => Nat.zero_le _
  | f + 1, seen, (nd, []) :: rest => by
    unfold evs
    split
    · exact Nat.zero_le _
    · have := evs_len K n f seen rest; simp only [List.length_cons]; omega
  | f + 1, seen, (nd, k :: ks) :: rest => by
    unfold evs
    split
    · have := evs_len K n f (mark1 seen k.toNat) ((k.toNat, K k.toNat) :: (nd, ks) :: rest); simp only [List.length_cons]; omega
    · have := evs_len K n f seen ((nd, ks) :: rest); omega
theorem evA_len {K : Nat → List Int} {n : Nat} (hms : ms K n (fun _ => false) [(0, [0])] + 1 ≤ 1000000) : (evA K n).length ≤ 1000000 := Nat.le_trans (evs_len K n _ _ _) hms
def RetK (xs : List Int) (w : World) (e : Ending) (w' : World) : Prop := ∃ v, e = .returned v ∧ KR w' v xs ∧ (∀ g, v.ownBlock = some g → w.heap.size ≤ g) ∧ Below w.heap.size w w'

set_option maxRecDepth 100000 in
set_option maxHeartbeats 4000000 in
theorem list_any (u : Value) (n : Nat) (K : Nat → List Int) (w : World) (hu : TreeV w u n K) (hn : n ≤ 10000) (hms : ms K n (fun _ => false) [(0, [0])] + 1 ≤ 1000000) :
    Calls Try.prog 20 #[.agg #[u]] w (RetK (insE (evA K n)) w) := by
  have HU := Lib.hid hu
  have hle := evA_len hms
  obtain ⟨⟨a, cap, rfl, hcap, _⟩⟩ := hu
  refine (callsIn_wide (n := 3)).1 ?_
  refine callsIn_of_wp_marks Try.func20 rfl trivial ?_ rfl
  simp only [Try.ntmps20, List.size_toArray, List.length_cons, List.length_nil, Nat.reduceAdd, Nat.reduceSub, Array.replicate_succ, Array.replicate_zero, List.push_toArray, List.append_toArray, List.nil_append, List.cons_append]
  gi_wp2_with (refine ⟨trivial, ?_⟩; gi_at_call 79; refine (steps_any Fence.wide _ trivial rfl _ _ ⟨_, _, _, rfl⟩).mono ?_; rintro e w' ⟨rfl, rfl⟩)
  have b1 := Boxed.new (w.alloc (.cells #[.slice a n cap] 24)) 29 (.slice none 0 0)
  have b2 := heap_alloc_new ((w.alloc (.cells #[.slice a n cap] 24)).alloc (.cells #[.slice none 0 0] 29)) (.cells #[.slice a n cap] 24)
  replace b1 := b1.alloc (.cells #[.slice a n cap] 24)
  rw [World.size_alloc] at b1
  rw [World.size_alloc, World.size_alloc] at b2
  have hB0 : Below w.heap.size w (((w.alloc (.cells #[.slice a n cap] 24)).alloc (.cells #[.slice none 0 0] 29)).alloc (.cells #[.slice a n cap] 24)) := (((Below.refl _ w).alloc (Nat.le_refl _) _).alloc (by simp) _).alloc (by simp; omega) _
  have hsz : (((w.alloc (.cells #[.slice a n cap] 24)).alloc (.cells #[.slice none 0 0] 29)).alloc (.cells #[.slice a n cap] 24)).heap.size = w.heap.size + 3 := by simp
  generalize ((w.alloc (.cells #[.slice a n cap] 24)).alloc (.cells #[.slice none 0 0] 29)).alloc (.cells #[.slice a n cap] 24) = w3 at *
  refine wpIn_rangeFunc_Z rfl (by omega) (gf := 129) (lb := #[.pointer (some ⟨w.heap.size + 1 + 1, 0, none⟩)]) rfl trivial (enters_of Try.func129 (by kernel_rfl) rfl)
    (steps_stops Fence.wide _ trivial rfl (by omega) (w.heap.size + 1 + 1) w.heap.size n hn K hms w3 (HU.out.boxed hB0 b2 (Nat.le_refl _)) (by omega) (by omega)) (by omega) (by omega) (Below.refl _ _) (fun _ => rfl)
    (fun (pre : List (Ev n)) Z W => HoldK (w.heap.size + 1) (w.heap.size + 3) w (insE (pre.map fun (x : Ev n) => x.1)) Z W)
    (fun _ _ _ => False)
    ?hI ?hIa ?hIp (fun _ _ _ _ _ _ h _ _ _ => h)
    ?h0
    (fun x => { tmps := #[.agg #[.slice a n cap], .pointer (some ⟨w.heap.size, 0, none⟩), .slice none 0 0, .pointer (some ⟨w.heap.size + 1, 0, none⟩), .int .i64 (x.1.1 : Nat), .bool x.1.2, .agg #[.slice a n cap], .func (.func 129) #[] #[.pointer (some ⟨w.heap.size + 1 + 1, 0, none⟩)], .int .i64 (x.1.1 : Nat), .bool x.1.2, undef, undef, undef, undef, undef, undef], defers := [] }) ?assign ?body ?done ?stop
  case hI => intro pre Z A B h hO; exact h.outs hO
  case hIa => intro pre Z A o h; exact h.alloc o
  case hIp => intro pre Z A l o o' h hl hlo hc; exact h.put (by omega) hlo hc
  case h0 => exact ⟨⟨_, b1, ⟨World.ownsRow_nil _ _ _ _, okRow_none⟩, fun g h => (by cases h)⟩, fun h => h, by omega, by omega, fun k h => h.elim, hB0, by omega, by omega⟩
  case assign =>
    intro l x W K hK
    dsimp only [encE]
    gi_wp2
    exact hK
  case body =>
    rintro l pre Z ⟨⟨i, gi⟩, hi⟩ W hI hpre
    have hlen : pre.length < (evA K n).length := by have := hpre.length_le; simp at this; omega
    clear hpre
    have HI := Lib.hid hI
    obtain ⟨⟨v, hv, hk, ho⟩, hzB, hwB, hB, hz, hb, hn1, hw⟩ := hI
    cases gi with
    | false =>
      gi_wp2
      refine ⟨KeepsFrom.refl _ _, ⟨Below.refl _ _, rfl⟩, fun _ _ => rfl, ?_⟩
      show HoldK _ _ _ (insE ((pre ++ [(⟨(i, false), hi⟩ : Ev n)]).map fun x => x.1)) _ _
      rw [List.map_append, List.map_singleton, insE_snoc_f]
      exact HI.out
    | true =>
      have hxl : (insE (pre.map fun x => x.1)).length ≤ 1000000 := by
        have h1 := insE_len (pre.map fun x => x.1)
        rw [List.length_map] at h1
        omega
      have HE : Hid (insE ((pre ++ [(⟨(i, true), hi⟩ : Ev n)]).map fun x => x.1) = insE (pre.map fun x => x.1) ++ [(i : Int)]) := Lib.hid (by rw [List.map_append, List.map_singleton, insE_snoc_t])
      generalize insE (pre.map fun x => x.1) = xs at *
      obtain ⟨va, vc, ev, _, _, _, _⟩ := hk.form
      subst ev
      obtain ⟨v5, w5, hr5, hK5, hg5, hat5⟩ := run_append_ints (W.alloc (.cells #[.int .i64 (i : Nat)] 3)) 29 _ xs (hk.alloc _) (some ⟨W.heap.size, 0, none⟩) 1 [(i : Int)] (one_int W i) (by simp; omega)
      obtain ⟨va5, vc5, ev5, _, _, _, _⟩ := hK5.form
      subst ev5
      have hc := hv.cell
      have hsa : (W.alloc (.cells #[.int .i64 (i : Nat)] 3)).heap.size = W.heap.size + 1 := by simp
      have hne : some (w.heap.size + 1) ≠ (Value.slice va xs.length vc).ownBlock := fun e => by have := (ho _ e.symm).1; omega
      have hv5 : Boxed w5 (w.heap.size + 1) 29 (.slice va xs.length vc) := (hg5.block _ (by have := hv.lt; omega) hne).trans (hv.alloc _)
      have hc5 := hv5.cell
      have hf5 := hv5.frozen
      have hs5 : W.heap.size + 1 ≤ w5.heap.size := by have := hg5.size; omega
      have key : ∀ (u : Value) k, k < W.heap.size → k ≠ w.heap.size + 1 → some k ≠ (Value.slice va xs.length vc).ownBlock → (w5.setCell ⟨w.heap.size + 1, 0, none⟩ u).heap[k]? = W.heap[k]? := fun u k hk1 hk2 hk3 =>
        (heap_setCell_other w5 ⟨w.heap.size + 1, 0, none⟩ k u hk2).trans ((hg5.block k (by omega) hk3).trans (Below.heap_alloc _ _ _ hk1))
      have HKey := Lib.hid key
      have HK5 := Lib.hid hK5
      have HAt := Lib.hid hat5
      have HV5 := Lib.hid hv5
      have HOs : Hid (w5.os = W.os ∧ w5.tape = W.tape ∧ w5.output = W.output) := Lib.hid ⟨hg5.os, hg5.tape, hg5.output⟩
      rw [List.length_append, List.length_singleton] at hr5
      clear key hK5 hat5 hg5 hv5
      gi_wp2_with (gi_at_builtin; refine wpListIn_append_run _ rfl _ _ _ rfl _ _ rfl rfl _ _ hr5 ?_)
      have hsS : ∀ u, (w5.setCell ⟨w.heap.size + 1, 0, none⟩ u).heap.size = w5.heap.size := fun u => by simp
      refine ⟨⟨by rw [hsS]; omega, fun k o hk0 hko hoc => ?_⟩, ⟨⟨HOs.out.1, HOs.out.2.1, HOs.out.2.2, by rw [hsS]; omega, fun k hkw => ?_⟩, ?_⟩, fun k hkz => ?_, ?_⟩
      · refine (HKey.out _ k (Array.getElem?_eq_some_iff.1 hko).1 (by omega) (fun e => ?_)).trans hko
        obtain ⟨c9, fz9, hc9⟩ := hk.kind e.symm
        rw [hko] at hc9
        cases hc9
        cases hoc
      · exact HKey.out _ k (Nat.lt_of_lt_of_le hkw hb.size) (by omega) (fun e => by have := (ho _ e.symm).1; omega)
      · exact HKey.out _ _ (by omega) (by omega) (fun e => by have := (ho _ e.symm).1; omega)
      · exact HKey.out _ k (hz k hkz).2 (fun e => hzB (e ▸ hkz)) (fun e => (ho _ e.symm).2.2 hkz)
      · show HoldK _ _ _ (insE ((pre ++ [(⟨(i, true), hi⟩ : Ev n)]).map fun x => x.1)) _ _
        rw [HE.out]
        have ho5 : ∀ g, (Value.slice va5 (xs ++ [(i : Int)]).length vc5).ownBlock = some g → w.heap.size + 3 ≤ g ∧ g < w5.heap.size ∧ ¬ Z g := fun g hg => by
          rcases HAt.out with h1 | h1
          · have h2 := ho g (h1 ▸ hg)
            exact ⟨h2.1, by omega, h2.2.2⟩
          · rw [h1] at hg
            have : g = W.heap.size + 1 := by simpa [hsa] using hg.symm
            subst this
            have h3 := HK5.out.lt _ h1
            exact ⟨by omega, by rw [hsa] at h3; exact h3, fun e => by have := (hz _ e).2; omega⟩
        have hlen : (xs ++ [(i : Int)]).length = xs.length + 1 := by simp
        rw [← hlen]
        refine ⟨⟨_, HV5.out.set _, HK5.out.kept fun g hg => heap_setCell_other w5 ⟨w.heap.size + 1, 0, none⟩ g _ (by have := (ho5 g hg).1; show g ≠ w.heap.size + 1; omega), fun g hg => ⟨(ho5 g hg).1, by rw [hsS]; exact (ho5 g hg).2.1, (ho5 g hg).2.2⟩⟩, hzB, hwB, hB, fun k hk1 => ⟨(hz k hk1).1, by rw [hsS]; have := (hz k hk1).2; omega⟩, ?_, by rw [hsS]; omega, hw⟩
        exact hb.trans ⟨HOs.out.1, HOs.out.2.1, HOs.out.2.2, by rw [hsS]; omega, fun k hkw => HKey.out _ k (Nat.lt_of_lt_of_le hkw hb.size) (by omega) (fun e => by have := (ho _ e.symm).1; omega)⟩
  case done =>
    rintro D ys Z W hD hall ⟨⟨v, hv, hk, ho⟩, hzB, hwB, hB, hz, hb, hn1, hw⟩ hK
    have hc := hv.cell
    obtain ⟨va, vc, ev, _, _, _, _⟩ := hk.form
    subst ev
    rw [hall] at hk ho hc
    gi_wp2
    refine ⟨by simp, .inl ⟨_, _, rfl, run_takeDeferred hK, ?_⟩⟩
    refine ⟨_, results_tmp rfl _ _ _, _, rfl, ?_, fun g hg => by have := (ho g hg).1; omega, hb.trans (put_below (by omega) hK)⟩
    refine hk.kept fun g hg => World.putObj_heap_other (fun e => ?_)
    obtain ⟨c9, fz9, hc9⟩ := hk.kind hg
    first
      | (rw [e, hK] at hc9; cases hc9)
      | (rw [← e, hK] at hc9; cases hc9)
  case stop =>
    rintro D c pre W _ _ h _
    exact h.elim
end Go.Proofs.Ytkkngflpmdcfjaa
