/-
  slices.Backward at numbers: the places and the numbers of a list, the last one first.
-/
import Derived.Test.YtkkngflpmdcfjaaYLaw
import Derived.Test.YtkkngflpmdcfjaaNInts
import Derived.OwnWalkIn
import Derived.TacticsInMore
import Derived.LoopNIn
import Derived.LoopIn
import Derived.Shelf.Abstract
namespace Go.Proofs.Ytkkngflpmdcfjaa
open Go.RowKit

attribute [local go_sem] Oper.semAt_some
/-- A list's places and numbers, from its first so many back. -/
def bkN (zs : List Int) : Nat → List (Nat × Int)
  | 0 => []
  | k + 1 => (k, zs.getD k 0) :: bkN zs k
def bk (zs : List Int) : List (Nat × Int) := bkN zs zs.length
def encI (x : Nat × Int) : Array Value := #[.int .i64 (x.1 : Nat), .int .i64 x.2]
/-- A list in blocks below n₀. -/
def IntsB (W : World) (n₀ : Nat) (a : Option Addr) (zs : List Int) : Prop :=
  zs ≠ [] → ∃ b off, a = some ⟨b, off, none⟩ ∧ b < n₀ ∧ ∀ j (h : j < zs.length), W.cell? ⟨b, off + j, none⟩ = some (.int .i64 zs[j])
theorem IntsB.below {W W' : World} {n₀ : Nat} {a : Option Addr} {zs : List Int} (h : IntsB W n₀ a zs) (hb : Below n₀ W W') : IntsB W' n₀ a zs := fun hne => by
  obtain ⟨b, off, rfl, hlt, hc⟩ := h hne
  exact ⟨b, off, rfl, hlt, fun j hj => (hb.cell (p := ⟨b, off + j, none⟩) hlt).trans (hc j hj)⟩
theorem IntsAt.b {w : World} {a : Option Addr} {zs : List Int} (h : IntsAt w a zs) : IntsB w w.heap.size a zs := fun hne => by
  obtain ⟨b, off, rfl, hlt, hc⟩ := h hne
  exact ⟨b, off, rfl, hlt, hc⟩

set_option maxRecDepth 100000 in
set_option maxHeartbeats 2000000 in
theorem back_seq (F : Fence) (m : Nat) (h6 : F.fn 167) (hro : F.round = none) (hm : 1 ≤ m) (Bn n₀ : Nat) (a : Option Addr) (cap : Nat) (zs : List Int) (hz : zs.length ≤ 1000000) (w : World)
    (hT : IntsB w n₀ a zs) (hbox : w.heap[Bn]? = some (.cells #[.slice a zs.length cap] 29 (0, 0))) (hn₀ : n₀ ≤ w.heap.size) :
    SeqY F m Try.prog 167 #[.pointer (some ⟨Bn, 0, none⟩)] encI n₀ Bn (fun xs => xs = bk zs) (fun pre => pre <+: bk zs) w := by
  intro lp J Jx W hbW hJ hJx hY h0
  have HY := Lib.hid hY
  have hb0 : Bn < w.heap.size := (Array.getElem?_eq_some_iff.1 hbox).1
  have HT0 : Hid (IntsB W n₀ a zs) := Lib.hid (hT.below (hbW.mono hn₀))
  have HX0 : Hid (W.heap[Bn]? = some (.cells #[.slice a zs.length cap] 29 (0, 0))) := Lib.hid ((hbW.block _ hb0).trans hbox)
  have tc : W.cell? ⟨Bn, 0, none⟩ = some (.slice a zs.length cap) := cell_of_row W Bn 0 _ _ (0, 0) HX0.out
  have HJ0 := Lib.hid h0
  have hz2 : (zs.length : Int) ≤ 1000000 := by omega
  clear hT hbox hY hJ hJx h0 hbW
  show CallsIn F m Try.prog 167 #[.func (.yield lp) #[] #[], .pointer (some ⟨Bn, 0, none⟩)] W _
  refine callsIn_of_wp Try.func167 rfl h6 ?_ hro
  simp only [Try.ntmps167, List.size_toArray, List.length_cons, List.length_nil, Nat.reduceAdd, Nat.reduceSub, Array.replicate_succ, Array.replicate_zero, List.push_toArray, List.append_toArray, List.nil_append, List.cons_append]
  gi_wp2
  clear tc
  gi_loopw [3] (fun v wr => ∃ (j : Nat) (pre : List (Nat × Int)), j ≤ zs.length ∧ v = .int .i64 ((j : Int) - 1) ∧ pre ++ bkN zs j = bk zs ∧ J pre (fun _ => False) wr ∧ wr.heap[Bn]? = some (.cells #[.slice a zs.length cap] 29 (0, 0)) ∧ IntsB wr n₀ a zs) (fun v _ => (intOf v + 1).toNat)
  case atStart => exact ⟨zs.length, [], Nat.le_refl _, rfl, rfl, HJ0.out, HX0.out, HT0.out⟩
  case round =>
    clear HJ0 HX0 HT0
    obtain ⟨j, pre, hj, rfl, hall, hi, hx, ht⟩ := hrel
    have HX := Lib.hid hx
    have HT := Lib.hid ht
    have HI := Lib.hid hi
    have tc : wr.cell? ⟨Bn, 0, none⟩ = some (.slice a zs.length cap) := cell_of_row wr Bn 0 _ _ (0, 0) hx
    clear hx ht hi
    cases j with
    | zero =>
      have HA : Hid (pre = bk zs) := Lib.hid (by simpa [bkN] using hall)
      clear hall
      gi_wp2
      exact ⟨rfl, _, results_none rfl _ _ _, ⟨_, rfl⟩, .inl ⟨_, _, HA.out, HI.out⟩⟩
    | succ j =>
      obtain ⟨b, off, rfl, hb, hc⟩ := HT.out (fun e => by rw [e] at hj; simp at hj)
      have hcj := hc j (by omega)
      have hp : (pre ++ [(j, zs[j])]) ++ bkN zs j = bk zs := by
        rw [← hall, List.append_assoc]
        show _ = pre ++ (j, zs.getD j 0) :: bkN zs j
        rw [List.getD_eq_getElem?_getD, List.getElem?_eq_getElem (by omega)]; rfl
      have HP := Lib.hid hp
      obtain ⟨fn, tmps, assign, body, hy, hY2⟩ := HY.out pre _ (j, zs[j]) wr HI.out ⟨_, hp⟩
      dsimp only [encI] at hy
      have hj0 : (0 : Int) ≤ (j : Int) := by omega
      have hj1 : (j : Int) < (zs.length : Int) := by omega
      have hj2 : (((j + 1 : Nat) : Int) - 1) = (j : Int) := by omega
      rw [hj2]
      clear hp hall hc hj2
      generalize zs[j] = z at *
      gi_wp2
      refine hY2.mono ?_
      rintro e W3 (⟨rfl, hJ3, hb3, _, _⟩ | ⟨rfl, hJx3, _⟩)
      · have HX3 : Hid (W3.heap[Bn]? = some (.cells #[.slice (some ⟨b, off, none⟩) zs.length cap] 29 (0, 0))) := Lib.hid (hb3.2.trans HX.out)
        have HT3 := Lib.hid (HT.out.below hb3.1)
        have HJ3 := Lib.hid hJ3
        clear hJ3 hb3
        gi_wp2
        go_roundw
        case rel => exact ⟨j, _, by omega, rfl, HP.out, HJ3.out, HX3.out, HT3.out⟩
        case measure => simp [intOf] <;> omega
      · have HJx3 := Lib.hid hJx3
        clear hJx3
        gi_wp2
        refine bodyPost_ret (results_none rfl _ _ _) rfl ?_
        exact ⟨⟨_, rfl⟩, .inr ⟨_, _, ⟨_, HP.out⟩, HJx3.out⟩⟩
end Go.Proofs.Ytkkngflpmdcfjaa
