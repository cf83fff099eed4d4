/-
  The walk of some: the tree of the examples.
-/
import Derived.Test.YtkkngflpmdcfjaaNAwake
import Derived.Test.YtkkngflpmdcfjaaOList
namespace Go.Proofs.Ytkkngflpmdcfjaa
open Go.RowKit

def elN (u : Int) (ks : List Int) : Nd := ⟨1, 0, ⟨#[]⟩, .slice none 0 0, ⟨#[]⟩, u, .slice none 0 0, ks, []⟩
/-- The tree behind so many rounds. -/
def Sg : Nat → List Nd
  | 0 => [rootN]
  | 1 => [{ rootN with kids := [1] }, elN 0 []]
  | 2 => [{ rootN with kids := [1] }, elN 0 [2], elN 1 []]
  | _ => [{ rootN with kids := [1, 3] }, elN 0 [2], elN 1 [], elN 0 []]
def upsS : Nat → Int
  | 1 => 1
  | _ => 0
def K4 : Nat → List Int
  | 0 => [1, 3]
  | 1 => [2]
  | _ => []
theorem sg_step : ∀ k, k < 3 → putP (Sg k ++ [elN (-1) []]) (upsS k) 9 ((k : Int) + 1) = Sg (k + 1)
  | 0, _ => by rfl
  | 1, _ => by rfl
  | 2, _ => by rfl
  | k + 3, h => absurd h (by omega)
theorem sg_len : ∀ k, k < 4 → (Sg k).length = k + 1
  | 0, _ => rfl
  | 1, _ => rfl
  | 2, _ => rfl
  | 3, _ => rfl
  | k + 4, h => absurd h (by omega)
theorem sg_kids : ∀ k, k < 4 → ∀ x ∈ Sg k ++ [elN (-1) []], x.kids.length ≤ 100000
  | 0, _ => by intro x hx; simp [Sg] at hx; rcases hx with rfl | rfl <;> simp [rootN, elN]
  | 1, _ => by intro x hx; simp [Sg] at hx; rcases hx with rfl | rfl | rfl <;> simp [elN]
  | 2, _ => by intro x hx; simp [Sg] at hx; rcases hx with rfl | rfl | rfl | rfl <;> simp [elN]
  | 3, _ => by intro x hx; simp [Sg] at hx; rcases hx with rfl | rfl | rfl | rfl | rfl <;> simp [elN]
  | k + 4, h => absurd h (by omega)
theorem sg_k4 : ∀ i (h : i < (Sg 3).length), (Sg 3)[i].kids = K4 i
  | 0, _ => rfl
  | 1, _ => rfl
  | 2, _ => rfl
  | 3, _ => rfl
  | k + 4, h => absurd h (by show ¬ k + 4 < 4; omega)
theorem treeV_of {w : World} {R : Nat → Prop} {v : Value} {l P : List Nd} {K : Nat → List Int} (h : NodesAt w R v l) (hl : l.map norm = P) (hne : 0 < P.length) (hK : ∀ i (h : i < P.length), P[i].kids = K i) : TreeV w v P.length K := by
  have hlen : l.length = P.length := by rw [← hl, List.length_map]
  obtain ⟨g, cap, rfl, hcl, _, hg, hc, _⟩ := h.nr.form (by omega)
  rw [hlen] at hcl
  refine ⟨some ⟨g, 0, none⟩, cap, by rw [hlen], hcl, fun _ => ⟨g, 0, rfl, hg, fun i hi => ?_⟩⟩
  have hi' : i < l.length := by omega
  have e : l[i].kids = K i := by
    rw [← hK i hi]
    have : P[i] = norm l[i] := by
      have h1 := List.getElem_map norm (l := l) (i := i) (h := by rw [List.length_map]; exact hi')
      rw [← h1]; simp only [hl]
    rw [this]; rfl
  obtain ⟨ka, kc, ek, h1, _, hn, h2⟩ := (h.kr i hi').form
  have hcell := hc i hi' 6 (by omega)
  rw [show l[i].cells[6]? = some l[i].kv from rfl, ek, e] at hcell
  rw [Nat.zero_add]
  refine ⟨ka, kc, hcell, by rw [← e]; exact h1, fun hk => ?_⟩
  cases ka with
  | none => have := hn rfl; rw [this, e] at h1; exact absurd (List.eq_nil_of_length_eq_zero (by omega)) hk
  | some ad =>
    obtain ⟨b, rfl, hb, hcc, _⟩ := h2 ad rfl
    refine ⟨b, 0, rfl, hb, fun j hj => ?_⟩
    rw [Nat.zero_add]
    have := hcc j (by rw [e]; exact hj)
    rw [this]; simp only [e]
theorem results_tree {fn : Func} {p : Tmp} (h : fn.results = #[.cell p 24]) (tmps : Array Value) (w : World) (B : Nat) (v : Value)
    (hp : tmps.getD p undef = .pointer (some ⟨B, 0, none⟩)) (hv : w.heap[B]? = some (.cells #[v] 24 (0, 0))) : (results fn tmps).run Try.prog w = .ok (.agg #[v]) w := by
  have hp' : tmps[p]?.getD undef = .pointer (some ⟨B, 0, none⟩) := by simpa using hp
  have hc : w.cell? ⟨B, 0, none⟩ = some v := cell_of_row w B 0 _ _ (0, 0) hv
  have hl : (loadVar 24 ⟨B, 0, none⟩).run Try.prog w = .ok (.agg #[v]) w := by
    simp [loadVar, go_sem, hc]
  simp [results, h, hp', asAddr, hl]
/-- What New, Put and the like hand back: the tree of the examples. -/
def RetV (K : Nat → List Int) (n : Nat) (w : World) (e : Ending) (w' : World) : Prop := ∃ v, e = .returned (.agg #[v]) ∧ TreeV w' v n K ∧ Below w.heap.size w w'

set_option maxRecDepth 100000 in
set_option maxHeartbeats 4000000 in
theorem some_any (w : World) : Calls Try.prog 77 #[] w (RetV K4 4 w) := by
  have HN := Lib.hid (new_any (w.alloc (.cells #[.slice none 0 0] 24)))
  go_enter Try.func77, Try.ntmps77
  go_wp2_with fail
  refine HN.out.mono ?_
  rintro e w1 ⟨v, rfl, hb1, hn1⟩
  have hb0 : Below w.heap.size w w1 := (below_box w _).trans (hb1.mono (by simp))
  have hr0 : w1.heap[w.heap.size]? = some (.cells #[.slice none 0 0] 24 (0, 0)) := (hb1.block _ (by simp)).trans (heap_alloc_new w _)
  have hs1 : w.heap.size + 1 ≤ w1.heap.size := by have := hb1.size; simpa using this
  obtain ⟨R, hR⟩ : ∃ R, R = RN NoR (w.alloc (.cells #[.slice none 0 0] 24)) (W1 w1 v) := ⟨_, rfl⟩
  have HT1 : Hid (TreeAt (W1 w1 v) R w1.heap.size v [rootN]) := Lib.hid (by
    rw [hR]
    exact ⟨heap_alloc_new w1 _, .inr ⟨by simp; omega, by simp [W1]⟩, (hn1.below (w1_below w1 _)).wide (rn_rn (w1_below w1 _).size) (rn_lt fun k h => h.elim)⟩)
  have HRlo : Hid (∀ k, R k → w.heap.size < k) := Lib.hid (fun k hk => by
    rw [hR] at hk
    rcases hk with hk | hk
    · exact hk.elim
    · have := hk.1; simp at this; omega)
  have HRhi : Hid (∀ k, R k → k < (W1 w1 v).heap.size) := Lib.hid HT1.out.nodes.lt
  obtain ⟨a, c, rfl, _, _⟩ := hn1.nr.slice
  have HB1 := Lib.hid hb0
  have HR0 := Lib.hid hr0
  have HS1 := Lib.hid hs1
  clear hb0 hr0 hs1 hb1 hn1 hR HN
  go_upto_region 2 with fail
  show Code.wp _ _ _ _ (W1 w1 (.slice a [rootN].length c))
  have HB2 : Hid (Below w.heap.size w (W1 w1 (.slice a [rootN].length c))) := Lib.hid (HB1.out.trans ((w1_below w1 _).mono HB1.out.size))
  have HR2 : Hid ((W1 w1 (.slice a [rootN].length c)).heap[w.heap.size]? = some (.cells #[.slice none 0 0] 24 (0, 0))) := Lib.hid (((w1_below w1 _).block _ (by have := HS1.out; omega)).trans HR0.out)
  obtain ⟨w2, ew⟩ : ∃ w2, w2 = W1 w1 (.slice a [rootN].length c) := ⟨_, rfl⟩
  rw [← ew] at HT1 HRhi HB2 HR2 ⊢
  clear ew HB1 HR0
  go_wp2
  have HT3 := Lib.hid (HT1.out.below (below_box w2 (.cells #[.int .i64 0, .int .i64 1, .int .i64 0] 3)))
  have HB3 := below_step HB2 (below_box w2 (.cells #[.int .i64 0, .int .i64 1, .int .i64 0] 3))
  have HR3 : Hid ((w2.alloc (.cells #[.int .i64 0, .int .i64 1, .int .i64 0] 3)).heap[w.heap.size]? = some (.cells #[.slice none 0 0] 24 (0, 0))) := Lib.hid (((below_box w2 _).block _ (Array.getElem?_eq_some_iff.1 HR2.out).1).trans HR2.out)
  have HL3 := Lib.hid (heap_alloc_new w2 (.cells #[.int .i64 0, .int .i64 1, .int .i64 0] 3))
  have HRn : Hid (¬ R w2.heap.size) := Lib.hid (fun h => by have := HRhi.out _ h; omega)
  generalize w2.alloc (.cells #[.int .i64 0, .int .i64 1, .int .i64 0] 3) = w3 at *
  go_loopw [7] (fun q wr => ∃ (k : Nat) (R : Nat → Prop) (v : Value) (l : List Nd), k ≤ 3 ∧ q = .int .i64 k ∧ TreeAt wr R w1.heap.size v l ∧ l.map norm = Sg k ∧ Below w.heap.size w wr ∧ wr.heap[w.heap.size]? = some (.cells #[.slice none 0 0] 24 (0, 0)) ∧
    wr.heap[w2.heap.size]? = some (.cells #[.int .i64 0, .int .i64 1, .int .i64 0] 3 (0, 0)) ∧ ¬ R w2.heap.size ∧ ∀ j, R j → w.heap.size < j) (fun q _ => 3 - (intOf q).toNat)
  case atStart => exact ⟨0, R, _, _, by omega, rfl, HT3.out, rfl, HB3.out, HR3.out, HL3.out, HRn.out, HRlo.out⟩
  case round =>
    clear HT1 HT3 HB3 HR3 HL3 HRn HRlo HRhi HB2 HR2
    obtain ⟨k, R, v, l, hk, rfl, ht, hl, hb, hr, hlit, hrn, hlo⟩ := hrel
    have HT := Lib.hid ht
    have HL := Lib.hid hl
    have HB := Lib.hid hb
    have HR := Lib.hid hr
    have HLit := Lib.hid hlit
    have HRn := Lib.hid hrn
    have HLo := Lib.hid hlo
    clear ht hl hb hr hrn hlo
    by_cases hlt : k < 3
    · have hcell : wr.cell? ⟨w2.heap.size, k, none⟩ = some (.int .i64 (upsS k)) := by
        rw [cell_of_row wr _ k _ _ (0, 0) hlit]
        have : k = 0 ∨ k = 1 ∨ k = 2 := by omega
        rcases this with rfl | rfl | rfl <;> rfl
      have hll : l.length = k + 1 := by rw [← sg_len k (by omega), ← HL.out, List.length_map]
      have HA := Lib.hid (add_any R w1.heap.size v l ⟨1, 0, ⟨#[]⟩, .slice none 0 0, ⟨#[]⟩, 0, .slice none 0 0, [], []⟩ none 0 wr HT.out (by omega) (by omega) rfl (A.AttrsAt.nil _ _) (by simp))
      unfold Nd.val at HA
      dsimp only at HA
      have HLl := Lib.hid hll
      clear hll hlit
      have hi0 : (0 : Int) ≤ (k : Int) := by omega
      have hi1 : (k : Int) < 3 := by omega
      obtain ⟨up, hup⟩ : ∃ up, up = upsS k := ⟨_, rfl⟩
      rw [← hup] at hcell
      have HU := Lib.hid hup
      clear hup
      go_wp2_with fail
      refine HA.out.mono ?_
      rintro e w4 ⟨rfl, hk4, v4, av4, ht4⟩
      have HRK : Hid (∀ j, RN R wr w4 j → w.heap.size < j) := Lib.hid (fun j hj => by
        rcases hj with hj | hj
        · exact HLo.out j hj
        · have := (Array.getElem?_eq_some_iff.1 HR.out).1; omega)
      have HB4 : Hid (Below w.heap.size w w4) := Lib.hid (HB.out.trans (hk4.below HB.out.size fun j hj => Nat.le_of_lt (HLo.out j hj)))
      have HR4 : Hid (w4.heap[w.heap.size]? = some (.cells #[.slice none 0 0] 24 (0, 0))) := Lib.hid ((hk4.block _ (Array.getElem?_eq_some_iff.1 HR.out).1 (fun h => by have := HLo.out _ h; omega)).trans HR.out)
      have HLit4 : Hid (w4.heap[w2.heap.size]? = some (.cells #[.int .i64 0, .int .i64 1, .int .i64 0] 3 (0, 0))) := Lib.hid ((hk4.block _ (Array.getElem?_eq_some_iff.1 HLit.out).1 HRn.out).trans HLit.out)
      have HRn4 : Hid (¬ RN R wr w4 w2.heap.size) := Lib.hid (fun h => by
        rcases h with h | h
        · exact HRn.out h
        · have := (Array.getElem?_eq_some_iff.1 HLit.out).1; omega)
      have hm : (l ++ [(⟨1, 0, ⟨#[]⟩, av4, ⟨#[]⟩, -1, .slice none 0 0, [], []⟩ : Nd)]).map norm = Sg k ++ [elN (-1) []] := by rw [List.map_append, HL.out]; rfl
      have HP := Lib.hid (put_any _ w1.heap.size _ up 9 (l.length : Int) w4 ⟨v4, _, ht4, hm⟩ (sg_kids k (by omega)))
      have hst := sg_step k hlt
      rw [← HU.out] at hst
      have e1 : (l.length : Int) = (k : Int) + 1 := by have := HLl.out; omega
      rw [e1] at HP ⊢
      rw [hst] at HP
      clear hk4 ht4 hm hst HA HT hcell
      go_wp2_with fail
      refine HP.out.mono ?_
      rintro e w5 ⟨rfl, hk5, v5, l5, ht5, hl5⟩
      have h1 : Hid (∀ j, RN (RN R wr w4) w4 w5 j → w.heap.size < j) := Lib.hid (fun j hj => by
        rcases hj with hj | hj
        · exact HRK.out j hj
        · have := (Array.getElem?_eq_some_iff.1 HR4.out).1; omega)
      have h2 : Hid (Below w.heap.size w w5) := Lib.hid (HB4.out.trans (hk5.below HB4.out.size fun j hj => Nat.le_of_lt (HRK.out j hj)))
      have h3 : Hid (w5.heap[w.heap.size]? = some (.cells #[.slice none 0 0] 24 (0, 0))) := Lib.hid ((hk5.block _ (Array.getElem?_eq_some_iff.1 HR4.out).1 (fun h => by have := HRK.out _ h; omega)).trans HR4.out)
      have h4 : Hid (w5.heap[w2.heap.size]? = some (.cells #[.int .i64 0, .int .i64 1, .int .i64 0] 3 (0, 0))) := Lib.hid ((hk5.block _ (Array.getElem?_eq_some_iff.1 HLit4.out).1 HRn4.out).trans HLit4.out)
      have h5 : Hid (¬ RN (RN R wr w4) w4 w5 w2.heap.size) := Lib.hid (fun h => by
        rcases h with h | h
        · exact HRn4.out h
        · have := (Array.getElem?_eq_some_iff.1 HLit4.out).1; omega)
      have h6 := Lib.hid ht5
      have h7 := Lib.hid hl5
      clear hk5 ht5 hl5 HP
      go_wp2
      go_roundw
      case rel => exact ⟨k + 1, _, v5, l5, by omega, by go_num, h6.out, h7.out, h2.out, h3.out, h4.out, h5.out, h1.out⟩
      case measure => simp [intOf]; omega
    · obtain rfl : k = 3 := by omega
      have hp := HT.out.cell
      obtain ⟨a3, c3, rfl, _, _⟩ := HT.out.nodes.nr.slice
      have hr0 := HR.out
      have hc0 : wr.cell? ⟨w.heap.size, 0, none⟩ = some (.slice none 0 0) := cell_of_row wr w.heap.size 0 _ _ (0, 0) hr0
      have hf0 : wr.frozen? ⟨w.heap.size, 0, none⟩ = false := frozen_of_row wr w.heap.size 0 _ _ hr0
      clear hr0 hlit
      go_wp2
      have hs : (wr.setCell ⟨w.heap.size, 0, none⟩ (.slice a3 l.length c3)).heap[w.heap.size]? = some (.cells #[.slice a3 l.length c3] 24 (0, 0)) := by
        rw [heap_setCell_same wr w.heap.size 0 _ _ _ HR.out]; rfl
      refine bodyPost_ret (results_tree rfl _ _ _ _ rfl hs) rfl ?_
      have hk : ∀ j, j ≠ w.heap.size → (wr.setCell ⟨w.heap.size, 0, none⟩ (.slice a3 l.length c3)).heap[j]? = wr.heap[j]? := fun j hj => heap_setCell_other wr ⟨w.heap.size, 0, none⟩ j _ hj
      have hn := HT.out.nodes.keep (w' := wr.setCell ⟨w.heap.size, 0, none⟩ (.slice a3 l.length c3)) (R' := R) (by simp) (fun j hj => hk j (by have := HLo.out j hj; omega)) (fun _ h => h) (fun j hj => by have := HT.out.nodes.lt j hj; simpa using this)
      have hv := treeV_of hn HL.out (by rw [sg_len 3 (by omega)]; omega) sg_k4
      rw [sg_len 3 (by omega)] at hv
      exact ⟨_, rfl, hv, HB.out.setCell (p := ⟨w.heap.size, 0, none⟩) (Nat.le_refl _) _⟩
end Go.Proofs.Ytkkngflpmdcfjaa
