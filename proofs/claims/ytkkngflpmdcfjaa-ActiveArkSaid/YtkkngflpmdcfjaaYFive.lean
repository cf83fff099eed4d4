/-
  The tree of the examples: five b. Written by gen_five.py.
-/
import Derived.Test.YtkkngflpmdcfjaaNAwake
import Derived.Test.YtkkngflpmdcfjaaYFind
namespace Go.Proofs.Ytkkngflpmdcfjaa
open Go.RowKit

def elB (u : Int) : Nd := ⟨1, 0, ⟨#[98]⟩, .slice none 0 0, ⟨#[]⟩, u, .slice none 0 0, [], []⟩
/-- The tree behind so many rounds. -/
def Fv : Nat → List Nd
  | 0 => [rootN]
  | 1 => [{ rootN with kids := [1] }, elB 0]
  | 2 => [{ rootN with kids := [1, 2] }, elB 0, elB 0]
  | 3 => [{ rootN with kids := [1, 2, 3] }, elB 0, elB 0, elB 0]
  | 4 => [{ rootN with kids := [1, 2, 3, 4] }, elB 0, elB 0, elB 0, elB 0]
  | _ => [{ rootN with kids := [1, 2, 3, 4, 5] }, elB 0, elB 0, elB 0, elB 0, elB 0]
theorem fv_step : ∀ k, k < 5 → putP (Fv k ++ [elB (-1)]) 0 9 ((k : Int) + 1) = Fv (k + 1)
  | 0, _ => by rfl
  | 1, _ => by rfl
  | 2, _ => by rfl
  | 3, _ => by rfl
  | 4, _ => by rfl
  | k + 5, h => absurd h (by omega)
theorem fv_len : ∀ k, k < 6 → (Fv k).length = k + 1
  | 0, _ => rfl
  | 1, _ => rfl
  | 2, _ => rfl
  | 3, _ => rfl
  | 4, _ => rfl
  | 5, _ => rfl
  | k + 6, h => absurd h (by omega)
theorem fv_kids : ∀ k, k < 6 → ∀ x ∈ Fv k ++ [elB (-1)], x.kids.length ≤ 100000
  | 0, _ => by intro x hx; simp [Fv] at hx; rcases hx with rfl | rfl <;> simp [rootN, elB]
  | 1, _ => by intro x hx; simp [Fv] at hx; rcases hx with rfl | rfl | rfl <;> simp [elB]
  | 2, _ => by intro x hx; simp [Fv] at hx; rcases hx with rfl | rfl | rfl <;> simp [elB]
  | 3, _ => by intro x hx; simp [Fv] at hx; rcases hx with rfl | rfl | rfl <;> simp [elB]
  | 4, _ => by intro x hx; simp [Fv] at hx; rcases hx with rfl | rfl | rfl <;> simp [elB]
  | 5, _ => by intro x hx; simp [Fv] at hx; rcases hx with rfl | rfl | rfl <;> simp [elB]
  | k + 6, h => absurd h (by omega)
theorem nodeF_norm (l : List Nd) (k : Int) : nodeI (l.map norm) k = norm (nodeI l k) := by
  unfold nodeI
  rw [List.getD_eq_getElem?_getD, List.getD_eq_getElem?_getD, List.getElem?_map]
  cases l[k.toNat]? <;> rfl
theorem alikeT_norm (l : List Nd) (a b : Int) : alikeT (l.map norm) a b = alikeT l a b := by
  unfold alikeT; rw [nodeF_norm, nodeF_norm, List.length_map]; rfl
theorem named_norm (l : List Nd) (nm : ByteArray) (a : Int) : named (l.map norm) nm a = named l nm a := by
  unfold named; rw [nodeF_norm, List.length_map]; rfl
/-- What the tree of five b is handed back as. -/
def RetF (w : World) (e : Ending) (w' : World) : Prop := ∃ v l, e = .returned (.agg #[v]) ∧ ReadN w' v l ∧ l.map norm = Fv 5 ∧ Below w.heap.size w w'

theorem results_tree {fn : Func} {p : Tmp} (h : fn.results = #[.cell p 24]) (tmps : Array Value) (w : World) (B : Nat) (v : Value)
    (hp : tmps.getD p undef = .pointer (some ⟨B, 0, none⟩)) (hv : w.heap[B]? = some (.cells #[v] 24 (0, 0))) : (results fn tmps).run Try.prog w = .ok (.agg #[v]) w := by
  have hp' : tmps[p]?.getD undef = .pointer (some ⟨B, 0, none⟩) := by simpa using hp
  have hc : w.cell? ⟨B, 0, none⟩ = some v := cell_of_row w B 0 _ _ (0, 0) hv
  have hl : (loadVar 24 ⟨B, 0, none⟩).run Try.prog w = .ok (.agg #[v]) w := by
    simp [loadVar, go_sem, hc]
  simp [results, h, hp', asAddr, hl]
set_option maxRecDepth 100000 in
set_option maxHeartbeats 4000000 in
theorem five_any (w : World) : Calls Try.prog 115 #[] w (RetF w) := by
  have HN := Lib.hid (new_any (w.alloc (.cells #[.slice none 0 0] 24)))
  go_enter Try.func115, Try.ntmps115
  go_wp2_with fail
  refine HN.out.mono ?_
  rintro e w1 ⟨v, rfl, hb1, hn1⟩
  have hb0 : Below w.heap.size w w1 := (below_box w _).trans (hb1.mono (by simp))
  have hr0 : w1.heap[w.heap.size]? = some (.cells #[.slice none 0 0] 24 (0, 0)) := (hb1.block _ (by simp)).trans (heap_alloc_new w _)
  have hs1 : w.heap.size + 1 ≤ w1.heap.size := by have := hb1.size; simpa using this
  obtain ⟨R, hR⟩ : ∃ R, R = RN NoR (w.alloc (.cells #[.slice none 0 0] 24)) (W1 w1 v) := ⟨_, rfl⟩
  have HT1 : Hid (TreeAt (W1 w1 v) R w1.heap.size v [rootN]) := Lib.hid (by
    rw [hR]
    exact ⟨heap_alloc_new w1 _, .inr ⟨by simp; omega, by simp [W1]⟩, (hn1.below (w1_below w1 _)).wide (rn_rn (w1_below w1 _).size) (rn_lt fun k h => h.elim)⟩)
  have HRlo : Hid (∀ k, R k → w.heap.size < k) := Lib.hid (fun k hk => by
    rw [hR] at hk
    rcases hk with hk | hk
    · exact hk.elim
    · have := hk.1; simp at this; omega)
  have HRhi : Hid (∀ k, R k → k < (W1 w1 v).heap.size) := Lib.hid HT1.out.nodes.lt
  obtain ⟨a, c, rfl, _, _⟩ := hn1.nr.slice
  have HB1 := Lib.hid hb0
  have HR0 := Lib.hid hr0
  have HS1 := Lib.hid hs1
  clear hb0 hr0 hs1 hb1 hn1 hR HN
  go_upto_region 2 with fail
  show Code.wp _ _ _ _ (W1 w1 (.slice a [rootN].length c))
  have HB2 : Hid (Below w.heap.size w (W1 w1 (.slice a [rootN].length c))) := Lib.hid (HB1.out.trans ((w1_below w1 _).mono HB1.out.size))
  have HR2 : Hid ((W1 w1 (.slice a [rootN].length c)).heap[w.heap.size]? = some (.cells #[.slice none 0 0] 24 (0, 0))) := Lib.hid (((w1_below w1 _).block _ (by have := HS1.out; omega)).trans HR0.out)
  obtain ⟨w2, ew⟩ : ∃ w2, w2 = W1 w1 (.slice a [rootN].length c) := ⟨_, rfl⟩
  rw [← ew] at HT1 HRhi HB2 HR2 ⊢
  clear ew HB1 HR0
  go_wp2
  go_loopw [2] (fun q wr => ∃ (k : Nat) (R : Nat → Prop) (v : Value) (l : List Nd), k ≤ 5 ∧ q = .int .i64 k ∧ TreeAt wr R w1.heap.size v l ∧ l.map norm = Fv k ∧ Below w.heap.size w wr ∧ wr.heap[w.heap.size]? = some (.cells #[.slice none 0 0] 24 (0, 0)) ∧ ∀ j, R j → w.heap.size < j) (fun q _ => 5 - (intOf q).toNat)
  case atStart => exact ⟨0, R, _, _, by omega, rfl, HT1.out, rfl, HB2.out, HR2.out, HRlo.out⟩
  case round =>
    clear HT1 HRlo HRhi HB2 HR2
    obtain ⟨k, R, v, l, hk, rfl, ht, hl, hb, hr, hlo⟩ := hrel
    have HT := Lib.hid ht
    have HL := Lib.hid hl
    have HB := Lib.hid hb
    have HR := Lib.hid hr
    have HLo := Lib.hid hlo
    clear ht hl hb hr hlo
    by_cases hlt : k < 5
    · have hll : l.length = k + 1 := by rw [← fv_len k (by omega), ← HL.out, List.length_map]
      have HA := Lib.hid (add_any R w1.heap.size v l ⟨1, 0, ⟨#[98]⟩, .slice none 0 0, ⟨#[]⟩, 0, .slice none 0 0, [], []⟩ none 0 wr HT.out (by omega) (by omega) rfl (A.AttrsAt.nil _ _) (by simp))
      unfold Nd.val at HA
      dsimp only at HA
      have HLl := Lib.hid hll
      clear hll
      have hi0 : (0 : Int) ≤ (k : Int) := by omega
      have hi1 : (k : Int) < 5 := by omega
      go_wp2_with fail
      refine HA.out.mono ?_
      rintro e w4 ⟨rfl, hk4, v4, av4, ht4⟩
      have HRK : Hid (∀ j, RN R wr w4 j → w.heap.size < j) := Lib.hid (fun j hj => by
        rcases hj with hj | hj
        · exact HLo.out j hj
        · have := (Array.getElem?_eq_some_iff.1 HR.out).1; omega)
      have HB4 : Hid (Below w.heap.size w w4) := Lib.hid (HB.out.trans (hk4.below HB.out.size fun j hj => Nat.le_of_lt (HLo.out j hj)))
      have HR4 : Hid (w4.heap[w.heap.size]? = some (.cells #[.slice none 0 0] 24 (0, 0))) := Lib.hid ((hk4.block _ (Array.getElem?_eq_some_iff.1 HR.out).1 (fun h => by have := HLo.out _ h; omega)).trans HR.out)
      have hm : (l ++ [(⟨1, 0, ⟨#[98]⟩, av4, ⟨#[]⟩, -1, .slice none 0 0, [], []⟩ : Nd)]).map norm = Fv k ++ [elB (-1)] := by rw [List.map_append, HL.out]; rfl
      have HP := Lib.hid (put_any _ w1.heap.size _ 0 9 (l.length : Int) w4 ⟨v4, _, ht4, hm⟩ (fv_kids k (by omega)))
      have hst := fv_step k hlt
      have e1 : (l.length : Int) = (k : Int) + 1 := by have := HLl.out; omega
      rw [e1] at HP ⊢
      rw [hst] at HP
      clear hk4 ht4 hm hst HA HT
      go_wp2_with fail
      refine HP.out.mono ?_
      rintro e w5 ⟨rfl, hk5, v5, l5, ht5, hl5⟩
      have h1 : Hid (∀ j, RN (RN R wr w4) w4 w5 j → w.heap.size < j) := Lib.hid (fun j hj => by
        rcases hj with hj | hj
        · exact HRK.out j hj
        · have := (Array.getElem?_eq_some_iff.1 HR4.out).1; omega)
      have h2 : Hid (Below w.heap.size w w5) := Lib.hid (HB4.out.trans (hk5.below HB4.out.size fun j hj => Nat.le_of_lt (HRK.out j hj)))
      have h3 : Hid (w5.heap[w.heap.size]? = some (.cells #[.slice none 0 0] 24 (0, 0))) := Lib.hid ((hk5.block _ (Array.getElem?_eq_some_iff.1 HR4.out).1 (fun h => by have := HRK.out _ h; omega)).trans HR4.out)
      have h6 := Lib.hid ht5
      have h7 := Lib.hid hl5
      clear hk5 ht5 hl5 HP
      go_wp2
      go_roundw
      case rel => exact ⟨k + 1, _, v5, l5, by omega, by go_num, h6.out, h7.out, h2.out, h3.out, h1.out⟩
      case measure => simp [intOf]; omega
    · obtain rfl : k = 5 := by omega
      have hp := HT.out.cell
      obtain ⟨a3, c3, rfl, _, _⟩ := HT.out.nodes.nr.slice
      have hr0 := HR.out
      have hc0 : wr.cell? ⟨w.heap.size, 0, none⟩ = some (.slice none 0 0) := cell_of_row wr w.heap.size 0 _ _ (0, 0) hr0
      have hf0 : wr.frozen? ⟨w.heap.size, 0, none⟩ = false := frozen_of_row wr w.heap.size 0 _ _ hr0
      clear hr0
      go_wp2
      have hs : (wr.setCell ⟨w.heap.size, 0, none⟩ (.slice a3 l.length c3)).heap[w.heap.size]? = some (.cells #[.slice a3 l.length c3] 24 (0, 0)) := by
        rw [heap_setCell_same wr w.heap.size 0 _ _ _ HR.out]; rfl
      refine bodyPost_ret (results_tree rfl _ _ _ _ rfl hs) rfl ?_
      have hk : ∀ j, j ≠ w.heap.size → (wr.setCell ⟨w.heap.size, 0, none⟩ (.slice a3 l.length c3)).heap[j]? = wr.heap[j]? := fun j hj => heap_setCell_other wr ⟨w.heap.size, 0, none⟩ j _ hj
      have hn := HT.out.nodes.keep (w' := wr.setCell ⟨w.heap.size, 0, none⟩ (.slice a3 l.length c3)) (R' := R) (by simp) (fun j hj => hk j (by have := HLo.out j hj; omega)) (fun _ h => h) (fun j hj => by have := HT.out.nodes.lt j hj; simpa using this)
      exact ⟨_, l, rfl, hn.read, HL.out, HB.out.setCell (p := ⟨w.heap.size, 0, none⟩) (Nat.le_refl _) _⟩
end Go.Proofs.Ytkkngflpmdcfjaa
