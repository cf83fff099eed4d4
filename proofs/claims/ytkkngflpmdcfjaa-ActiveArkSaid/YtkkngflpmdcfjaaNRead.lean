/-
  The walks of what is asked of a tree: is there such a node, where is it, who holds it.
-/
import Derived.Test.YtkkngflpmdcfjaaNPlain
import Derived.Deep.QuietTactic
import Derived.BigQuiet
import Derived.Deep.RegionHeld3
namespace Go.Proofs.Ytkkngflpmdcfjaa
open Go.RowKit

theorem below_step {w w1 w2 : World} (h : Hid (Below w.heap.size w w1)) (h2 : Below w1.heap.size w1 w2) : Hid (Below w.heap.size w w2) := Lib.hid (h.out.trans (h2.mono h.out.size))
theorem drewB1 {b : Nat} {w wr : World} (h : Below b w wr) : Below b w wr.drew := ⟨h.os, h.tape, h.output, h.size, h.block⟩
theorem below_trans {w w1 w2 : World} (h : Below w.heap.size w w1) (h2 : Below w1.heap.size w1 w2) : Below w.heap.size w w2 := h.trans (h2.mono h.size)
theorem below_box (w : World) (o : Obj) : Below w.heap.size w (w.alloc o) := (Below.refl _ _).alloc (Nat.le_refl _) _
theorem ret_bool {a b : Bool} (h : a = b) : Ending.returned (.bool a) = .returned (.bool b) := by rw [h]
theorem ret_int {k : IntKind} {a b : Int} (h : a = b) : Ending.returned (.int k a) = .returned (.int k b) := by rw [h]

theorem within_any (a : Option Addr) (n cap : Nat) (k : Int) (w : World) :
    Calls Try.prog 157 #[.agg #[.slice a n cap], .int .i64 k] w fun e w' => e = .returned (.bool (inN n k)) ∧ Below w.heap.size w w' := by
  unfold inN
  by_cases h : 0 ≤ k
  · have h1 : decide (0 ≤ k) = true := by simpa using h
    go_enter Try.func157, Try.ntmps157
    go_wp2
    go_ret
    exact ⟨by simp [h], below_box _ _⟩
  · have h1 : decide (0 ≤ k) = false := by simpa using h
    go_enter Try.func157, Try.ntmps157
    go_wp2
    go_ret
    exact ⟨by simp, below_box _ _⟩
set_option maxHeartbeats 1600000 in
theorem index_any (v : Value) (xs : List Int) (x : Int) (w : World) (hK : KR w v xs) :
    Calls Try.prog 126 #[v, .int .i64 x] w fun e w' => e = .returned (.int .i64 (idxI x xs)) ∧ w = w' := by
  obtain ⟨a, cap, rfl, hle, hm, hnone, hcells⟩ := hK.form
  unfold maxLen at hm
  have HK := Lib.hid hcells
  have HN := Lib.hid hnone
  clear hK hcells hnone
  go_enter Try.func126, Try.ntmps126
  go_wp2
  go_loop [8] (fun i => ∃ k : Nat, k ≤ xs.length ∧ i = .int .i64 k ∧ idxI x xs = idxR x (xs.drop k) k) (fun i => xs.length - (intOf i).toNat)
  case atStart => exact ⟨0, Nat.zero_le _, rfl, rfl⟩
  case round =>
    obtain ⟨k, hk, rfl, hh⟩ := hrel
    have HH := Lib.hid hh
    clear hh
    by_cases hlt : k < xs.length
    · have HD := Lib.hid (idxR_drop x xs k hlt)
      cases a with
      | none => have := HN.out rfl; omega
      | some ad =>
        obtain ⟨g, rfl, _, hc, _, _⟩ := HK.out ad rfl
        have hck := hc k hlt
        clear hc
        generalize xs[k] = y at *
        by_cases hq : x = y
        · have hb : (x == y) = true := by simp [hq]
          have HF : Hid ((k : Int) = idxI x xs) := Lib.hid (by rw [HH.out, HD.out, if_pos hq])
          clear hq
          go_wp2
          go_ret
          exact ⟨ret_int HF.out, rfl⟩
        · have hb : (x == y) = false := by simp [hq]
          have HF : Hid (idxI x xs = idxR x (xs.drop (k + 1)) (k + 1)) := Lib.hid (by rw [HH.out, HD.out, if_neg hq])
          clear hq
          go_wp2
          go_round
          case rel => exact ⟨k + 1, by omega, by go_num, HF.out⟩
          case measure => simp [intOf]; omega
    · have HF : Hid (-1 = idxI x xs) := Lib.hid (by rw [HH.out, idxR_end x xs k (by omega)])
      go_wp2
      go_ret
      exact ⟨ret_int HF.out, rfl⟩

theorem climb_zero (l : List Nd) (up kid : Int) : climb l up 0 kid = false := rfl
theorem climb_hit {l : List Nd} {up kid : Int} (f : Nat) (h : kid = up) : climb l up (f + 1) kid = true := by unfold climb; rw [if_pos h]
theorem climb_out {l : List Nd} {up kid : Int} (f : Nat) (h : kid ≠ up) (h2 : inN l.length kid = false) : climb l up (f + 1) kid = false := by unfold climb; rw [if_neg h, if_neg (by rw [h2]; simp)]
theorem climb_on {l : List Nd} {up kid : Int} (f : Nat) (h : kid ≠ up) (h2 : inN l.length kid = true) : climb l up (f + 1) kid = climb l up f (upI l kid) := by conv => lhs; unfold climb; rw [if_neg h, if_pos h2]
theorem upI_at {l : List Nd} {j : Nat} (h : j < l.length) : upI l j = l[j].up := by unfold upI; rw [nodeI_at h]
theorem node_up {w : World} {g : Nat} {l : List Nd} (hc : ∀ i (h : i < l.length) k, k < 7 → w.cell? ⟨g, i * 7 + k, none⟩ = l[i].cells[k]?) {j : Nat} (h : j < l.length) : w.cell? ⟨g, j * 7 + 5, none⟩ = some (.int .i64 (upI l j)) := by
  rw [hc j h 5 (by omega), upI_at h]; rfl
theorem node_kids {w : World} {g : Nat} {l : List Nd} (hc : ∀ i (h : i < l.length) k, k < 7 → w.cell? ⟨g, i * 7 + k, none⟩ = l[i].cells[k]?) {j : Nat} (h : j < l.length) : w.cell? ⟨g, j * 7 + 6, none⟩ = some (nodeI l j).kv := by
  rw [hc j h 6 (by omega), nodeI_at h]; rfl
theorem NR.slice {w : World} {v : Value} {l : List Nd} (h : NR w v l) : ∃ a cap, v = .slice a l.length cap ∧ cap ≤ maxLen ∧ l.length ≤ cap := by
  rcases h.1.2 with ⟨rfl, e⟩ | ⟨g, cap, cur, rfl, _, _, hn, hm, _⟩
  · exact ⟨none, 0, by rw [e], by unfold maxLen; omega, by omega⟩
  · exact ⟨_, cap, rfl, hm, hn⟩
/-- The box of a tree that came by value. -/
def W1 (w : World) (v : Value) : World := w.alloc (.cells #[v] 24)
theorem w1_cell (w : World) (v : Value) : (W1 w v).cell? ⟨w.heap.size, 0, none⟩ = some v := by simp [W1]
theorem w1_below (w : World) (v : Value) : Below w.heap.size w (W1 w v) := below_box _ _

set_option maxHeartbeats 1600000 in
theorem holds_any (v : Value) (l : List Nd) (up kid : Int) (w : World) (hN : NR w v l) :
    Calls Try.prog 158 #[.agg #[v], .int .i64 up, .int .i64 kid] w fun e w' => e = .returned (.bool (holdsP l up kid)) ∧ Below w.heap.size w w' := by
  by_cases hu : inN l.length up = true
  · have hne : 0 < l.length := by have := inN_iff.1 hu; omega
    obtain ⟨g, cap, rfl, hle, hm, hgw, hcell, _, _⟩ := hN.form hne
    unfold maxLen at hm
    have HC := Lib.hid hcell
    have HP : Hid (holdsP l up kid = climb l up l.length kid) := Lib.hid (by unfold holdsP; rw [hu]; rfl)
    have HW : Hid (∀ k W, Calls Try.prog 157 #[.agg #[.slice (some ⟨g, 0, none⟩) l.length cap], .int .i64 k] W fun e w' => e = .returned (.bool (inN l.length k)) ∧ Below W.heap.size W w') := Lib.hid (fun k W => within_any _ _ _ k W)
    have HB0 := Lib.hid (w1_below w (.slice (some ⟨g, 0, none⟩) l.length cap))
    have HX := Lib.hid (w1_cell w (.slice (some ⟨g, 0, none⟩) l.length cap))
    have HU := Lib.hid hu
    have HWu := Lib.hid (HW.out up (W1 w (.slice (some ⟨g, 0, none⟩) l.length cap)))
    rw [HU.out] at HWu
    clear hN hcell hu
    go_enter Try.func158, Try.ntmps158
    go_wp2_with fail
    refine HWu.out.mono ?_
    rintro e w1 ⟨rfl, hb⟩
    have HB1 : Hid (Below w.heap.size w w1) := Lib.hid (HB0.out.trans (hb.mono (by simp [W1])))
    have hx : w1.cell? ⟨w.heap.size, 0, none⟩ = some (.slice (some ⟨g, 0, none⟩) l.length cap) := (hb.cell (p := ⟨w.heap.size, 0, none⟩) (by simp [W1])).trans HX.out
    have hz : w.heap.size < w1.heap.size := World.block_lt_of_cell? w1 _ hx
    clear hb HX HWu HB0
    go_wp2
    have HX := Lib.hid hx
    have HZ := Lib.hid hz
    clear hx hz
    go_loopw [2, 14] (fun q i wr => ∃ (k : Nat) (kd : Int), k ≤ l.length ∧ q = .int .i64 kd ∧ i = .int .i64 k ∧ holdsP l up kid = climb l up (l.length - k) kd ∧ Below w1.heap.size w1 wr) (fun _ i _ => l.length - (intOf i).toNat)
    case atStart => exact ⟨0, kid, Nat.zero_le _, rfl, rfl, HP.out, Below.refl _ _⟩
    case round =>
      obtain ⟨k, kd, hk, rfl, rfl, hh, hbel⟩ := hrel
      have HH := Lib.hid hh
      have HB := Lib.hid hbel
      have hxr : wr.cell? ⟨w.heap.size, 0, none⟩ = some (.slice (some ⟨g, 0, none⟩) l.length cap) := (HB.out.cell (p := ⟨w.heap.size, 0, none⟩) HZ.out).trans HX.out
      clear hh hbel
      by_cases hlt : k < l.length
      · have hf : l.length - k = (l.length - (k + 1)) + 1 := by omega
        have HHf : Hid (holdsP l up kid = climb l up ((l.length - (k + 1)) + 1) kd) := Lib.hid (by rw [HH.out, ← hf])
        clear hf
        by_cases hq : kd = up
        · have hb : (kd == up) = true := by simp [hq]
          have HF : Hid (true = holdsP l up kid) := Lib.hid (by rw [HHf.out, climb_hit _ hq])
          clear hq
          go_wp2
          go_ret
          exact ⟨ret_bool HF.out, (HB1.out.trans (HB.out.mono HB1.out.size))⟩
        · have hb : (kd == up) = false := by simp [hq]
          have HQ := Lib.hid hq
          clear hq
          have HWk := Lib.hid (HW.out kd wr)
          by_cases hin : inN l.length kd = true
          · have HF : Hid (holdsP l up kid = climb l up (l.length - (k + 1)) (upI l kd)) := Lib.hid (by rw [HHf.out, climb_on _ HQ.out hin])
            rw [hin] at HWk
            obtain ⟨j, rfl, hj⟩ := inN_nat hin
            have hcj : w.cell? ⟨g, j * 7 + 5, none⟩ = some (.int .i64 (upI l j)) := node_up HC.out hj
            have HCJ := Lib.hid hcj
            clear hin hcj
            generalize upI l j = uu at *
            go_wp2_with fail
            refine HWk.out.mono ?_
            rintro e w2 ⟨rfl, hb2⟩
            have HB2 := below_step HB hb2
            have hx2 : w2.cell? ⟨w.heap.size, 0, none⟩ = some (.slice (some ⟨g, 0, none⟩) l.length cap) := (HB2.out.cell (p := ⟨w.heap.size, 0, none⟩) HZ.out).trans HX.out
            have hc2 : w2.cell? ⟨g, j * 7 + 5, none⟩ = some (.int .i64 uu) := ((HB1.out.trans (HB2.out.mono HB1.out.size)).cell (p := ⟨g, j * 7 + 5, none⟩) hgw).trans HCJ.out
            clear hb2 hxr
            go_wp2
            go_roundw
            case rel => exact ⟨k + 1, uu, by omega, rfl, by go_num, HF.out, HB2.out⟩
            case measure => simp [intOf]; omega
          · have hin2 : inN l.length kd = false := by simpa using hin
            have HF : Hid (false = holdsP l up kid) := Lib.hid (by rw [HHf.out, climb_out _ HQ.out hin2])
            rw [hin2] at HWk
            clear hin hin2
            go_wp2_with fail
            refine HWk.out.mono ?_
            rintro e w2 ⟨rfl, hb2⟩
            have HB2 := below_step HB hb2
            clear hb2 hxr
            go_wp2
            go_ret
            exact ⟨ret_bool HF.out, (HB1.out.trans (HB2.out.mono HB1.out.size))⟩
      · have HF : Hid (false = holdsP l up kid) := Lib.hid (by rw [HH.out, show l.length - k = 0 by omega]; rfl)
        go_wp2
        go_ret
        exact ⟨ret_bool HF.out, (HB1.out.trans (HB.out.mono HB1.out.size))⟩
  · have hu2 : inN l.length up = false := by simpa using hu
    have HF : Hid (false = holdsP l up kid) := Lib.hid (by unfold holdsP; rw [hu2]; rfl)
    obtain ⟨a, cap, rfl, _, _⟩ := hN.slice
    have HB0 := Lib.hid (w1_below w (.slice a l.length cap))
    have HWu := Lib.hid (within_any a l.length cap up (W1 w (.slice a l.length cap)))
    rw [hu2] at HWu
    clear hN hu hu2
    go_enter Try.func158, Try.ntmps158
    go_wp2_with fail
    refine HWu.out.mono ?_
    rintro e w1 ⟨rfl, hb⟩
    have HB1 : Hid (Below w.heap.size w w1) := Lib.hid (HB0.out.trans (hb.mono (by simp [W1])))
    clear hb
    go_wp2
    go_ret
    exact ⟨ret_bool HF.out, HB1.out⟩
end Go.Proofs.Ytkkngflpmdcfjaa
