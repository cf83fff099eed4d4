/-
  The walks of Place, and of the document's own Holds and Place; may one come into the other.
-/
import Derived.Test.YtkkngflpmdcfjaaNRead
import Derived.Deep.RegionHeld3
import Derived.Deep.RegionLaw
namespace Go.Proofs.Ytkkngflpmdcfjaa
open Go.RowKit

set_option maxRecDepth 100000 in
theorem w1_kept {w : World} {v : Value} {a : Addr} {u : Value} (h : w.cell? a = some u) : (W1 w v).cell? a = some u := (World.cell?_alloc_lt _ _ _ (World.block_lt_of_cell? w _ h)).trans h
set_option maxRecDepth 100000 in
theorem cell_keep {w w1 : World} {B o : Nat} {u : Value} (hb : Below w.heap.size w w1) (h : w.cell? ⟨B, o, none⟩ = some u) : w1.cell? ⟨B, o, none⟩ = some u :=
  (hb.cell (p := ⟨B, o, none⟩) (World.block_lt_of_cell? w _ h)).trans h

set_option maxRecDepth 100000 in
set_option maxHeartbeats 1600000 in
theorem place_any (v : Value) (l : List Nd) (kid : Int) (w : World) (hN : NR w v l) (hK : ∀ i (h : i < l.length), KR w l[i].kv l[i].kids) :
    Calls Try.prog 159 #[.agg #[v], .int .i64 kid] w fun e w' => e = .returned (.int .i64 (placeP l kid)) ∧ Below w.heap.size w w' := by
  by_cases hk : inN l.length kid = true
  · obtain ⟨j, rfl, hj⟩ := inN_nat hk
    obtain ⟨g, cap, rfl, hle, hm, hgw, hcell, _, _⟩ := hN.form (by omega)
    unfold maxLen at hm
    have hcu := node_up hcell hj
    have HB0 := Lib.hid (w1_below w (.slice (some ⟨g, 0, none⟩) l.length cap))
    have hx := w1_cell w (.slice (some ⟨g, 0, none⟩) l.length cap)
    have hcu1 := w1_kept (v := .slice (some ⟨g, 0, none⟩) l.length cap) hcu
    have HWa : Hid (∀ W, Calls Try.prog 157 #[.agg #[.slice (some ⟨g, 0, none⟩) l.length cap], .int .i64 (j : Int)] W fun e w' => e = .returned (.bool true) ∧ Below W.heap.size W w') := Lib.hid (fun W => by rw [← hk]; exact within_any _ _ _ _ W)
    have HC := Lib.hid hcell
    have HK := Lib.hid hK
    have hi1 : (0 : Int) ≤ (j : Int) := by omega
    have hi2 : (j : Int) < (l.length : Int) := by omega
    have HP : Hid (placeP l j = if inN l.length (upI l j) = true then idxI j (nodeI l (upI l j)).kids else -1) := Lib.hid (by unfold placeP; rw [if_pos hk])
    have HWb : Hid (∀ W, Calls Try.prog 157 #[.agg #[.slice (some ⟨g, 0, none⟩) l.length cap], .int .i64 (upI l j)] W fun e w' => e = .returned (.bool (inN l.length (upI l j))) ∧ Below W.heap.size W w') := Lib.hid (fun W => within_any _ _ _ _ W)
    clear hcu hcell hN hK hk
    by_cases hu : inN l.length (upI l j) = true
    · have HQ : Hid (placeP l j = idxI j (nodeI l (upI l j)).kids) := Lib.hid (by rw [HP.out, if_pos hu])
      rw [hu] at HWb
      obtain ⟨i, hi, hil⟩ := inN_nat hu
      have HI := Lib.hid hi
      have hni : nodeI l (upI l j) = l[i] := by rw [hi, nodeI_at hil]
      rw [hni] at HQ
      clear hni hu HP hi
      have hck : w.cell? ⟨g, i * 7 + 6, none⟩ = some l[i].kv := by rw [HC.out i hil 6 (by omega)]; rfl
      have HCK := Lib.hid hck
      have HKi := Lib.hid (HK.out i hil)
      clear hck HK HC
      rw [HI.out] at HWb hcu1
      clear HI
      have hi3 : (0 : Int) ≤ (i : Int) := by omega
      have hi4 : (i : Int) < (l.length : Int) := by omega
      generalize l[i] = y at *
      go_enter Try.func159, Try.ntmps159
      go_wp2
      have hB := HB0.out
      go_region_held3 (fun w' => w'.cell? ⟨w.heap.size, 0, none⟩ = some (.slice (some ⟨g, 0, none⟩) l.length cap) ∧ w'.cell? ⟨g, j * 7 + 5, none⟩ = some (.int .i64 (i : Int)) ∧ Below w.heap.size w w')
        ((go_split_ands; refine ⟨?_, ?_, ?_⟩ <;> first | assumption | go_keep | exact drewB1 (by assumption)))
        (first
          | (go_at_call 157; go_split_ands; (with_reducible refine (HWa.out _).mono ?_); rintro e w4 ⟨rfl, hb4⟩; have hk1 := cell_keep hb4 (B := w.heap.size) (o := 0) (by assumption); have hk2 := cell_keep hb4 (B := g) (o := j * 7 + 5) (by assumption); have hk3 := below_trans (w := w) (by assumption) hb4)
          | (go_at_call 157; go_split_ands; (with_reducible refine (HWb.out _).mono ?_); rintro e w4 ⟨rfl, hb4⟩; have hk1 := cell_keep hb4 (B := w.heap.size) (o := 0) (by assumption); have hk2 := cell_keep hb4 (B := g) (o := j * 7 + 5) (by assumption); have hk3 := below_trans (w := w) (by assumption) hb4))
      have hck4 : w4.cell? ⟨g, i * 7 + 6, none⟩ = some y.kv := (hk3.cell (p := ⟨g, i * 7 + 6, none⟩) hgw).trans HCK.out
      have HB4 := Lib.hid hk3
      have HIx := Lib.hid (fun n => index_any y.kv y.kids j (w4.drewN n) (HKi.out.kept fun q hq => (HB4.out.block q (by
        obtain ⟨c, fz, h⟩ := HKi.out.kind hq
        exact (Array.getElem?_eq_some_iff.1 h).1))))
      clear hcu1 hB hb4 hk3
      generalize idxI (j : Int) y.kids = r at *
      generalize y.kv = kv at *
      go_wp2
      go_quiet ((go_at_call 126; exact Calls.quiet_of_same ((HIx.out _).mono fun _ _ h => ⟨h.1, h.2.symm⟩)))
      go_wp2
      go_ret
      exact ⟨ret_int HQ.out.symm, ⟨HB4.out.os, HB4.out.tape, HB4.out.output, HB4.out.size, HB4.out.block⟩⟩
    · have hu2 : inN l.length (upI l j) = false := by simpa using hu
      have HQ : Hid (-1 = placeP l j) := Lib.hid (by rw [HP.out, if_neg hu])
      rw [hu2] at HWb
      clear hu hu2 HP HC HK
      generalize upI l j = uu at *
      go_enter Try.func159, Try.ntmps159
      go_wp2
      have hB := HB0.out
      go_region_held3 (fun w' => w'.cell? ⟨w.heap.size, 0, none⟩ = some (.slice (some ⟨g, 0, none⟩) l.length cap) ∧ w'.cell? ⟨g, j * 7 + 5, none⟩ = some (.int .i64 uu) ∧ Below w.heap.size w w')
        ((go_split_ands; refine ⟨?_, ?_, ?_⟩ <;> first | assumption | go_keep | exact drewB1 (by assumption)))
        (first
          | (go_at_call 157; go_split_ands; (with_reducible refine (HWa.out _).mono ?_); rintro e w4 ⟨rfl, hb4⟩; have hk1 := cell_keep hb4 (B := w.heap.size) (o := 0) (by assumption); have hk2 := cell_keep hb4 (B := g) (o := j * 7 + 5) (by assumption); have hk3 := below_trans (w := w) (by assumption) hb4)
          | (go_at_call 157; go_split_ands; (with_reducible refine (HWb.out _).mono ?_); rintro e w4 ⟨rfl, hb4⟩; have hk1 := cell_keep hb4 (B := w.heap.size) (o := 0) (by assumption); have hk2 := cell_keep hb4 (B := g) (o := j * 7 + 5) (by assumption); have hk3 := below_trans (w := w) (by assumption) hb4))
      have HB4 := Lib.hid hk3
      clear hcu1 hB hb4 hk3
      go_wp2
      go_ret
      exact ⟨ret_int HQ.out, HB4.out⟩
  · have hk2 : inN l.length kid = false := by simpa using hk
    have HQ : Hid (-1 = placeP l kid) := Lib.hid (by unfold placeP; rw [if_neg hk])
    obtain ⟨a, cap, rfl, _, _⟩ := hN.slice
    have HB0 := Lib.hid (w1_below w (.slice a l.length cap))
    have hx := w1_cell w (.slice a l.length cap)
    have HWa : Hid (∀ W, Calls Try.prog 157 #[.agg #[.slice a l.length cap], .int .i64 kid] W fun e w' => e = .returned (.bool false) ∧ Below W.heap.size W w') := Lib.hid (fun W => by rw [← hk2]; exact within_any _ _ _ _ W)
    clear hN hK hk hk2
    go_enter Try.func159, Try.ntmps159
    go_wp2
    have hB := HB0.out
    first
      | (go_region_law ((go_simp; go_at_call 157; (with_reducible refine (HWa.out _).mono ?_); rintro e w4 ⟨rfl, hb4⟩; have hk3 : Below w.heap.size w w4 := (drewB1 hB).trans (hb4.mono (by simp)))))
      | fail "law"
    all_goals
      have HB4 := Lib.hid hk3
      clear hb4 hk3
      go_wp2
      go_ret
      exact ⟨ret_int HQ.out, HB4.out⟩
end Go.Proofs.Ytkkngflpmdcfjaa
