/-
  The walks of Place, and of the document's own Holds and Place; may one come into the other.
-/
import Derived.Test.YtnihomlmjfgmdaaNRead
import Derived.Deep.RegionHeld3
import Derived.Deep.RegionLaw
namespace Go.Proofs.Ytnihomlmjfgmdaa
open Go.RowKit

set_option maxHeartbeats 1600000 in
theorem rholds_any (v : Value) (l : List Nd) (up kid : Int) (w : World) (hs : l.length ≤ 1000000) (hN : NR w v l) :
    Calls Try.prog 8 #[.agg #[v], .int .i64 up, .int .i64 kid] w fun e w' => e = .returned (.bool (rholdsP l up kid)) ∧ Below w.heap.size w w' := by
  obtain ⟨a, cap, rfl, hm, hle⟩ := hN.slice
  unfold maxLen at hm
  have HW : Hid (∀ k W, Calls Try.prog 24 #[.agg #[.slice a l.length cap], .int .i64 k] W fun e w' => e = .returned (.bool (inN l.length k)) ∧ Below W.heap.size W w') := Lib.hid (fun k W => is_any _ _ _ k W)
  have HB0 := Lib.hid (w1_below w (.slice a l.length cap))
  have HX := Lib.hid (w1_cell w (.slice a l.length cap))
  have HN := Lib.hid hN
  have HZ : Hid (w.heap.size < (W1 w (.slice a l.length cap)).heap.size) := Lib.hid (by simp [W1])
  clear hN
  go_enter Try.func8, Try.ntmps8
  go_wp2
  go_loopw [2, 7] (fun q i wr => ∃ (k : Nat) (kd : Int), k ≤ l.length + 1 ∧ q = .int .i64 kd ∧ i = .int .i64 k ∧ rholdsP l up kid = (inN l.length up && climb l up (l.length + 1 - k) kd) ∧ Below (W1 w (.slice a l.length cap)).heap.size (W1 w (.slice a l.length cap)) wr) (fun _ i _ => l.length + 1 - (intOf i).toNat)
  case atStart => exact ⟨0, kid, Nat.zero_le _, rfl, rfl, rfl, Below.refl _ _⟩
  case round =>
    obtain ⟨k, kd, hk, rfl, rfl, hh, hbel⟩ := hrel
    have HH := Lib.hid hh
    have HB := Lib.hid hbel
    have hxr : wr.cell? ⟨w.heap.size, 0, none⟩ = some (.slice a l.length cap) := (HB.out.cell (p := ⟨w.heap.size, 0, none⟩) HZ.out).trans HX.out
    have HBw : Hid (Below w.heap.size w wr) := Lib.hid (HB0.out.trans (HB.out.mono HB0.out.size))
    clear hh hbel
    by_cases hlt : k ≤ l.length
    · have hd : decide (k ≤ l.length) = true := by simpa using hlt
      have hd2 : decide ((k : Int) ≤ (l.length : Int)) = true := by simp; omega
      have hf : l.length + 1 - k = (l.length - k) + 1 := by omega
      have HHf : Hid (rholdsP l up kid = (inN l.length up && climb l up ((l.length - k) + 1) kd)) := Lib.hid (by rw [HH.out, ← hf])
      clear hf
      have HWk := Lib.hid (HW.out kd wr)
      by_cases hin : inN l.length kd = true
      · rw [hin] at HWk
        have HU : Hid (∀ W, Calls Try.prog 24 #[.agg #[.slice a l.length cap], .int .i64 up] W fun e w' => e = .returned (.bool (inN l.length up)) ∧ Below W.heap.size W w') := Lib.hid (fun W => HW.out up W)
        by_cases hup : inN l.length up = true
        · rw [hup] at HU
          obtain ⟨j, rfl, hj⟩ := inN_nat hin
          obtain ⟨g, cap', hv, _, _, hgw, hcell, _, _⟩ := HN.out.form (by omega)
          injection hv with hv1 hv2 hv3
          subst hv1 hv3
          have HCJ := Lib.hid (node_up hcell hj)
          have HOn := Lib.hid (fun (h : (j : Int) ≠ up) => climb_on (l := l) (l.length - k) h hin)
          clear hcell hv2
          generalize upI l j = uu at *
          by_cases hq : (j : Int) = up
          · have hb : ((j : Int) == up) = true := by simp [hq]
            have HF : Hid (true = rholdsP l up kid) := Lib.hid (by rw [HHf.out, climb_hit _ hq, hup]; rfl)
            clear hq hin hup
            go_wp2_with fail
            refine HWk.out.mono ?_
            rintro e w2 ⟨rfl, hb2⟩
            have HB2 := below_step HB hb2
            have hx2 : w2.cell? ⟨w.heap.size, 0, none⟩ = some (.slice (some ⟨g, 0, none⟩) l.length cap) := (HB2.out.cell (p := ⟨w.heap.size, 0, none⟩) HZ.out).trans HX.out
            clear hb2 hxr
            go_wp2_with fail
            refine (HU.out w2).mono ?_
            rintro e w3 ⟨rfl, hb2⟩
            have HB3 := below_step HB2 hb2
            clear hb2 hx2
            go_wp2
            go_ret
            exact ⟨ret_bool HF.out, HB0.out.trans (HB3.out.mono HB0.out.size)⟩
          · have hb : ((j : Int) == up) = false := by simp [hq]
            have HF : Hid (rholdsP l up kid = (inN l.length up && climb l up (l.length - k) uu)) := Lib.hid (by rw [HHf.out, HOn.out hq])
            clear hq hin hup
            go_wp2_with fail
            refine HWk.out.mono ?_
            rintro e w2 ⟨rfl, hb2⟩
            have HB2 := below_step HB hb2
            have hx2 : w2.cell? ⟨w.heap.size, 0, none⟩ = some (.slice (some ⟨g, 0, none⟩) l.length cap) := (HB2.out.cell (p := ⟨w.heap.size, 0, none⟩) HZ.out).trans HX.out
            clear hb2 hxr
            go_wp2_with fail
            refine (HU.out w2).mono ?_
            rintro e w3 ⟨rfl, hb2⟩
            have HB3 := below_step HB2 hb2
            have hx3 : w3.cell? ⟨w.heap.size, 0, none⟩ = some (.slice (some ⟨g, 0, none⟩) l.length cap) := (HB3.out.cell (p := ⟨w.heap.size, 0, none⟩) HZ.out).trans HX.out
            have hc3 : w3.cell? ⟨g, j * 7 + 5, none⟩ = some (.int .i64 uu) := ((HB0.out.trans (HB3.out.mono HB0.out.size)).cell (p := ⟨g, j * 7 + 5, none⟩) hgw).trans HCJ.out
            clear hb2 hx2
            go_wp2
            go_roundw
            case rel => exact ⟨k + 1, uu, by omega, rfl, by go_num, by rw [show l.length + 1 - (k + 1) = l.length - k by omega]; exact HF.out, HB3.out⟩
            case measure => simp [intOf]; omega
        · have hup2 : inN l.length up = false := by simpa using hup
          rw [hup2] at HU
          have HF : Hid (false = rholdsP l up kid) := Lib.hid (by rw [HHf.out, hup2]; rfl)
          clear hup hup2 hin
          go_wp2_with fail
          refine HWk.out.mono ?_
          rintro e w2 ⟨rfl, hb2⟩
          have HB2 := below_step HB hb2
          have hx2 : w2.cell? ⟨w.heap.size, 0, none⟩ = some (.slice a l.length cap) := (HB2.out.cell (p := ⟨w.heap.size, 0, none⟩) HZ.out).trans HX.out
          clear hb2 hxr
          go_wp2_with fail
          refine (HU.out w2).mono ?_
          rintro e w3 ⟨rfl, hb2⟩
          have HB3 := below_step HB2 hb2
          clear hb2 hx2
          go_wp2
          go_ret
          exact ⟨ret_bool HF.out, HB0.out.trans (HB3.out.mono HB0.out.size)⟩
      · have hin2 : inN l.length kd = false := by simpa using hin
        rw [hin2] at HWk
        have HF : Hid (false = rholdsP l up kid) := Lib.hid (by
          rw [HHf.out]
          cases hup : inN l.length up with
          | false => rfl
          | true => rw [climb_out _ (fun e => by rw [e, hup] at hin2; cases hin2) hin2]; rfl)
        clear hin hin2
        go_wp2_with fail
        refine HWk.out.mono ?_
        rintro e w2 ⟨rfl, hb2⟩
        have HB2 := below_step HB hb2
        clear hb2 hxr
        go_wp2
        go_ret
        exact ⟨ret_bool HF.out, HB0.out.trans (HB2.out.mono HB0.out.size)⟩
    · have hd : decide (k ≤ l.length) = false := by simpa using hlt
      have hd2 : decide ((k : Int) ≤ (l.length : Int)) = false := by simp; omega
      have HF : Hid (false = rholdsP l up kid) := Lib.hid (by rw [HH.out, show l.length + 1 - k = 0 by omega, climb_zero, Bool.and_false])
      go_wp2
      go_ret
      exact ⟨ret_bool HF.out, HB0.out.trans (HB.out.mono HB0.out.size)⟩

theorem w1_kept {w : World} {v : Value} {a : Addr} {u : Value} (h : w.cell? a = some u) : (W1 w v).cell? a = some u := (World.cell?_alloc_lt _ _ _ (World.block_lt_of_cell? w _ h)).trans h
theorem cell_keep {w w1 : World} {B o : Nat} {u : Value} (hb : Below w.heap.size w w1) (h : w.cell? ⟨B, o, none⟩ = some u) : w1.cell? ⟨B, o, none⟩ = some u :=
  (hb.cell (p := ⟨B, o, none⟩) (World.block_lt_of_cell? w _ h)).trans h

set_option maxHeartbeats 1600000 in
theorem place_any (v : Value) (l : List Nd) (kid : Int) (w : World) (hN : NR w v l) (hK : ∀ i (h : i < l.length), KR w l[i].kv l[i].kids) :
    Calls Try.prog 25 #[.agg #[v], .int .i64 kid] w fun e w' => e = .returned (.int .i64 (placeP l kid)) ∧ Below w.heap.size w w' := by
  by_cases hk : inN l.length kid = true
  · obtain ⟨j, rfl, hj⟩ := inN_nat hk
    obtain ⟨g, cap, rfl, hle, hm, hgw, hcell, _, _⟩ := hN.form (by omega)
    unfold maxLen at hm
    have hcu := node_up hcell hj
    have HB0 := Lib.hid (w1_below w (.slice (some ⟨g, 0, none⟩) l.length cap))
    have hx := w1_cell w (.slice (some ⟨g, 0, none⟩) l.length cap)
    have hcu1 := w1_kept (v := .slice (some ⟨g, 0, none⟩) l.length cap) hcu
    have HWa : Hid (∀ W, Calls Try.prog 34 #[.agg #[.slice (some ⟨g, 0, none⟩) l.length cap], .int .i64 (j : Int)] W fun e w' => e = .returned (.bool true) ∧ Below W.heap.size W w') := Lib.hid (fun W => by rw [← hk]; exact within_any _ _ _ _ W)
    have HC := Lib.hid hcell
    have HK := Lib.hid hK
    have hi1 : (0 : Int) ≤ (j : Int) := by omega
    have hi2 : (j : Int) < (l.length : Int) := by omega
    have HP : Hid (placeP l j = if inN l.length (upI l j) = true then idxI j (nodeI l (upI l j)).kids else -1) := Lib.hid (by unfold placeP; rw [if_pos hk])
    have HWb : Hid (∀ W, Calls Try.prog 34 #[.agg #[.slice (some ⟨g, 0, none⟩) l.length cap], .int .i64 (upI l j)] W fun e w' => e = .returned (.bool (inN l.length (upI l j))) ∧ Below W.heap.size W w') := Lib.hid (fun W => within_any _ _ _ _ W)
    clear hcu hcell hN hK hk
    by_cases hu : inN l.length (upI l j) = true
    · have HQ : Hid (placeP l j = idxI j (nodeI l (upI l j)).kids) := Lib.hid (by rw [HP.out, if_pos hu])
      rw [hu] at HWb
      obtain ⟨i, hi, hil⟩ := inN_nat hu
      have HI := Lib.hid hi
      have hni : nodeI l (upI l j) = l[i] := by rw [hi, nodeI_at hil]
      rw [hni] at HQ
      clear hni hu HP hi
      have hck : w.cell? ⟨g, i * 7 + 6, none⟩ = some l[i].kv := by rw [HC.out i hil 6 (by omega)]; rfl
      have HCK := Lib.hid hck
      have HKi := Lib.hid (HK.out i hil)
      clear hck HK HC
      rw [HI.out] at HWb hcu1
      clear HI
      have hi3 : (0 : Int) ≤ (i : Int) := by omega
      have hi4 : (i : Int) < (l.length : Int) := by omega
      generalize l[i] = y at *
      go_enter Try.func25, Try.ntmps25
      go_wp2
      have hB := HB0.out
      go_region_held3 (fun w' => w'.cell? ⟨w.heap.size, 0, none⟩ = some (.slice (some ⟨g, 0, none⟩) l.length cap) ∧ w'.cell? ⟨g, j * 7 + 5, none⟩ = some (.int .i64 (i : Int)) ∧ Below w.heap.size w w')
        ((go_split_ands; refine ⟨?_, ?_, ?_⟩ <;> first | assumption | go_keep | exact drewB1 (by assumption)))
        (first
          | (go_at_call 34; go_split_ands; (with_reducible refine (HWa.out _).mono ?_); rintro e w4 ⟨rfl, hb4⟩; have hk1 := cell_keep hb4 (B := w.heap.size) (o := 0) (by assumption); have hk2 := cell_keep hb4 (B := g) (o := j * 7 + 5) (by assumption); have hk3 := below_trans (w := w) (by assumption) hb4)
          | (go_at_call 34; go_split_ands; (with_reducible refine (HWb.out _).mono ?_); rintro e w4 ⟨rfl, hb4⟩; have hk1 := cell_keep hb4 (B := w.heap.size) (o := 0) (by assumption); have hk2 := cell_keep hb4 (B := g) (o := j * 7 + 5) (by assumption); have hk3 := below_trans (w := w) (by assumption) hb4))
      have hck4 : w4.cell? ⟨g, i * 7 + 6, none⟩ = some y.kv := (hk3.cell (p := ⟨g, i * 7 + 6, none⟩) hgw).trans HCK.out
      have HB4 := Lib.hid hk3
      have HIx := Lib.hid (fun n => index_any y.kv y.kids j (w4.drewN n) (HKi.out.kept fun q hq => (HB4.out.block q (by
        obtain ⟨c, fz, h⟩ := HKi.out.kind hq
        exact (Array.getElem?_eq_some_iff.1 h).1))))
      clear hcu1 hB hb4 hk3
      generalize idxI (j : Int) y.kids = r at *
      generalize y.kv = kv at *
      go_wp2
      go_quiet ((go_at_call 36; exact Calls.quiet_of_same ((HIx.out _).mono fun _ _ h => ⟨h.1, h.2.symm⟩)))
      go_wp2
      go_ret
      exact ⟨ret_int HQ.out.symm, ⟨HB4.out.os, HB4.out.tape, HB4.out.output, HB4.out.size, HB4.out.block⟩⟩
    · have hu2 : inN l.length (upI l j) = false := by simpa using hu
      have HQ : Hid (-1 = placeP l j) := Lib.hid (by rw [HP.out, if_neg hu])
      rw [hu2] at HWb
      clear hu hu2 HP HC HK
      generalize upI l j = uu at *
      go_enter Try.func25, Try.ntmps25
      go_wp2
      have hB := HB0.out
      go_region_held3 (fun w' => w'.cell? ⟨w.heap.size, 0, none⟩ = some (.slice (some ⟨g, 0, none⟩) l.length cap) ∧ w'.cell? ⟨g, j * 7 + 5, none⟩ = some (.int .i64 uu) ∧ Below w.heap.size w w')
        ((go_split_ands; refine ⟨?_, ?_, ?_⟩ <;> first | assumption | go_keep | exact drewB1 (by assumption)))
        (first
          | (go_at_call 34; go_split_ands; (with_reducible refine (HWa.out _).mono ?_); rintro e w4 ⟨rfl, hb4⟩; have hk1 := cell_keep hb4 (B := w.heap.size) (o := 0) (by assumption); have hk2 := cell_keep hb4 (B := g) (o := j * 7 + 5) (by assumption); have hk3 := below_trans (w := w) (by assumption) hb4)
          | (go_at_call 34; go_split_ands; (with_reducible refine (HWb.out _).mono ?_); rintro e w4 ⟨rfl, hb4⟩; have hk1 := cell_keep hb4 (B := w.heap.size) (o := 0) (by assumption); have hk2 := cell_keep hb4 (B := g) (o := j * 7 + 5) (by assumption); have hk3 := below_trans (w := w) (by assumption) hb4))
      have HB4 := Lib.hid hk3
      clear hcu1 hB hb4 hk3
      go_wp2
      go_ret
      exact ⟨ret_int HQ.out, HB4.out⟩
  · have hk2 : inN l.length kid = false := by simpa using hk
    have HQ : Hid (-1 = placeP l kid) := Lib.hid (by unfold placeP; rw [if_neg hk])
    obtain ⟨a, cap, rfl, _, _⟩ := hN.slice
    have HB0 := Lib.hid (w1_below w (.slice a l.length cap))
    have hx := w1_cell w (.slice a l.length cap)
    have HWa : Hid (∀ W, Calls Try.prog 34 #[.agg #[.slice a l.length cap], .int .i64 kid] W fun e w' => e = .returned (.bool false) ∧ Below W.heap.size W w') := Lib.hid (fun W => by rw [← hk2]; exact within_any _ _ _ _ W)
    clear hN hK hk hk2
    go_enter Try.func25, Try.ntmps25
    go_wp2
    have hB := HB0.out
    first
      | (go_region_law ((go_simp; go_at_call 34; (with_reducible refine (HWa.out _).mono ?_); rintro e w4 ⟨rfl, hb4⟩; have hk3 : Below w.heap.size w w4 := (drewB1 hB).trans (hb4.mono (by simp)))))
      | fail "law"
    all_goals
      have HB4 := Lib.hid hk3
      clear hb4 hk3
      go_wp2
      go_ret
      exact ⟨ret_int HQ.out, HB4.out⟩
end Go.Proofs.Ytnihomlmjfgmdaa
