/-
  The walk of the document's own Place; may one come into the other.
-/
import Derived.Test.YtnihomlmjfgmdaaNPlace
namespace Go.Proofs.Ytnihomlmjfgmdaa
open Go.RowKit

set_option maxHeartbeats 1600000 in
theorem rplace_any (v : Value) (l : List Nd) (kid : Int) (w : World) (hN : NR w v l) (hK : ∀ i (h : i < l.length), KR w l[i].kv l[i].kids) :
    Calls Try.prog 37 #[.agg #[v], .int .i64 kid] w fun e w' => e = .returned (.int .i64 (placeP l kid)) ∧ Below w.heap.size w w' := by
  by_cases hk : inN l.length kid = true
  · obtain ⟨j, rfl, hj⟩ := inN_nat hk
    obtain ⟨g, cap, rfl, hle, hm, hgw, hcell, _, _⟩ := hN.form (by omega)
    unfold maxLen at hm
    have hcu := node_up hcell hj
    have HB0 := Lib.hid (w1_below w (.slice (some ⟨g, 0, none⟩) l.length cap))
    have hx := w1_cell w (.slice (some ⟨g, 0, none⟩) l.length cap)
    have hcu1 := w1_kept (v := .slice (some ⟨g, 0, none⟩) l.length cap) hcu
    have HWa : Hid (∀ W, Calls Try.prog 24 #[.agg #[.slice (some ⟨g, 0, none⟩) l.length cap], .int .i64 (j : Int)] W fun e w' => e = .returned (.bool true) ∧ Below W.heap.size W w') := Lib.hid (fun W => by rw [← hk]; exact is_any _ _ _ _ W)
    have HC := Lib.hid hcell
    have HK := Lib.hid hK
    have hi1 : (0 : Int) ≤ (j : Int) := by omega
    have hi2 : (j : Int) < (l.length : Int) := by omega
    have HP : Hid (placeP l j = if inN l.length (upI l j) = true then idxI j (nodeI l (upI l j)).kids else -1) := Lib.hid (by unfold placeP; rw [if_pos hk])
    have HWb : Hid (∀ W, Calls Try.prog 24 #[.agg #[.slice (some ⟨g, 0, none⟩) l.length cap], .int .i64 (upI l j)] W fun e w' => e = .returned (.bool (inN l.length (upI l j))) ∧ Below W.heap.size W w') := Lib.hid (fun W => is_any _ _ _ _ W)
    clear hcu hcell hN hK hk
    by_cases hu : inN l.length (upI l j) = true
    · have HQ : Hid (placeP l j = idxI j (nodeI l (upI l j)).kids) := Lib.hid (by rw [HP.out, if_pos hu])
      rw [hu] at HWb
      obtain ⟨i, hi, hil⟩ := inN_nat hu
      have HI := Lib.hid hi
      have hni : nodeI l (upI l j) = l[i] := by rw [hi, nodeI_at hil]
      rw [hni] at HQ
      clear hni hu HP hi
      have hck : w.cell? ⟨g, i * 7 + 6, none⟩ = some l[i].kv := by rw [HC.out i hil 6 (by omega)]; rfl
      have HCK := Lib.hid hck
      have HKi := Lib.hid (HK.out i hil)
      clear hck HK HC
      rw [HI.out] at HWb hcu1
      clear HI
      have hi3 : (0 : Int) ≤ (i : Int) := by omega
      have hi4 : (i : Int) < (l.length : Int) := by omega
      generalize l[i] = y at *
      go_enter Try.func37, Try.ntmps37
      go_wp2
      have hB := HB0.out
      go_region_held3 (fun w' => w'.cell? ⟨w.heap.size, 0, none⟩ = some (.slice (some ⟨g, 0, none⟩) l.length cap) ∧ w'.cell? ⟨g, j * 7 + 5, none⟩ = some (.int .i64 (i : Int)) ∧ Below w.heap.size w w')
        ((go_split_ands; refine ⟨?_, ?_, ?_⟩ <;> first | assumption | go_keep | exact drewB1 (by assumption)))
        (first
          | (go_at_call 24; go_split_ands; (with_reducible refine (HWa.out _).mono ?_); rintro e w4 ⟨rfl, hb4⟩; have hk1 := cell_keep hb4 (B := w.heap.size) (o := 0) (by assumption); have hk2 := cell_keep hb4 (B := g) (o := j * 7 + 5) (by assumption); have hk3 := below_trans (w := w) (by assumption) hb4)
          | (go_at_call 24; go_split_ands; (with_reducible refine (HWb.out _).mono ?_); rintro e w4 ⟨rfl, hb4⟩; have hk1 := cell_keep hb4 (B := w.heap.size) (o := 0) (by assumption); have hk2 := cell_keep hb4 (B := g) (o := j * 7 + 5) (by assumption); have hk3 := below_trans (w := w) (by assumption) hb4))
      have hck4 : w4.cell? ⟨g, i * 7 + 6, none⟩ = some y.kv := (hk3.cell (p := ⟨g, i * 7 + 6, none⟩) hgw).trans HCK.out
      have HB4 := Lib.hid hk3
      have HKR : Hid (∀ W, Below w4.heap.size w4 W → KR W y.kv y.kids) := Lib.hid (fun W hW => (HKi.out.kept fun q hq => (HB4.out.block q (by
        obtain ⟨c, fz, h⟩ := HKi.out.kind hq
        exact (Array.getElem?_eq_some_iff.1 h).1))).kept fun q hq => hW.block q (by
        obtain ⟨c, fz, h⟩ := HKi.out.kind hq
        have := (Array.getElem?_eq_some_iff.1 h).1
        exact Nat.lt_of_lt_of_le this HB4.out.size))
      obtain ⟨ka, kc, hkv, hkle, hkm, hnone, _⟩ := HKi.out.form
      unfold maxLen at hkm
      have HNn := Lib.hid hnone
      rw [hkv] at HKR hck4
      clear hcu1 hB hb4 hk3 HKi HCK hnone hkv
      generalize y.kids = xs at *
      go_wp2
      go_quiet (fail)
      go_wp2
      go_loopw [6] (fun q wr => ∃ k : Nat, k ≤ xs.length ∧ q = .int .i64 k ∧ idxI (j : Int) xs = idxR (j : Int) (xs.drop k) k ∧ Below w4.heap.size w4 wr) (fun q _ => xs.length - (intOf q).toNat)
      case atStart => exact ⟨0, Nat.zero_le _, rfl, rfl, ⟨rfl, rfl, rfl, Nat.le_refl _, fun _ _ => rfl⟩⟩
      case round =>
        obtain ⟨k, hkk, rfl, hh, hbel⟩ := hrel
        have HH := Lib.hid hh
        have HB := Lib.hid hbel
        clear hh hbel
        by_cases hlt : k < xs.length
        · have HD := Lib.hid (idxR_drop (j : Int) xs k hlt)
          have hlt2 : (k : Int) < (xs.length : Int) := by omega
          obtain ⟨ka', kc', hv', _, _, _, hcc⟩ := (HKR.out wr HB.out).form
          injection hv' with e1 e2 e3
          subst e1 e3
          cases ka with
          | none => have := HNn.out rfl; omega
          | some ad =>
            obtain ⟨g2, rfl, _, hc, _, _⟩ := hcc ad rfl
            have hck := hc k hlt
            clear hc hcc e2
            generalize xs[k] = z at *
            by_cases hq : (j : Int) = z
            · have hb : (z == (j : Int)) = true := by simp [hq]
              have hb' : ((j : Int) == z) = true := by simp [hq]
              have HF : Hid ((k : Int) = placeP l j) := Lib.hid (by rw [HQ.out, HH.out, HD.out, if_pos hq])
              clear hq
              go_wp2
              go_ret
              exact ⟨ret_int HF.out, HB4.out.trans (HB.out.mono HB4.out.size)⟩
            · have hb : (z == (j : Int)) = false := by simp; exact fun e => hq e.symm
              have hb' : ((j : Int) == z) = false := by simp [hq]
              have HF : Hid (idxI (j : Int) xs = idxR (j : Int) (xs.drop (k + 1)) (k + 1)) := Lib.hid (by rw [HH.out, HD.out, if_neg hq])
              clear hq
              go_wp2
              go_roundw
              case rel => exact ⟨k + 1, by omega, by go_num, HF.out, HB.out⟩
              case measure => simp [intOf]; omega
        · have HF : Hid (-1 = placeP l j) := Lib.hid (by rw [HQ.out, HH.out, idxR_end (j : Int) xs k (by omega)])
          go_wp2
          go_ret
          exact ⟨ret_int HF.out, HB4.out.trans (HB.out.mono HB4.out.size)⟩
    · have hu2 : inN l.length (upI l j) = false := by simpa using hu
      have HQ : Hid (-1 = placeP l j) := Lib.hid (by rw [HP.out, if_neg hu])
      rw [hu2] at HWb
      clear hu hu2 HP HC HK
      generalize upI l j = uu at *
      go_enter Try.func37, Try.ntmps37
      go_wp2
      have hB := HB0.out
      go_region_held3 (fun w' => w'.cell? ⟨w.heap.size, 0, none⟩ = some (.slice (some ⟨g, 0, none⟩) l.length cap) ∧ w'.cell? ⟨g, j * 7 + 5, none⟩ = some (.int .i64 uu) ∧ Below w.heap.size w w')
        ((go_split_ands; refine ⟨?_, ?_, ?_⟩ <;> first | assumption | go_keep | exact drewB1 (by assumption)))
        (first
          | (go_at_call 24; go_split_ands; (with_reducible refine (HWa.out _).mono ?_); rintro e w4 ⟨rfl, hb4⟩; have hk1 := cell_keep hb4 (B := w.heap.size) (o := 0) (by assumption); have hk2 := cell_keep hb4 (B := g) (o := j * 7 + 5) (by assumption); have hk3 := below_trans (w := w) (by assumption) hb4)
          | (go_at_call 24; go_split_ands; (with_reducible refine (HWb.out _).mono ?_); rintro e w4 ⟨rfl, hb4⟩; have hk1 := cell_keep hb4 (B := w.heap.size) (o := 0) (by assumption); have hk2 := cell_keep hb4 (B := g) (o := j * 7 + 5) (by assumption); have hk3 := below_trans (w := w) (by assumption) hb4))
      have HB4 := Lib.hid hk3
      clear hcu1 hB hb4 hk3
      go_wp2
      go_ret
      exact ⟨ret_int HQ.out, HB4.out⟩
  · have hk2 : inN l.length kid = false := by simpa using hk
    have HQ : Hid (-1 = placeP l kid) := Lib.hid (by unfold placeP; rw [if_neg hk])
    obtain ⟨a, cap, rfl, _, _⟩ := hN.slice
    have HB0 := Lib.hid (w1_below w (.slice a l.length cap))
    have hx := w1_cell w (.slice a l.length cap)
    have HWa : Hid (∀ W, Calls Try.prog 24 #[.agg #[.slice a l.length cap], .int .i64 kid] W fun e w' => e = .returned (.bool false) ∧ Below W.heap.size W w') := Lib.hid (fun W => by rw [← hk2]; exact is_any _ _ _ _ W)
    clear hN hK hk hk2
    go_enter Try.func37, Try.ntmps37
    go_wp2
    have hB := HB0.out
    first
      | (go_region_law ((go_simp; go_at_call 24; (with_reducible refine (HWa.out _).mono ?_); rintro e w4 ⟨rfl, hb4⟩; have hk3 : Below w.heap.size w w4 := (drewB1 hB).trans (hb4.mono (by simp)))))
      | fail "law"
    all_goals
      have HB4 := Lib.hid hk3
      clear hb4 hk3
      go_wp2
      go_ret
      exact ⟨ret_int HQ.out, HB4.out⟩

set_option maxHeartbeats 1600000 in
theorem may_any (v : Value) (l : List Nd) (one other : Int) (p : Nat) (w : World) (hN : NR w v l) (hp : w.cell? ⟨p, 0, none⟩ = some v) :
    Calls Try.prog 30 #[.pointer (some ⟨p, 0, none⟩), .int .i64 one, .int .i64 other] w fun e w' => e = .returned (.bool (mayP l one other)) ∧ Below w.heap.size w w' := by
  obtain ⟨a, cap, rfl, hm, hle⟩ := hN.slice
  have HN := Lib.hid hN
  have HP := Lib.hid hp
  have hpl : p < w.heap.size := World.block_lt_of_cell? w _ hp
  have HW : Hid (∀ k W, Calls Try.prog 34 #[.agg #[.slice a l.length cap], .int .i64 k] W fun e w' => e = .returned (.bool (inN l.length k)) ∧ Below W.heap.size W w') := Lib.hid (fun k W => within_any _ _ _ k W)
  clear hN
  have H1 := Lib.hid (HW.out one w)
  by_cases h1 : inN l.length one = true
  · rw [h1] at H1
    have H2 : Hid (∀ W, Calls Try.prog 34 #[.agg #[.slice a l.length cap], .int .i64 other] W fun e w' => e = .returned (.bool (inN l.length other)) ∧ Below W.heap.size W w') := Lib.hid (fun W => HW.out other W)
    by_cases h2 : inN l.length other = true
    · have HF : Hid (mayP l one other = !holdsP l one other) := Lib.hid (by unfold mayP; rw [h1, h2]; rfl)
      rw [h2] at H2
      have H3 : Hid (∀ W, Below w.heap.size w W → Calls Try.prog 26 #[.agg #[.slice a l.length cap], .int .i64 one, .int .i64 other] W fun e w' => e = .returned (.bool (holdsP l one other)) ∧ Below W.heap.size W w') := Lib.hid (fun W hW => holds_any _ l one other W (HN.out.kept fun q hq => hW.block q (by
        obtain ⟨c, fz, h⟩ := HN.out.kind hq
        exact (Array.getElem?_eq_some_iff.1 h).1)))
      clear h1 h2 HW
      generalize holdsP l one other = hb at *
      go_enter Try.func30, Try.ntmps30
      go_wp2_with fail
      refine H1.out.mono ?_
      rintro e w1 ⟨rfl, hb1⟩
      have hp1 := cell_keep hb1 hp
      have HB1 := Lib.hid hb1
      clear hb1 hp
      go_wp2_with fail
      refine (H2.out w1).mono ?_
      rintro e w2 ⟨rfl, hb2⟩
      have hp2 := cell_keep hb2 hp1
      have HB2 := below_step HB1 hb2
      clear hb2 hp1
      go_wp2_with fail
      refine (H3.out w2 HB2.out).mono ?_
      rintro e w3 ⟨rfl, hb3⟩
      have HB3 := below_step HB2 hb3
      clear hb3 hp2
      go_wp2
      go_ret
      exact ⟨ret_bool HF.out.symm, HB3.out⟩
    · have h2' : inN l.length other = false := by simpa using h2
      have HF : Hid (false = mayP l one other) := Lib.hid (by unfold mayP; rw [h2', Bool.and_false, Bool.false_and])
      rw [h2'] at H2
      clear h1 h2 h2' HW
      go_enter Try.func30, Try.ntmps30
      go_wp2_with fail
      refine H1.out.mono ?_
      rintro e w1 ⟨rfl, hb1⟩
      have hp1 := cell_keep hb1 hp
      have HB1 := Lib.hid hb1
      clear hb1 hp
      go_wp2_with fail
      refine (H2.out w1).mono ?_
      rintro e w2 ⟨rfl, hb2⟩
      have HB2 := below_step HB1 hb2
      clear hb2 hp1
      go_wp2
      go_ret
      exact ⟨ret_bool HF.out, HB2.out⟩
  · have h1' : inN l.length one = false := by simpa using h1
    have HF : Hid (false = mayP l one other) := Lib.hid (by unfold mayP; rw [h1', Bool.false_and, Bool.false_and])
    rw [h1'] at H1
    clear h1 h1' HW
    go_enter Try.func30, Try.ntmps30
    go_wp2_with fail
    refine H1.out.mono ?_
    rintro e w1 ⟨rfl, hb1⟩
    have HB1 := Lib.hid hb1
    clear hb1 hp
    go_wp2
    go_ret
    exact ⟨ret_bool HF.out, HB1.out⟩
end Go.Proofs.Ytnihomlmjfgmdaa
