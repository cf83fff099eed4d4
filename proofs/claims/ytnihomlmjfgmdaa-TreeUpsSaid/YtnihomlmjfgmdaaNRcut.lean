/-
  The walk of the document's own Cut.
-/
import Derived.Test.YtnihomlmjfgmdaaNQ
namespace Go.Proofs.Ytnihomlmjfgmdaa
open Go.RowKit

set_option maxHeartbeats 3200000 in
theorem rcut_any (R : Nat → Prop) (p n S : Nat) (kid : Int) (w : World) (hT : TreeQ w R p n S) (hS : S ≤ 100000) :
    Calls Try.prog 20 #[.pointer (some ⟨p, 0, none⟩), .int .i64 kid] w (RetQT R p n S w) := by
  obtain ⟨v, l, hTA, hln, hSl⟩ := hT
  have HTA := Lib.hid hTA
  have HLn := Lib.hid hln
  have HSl := Lib.hid hSl
  have HPl := Lib.hid (rplace_any v l kid w hTA.nodes.nr hTA.nodes.kr)
  have hp := hTA.cell
  obtain ⟨a, cap, rfl, hcm, hcl⟩ := hTA.nodes.nr.slice
  unfold maxLen at hcm
  have HIs : Hid (∀ k W, Calls Try.prog 24 #[.agg #[.slice a l.length cap], .int .i64 k] W fun e w' => e = .returned (.bool (inN l.length k)) ∧ Below W.heap.size W w') := Lib.hid (fun k W => is_any _ _ _ k W)
  clear hln hSl
  by_cases hin : inN l.length kid = true
  · obtain ⟨k, rfl, hkn⟩ := inN_nat hin
    have HIk : Hid (∀ W, Calls Try.prog 24 #[.agg #[.slice a l.length cap], .int .i64 (k : Int)] W fun e w' => e = .returned (.bool true) ∧ Below W.heap.size W w') := Lib.hid (fun W => by rw [← hin]; exact HIs.out _ W)
    obtain ⟨g, cap', e, _, _, hgw, hrest⟩ := hTA.nodes.nr.form (by omega)
    injection e with e1 e2 e3
    subst e1 e3
    clear hrest e2 hTA hin
    rcases placeP_cases hkn with hpl | ⟨i, at_, hil, hup, hpl, hat⟩
    · rw [hpl] at HPl
      clear hpl
      go_enter Try.func20, Try.ntmps20
      go_wp2_with fail
      refine HPl.out.mono ?_
      rintro e wz ⟨rfl, hb1⟩
      have HBz := Lib.hid hb1
      clear hb1 hp
      have HKz : Hid (Keeps R w wz) := Lib.hid (Keeps.of_below HBz.out)
      have HTz : Hid (TreeAt wz (RN R w wz) p (.slice (some ⟨g, 0, none⟩) l.length cap) l) := Lib.hid (HTA.out.below HBz.out).rn
      have HSz : Hid (l.length = n ∧ kidSum l ≤ S) := Lib.hid ⟨HLn.out, HSl.out⟩
      have hl1 : k < l.length := hkn
      have hpz0 := HTz.out.cell
      go_wp2_with fail
      refine (HIk.out wz).mono ?_
      rintro e wy ⟨rfl, hby⟩
      have HTy : Hid (TreeAt wy (RN R w wy) p (.slice (some ⟨g, 0, none⟩) l.length cap) l) := Lib.hid ((HTz.out.below hby).wide (rn_rn hby.size) (rn_lt fun k h => Nat.lt_of_lt_of_le (HTA.out.nodes.lt k h) (Nat.le_trans HKz.out.size hby.size)))
      have HKy : Hid (Keeps R w wy) := Lib.hid (HKz.out.trans (RN.more R w wz) (Keeps.of_below hby))
      clear hby hpz0
      by_cases hk0 : k = 0
      · have hb : ((k : Int) != 0) = false := by simp [hk0]
        have HF : Hid (RetQT R p n S w (.returned (.tuple #[])) wy) := Lib.hid ⟨rfl, HKy.out, _, l, HTy.out, HSz.out.1, HSz.out.2⟩
        clear hk0
        go_wp2
        refine bodyPost_ret (results_none rfl _ _ _) rfl ?_
        exact HF.out
      · have hb : ((k : Int) != 0) = true := by simp [hk0]
        have HF : Hid (RetQT R p n S w (.returned (.tuple #[])) (wy.setCell ⟨g, k * 7 + 5, none⟩ (.int .i64 (-1)))) := Lib.hid (retQ_setUp HTA.out.nodes.lt HKy.out HTy.out HSz.out.1 HSz.out.2)
        have hpz := HTy.out.cell
        obtain ⟨hzu, _, hzf⟩ := HTy.out.up_cell hl1
        have hzf5 := hzf (k * 7 + 5)
        have hj1 : (0 : Int) ≤ (k : Int) := by omega
        have hj2 : (k : Int) < (l.length : Int) := by omega
        clear hk0 hzf
        generalize upI l (k : Int) = uz at *
        go_wp2
        refine bodyPost_ret (results_none rfl _ _ _) rfl ?_
        exact HF.out
    · rw [hpl] at HPl
      have hka : l[i].kids.length ≤ 100000 := by have := kidSum_at l i hil; have := HSl.out; omega
      have HUp := Lib.hid hup
      obtain ⟨ka, kc, hkv, hkle, hkm, hknone, hkc⟩ := (HTA.out.nodes.kr i hil).form
      have HKV := Lib.hid hkv
      have HKc := Lib.hid hkc
      have HKn := Lib.hid hknone
      have HKR := Lib.hid (HTA.out.nodes.kr i hil)
      rw [hkv] at HKR
      have hi1 : (0 : Int) ≤ (k : Int) := by omega
      have hi2 : (k : Int) < (l.length : Int) := by omega
      have hi3 : (0 : Int) ≤ (i : Int) := by omega
      have hi4 : (i : Int) < (l.length : Int) := by omega
      have HRow : Hid (∀ W, Below w.heap.size w W → W.cell? ⟨p, 0, none⟩ = some (.slice (some ⟨g, 0, none⟩) l.length cap) ∧ W.cell? ⟨g, k * 7 + 5, none⟩ = some (.int .i64 (i : Int)) ∧ W.cell? ⟨g, i * 7 + 6, none⟩ = some (.slice ka l[i].kids.length kc) ∧ W.frozen? ⟨g, i * 7 + 6, none⟩ = false) := Lib.hid (fun W hW => by
        have h := HTA.out.below hW
        obtain ⟨h1, _, _⟩ := h.up_cell hkn
        obtain ⟨_, h2, h3⟩ := h.up_cell hil
        rw [HUp.out] at h1
        rw [HKV.out] at h2
        exact ⟨h.cell, h1, h2, h3 _⟩)
      have HKin : Hid (l[i].kids.length ≤ kidSum l) := Lib.hid (kidSum_at l i hil)
      have HKs := Lib.hid (fun v ks => kidSum_kids v ks l i hil)
      clear hpl hup hkv hknone hkc
      generalize l[i].kids = ks at *
      go_enter Try.func20, Try.ntmps20
      go_wp2_with fail
      refine HPl.out.mono ?_
      rintro e w1 ⟨rfl, hb1⟩
      have HB1 := Lib.hid hb1
      obtain ⟨r1, r2, r3, r4⟩ := HRow.out w1 hb1
      clear hb1 hp
      go_wp2
      clear r1 r2 r3 r4
      go_loopw [6, 7] (fun t q wr => ∃ (m : Nat) (xs : List Int), m ≤ ks.length ∧ q = .int .i64 m ∧ KR wr t xs ∧ xs.length ≤ m ∧ (m ≤ at_ ∨ xs.length + 1 ≤ m) ∧ (∀ j, t.ownBlock = some j → w.heap.size ≤ j) ∧ Below w.heap.size w wr) (fun _ q _ => ks.length - (intOf q).toNat)
      case atStart => exact ⟨0, [], Nat.zero_le _, rfl, KR.nil _, Nat.le_refl _, .inl (Nat.zero_le _), (fun j hj => by cases hj), HB1.out⟩
      case round =>
        obtain ⟨m, xs, hm, rfl, hkr, hxl, hxm, hown, hbr⟩ := hrel
        have HKr := Lib.hid hkr
        have HOr := Lib.hid hown
        have HBr := Lib.hid hbr
        obtain ⟨r1, r2, r3, r4⟩ := HRow.out wr hbr
        clear hkr hown hbr
        by_cases hlt : m < ks.length
        · cases ka with
          | none => have := HKn.out rfl; omega
          | some kad =>
            obtain ⟨q, rfl, hq, hcc, _⟩ := HKc.out kad rfl
            have hck : wr.cell? ⟨q, m, none⟩ = some (.int .i64 ks[m]) := (HBr.out.cell (p := ⟨q, m, none⟩) hq).trans (hcc m hlt)
            have hm0 : (0 : Int) ≤ (m : Int) := by omega
            have hm1 : (m : Int) < (ks.length : Int) := by omega
            clear hcc
            generalize ks[m] = z at *
            by_cases hma : m = at_
            · have hb : ((m : Int) != (at_ : Int)) = false := by simp [hma]
              have HMa := Lib.hid hma
              clear hma
              go_wp2
              go_roundw
              case rel => exact ⟨m + 1, xs, by omega, by go_num, HKr.out, by omega, .inr (by omega), HOr.out, HBr.out⟩
              case measure => simp [intOf]; omega
            · have hb : ((m : Int) != (at_ : Int)) = true := by simp; omega
              have HMa := Lib.hid hma
              clear hma
              go_wp2_with (at_builtin; refine wpList_append_ints _ rfl _ _ rfl _ _ rfl (HKr.out.alloc _) (some ⟨wr.heap.size, 0, none⟩) 1 [z] rfl (one_int wr z) (by simp; omega) ?_; intro v2 w2 hk2 hgrow2 hat2)
              go_roundw
              case rel =>
                refine ⟨m + 1, xs ++ [z], by omega, by go_num, hk2, by simp; omega, ?_, fun j hj => ?_, (HBr.out.alloc HBr.out.size _).grown hgrow2 (by have := HBr.out.size; simp; omega) HOr.out⟩
                · have := HMa.out; simp; omega
                · rcases hat2 with e | e
                  · exact HOr.out j (e ▸ hj)
                  · rw [e] at hj; injection hj with hj; have := HBr.out.size; simp at hj; omega
              case measure => simp [intOf]; omega
        · obtain ⟨a4, c4, hv4, _⟩ := HKr.out.form
          have hx1 : xs.length ≤ ks.length := by omega
          subst hv4
          obtain ⟨hts, hks4⟩ := HTA.out.setKids HBr.out i (.slice a4 xs.length c4) xs HKr.out HOr.out
          have hsum := HKs.out (.slice a4 xs.length c4) xs
          have hlen4 : (l.modify i (setKids (.slice a4 xs.length c4) xs)).length = l.length := by simp
          have hsz4 : (wr.setCell ⟨g, i * 7 + 6, none⟩ (.slice a4 xs.length c4)).heap.size = wr.heap.size := by simp
          go_upto_region 10 with fail
          generalize hl4 : l.modify i (setKids (.slice a4 xs.length c4) xs) = l4 at *
          clear hl4
          obtain ⟨wz, ew⟩ : ∃ wz, wz = wr.setCell ⟨g, i * 7 + 6, none⟩ (.slice a4 xs.length c4) := ⟨_, rfl⟩
          rw [← ew] at hts hks4 hsz4 ⊢
          have HKz : Hid (Keeps R w wz) := Lib.hid hks4
          have HTz : Hid (TreeAt wz (RN R w wz) p (.slice (some ⟨g, 0, none⟩) l.length cap) l4) := Lib.hid (hts.wide (rn_rn (by omega)) (rn_lt fun k h => Nat.lt_of_lt_of_le (HTA.out.nodes.lt k h) hks4.size))
          have hl1 : k < l4.length := by omega
          have HSz : Hid (l4.length = n ∧ kidSum l4 ≤ S) := Lib.hid ⟨by rw [hlen4, HLn.out], by have := HSl.out; omega⟩
          clear hts hks4 hsum hlen4 hsz4 ew r1 r2 r3 r4
          have hpz0 := HTz.out.cell
          go_wp2_with fail
          refine (HIk.out wz).mono ?_
          rintro e wy ⟨rfl, hby⟩
          have HTy : Hid (TreeAt wy (RN R w wy) p (.slice (some ⟨g, 0, none⟩) l.length cap) l4) := Lib.hid ((HTz.out.below hby).wide (rn_rn hby.size) (rn_lt fun k h => Nat.lt_of_lt_of_le (HTA.out.nodes.lt k h) (Nat.le_trans HKz.out.size hby.size)))
          have HKy : Hid (Keeps R w wy) := Lib.hid (HKz.out.trans (RN.more R w wz) (Keeps.of_below hby))
          clear hby hpz0
          by_cases hk0 : k = 0
          · have hb : ((k : Int) != 0) = false := by simp [hk0]
            have HF : Hid (RetQT R p n S w (.returned (.tuple #[])) wy) := Lib.hid ⟨rfl, HKy.out, _, l4, HTy.out, HSz.out.1, HSz.out.2⟩
            clear hk0
            go_wp2
            refine bodyPost_ret (results_none rfl _ _ _) rfl ?_
            exact HF.out
          · have hb : ((k : Int) != 0) = true := by simp [hk0]
            have HF : Hid (RetQT R p n S w (.returned (.tuple #[])) (wy.setCell ⟨g, k * 7 + 5, none⟩ (.int .i64 (-1)))) := Lib.hid (retQ_setUp HTA.out.nodes.lt HKy.out HTy.out HSz.out.1 HSz.out.2)
            have hpz := HTy.out.cell
            obtain ⟨hzu, _, hzf⟩ := HTy.out.up_cell hl1
            have hzf5 := hzf (k * 7 + 5)
            have hj1 : (0 : Int) ≤ (k : Int) := by omega
            have hj2 : (k : Int) < (l.length : Int) := by omega
            clear hk0 hzf
            generalize upI l4 (k : Int) = uz at *
            go_wp2
            refine bodyPost_ret (results_none rfl _ _ _) rfl ?_
            exact HF.out
  · have hin2 : inN l.length kid = false := by simpa using hin
    have hpl : placeP l kid = -1 := by unfold placeP; rw [if_neg hin]
    rw [hpl] at HPl
    have HIk : Hid (∀ W, Calls Try.prog 24 #[.agg #[.slice a l.length cap], .int .i64 kid] W fun e w' => e = .returned (.bool false) ∧ Below W.heap.size W w') := Lib.hid (fun W => by rw [← hin2]; exact HIs.out _ W)
    clear hin hin2 hpl hTA
    go_enter Try.func20, Try.ntmps20
    go_wp2_with fail
    refine HPl.out.mono ?_
    rintro e w1 ⟨rfl, hb1⟩
    have HB1 := Lib.hid hb1
    have hp1 := (HTA.out.below hb1).cell
    clear hb1 hp
    go_wp2_with fail
    refine (HIk.out w1).mono ?_
    rintro e w2 ⟨rfl, hb2⟩
    have HB2 := below_step HB1 hb2
    clear hb2 hp1
    have HF : Hid (RetQT R p n S w (.returned (.tuple #[])) w2) := Lib.hid ⟨rfl, Keeps.of_below HB2.out, _, l, (HTA.out.below HB2.out).rn, HLn.out, HSl.out⟩
    go_wp2
    refine bodyPost_ret (results_none rfl _ _ _) rfl ?_
    exact HF.out
end Go.Proofs.Ytnihomlmjfgmdaa
