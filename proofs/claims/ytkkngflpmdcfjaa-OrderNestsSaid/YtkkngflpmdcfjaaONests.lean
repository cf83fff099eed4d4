/-
  The law OrderNests, walked.
-/
import Derived.Test.YtkkngflpmdcfjaaOCounts
import Derived.Test.YtkkngflpmdcfjaaOPath
namespace Go.Proofs.Ytkkngflpmdcfjaa
open Go.RowKit
attribute [local go_sem] run_store_float run_store_complex

theorem fb_lt {a b : Int} (ha : -1 ≤ a) (ha2 : a < 65) (hb : -1 ≤ b) (hb2 : b < 65) : (FloatKind.f64.format.order (fb a) (fb b) == some .lt) = decide (a < b) := by
  rw [fb_order ha ha2 hb hb2]; exact cmp_lt _ _
theorem fb_ge {a : Int} (ha : -1 ≤ a) (ha2 : a < 65) : ((FloatKind.f64.format.order (fb a) 0 == some .gt) || (FloatKind.f64.format.order (fb a) 0 == some .eq)) = decide (0 ≤ a) := by
  have h := fb_order (a := a) (b := 0) ha ha2 (by omega) (by omega)
  rw [fb_0] at h
  rw [h]
  unfold cmpI
  by_cases h1 : a < 0
  · rw [if_pos h1]; simp; omega
  · rw [if_neg h1]
    by_cases h2 : a = 0
    · rw [if_pos h2]; simp; omega
    · rw [if_neg h2]; simp; omega
theorem take_filter_step {l : List Int} {q : Nat} {z : Int} (P : Int → Bool) (h : l[q]? = some z) : (l.take (q + 1)).filter P = (l.take q).filter P ++ (if P z = true then [z] else []) := by
  rw [← take_snoc h, List.filter_append]
  congr 1
  split
  · rename_i h; rw [List.filter_cons_of_pos h]; rfl
  · rename_i h; rw [List.filter_cons_of_neg h]; rfl

set_option maxRecDepth 100000 in
set_option maxHeartbeats 4000000 in
theorem nests_walk (u : Value) (l : List Nd) (w : World) (hAw : ∀ W, Calls Try.prog 16 #[] W (RetT W)) (h : ReadN w u l) (hl : l.length ≤ maxLen) (hs : ∀ i (h : i < l.length), sizedR l[i]) (hr : roomy u) :
    Calls Try.prog 4 #[.agg #[u]] w (RetT w) := by
  have HAw := Lib.hid hAw
  have HT := Lib.hid (fun W (hW : Below w.heap.size w W) => treep_any u l W (h.below hW) hl hs)
  have HV := Lib.hid (fun W (hW : Below w.heap.size w W) => (tree_view h hs hr).below hW)
  obtain ⟨a, cap, rfl, _, _⟩ := h
  have HB0 := Lib.hid (below_box w (.cells #[.slice a l.length cap] 24))
  have HX : Hid ((w.alloc (.cells #[.slice a l.length cap] 24)).cell? ⟨w.heap.size, 0, none⟩ = some (.slice a l.length cap)) := Lib.hid (w1_cell w (.slice a l.length cap))
  clear hAw hs hr hl
  go_enter Try.func4, Try.ntmps4
  go_upto_region 1 with fail
  show Code.wp _ _ _ _ (w.alloc (.cells #[.slice a l.length cap] 24))
  obtain ⟨w1, ew⟩ : ∃ w1, w1 = w.alloc (.cells #[.slice a l.length cap] 24) := ⟨_, rfl⟩
  rw [← ew] at HB0 HX ⊢
  clear ew
  have hx := HX.out
  go_wp2_with fail
  refine (HT.out _ HB0.out).mono ?_
  rintro e w2 ⟨bb, rfl, hbb, hb⟩
  have HB2 := below_step HB0 hb
  have hx2 := cell_keep hb hx
  clear hb hx HX HT
  cases bb with
  | false =>
    go_wp2_with fail
    refine (HAw.out _).mono ?_
    rintro e w3 ⟨rfl, hb⟩
    have HB3 := below_step HB2 hb
    clear hb hx2
    go_wp2
    go_ret
    exact ⟨rfl, HB3.out⟩
  | true =>
    have hS := smallT_of (hbb rfl)
    have hn := hS.n
    have HS := Lib.hid hS
    clear hbb hS
    have HLi := Lib.hid (fun W (hW : Below w.heap.size w W) => list_any _ l.length (kidsT l) W (HV.out _ hW) (by omega) HS.out.ms)
    have HPa := Lib.hid (fun (i : Nat) W (hW : Below w.heap.size w W) => path_any _ (i : Int) l.length (kidsT l) W (HV.out _ hW) (by omega) HS.out.ms)
    have HMa := Lib.hid (marks_any _ l.length (kidsT l) w2 (HV.out _ HB2.out) hn HS.out.ms (by have := HS.out.ev; omega))
    have HPi : Hid (∀ i : Nat, pthE (i : Int) [] (evA (kidsT l) l.length) = (insE (evA (kidsT l) l.length)).filter fun z => insB ((mkE (evA (kidsT l) l.length)).1 i) ((mkE (evA (kidsT l) l.length)).1 z.toNat)) := Lib.hid path_in
    have HAp : Hid (∀ i k : Nat, (k, true) ∈ evA (kidsT l) l.length → 0 ≤ ((mkE (evA (kidsT l) l.length)).1 i).1 → k ≠ i → insB ((mkE (evA (kidsT l) l.length)).1 i) ((mkE (evA (kidsT l) l.length)).1 k) = false → insB ((mkE (evA (kidsT l) l.length)).1 k) ((mkE (evA (kidsT l) l.length)).1 i) = false → ¬ (((mkE (evA (kidsT l) l.length)).1 i).1 < ((mkE (evA (kidsT l) l.length)).1 k).2 ∧ ((mkE (evA (kidsT l) l.length)).1 k).1 < ((mkE (evA (kidsT l) l.length)).1 i).2)) := Lib.hid (fun i k h1 h2 h3 h4 h5 => apart h1 h2 h3 h4 h5)
    have HBd : Hid (∀ j, (-1 ≤ ((mkE (evA (kidsT l) l.length)).1 j).1 ∧ ((mkE (evA (kidsT l) l.length)).1 j).1 < 65) ∧ -1 ≤ ((mkE (evA (kidsT l) l.length)).1 j).2 ∧ ((mkE (evA (kidsT l) l.length)).1 j).2 < 65) := Lib.hid (fun j => mark_bd j (by have := HS.out.ev; omega))
    have HLt : Hid (∀ z ∈ insE (evA (kidsT l) l.length), ∃ k : Nat, z = (k : Int) ∧ (k, true) ∈ evA (kidsT l) l.length ∧ k < l.length) := Lib.hid (fun z hz => by
      obtain ⟨k, e, hk⟩ := insE_mem.1 hz
      exact ⟨k, e, hk, evA_lt hk⟩)
    have HLn : Hid ((insE (evA (kidsT l) l.length)).length ≤ 30) := Lib.hid (by have := evA_twice (kidsT l) l.length; have := HS.out.ev; omega)
    generalize evA (kidsT l) l.length = A at *
    generalize (mkE A).1 = m at *
    clear HS HV
    go_wp2_with fail
    refine HMa.out.mono ?_
    rintro e w3 ⟨S, rfl, hm, _, hb⟩
    have HB3 := below_step HB2 hb
    have HX3 := Lib.hid (cell_keep hb hx2)
    have HM3 := Lib.hid hm
    have hx3 := HX3.out
    clear hm hb hx2 HMa
    go_wp2
    go_loopw [24] (fun v24 wr => ∃ j : Nat, j ≤ l.length ∧ v24 = .int .i64 j ∧ Below w3.heap.size w3 wr) (fun v24 _ => l.length - (intOf v24).toNat)
    case atStart => exact ⟨0, Nat.zero_le _, rfl, Below.refl _ _⟩
    case round =>
      clear hx3
      obtain ⟨j, hj, rfl, hb⟩ := hrel
      have HBr := Lib.hid hb
      have HB4 := below_step HB3 hb
      have hxr := cell_keep hb HX3.out
      clear hb
      by_cases hlt : j < l.length
      · obtain ⟨mc, _⟩ := (HM3.out.of (HBr.out.block _ HM3.out.lt)).at hlt
        have hi0 : (0 : Int) ≤ (j : Int) := by omega
        have hi1 : (j : Int) < (l.length : Int) := by omega
        unfold cx at mc
        obtain ⟨x1, hx1⟩ : ∃ x, x = fb (m j).1 := ⟨_, rfl⟩
        obtain ⟨y1, hy1⟩ : ∃ x, x = fb (m j).2 := ⟨_, rfl⟩
        rw [← hx1, ← hy1] at mc
        have HX1 := Lib.hid hx1
        have HY1 := Lib.hid hy1
        have HLj := Lib.hid (HLi.out wr HB4.out)
        clear hx1 hy1
        go_wp2_with fail
        refine HLj.out.mono ?_
        rintro e w5 ⟨v5, rfl, hk5, _, hb⟩
        have HB5 : Hid (Below w3.heap.size w3 w5) := Lib.hid (HBr.out.trans (hb.mono HBr.out.size))
        have HI5 : Hid (IntsAt w5 (match v5 with | .slice a _ _ => a | _ => none) (insE A)) := Lib.hid (by obtain ⟨a5, c5, rfl, _⟩ := hk5.form; exact hk5.ints)
        obtain ⟨a5, c5, rfl, _⟩ := hk5.form
        dsimp only at HI5
        have hln := HLn.out
        clear hb hk5 HLj mc hxr
        go_wp2
        have HBw := below_step HB3 HB5.out
        have HS5 : Hid (w.heap.size ≤ w5.heap.size) := Lib.hid HBw.out.size
        go_loopw [6, 32] (fun v6 v32 wr => ∃ q : Nat, q ≤ (insE A).length ∧ v32 = .int .i64 q ∧ KR wr v6 (((insE A).take q).filter fun z => insB (m j) (m z.toNat)) ∧ (∀ g, v6.ownBlock = some g → w5.heap.size ≤ g) ∧ Below w5.heap.size w5 wr) (fun _ v32 _ => (insE A).length - (intOf v32).toNat)
        case atStart => exact ⟨0, Nat.zero_le _, rfl, ⟨World.ownsRow_nil _ _ _ _, okRow_none⟩, fun g h => (by cases h), Below.refl _ _⟩
        case round =>
          obtain ⟨q, hq, rfl, hk, ho, hb⟩ := hrel
          have HK := Lib.hid hk
          have HO := Lib.hid ho
          have HBq := Lib.hid hb
          have HB6 : Hid (Below w3.heap.size w3 wr) := Lib.hid (HB5.out.trans (hb.mono HB5.out.size))
          obtain ⟨va, vc, ev, _, _, _, _⟩ := hk.form
          subst ev
          have hfl : (((insE A).take q).filter fun z => insB (m j) (m z.toNat)).length ≤ 30 := Nat.le_trans (List.length_filter_le _ _) (by rw [List.length_take]; omega)
          clear hk ho hb
          by_cases hq2 : q < (insE A).length
          · obtain ⟨b5, o5, rfl, hb5, hc5⟩ := HI5.out (fun e => by rw [e] at hq2; simp at hq2)
            obtain ⟨k, hz, hkA, hkn⟩ := HLt.out _ (List.getElem_mem hq2)
            have hc := (HBq.out.cell (p := ⟨b5, o5 + q, none⟩) hb5).trans (hc5 q hq2)
            have HQ : Hid ((insE A)[q]? = some (k : Int)) := Lib.hid (by rw [List.getElem?_eq_getElem hq2, hz])
            rw [hz] at hc
            have hk0 : (0 : Int) ≤ (k : Int) := by omega
            have hk1 : (k : Int) < (l.length : Int) := by omega
            have hq0 : (0 : Int) ≤ (q : Int) := by omega
            have hq1 : (q : Int) < ((insE A).length : Int) := by omega
            obtain ⟨mk, _⟩ := (HM3.out.of (HB6.out.block _ HM3.out.lt)).at hkn
            unfold cx at mk
            obtain ⟨⟨p1, p2⟩, p3, p4⟩ := HBd.out j
            obtain ⟨⟨q1, q2⟩, q3, q4⟩ := HBd.out k
            have HIn := Lib.hid (fun W => (inside_any (m j) (m k) ⟨p1, p2⟩ ⟨p3, p4⟩ ⟨q1, q2⟩ ⟨q3, q4⟩ W))
            have HIr := Lib.hid (fun W => (inside_any (m k) (m j) ⟨q1, q2⟩ ⟨q3, q4⟩ ⟨p1, p2⟩ ⟨p3, p4⟩ W))
            unfold cx at HIn HIr
            have hge := fb_ge p1 p2
            have hl1 := fb_lt p1 p2 q3 q4
            have hl2 := fb_lt q1 q2 p3 p4
            obtain ⟨x2, hx2⟩ : ∃ x, x = fb (m k).1 := ⟨_, rfl⟩
            obtain ⟨y2, hy2⟩ : ∃ x, x = fb (m k).2 := ⟨_, rfl⟩
            rw [← hx2, ← hy2] at mk HIn HIr
            rw [← HX1.out] at hge hl1
            rw [← hy2] at hl1
            rw [← hx2, ← HY1.out] at hl2
            rw [← HX1.out, ← HY1.out] at HIn HIr
            have HApp := Lib.hid (HAp.out j k hkA)
            have HStep : Hid (((insE A).take (q + 1)).filter (fun z => insB (m j) (m z.toNat)) = ((insE A).take q).filter (fun z => insB (m j) (m z.toNat)) ++ (if insB (m j) (m k) = true then [(k : Int)] else [])) := Lib.hid (take_filter_step _ HQ.out)
            clear hx2 hy2 p1 p2 p3 p4 q1 q2 q3 q4 hz hkA hc5 hkn
            cases hb1 : insB (m j) (m k) with
            | true =>
              rw [hb1] at HIn HStep
              rw [if_pos rfl] at HStep
              clear hge hl1 hl2 HApp hb1 HIr
              generalize ((insE A).take q).filter (fun z => insB (m j) (m z.toNat)) = ys at *
              go_wp2_with fail
              refine (HIn.out _).mono ?_
              rintro e w6 ⟨rfl, rfl⟩
              go_wp2_with (at_builtin; refine wpList_append_ints _ rfl _ _ rfl _ _ rfl (HK.out.alloc _) (some ⟨wr.heap.size, 0, none⟩) 1 [(k : Int)] rfl (one_int wr k) (by simp; omega) ?_; intro v2 w2 hk2 hgrow2 hat2)
              go_roundw
              case rel =>
                refine ⟨q + 1, by omega, by go_num, by rw [HStep.out]; exact hk2, fun g hg => ?_, (HBq.out.alloc HBq.out.size _).grown hgrow2 (by have := HBq.out.size; simp; omega) HO.out⟩
                rcases hat2 with e | e
                · exact HO.out g (e ▸ hg)
                · rw [e] at hg; injection hg with hg; have := HBq.out.size; simp at hg; omega
              case measure => simp [intOf]; omega
            | false =>
              rw [hb1] at HIn HStep
              rw [if_neg (by decide), List.append_nil] at HStep
              have fin : ∀ U : World, U = wr → ∃ q' : Nat, q' ≤ (insE A).length ∧ Value.int .i64 ((q : Int) + 1) = .int .i64 q' ∧ KR U (.slice va (((insE A).take q).filter fun z => insB (m j) (m z.toNat)).length vc) (((insE A).take q').filter fun z => insB (m j) (m z.toNat)) ∧ (∀ g, (Value.slice va (((insE A).take q).filter fun z => insB (m j) (m z.toNat)).length vc).ownBlock = some g → w5.heap.size ≤ g) ∧ Below w5.heap.size w5 U := fun U hU => by
                subst hU
                refine ⟨q + 1, by omega, by go_num, ?_, HO.out, HBq.out⟩
                rw [HStep.out]; exact HK.out
              have HFin := Lib.hid fin
              have HB1 := Lib.hid hb1
              clear fin hb1
              generalize ((insE A).take q).filter (fun z => insB (m j) (m z.toNat)) = ys at *
              by_cases g1 : 0 ≤ (m j).1
              · rw [decide_eq_true g1] at hge
                by_cases g2 : k = j
                · subst g2
                  have hbk : ((k : Int) != (k : Int)) = false := by simp
                  clear hl1 hl2 HIr
                  go_wp2_with fail
                  refine (HIn.out _).mono ?_
                  rintro e w6 ⟨rfl, rfl⟩
                  go_wp2
                  go_roundw
                  case rel => exact HFin.out _ rfl
                  case measure => simp [intOf]; omega
                · have hbk : ((k : Int) != (j : Int)) = true := by simp; omega
                  cases hb2 : insB (m k) (m j) with
                  | true =>
                    rw [hb2] at HIr
                    clear hl1 hl2 hb2
                    have HG2 := Lib.hid g2
                    clear g2
                    go_wp2_with fail
                    refine (HIn.out _).mono ?_
                    rintro e w6 ⟨rfl, rfl⟩
                    go_wp2_with fail
                    refine (HIr.out _).mono ?_
                    rintro e w6 ⟨rfl, rfl⟩
                    go_wp2
                    go_roundw
                    case rel => exact HFin.out _ rfl
                    case measure => simp [intOf]; omega
                  | false =>
                    rw [hb2] at HIr
                    have hno := HApp.out g1 g2 HB1.out hb2
                    have HG2 := Lib.hid g2
                    clear g2 hb2
                    by_cases g3 : (m j).1 < (m k).2
                    · have g4 : ¬ (m k).1 < (m j).2 := fun e => hno ⟨g3, e⟩
                      rw [decide_eq_true g3] at hl1
                      rw [decide_eq_false g4] at hl2
                      clear g3 g4 hno g1
                      go_wp2_with fail
                      refine (HIn.out _).mono ?_
                      rintro e w6 ⟨rfl, rfl⟩
                      go_wp2_with fail
                      refine (HIr.out _).mono ?_
                      rintro e w6 ⟨rfl, rfl⟩
                      go_wp2
                      go_roundw
                      case rel => exact HFin.out _ rfl
                      case measure => simp [intOf]; omega
                    · rw [decide_eq_false g3] at hl1
                      clear g3 hno g1 hl2
                      go_wp2_with fail
                      refine (HIn.out _).mono ?_
                      rintro e w6 ⟨rfl, rfl⟩
                      go_wp2_with fail
                      refine (HIr.out _).mono ?_
                      rintro e w6 ⟨rfl, rfl⟩
                      go_wp2
                      go_roundw
                      case rel => exact HFin.out _ rfl
                      case measure => simp [intOf]; omega
              · rw [decide_eq_false g1] at hge
                clear hl1 hl2 HIr g1
                go_wp2_with fail
                refine (HIn.out _).mono ?_
                rintro e w6 ⟨rfl, rfl⟩
                go_wp2
                go_roundw
                case rel => exact HFin.out _ rfl
                case measure => simp [intOf]; omega
          · have e : q = (insE A).length := by omega
            subst e
            have hxq := cell_keep HB6.out HX3.out
            have HBz := below_step HB3 HB6.out
            have HPj := Lib.hid (HPa.out j wr HBz.out)
            rw [HPi.out j, ← List.take_length (l := insE A)] at HPj
            rw [List.take_length] at HPj
            have HKK : Hid (KR wr (.slice va (((insE A).take (insE A).length).filter fun z => insB (m j) (m z.toNat)).length vc) ((insE A).filter fun z => insB (m j) (m z.toNat))) := Lib.hid (by have h := HK.out; rw [List.take_length] at h ⊢; exact h)
            rw [List.take_length] at HKK hfl ⊢
            clear HK
            generalize (insE A).filter (fun z => insB (m j) (m z.toNat)) = ys at *
            go_wp2_with fail
            refine HPj.out.mono ?_
            rintro e w6 ⟨v6, rfl, hk6, _, hb⟩
            obtain ⟨a6, c6, rfl, _⟩ := hk6.form
            have HEq := Lib.hid (equal_ints a6 va c6 vc ys ys w6 (by omega) (by omega) hk6.ints ((HKK.out.below hb).ints))
            rw [decide_eq_true rfl] at HEq
            have HB7 : Hid (Below w3.heap.size w3 w6) := Lib.hid (HB6.out.trans (hb.mono HB6.out.size))
            clear hb hk6 hxq
            go_wp2_with fail
            refine HEq.out.mono ?_
            rintro e w7 ⟨rfl, hb⟩
            have HB8 : Hid (Below w3.heap.size w3 w7) := Lib.hid (HB7.out.trans (hb.mono HB7.out.size))
            clear hb
            go_wp2
            go_roundw
            case rel => exact ⟨j + 1, by omega, by go_num, HB8.out⟩
            case measure => simp [intOf]; omega
      · have e : j = l.length := by omega
        subst e
        go_wp2_with fail
        refine (HAw.out _).mono ?_
        rintro e w8 ⟨rfl, hb⟩
        have HB8 := below_step HB4 hb
        clear hb
        go_wp2
        go_ret
        exact ⟨rfl, HB8.out⟩
end Go.Proofs.Ytkkngflpmdcfjaa
