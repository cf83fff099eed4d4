/-
  The law OrderCounts, walked.
-/
import Derived.Test.YtkkngflpmdcfjaaOSome
import Derived.Test.YtkkngflpmdcfjaaOEqs
import Derived.Test.YtkkngflpmdcfjaaOTree
import Derived.Test.YtkkngflpmdcfjaaOCountP
import Derived.Laws.FloatArith
namespace Go.Proofs.Ytkkngflpmdcfjaa
open Go.RowKit
attribute [local go_sem] run_store_float run_store_complex

theorem wpList_make_run {P : Program} (w : World) {ops : Array Oper} {rest : List Oper} {o : Oper} {a : Act} {Q : Exit → Act → World → Prop}
    (hg : o.guard = none) (l c : Operand) (t : TypeId) (hop : o.op = Op.makeSlice t l c) (vl vc : Value) (hl : a.eval l = vl) (hc : a.eval c = vc) (v : Value) (w' : World)
    (hr : (Instr.makeSlice t vl vc).run P w = .ok v w') (hK : wpList P ops Q rest (a.put o.dst v) w') : wpList P ops Q (o :: rest) a w := by
  refine wpList_plain hg fun K hK' => ?_
  unfold Oper.wp
  simp [execOp, hop, hl, hc, hr, Result.andThen]
  exact hK' _ _ hK
/-- What a small tree is to the order. -/
structure SmallT (l : List Nd) : Prop where
  n : l.length ≤ 30
  ms : ms (kidsT l) l.length (fun _ => false) [(0, [0])] + 1 ≤ 1000000
  ev : (evA (kidsT l) l.length).length ≤ 60
theorem smallT_of {l : List Nd} (h : l.length ≤ 30 ∧ ∀ i (h : i < l.length), smallN l[i]) : SmallT l := by
  refine ⟨h.1, ?_, ?_⟩
  · have := ms_bound (K := kidsT l) (n := l.length) (b := 60) (fun j hj => by
      have e : kidsT l j = l[j].kids := by unfold kidsT; rw [List.getD_eq_getElem?_getD, List.getElem?_eq_getElem hj]; rfl
      rw [e]; exact (h.2 j hj).2.2.1)
    have h2 : l.length * (60 + 2) ≤ 30 * 62 := Nat.mul_le_mul_right _ h.1
    omega
  · have := evA_two (kidsT l) l.length
    have := h.1
    omega
theorem fb_conv {y : Nat} (h : y < 65) (w : World) : (convert 36 3 (.float .f64 (fb (y : Nat)))).run Try.prog w = .ok (.int .i64 (y : Nat)) w := by
  refine run_convert_float_int w _ _ _ _ _ _ (by simp [Try.underlying36]) Try.underlying3 ?_
  unfold floatToIntVal
  rw [fb_toInt (by omega)]
  dsimp only
  rw [if_pos ⟨by show (-9223372036854775808 : Int) ≤ _; omega, by show _ ≤ (9223372036854775807 : Int); omega⟩]
theorem fb_back (y : Int) (w : World) : (convert 3 36 (.int .i64 y)).run Try.prog w = .ok (.float .f64 (fb y)) w :=
  run_convert_int_float w _ _ _ _ _ (by simp [Try.underlying3]) Try.underlying36

set_option maxRecDepth 100000 in
set_option maxHeartbeats 4000000 in
theorem counts_walk (u : Value) (l : List Nd) (w : World) (hAw : ∀ W, Calls Try.prog 16 #[] W (RetT W)) (h : ReadN w u l) (hl : l.length ≤ maxLen) (hs : ∀ i (h : i < l.length), sizedR l[i]) (hr : roomy u) :
    Calls Try.prog 5 #[.agg #[u]] w (RetT w) := by
  have HAw := Lib.hid hAw
  have HT := Lib.hid (fun W (hW : Below w.heap.size w W) => treep_any u l W (h.below hW) hl hs)
  have HV := Lib.hid (fun W (hW : Below w.heap.size w W) => (tree_view h hs hr).below hW)
  obtain ⟨a, cap, rfl, _, _⟩ := h
  have HB0 := Lib.hid (below_box w (.cells #[.slice a l.length cap] 24))
  have HX : Hid ((w.alloc (.cells #[.slice a l.length cap] 24)).cell? ⟨w.heap.size, 0, none⟩ = some (.slice a l.length cap)) := Lib.hid (w1_cell w (.slice a l.length cap))
  clear hAw hs hr hl
  go_enter Try.func5, Try.ntmps5
  go_upto_region 1 with fail
  show Code.wp _ _ _ _ (w.alloc (.cells #[.slice a l.length cap] 24))
  obtain ⟨w1, ew⟩ : ∃ w1, w1 = w.alloc (.cells #[.slice a l.length cap] 24) := ⟨_, rfl⟩
  rw [← ew] at HB0 HX ⊢
  clear ew
  have hx := HX.out
  go_wp2_with fail
  refine (HT.out _ HB0.out).mono ?_
  rintro e w2 ⟨bb, rfl, hbb, hb⟩
  have HB2 := below_step HB0 hb
  have hx2 := cell_keep hb hx
  clear hb hx HX HT
  cases bb with
  | false =>
    go_wp2_with fail
    refine (HAw.out _).mono ?_
    rintro e w3 ⟨rfl, hb⟩
    have HB3 := below_step HB2 hb
    clear hb hx2
    go_wp2
    go_ret
    exact ⟨rfl, HB3.out⟩
  | true =>
    have hS := smallT_of (hbb rfl)
    have hn := hS.n
    have HS := Lib.hid hS
    clear hbb hS
    have HLi := Lib.hid (list_any _ l.length (kidsT l) w2 (HV.out _ HB2.out) (by omega) HS.out.ms)
    have HMa := Lib.hid (fun W (hW : Below w.heap.size w W) => marks_any _ l.length (kidsT l) W (HV.out _ hW) hn HS.out.ms (by have := HS.out.ev; omega))
    obtain ⟨A, hA⟩ : ∃ A, A = evA (kidsT l) l.length := ⟨_, rfl⟩
    have HNd : Hid A.Nodup := Lib.hid (hA ▸ evA_nodup _ _)
    have HTw : Hid (A.length = 2 * (insE A).length) := Lib.hid (hA ▸ evA_twice _ _)
    have HEv : Hid (A.length ≤ 60) := Lib.hid (hA ▸ HS.out.ev)
    have HCn : Hid (cnt A l.length = (insE A).length) := Lib.hid (cnt_all fun x hx => evA_lt (hA ▸ hx))
    have HMk : Hid (∀ j, ((mkE A).1 j = (-1, -1) ∧ (j, true) ∉ A ∧ (j, false) ∉ A) ∨ ∃ i o : Nat, A[i]? = some (j, true) ∧ A[o]? = some (j, false) ∧ (mkE A).1 j = ((i : Int), (o : Int)) ∧ i < o ∧ o < A.length) := Lib.hid (fun j => by
      rw [hA]
      rcases mark_of (K := kidsT l) (n := l.length) j with ⟨h1, h2⟩ | h
      · exact .inl ⟨h1, h2, fun h3 => h2 (evA_went h3)⟩
      · exact .inr h)
    rw [← hA] at HLi HMa
    clear hA HV HS
    go_wp2_with fail
    refine HLi.out.mono ?_
    rintro e w3 ⟨v3, rfl, hk3, _, hb⟩
    have HB3 := below_step HB2 hb
    have hx3 := cell_keep hb hx2
    obtain ⟨a3, c3, rfl, _⟩ := hk3.form
    obtain ⟨N, hN⟩ : ∃ N, N = (insE A).length := ⟨_, rfl⟩
    rw [← hN] at HTw HCn ⊢
    have hN30 : N ≤ 30 := by have := HTw.out; have := HEv.out; omega
    have HN2 : Hid ((2 : Int) * (N : Int) = ((2 * N : Nat) : Int)) := Lib.hid (by omega)
    have hN31 : (N : Int) ≤ 30 := by omega
    have hN32 : (2 : Int) * (N : Int) ≤ 60 := by omega
    have hN33 : (0 : Int) ≤ (2 : Int) * (N : Int) := by omega
    clear hb hx2 hk3 hN HLi
    have hmk : (Instr.makeSlice 41 (.int .i64 (2 * (N : Int))) (.int .i64 (2 * (N : Int)))).run Try.prog w3 = .ok (.slice (some ⟨w3.heap.size, 0, none⟩) (2 * N) (2 * N)) (w3.alloc (.cells (madeCells #[.bool false] (2 * N)) 4)) := by
      rw [HN2.out]; exact run_seen w3 (2 * N) (by omega)
    have HS4 := Lib.hid (seen_new w3 (2 * N))
    have HB4 := below_step HB3 (below_box w3 (.cells (madeCells #[.bool false] (2 * N)) 4))
    have hx4 := cell_keep (below_box w3 (.cells (madeCells #[.bool false] (2 * N)) 4)) hx3
    have HMK := Lib.hid hmk
    have HSz : Hid (w.heap.size < w3.heap.size) := Lib.hid (World.block_lt_of_cell? w3 _ hx3)
    clear hx3 hmk
    go_wp2_with (at_make; refine wpList_make_run _ rfl _ _ _ rfl _ _ rfl rfl _ _ HMK.out ?_)
    have HM4 := Lib.hid (HMa.out _ HB4.out)
    have HQ : Hid (w3.heap.size < (w3.alloc (.cells (madeCells #[.bool false] (2 * N)) 4)).heap.size) := Lib.hid (by simp)
    obtain ⟨w4, ew⟩ : ∃ w4, w4 = w3.alloc (.cells (madeCells #[.bool false] (2 * N)) 4) := ⟨_, rfl⟩
    rw [← ew] at HM4 HS4 HB4 HQ ⊢
    obtain ⟨q3, hq3⟩ : ∃ q3, q3 = w3.heap.size := ⟨_, rfl⟩
    rw [← hq3] at HS4 HQ HSz ⊢
    clear ew hx4 HMa hq3 HMK
    refine HM4.out.mono ?_
    rintro e w5 ⟨S, rfl, hm, hS, hb⟩
    have HB5 := below_step HB4 hb
    have HS5 : Hid (SR w5 q3 (2 * N) (sn A 0 0)) := Lib.hid (by
      rw [show sn A 0 0 = fun _ => false from funext (sn_start A)]
      exact HS4.out.of (hb.block _ HS4.out.lt))
    have HM5 := Lib.hid hm
    have HSS : Hid (S ≠ q3) := Lib.hid (by have := HQ.out; omega)
    clear hm hS hb HM4 HS4 HQ
    go_wp2
    go_loopw [5, 24] (fun v5 v24 wr => ∃ j c : Nat, j ≤ l.length ∧ v24 = .int .i64 j ∧ v5 = .int .i64 c ∧ c = 2 * cnt A j ∧ MR wr S l.length (mkE A).1 ∧ SR wr q3 (2 * N) (sn A j 0) ∧ Below w.heap.size w wr) (fun _ v24 _ => l.length - (intOf v24).toNat)
    case atStart => exact ⟨0, 0, Nat.zero_le _, rfl, rfl, by rw [cnt_zero], HM5.out, HS5.out, HB5.out⟩
    case round =>
      clear HM5 HS5 HB5 HB4 HB3 HB2 HB0
      obtain ⟨j, c, hj, rfl, rfl, hc, hm, hs, hb⟩ := hrel
      have HM := Lib.hid hm
      have HSr := Lib.hid hs
      have HB := Lib.hid hb
      have HC := Lib.hid hc
      have hc60 : (c : Int) ≤ 1000 := by have := cnt_le A j; have := HEv.out; omega
      clear hs hb hc
      by_cases hlt : j < l.length
      · obtain ⟨mc, _⟩ := hm.at hlt
        have hi0 : (0 : Int) ≤ (j : Int) := by omega
        have hi1 : (j : Int) < (l.length : Int) := by omega
        unfold cx at mc
        clear hm
        rcases HMk.out j with ⟨hno, h1, h2⟩ | ⟨i, o, hi, ho, hmk, hio, hol⟩
        · rw [hno] at mc
          have hord : (FloatKind.f64.format.order (fb (-1)) 0 == some .lt) = true := by
            have := fb_order (a := -1) (b := 0) (by omega) (by omega) (by omega) (by omega)
            rw [fb_0] at this
            rw [this]; rfl
          have HN1 := Lib.hid h1
          have HN2 := Lib.hid h2
          dsimp only at mc
          clear hno h1 h2
          generalize fb (-1) = x at *
          go_wp2
          go_roundw
          case rel => exact ⟨j + 1, c, by omega, by go_num, rfl, by rw [cnt_no HN1.out]; exact HC.out, HM.out, by rw [← sn_not HN1.out HN2.out]; exact HSr.out, HB.out⟩
          case measure => simp [intOf]; omega
        · rw [hmk] at mc
          dsimp only at mc
          have hb1 : i < 60 := by have := HEv.out; omega
          have hb2 : o < 60 := by have := HEv.out; omega
          have hord : (FloatKind.f64.format.order (fb (i : Nat)) 0 == some .lt) = false := by
            have := fb_order (a := (i : Int)) (b := 0) (by omega) (by omega) (by omega) (by omega)
            rw [fb_0] at this
            rw [this]
            unfold cmpI
            rw [if_neg (by omega)]
            split <;> rfl
          obtain ⟨x, hx⟩ : ∃ x, x = fb (i : Nat) := ⟨_, rfl⟩
          obtain ⟨y, hy⟩ : ∃ y, y = fb (o : Nat) := ⟨_, rfl⟩
          rw [← hx] at mc hord
          rw [← hy] at mc
          have HI : Hid (A[i]? = some (j, true) ∧ A[o]? = some (j, false) ∧ i < 2 * N ∧ o < 2 * N ∧ x = fb (i : Nat) ∧ y = fb (o : Nat) ∧ i < 60 ∧ o < 60) := Lib.hid ⟨hi, ho, by have := HTw.out; omega, by have := HTw.out; omega, hx, hy, hb1, hb2⟩
          have HC2 : Hid (cnt A (j + 1) = cnt A j + 1) := Lib.hid (cnt_yes HNd.out (List.mem_of_getElem? hi))
          clear hmk hi ho hio hol hx hy hb1 hb2
          go_wp2
          have HB6 := below_step HB (below_box wr (.cells #[.float .f64 x, .float .f64 y] 36))
          have HS6 : Hid (SR (wr.alloc (.cells #[.float .f64 x, .float .f64 y] 36)) q3 (2 * N) (sn A j 0)) := Lib.hid (HSr.out.of ((below_box wr _).block _ HSr.out.lt))
          have HM6 : Hid (MR (wr.alloc (.cells #[.float .f64 x, .float .f64 y] 36)) S l.length (mkE A).1) := Lib.hid (HM.out.of ((below_box wr _).block _ HM.out.lt))
          have HL6 := Lib.hid (heap_alloc_new wr (.cells #[.float .f64 x, .float .f64 y] 36))
          have HLq : Hid (wr.heap.size ≠ q3 ∧ w.heap.size < q3) := Lib.hid ⟨by have := HSr.out.lt; omega, HSz.out⟩
          obtain ⟨w6, ew⟩ : ∃ w6, w6 = wr.alloc (.cells #[.float .f64 x, .float .f64 y] 36) := ⟨_, rfl⟩
          rw [← ew] at HB6 HS6 HM6 HL6 ⊢
          obtain ⟨L, hL⟩ : ∃ L, L = wr.heap.size := ⟨_, rfl⟩
          rw [← hL] at HL6 HLq ⊢
          clear ew hL mc hord
          go_loopw [5, 37] (fun v5 v37 wr => ∃ q d : Nat, q ≤ 2 ∧ v37 = .int .i64 q ∧ v5 = .int .i64 d ∧ d = c + q ∧ MR wr S l.length (mkE A).1 ∧ SR wr q3 (2 * N) (sn A j q) ∧ wr.heap[L]? = some (.cells #[.float .f64 x, .float .f64 y] 36 (0, 0)) ∧ Below w.heap.size w wr) (fun _ v37 _ => 2 - (intOf v37).toNat)
          case atStart => exact ⟨0, c, by omega, rfl, rfl, rfl, HM6.out, HS6.out, HL6.out, HB6.out⟩
          case round =>
            clear HM6 HS6 HL6 HB6 HM HSr HB
            obtain ⟨q, d, hq, rfl, rfl, hd, hm, hs, hl6, hb⟩ := hrel
            have HM7 := Lib.hid hm
            have HS7 := Lib.hid hs
            have HL7 := Lib.hid hl6
            have HB7 := Lib.hid hb
            have HD := Lib.hid hd
            have hd60 : (d : Int) ≤ 1010 := by omega
            clear hm hb hd
            by_cases hq2 : q < 2
            · obtain ⟨z, zi, hz, hzx, hzn, hz60, hsn, hnx⟩ : ∃ z zi : Nat, wr.cell? ⟨L, q, none⟩ = some (.float .f64 z) ∧ z = fb (zi : Nat) ∧ zi < 2 * N ∧ zi < 60 ∧ sn A j q zi = false ∧ mark1 (sn A j q) zi = sn A j (q + 1) := by
                obtain ⟨hi, ho, hi2, ho2, hx, hy, hi6, ho6⟩ := HI.out
                have : q = 0 ∨ q = 1 := by omega
                rcases this with rfl | rfl
                · obtain ⟨h1, h2⟩ := sn_first HNd.out hi
                  exact ⟨x, i, by rw [cell_of_row wr L 0 _ _ (0, 0) hl6]; rfl, hx, hi2, hi6, h1, h2⟩
                · obtain ⟨h1, h2⟩ := sn_second HNd.out ho
                  exact ⟨y, o, by rw [cell_of_row wr L 1 _ _ (0, 0) hl6]; rfl, hy, ho2, ho6, h1, h2⟩
              have hcv : ∀ W, (convert 36 3 (.float .f64 z)).run Try.prog W = .ok (.int .i64 (zi : Nat)) W := fun W => by rw [hzx]; exact fb_conv (by omega) W
              have hcv2 : ∀ W, (convert 3 36 (.int .i64 (zi : Nat))).run Try.prog W = .ok (.float .f64 z) W := fun W => by rw [hzx]; exact fb_back _ W
              have hne : (FloatKind.f64.format.order z z == some .eq) = true := by rw [hzx]; exact fb_self (by omega) (by omega)
              have hne2 : (FloatKind.f64.format.order z z != some .eq) = false := by rw [bne, hne]; rfl
              obtain ⟨sc, sf⟩ := hs.at hzn
              rw [hsn] at sc
              have HZ : Hid (zi < 2 * N ∧ mark1 (sn A j q) zi = sn A j (q + 1)) := Lib.hid ⟨hzn, hnx⟩
              have hz0 : (0 : Int) ≤ (zi : Int) := by omega
              have hz1 : (zi : Int) < ((2 * N : Nat) : Int) := by omega
              have hq0 : (0 : Int) ≤ (q : Int) := by omega
              have hq1 : (q : Int) < 2 := by omega
              clear hs hl6 hzx hnx hzn hsn
              go_wp2
              go_roundw
              case rel =>
                have hoth : ∀ k, k ≠ q3 → (wr.setCell ⟨q3, zi, none⟩ (.bool true)).heap[k]? = wr.heap[k]? := fun k hk => heap_setCell_other wr ⟨q3, zi, none⟩ k _ hk
                refine ⟨q + 1, d + 1, by omega, by go_num, by go_num, by have := HD.out; omega, HM7.out.of (hoth _ HSS.out), ?_, (hoth _ HLq.out.1).trans HL7.out, HB7.out.setCell (p := ⟨q3, zi, none⟩) (by have := HLq.out.2; show w.heap.size ≤ q3; omega) _⟩
                rw [← HZ.out.2]
                exact HS7.out.set HZ.out.1
              case measure => simp [intOf]; omega
            · have : q = 2 := by omega
              subst this
              clear hs hl6
              go_wp2
              go_roundw
              case rel =>
                refine ⟨j + 1, d, by omega, by go_num, rfl, by have := HD.out; have := HC.out; have := HC2.out; omega, HM7.out, ?_, HB7.out⟩
                rw [← sn_two]; exact HS7.out
              case measure => simp [intOf]; omega
      · have e : j = l.length := by omega
        subst e
        have hcN : Hid (c = 2 * N) := Lib.hid (by have := HC.out; have := HCn.out; omega)
        have HN2' : Hid ((2 : Int) * (N : Int) = (c : Int)) := Lib.hid (by have := hcN.out; omega)
        have hcb : (((c : Nat) : Int) == 2 * (N : Int)) = true := by rw [HN2'.out]; simp
        clear hm
        go_wp2_with fail
        refine (HAw.out _).mono ?_
        rintro e w8 ⟨rfl, hb⟩
        have HB8 := below_step HB hb
        clear hb
        go_wp2
        go_ret
        exact ⟨rfl, HB8.out⟩
end Go.Proofs.Ytkkngflpmdcfjaa
