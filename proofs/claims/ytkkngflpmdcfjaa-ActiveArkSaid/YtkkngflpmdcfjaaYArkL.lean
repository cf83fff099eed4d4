/-
  The law ActiveArk, walked.
-/
import Derived.Test.YtkkngflpmdcfjaaYArkP
import Derived.Test.YtkkngflpmdcfjaaYTree
import Derived.Test.YtkkngflpmdcfjaaYBackL
import Derived.Deep.CutBlock
import Derived.Deep.DeepCutAuto
namespace Go.Proofs.Ytkkngflpmdcfjaa
open Go.RowKit

theorem lkT (l : List Nd) : Lk (alikeT l) where
  symm a b h := by
    unfold alikeT twin at *
    simp only [Bool.and_eq_true, decide_eq_true_eq] at h ⊢
    obtain ⟨⟨h1, h2⟩, ⟨h3, h4⟩, h5⟩ := h
    exact ⟨⟨h2, h1⟩, ⟨h3.symm, h4.symm⟩, by rw [A.alike_comm]; exact h5⟩
  trans a b c h k := by
    unfold alikeT twin at *
    simp only [Bool.and_eq_true, decide_eq_true_eq] at h k ⊢
    obtain ⟨⟨h1, h2⟩, ⟨h3, h4⟩, h5⟩ := h
    obtain ⟨⟨k1, k2⟩, ⟨k3, k4⟩, k5⟩ := k
    refine ⟨⟨h1, k2⟩, ⟨h3.trans k3, h4.trans k4⟩, ?_⟩
    unfold A.alikeB at *
    simp only [Bool.and_eq_true, decide_eq_true_eq, A.amongB_iff] at h5 k5 ⊢
    exact ⟨⟨h5.1.1.trans k5.1.1, fun x hx => k5.1.2 x (h5.1.2 x hx)⟩, fun x hx => h5.2 x (k5.2 x hx)⟩
theorem ark_len (G : Int → Bool) (a b : Int) (ha : a ≠ -1) : (pushP G [a, a, a] b).length = if G a = true then 3 else 4 := by
  have hE : endE [a, a, a] = [(2, a), (1, a), (0, a)] := by
    show ([(2, a), (1, a), (0, a)] : List (Nat × Int)).takeWhile _ = _
    simp [ha]
  unfold pushP
  rw [hE]
  unfold cfP
  cases h : G a with
  | true => simp [h, woN, pushG]
  | false => simp [h, woN, pushG]

set_option maxRecDepth 100000 in
set_option maxHeartbeats 8000000 in
theorem ark_law (u : Value) (l : List Nd) (a : Option Addr) (cap : Nat) (xs : List Int) (w : World) (hAw : ∀ W, Calls Try.prog 59 #[] W (RetT W)) (h : ReadN w u l) (hl : l.length ≤ maxLen) (hs : ∀ i (h : i < l.length), sizedR l[i]) (hA : IntsAt w a xs) (hx : xs.length ≤ maxLen) :
    Calls Try.prog 13 #[.agg #[u], .slice a xs.length cap] w (RetT w) := by
  have HAw := Lib.hid hAw
  have HT := Lib.hid (fun W (hW : Below w.heap.size w W) => treeF_any u l W (h.below hW) hl hs)
  have HN := Lib.hid h
  have HA := Lib.hid hA
  have HNu := Lib.hid (fun W => numbers_any a xs.length cap W hx)
  obtain ⟨ua, ucap, rfl, _, _⟩ := h
  have HB0 : Hid (Below w.heap.size w (W1 w (.slice ua l.length ucap))) := Lib.hid (w1_below w _)
  have HX := Lib.hid (w1_cell w (.slice ua l.length ucap))
  have HS0 : Hid (w.heap.size < (W1 w (.slice ua l.length ucap)).heap.size) := Lib.hid (by simp [W1])
  clear hAw hs hl hA
  go_enter Try.func13, Try.ntmps13
  go_upto_region 1 with fail
  show Code.wp _ _ _ _ (W1 w (.slice ua l.length ucap))
  obtain ⟨w1, ew⟩ : ∃ w1, w1 = W1 w (.slice ua l.length ucap) := ⟨_, rfl⟩
  rw [← ew] at HB0 HX HS0 ⊢
  clear ew
  have hx1 := HX.out
  go_wp2_with fail
  refine (HT.out w1 HB0.out).mono ?_
  rintro e w2 ⟨ok, rfl, hok, hb⟩
  have HOk := Lib.hid hok
  have HB2 := below_step HB0 hb
  have hx2 : w2.cell? ⟨w.heap.size, 0, none⟩ = some (.slice ua l.length ucap) := (hb.cell (p := ⟨w.heap.size, 0, none⟩) HS0.out).trans hx1
  have HS2 : Hid (w.heap.size < w2.heap.size) := Lib.hid (Nat.lt_of_lt_of_le HS0.out hb.size)
  clear hok hb hx1 HT
  cases ok with
  | false =>
    go_wp2_with fail
    refine (HAw.out _).mono ?_
    rintro e w3 ⟨rfl, hb⟩
    go_wp2
    go_ret
    exact ⟨rfl, (below_step HB2 hb).out⟩
  | true =>
    obtain ⟨_, hsm⟩ := HOk.out rfl
    have HF : Hid (∀ j (h : j < l.length), l[j].attrs.length ≤ 1000000 ∧ ∀ x ∈ l[j].attrs, A.fine x) := Lib.hid (fun j hj => fine_few (hsm j hj).2)
    clear hsm HOk
    have hN := HNu.out w2
    by_cases h40 : xs.length ≤ 40
    · rw [decide_eq_true h40] at hN
      have HN2 := Lib.hid hN
      have hn1 : (xs.length : Int) ≤ 40 := by omega
      have HX2 := Lib.hid hx2
      clear hN hx hx2 HNu
      go_wp2_with fail
      refine HN2.out.mono ?_
      rintro e w3 ⟨rfl, rfl⟩
      obtain ⟨g, hg⟩ : ∃ g, g = alikeT l := ⟨_, rfl⟩
      have HL : Hid (Lk g) := Lib.hid (by rw [hg]; exact lkT l)
      have HPu : Hid (∀ (W : World) (sa : Option Addr) (c : Nat) (ys : List Int) (i : Int), Below w.heap.size w W → IntsAt W sa ys → ys.length ≤ 1000000 → Calls Try.prog 60 #[.agg #[.slice ua l.length ucap], .slice sa ys.length c, .int .i64 i] W (RetI (pushP (fun x => g x i) ys i) W)) := Lib.hid (fun W sa c ys i hW hi hle => by
        rw [hg]; exact push_any _ l sa c ys i W (HN.out.below hW) HF.out hi hle)
      have HRp : Hid (∀ (W : World) (sa : Option Addr) (c : Nat) (ys : List Int) (i : Int), Below w.heap.size w W → IntsAt W sa ys → ys.length ≤ 1000000 → Calls Try.prog 61 #[.agg #[.slice ua l.length ucap], .slice sa ys.length c, .int .i64 i] W (RetI (pushP (fun x => g x i) ys i) W)) := Lib.hid (fun W sa c ys i hW hi hle => by
        rw [hg]; exact rpush_any _ l sa c ys i W (HN.out.below hW) (fun j hj => (HF.out j hj).1) hi hle)
      clear hg HF HN HN2
      go_wp2
      go_loopw [5, 27] (fun v5 v27 wr => ∃ (k : Nat) (ys : List Int), k ≤ xs.length ∧ v27 = .int .i64 k ∧ KR wr v5 ys ∧ (∀ b, v5.ownBlock = some b → w3.heap.size ≤ b) ∧ Below w3.heap.size w3 wr ∧ Good g ys ∧ ys.length ≤ k) (fun _ v27 _ => xs.length - (intOf v27).toNat)
      case atStart => exact ⟨0, [], Nat.zero_le _, rfl, ⟨World.ownsRow_nil _ _ _ _, okRow_none⟩, fun b hb => (by cases hb), Below.refl _ _, Good.nil g, Nat.le_refl _⟩
      case round =>
        obtain ⟨k, ys, hk, rfl, hkr, ho, hb, hgo, hyl⟩ := hrel
        have HK := Lib.hid hkr
        have HO := Lib.hid ho
        have HB := Lib.hid hb
        have HGo := Lib.hid hgo
        have HBw : Hid (Below w.heap.size w wr) := Lib.hid (HB2.out.trans (hb.mono HB2.out.size))
        have hxr : wr.cell? ⟨w.heap.size, 0, none⟩ = some (.slice ua l.length ucap) := (hb.cell (p := ⟨w.heap.size, 0, none⟩) HS2.out).trans HX2.out
        have HXr := Lib.hid hxr
        obtain ⟨va, vc, ev, _, _, _, _⟩ := hkr.form
        subst ev
        clear hkr ho hb hgo
        by_cases hlt : k < xs.length
        · obtain ⟨b, off, rfl, hbl, hc⟩ := HA.out (fun e => by rw [e] at hlt; simp at hlt)
          have hcz := (HBw.out.cell (p := ⟨b, off + k, none⟩) hbl).trans (hc k hlt)
          have hi0 : (0 : Int) ≤ (k : Int) := by omega
          have hi1 : (k : Int) < (xs.length : Int) := by omega
          clear hc hbl
          generalize xs[k] = z at *
          go_upto_block 2 with fail
          go_cut [5] (fun v5 w' => ∃ ys : List Int, KR w' v5 ys ∧ (∀ b, v5.ownBlock = some b → w3.heap.size ≤ b) ∧ Below w3.heap.size w3 w' ∧ Good g ys ∧ ys.length ≤ k + 1)
          case first =>
            by_cases hz1 : z < -1
            · have HC := Lib.hid (clear_any va vc ys wr HK.out.ints (by omega))
              go_wp2_with fail
              refine HC.out.mono ?_
              rintro e w4 ⟨v4, rfl, hk4, ho4, hb4⟩
              have hle : (clearP ys).length ≤ k + 1 := by unfold clearP; rw [List.length_take]; omega
              have HFin : Hid (∃ ys : List Int, KR w4 v4 ys ∧ (∀ b, v4.ownBlock = some b → w3.heap.size ≤ b) ∧ Below w3.heap.size w3 w4 ∧ Good g ys ∧ ys.length ≤ k + 1) := Lib.hid ⟨_, hk4, fun b hb => Nat.le_trans HB.out.size (ho4 b hb), below_trans HB.out hb4, HGo.out.take _, hle⟩
              clear hk4 ho4 hb4 hle
              go_wp2
              go_meet
              exact HFin.out
            · by_cases hz2 : z = -1
              · have hzb : (z == -1) = true := by simp [hz2]
                have HC := Lib.hid (clone_ints va vc ys wr HK.out.ints (by omega))
                clear hz2
                go_wp2_with fail
                refine HC.out.mono ?_
                rintro e w4 ⟨v4, rfl, hk4, ho4, hb4⟩
                have HK4 := Lib.hid hk4
                have HO4 : Hid (∀ b, v4.ownBlock = some b → w3.heap.size ≤ b) := Lib.hid (fun b hb => Nat.le_trans HB.out.size (ho4 b hb))
                have HB4 : Hid (Below w3.heap.size w3 w4) := Lib.hid (below_trans HB.out hb4)
                clear hk4 ho4 hb4
                go_wp2_with (at_builtin; refine wpList_append_ints _ rfl _ _ rfl _ _ rfl (HK4.out.alloc _) (some ⟨w4.heap.size, 0, none⟩) 1 [-1] rfl (one_int w4 (-1)) (by simp; omega) ?_; intro v5 w5 hk5 hgrow5 hat5)
                go_meet
                refine ⟨_, hk5, fun j hj => ?_, (HB4.out.alloc HB4.out.size _).grown hgrow5 (by have := HB4.out.size; simp; omega) HO4.out, HGo.out.mark, by rw [List.length_append, List.length_singleton]; omega⟩
                rcases hat5 with e | e
                · exact HO4.out j (e ▸ hj)
                · rw [e] at hj; injection hj with hj; have := HB4.out.size; simp at hj; omega
              · have hzb : (z == -1) = false := by simp [hz2]
                have hc1 : ¬ z = -1 := hz2
                have HC := Lib.hid (HPu.out wr va vc ys z HBw.out HK.out.ints (by omega))
                have HGn := Lib.hid (Good.push HL.out HGo.out hz2)
                clear hz2 hc1
                have hln : (pushP (fun x => g x z) ys z).length ≤ k + 1 := by
                  unfold pushP
                  have := woN_len (pushG (cfP (fun x => g x z) (endE ys)).1 (cfP (fun x => g x z) (endE ys)).2) ys ys.length
                  rw [List.length_append, List.length_singleton]; omega
                generalize pushP (fun x => g x z) ys z = zs at *
                go_wp2_with fail
                refine HC.out.mono ?_
                rintro e w4 ⟨v4, rfl, hk4, ho4, hb4⟩
                have HFin : Hid (∃ ys : List Int, KR w4 v4 ys ∧ (∀ b, v4.ownBlock = some b → w3.heap.size ≤ b) ∧ Below w3.heap.size w3 w4 ∧ Good g ys ∧ ys.length ≤ k + 1) := Lib.hid ⟨_, hk4, fun b hb => Nat.le_trans HB.out.size (ho4 b hb), below_trans HB.out hb4, HGn.out, hln⟩
                clear hk4 ho4 hb4 hln
                go_wp2
                go_meet
                exact HFin.out
          case rest =>
            clear HK HO HGo HB HBw HXr hxr hcz
            obtain ⟨zs, hk4, ho4, hb4, hgo4, hl4⟩ := hcut
            have HO := Lib.hid ho4
            have HB := Lib.hid hb4
            have HBw : Hid (Below w.heap.size w wc) := Lib.hid (HB2.out.trans (hb4.mono HB2.out.size))
            have HK := Lib.hid hk4
            have HGt : Hid (good g (tlN zs)) := Lib.hid (by have := hgo4 zs.length; rwa [List.take_length] at this)
            have HGo := Lib.hid hgo4
            have HXc : Hid (∀ W, Below wc.heap.size wc W → W.cell? ⟨w.heap.size, 0, none⟩ = some (.slice ua l.length ucap)) := Lib.hid (fun W hW => (hW.cell (p := ⟨w.heap.size, 0, none⟩) (Nat.lt_of_lt_of_le HS2.out hb4.size)).trans ((hb4.cell (p := ⟨w.heap.size, 0, none⟩) HS2.out).trans HX2.out))
            obtain ⟨va, vc, ev, hvc, hvm, hvn, hvs⟩ := hk4.form
            subst ev
            unfold maxLen at hvm
            have hz1 : (zs.length : Int) ≤ (vc : Int) := by omega
            have hz2 : (vc : Int) ≤ 9223372036854775807 := by omega
            have hz3 : (zs.length : Int) ≤ 41 := by omega
            have HV := Lib.hid hvs
            have HVn := Lib.hid hvn
            clear hk4 ho4 hb4 hgo4 hvs hvn
            go_wp2
            go_loop [8, 49] (fun v8 v49 => ∃ e j : Nat, e ≤ j ∧ j ≤ zs.length ∧ v8 = .int .i64 e ∧ v49 = .int .i64 j ∧ (zs.take j).drop e = tlN (zs.take j)) (fun _ v49 => zs.length - (intOf v49).toNat)
            case atStart => exact ⟨0, 0, Nat.le_refl _, Nat.zero_le _, rfl, rfl, rfl⟩
            case round =>
              obtain ⟨e, j, hej, hjl, rfl, rfl, htl⟩ := hrel
              have HTl := Lib.hid htl
              clear htl
              by_cases hjz : j < zs.length
              · cases va with
                | none => have h0 := HVn.out rfl; exact absurd (show j < 0 by omega) (Nat.not_lt_zero _)
                | some ad =>
                  obtain ⟨gb, rfl, hgl, hcl, _, _⟩ := HV.out _ rfl
                  have hcj := hcl j hjz
                  have hj0 : (0 : Int) ≤ (j : Int) := by omega
                  have hj1 : (j : Int) < (zs.length : Int) := by omega
                  have et : zs.take (j + 1) = zs.take j ++ [zs[j]] := by rw [List.take_add_one, List.getElem?_eq_getElem hjz]; rfl
                  by_cases hm1 : zs[j] = -1
                  · have hb1 : (zs[j] == -1) = true := by simp [hm1]
                    have HN1 : Hid ((zs.take (j + 1)).drop (j + 1) = tlN (zs.take (j + 1))) := Lib.hid (by
                      rw [List.drop_eq_nil_of_le (by simp; omega), et, hm1, tlN_app _ [] (by simp)])
                    clear hm1 hcl et
                    generalize zs[j] = zj at *
                    go_wp2
                    go_round
                    case rel => exact ⟨j + 1, j + 1, Nat.le_refl _, by omega, by go_num, by go_num, HN1.out⟩
                    case measure => simp [intOf]; omega
                  · have hb1 : (zs[j] == -1) = false := by simp [hm1]
                    have HN1 : Hid ((zs.take (j + 1)).drop e = tlN (zs.take (j + 1))) := Lib.hid (by
                      rw [et, List.drop_append_of_le_length (by simp; omega), HTl.out, tlN_snoc _ hm1])
                    clear hm1 hcl et
                    generalize zs[j] = zj at *
                    go_wp2
                    go_round
                    case rel => exact ⟨e, j + 1, by omega, by omega, rfl, by go_num, HN1.out⟩
                    case measure => simp [intOf]; omega
              · obtain rfl : j = zs.length := by omega
                rw [List.take_length] at HTl
                have he0 : (0 : Int) ≤ (e : Int) := by omega
                have he1 : (e : Int) ≤ (zs.length : Int) := by omega
                cases va with
                | none =>
                  have h0 := HVn.out rfl
                  have hzl : zs.length = 0 := by omega
                  have HBx : Hid (Below wc.heap.size wc wc) := Lib.hid (Below.refl _ _)
                  go_wp2
                  go_loopw [63] (fun v63 wr => v63 = .int .i64 0 ∧ wr = wc) (fun _ _ => 0)
                  case atStart => exact ⟨rfl, rfl⟩
                  case round =>
                    obtain ⟨rfl, rfl⟩ := hrel
                    go_wp2
                    go_roundw
                    case rel => exact ⟨k + 1, [], by omega, by go_num, ⟨World.ownsRow_nil _ _ _ _, okRow_none⟩, fun b hb => (by cases hb), below_trans HB.out HBx.out, Good.nil g, Nat.zero_le _⟩
                    case measure => simp [intOf]; omega
                | some ad =>
                  obtain ⟨gb, rfl, hgl, hcl, _, _⟩ := HV.out _ rfl
                  by_cases hne : zs.length = e
                  · subst hne
                    have HBx : Hid (Below wc.heap.size wc wc) := Lib.hid (Below.refl _ _)
                    clear hcl HTl HGt
                    by_cases hve : vc = zs.length
                    · subst hve
                      go_wp2
                      go_loopw [63] (fun v63 wr => v63 = .int .i64 0 ∧ wr = wc) (fun _ _ => 0)
                      case atStart => exact ⟨rfl, rfl⟩
                      case round =>
                        obtain ⟨rfl, rfl⟩ := hrel
                        go_wp2
                        go_roundw
                        case rel => exact ⟨k + 1, zs, by omega, by go_num, HK.out.below HBx.out, HO.out, below_trans HB.out HBx.out, HGo.out, hl4⟩
                        case measure => simp [intOf]; omega
                    · go_wp2
                      go_loopw [63] (fun v63 wr => v63 = .int .i64 0 ∧ wr = wc) (fun _ _ => 0)
                      case atStart => exact ⟨rfl, rfl⟩
                      case round =>
                        obtain ⟨rfl, rfl⟩ := hrel
                        go_wp2
                        go_roundw
                        case rel => exact ⟨k + 1, zs, by omega, by go_num, HK.out.below HBx.out, HO.out, below_trans HB.out HBx.out, HGo.out, hl4⟩
                        case measure => simp [intOf]; omega
                  · obtain ⟨n, hn⟩ : ∃ n, zs.length - e = n := ⟨_, rfl⟩
                    have hvne : ¬ vc = e := by omega
                    have hnl : (zs.drop e).length = n := by rw [List.length_drop]; exact hn
                    have HNl := Lib.hid hnl
                    have HCl : Hid (∀ j (h : j < n), wc.cell? ⟨gb, e + j, none⟩ = some (.int .i64 ((zs.drop e)[j]'(by rw [HNl.out]; exact h)))) := Lib.hid (fun j h => by
                      rw [List.getElem_drop]; exact hcl (e + j) (by omega))
                    have HGd : Hid (good g (zs.drop e)) := Lib.hid (by rw [HTl.out]; exact HGt.out)
                    have HNo : Hid (-1 ∉ zs.drop e) := Lib.hid (by rw [HTl.out]; exact tlN_no zs)
                    have hn41 : (n : Int) ≤ 41 := by omega
                    clear hcl hnl HTl HGt
                    generalize zs.drop e = m at *
                    go_wp2
                    go_loopw [63] (fun v63 wr => ∃ j : Nat, j ≤ n ∧ v63 = .int .i64 j ∧ Below wc.heap.size wc wr) (fun v63 _ => n - (intOf v63).toNat)
                    case atStart => exact ⟨0, Nat.zero_le _, rfl, Below.refl _ _⟩
                    case round =>
                      obtain ⟨j, hjn, rfl, hb3⟩ := hrel
                      have HBx := Lib.hid hb3
                      clear hb3
                      by_cases hj : j < n
                      · have hjm : j < m.length := by rw [HNl.out]; exact hj
                        have hcj := (HBx.out.cell (p := ⟨gb, e + j, none⟩) hgl).trans (HCl.out j hj)
                        have HMem := Lib.hid (List.getElem_mem hjm)
                        have HA1 : Hid (m[j] ≠ -1) := Lib.hid (fun e => HNo.out (e ▸ HMem.out))
                        have hj0 : (0 : Int) ≤ (j : Int) := by omega
                        have hj1 : (j : Int) < (n : Int) := by omega
                        have HC3 : Hid (((cnt g m[j] m : Nat) : Int) ≤ 3) := Lib.hid (by have := HGd.out _ HMem.out; omega)
                        generalize m[j] = av at *
                        go_wp2
                        clear hcj hj0 hj1
                        go_loopw [13, 71] (fun v13 v71 wr => ∃ q : Nat, q ≤ n ∧ v71 = .int .i64 q ∧ v13 = .int .i64 (cnt g av (m.take q) : Nat) ∧ Below wc.heap.size wc wr) (fun _ v71 _ => n - (intOf v71).toNat)
                        case atStart => exact ⟨0, Nat.zero_le _, rfl, rfl, HBx.out⟩
                        case round =>
                          obtain ⟨q, hqn, rfl, rfl, hb4⟩ := hrel
                          have HBy := Lib.hid hb4
                          have HBz : Hid (Below w.heap.size w wr) := Lib.hid (HBw.out.trans (hb4.mono HBw.out.size))
                          clear hb4
                          by_cases hq : q < n
                          · have hqm : q < m.length := by rw [HNl.out]; exact hq
                            have hcq := (HBy.out.cell (p := ⟨gb, e + q, none⟩) hgl).trans (HCl.out q hq)
                            have hxw := HXc.out wr HBy.out
                            have hq0 : (0 : Int) ≤ (q : Int) := by omega
                            have hq1 : (q : Int) < (n : Int) := by omega
                            have HCt : Hid (cnt g av (m.take (q + 1)) = cnt g av (m.take q) + if g av m[q] = true then 1 else 0) := Lib.hid (by
                              unfold cnt
                              rw [List.take_add_one, List.getElem?_eq_getElem hqm, List.filter_append, List.length_append]
                              cases h : g av m[q] <;> simp [h])
                            have hct : (cnt g av (m.take q) : Int) ≤ 41 := by
                              have h1 : cnt g av (m.take q) ≤ q := by
                                unfold cnt
                                exact Nat.le_trans (List.length_filter_le _ _) (by rw [List.length_take]; omega)
                              omega
                            have hct0 : (0 : Int) ≤ (cnt g av (m.take q) : Int) := by omega
                            generalize m[q] = bv at *
                            have hLen := ark_len (fun x => g x bv) av bv HA1.out
                            have hP : Calls Try.prog 61 #[.agg #[.slice ua l.length ucap], .slice (some ⟨wr.heap.size, 0, none⟩) 3 3, .int .i64 bv] (wr.alloc (.cells #[.int .i64 av, .int .i64 av, .int .i64 av] 3)) (RetI (pushP (fun x => g x bv) [av, av, av] bv) (wr.alloc (.cells #[.int .i64 av, .int .i64 av, .int .i64 av] 3))) :=
                              HRp.out (wr.alloc (.cells #[.int .i64 av, .int .i64 av, .int .i64 av] 3)) (some ⟨wr.heap.size, 0, none⟩) 3 [av, av, av] bv (HBz.out.alloc HBz.out.size _) (litY wr [av, av, av]) (by simp)
                            have HP := Lib.hid hP
                            have HLe := Lib.hid hLen
                            clear hP hLen
                            generalize pushP (fun x => g x bv) [av, av, av] bv = ps at *
                            generalize cnt g av (m.take q) = ct at *
                            go_wp2_with fail
                            refine HP.out.mono ?_
                            rintro e9 w9 ⟨v9, rfl, hk9, _, hb9⟩
                            obtain ⟨a9, c9, rfl, _, _, _, _⟩ := hk9.form
                            have HB9 : Hid (Below wc.heap.size wc w9) := Lib.hid ((HBy.out.alloc HBy.out.size _).trans (hb9.mono (by have := HBy.out.size; simp; omega)))
                            have hps := HLe.out
                            clear hk9 hb9
                            cases hgq : g av bv with
                            | true =>
                              rw [hgq] at HCt
                              rw [hgq, if_pos rfl] at hps
                              rw [if_pos rfl] at HCt
                              rw [hps]
                              go_wp2
                              go_roundw
                              case rel => exact ⟨q + 1, by omega, by go_num, by rw [HCt.out]; go_num, HB9.out⟩
                              case measure => simp [intOf]; omega
                            | false =>
                              rw [hgq] at HCt
                              rw [hgq, if_neg (by decide)] at hps
                              rw [if_neg (by decide), Nat.add_zero] at HCt
                              rw [hps]
                              go_wp2
                              go_roundw
                              case rel => exact ⟨q + 1, by omega, by go_num, by rw [HCt.out]; rfl, HB9.out⟩
                              case measure => simp [intOf]; omega
                          · obtain rfl : q = n := by omega
                            have hmt : m.take q = m := List.take_of_length_le (by rw [HNl.out]; exact Nat.le_refl _)
                            rw [hmt]
                            have hc3 := HC3.out
                            generalize cnt g av m = ct at *
                            go_wp2
                            go_roundw
                            case rel => exact ⟨j + 1, by omega, by go_num, HBy.out⟩
                            case measure => simp [intOf]; omega
                      · obtain rfl : j = n := by omega
                        go_wp2
                        go_roundw
                        case rel => exact ⟨k + 1, zs, by omega, by go_num, HK.out.below HBx.out, HO.out, below_trans HB.out HBx.out, HGo.out, hl4⟩
                        case measure => simp [intOf]; omega
        · obtain rfl : k = xs.length := by omega
          go_wp2_with fail
          refine (HAw.out _).mono ?_
          rintro e w4 ⟨rfl, hb⟩
          go_wp2
          go_ret
          exact ⟨rfl, (below_step HBw hb).out⟩
    · rw [decide_eq_false h40] at hN
      have HN2 := Lib.hid hN
      clear hN hx h40 hx2 HNu
      go_wp2_with fail
      refine HN2.out.mono ?_
      rintro e w3 ⟨rfl, rfl⟩
      go_wp2_with fail
      refine (HAw.out _).mono ?_
      rintro e w4 ⟨rfl, hb⟩
      go_wp2
      go_ret
      exact ⟨rfl, (below_step HB2 hb).out⟩
end Go.Proofs.Ytkkngflpmdcfjaa
