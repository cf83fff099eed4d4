/-
  The law TagBack.
-/
import Derived.Test.YtkfaenhidjekdaaDoorTWrite
import Derived.Test.YtkfaenhidjekdaaDoorTSame
import Derived.Test.YtkfaenhidjekdaaDoorTAwake
import Derived.Test.YtkfaenhidjekdaaDoorAOpen
namespace Go.Proofs.YtkfaenhidjekdaaDoor.T
open Go.RowKit
open Go.Proofs.YtkfaenhidjekdaaDoor.C (StAt)
open Go.Proofs.YtkfaenhidjekdaaDoor.A (At AttrsAt below_step eqS eqS_iff)
open Go.Proofs.YtkfaenhidjekdaaDoor.E (esc escS escS_le)

theorem cell_keep {w w' : World} {B o : Nat} {u : Value} (hb : Below w.heap.size w w') (h : w.cell? ⟨B, o, none⟩ = some u) : w'.cell? ⟨B, o, none⟩ = some u := (hb.cell (p := ⟨B, o, none⟩) (World.block_lt_of_cell? w _ h)).trans h
theorem below_trans {w w1 w2 : World} (h : Below w.heap.size w w1) (h2 : Below w1.heap.size w1 w2) : Below w.heap.size w w2 := h.trans (h2.mono h.size)
theorem heap_of {w w' : World} {B : Nat} {o : Obj} (hb : Below w.heap.size w w') (h : w.heap[B]? = some o) : w'.heap[B]? = some o := (hb.block B (Array.getElem?_eq_some_iff.1 h).1).trans h
theorem row_at {w : World} {B : Nat} {v0 v1 v2 v3 v4 : Value} (h : w.heap[B]? = some (.cells #[v0, v1, v2, v3, v4] 25 (0, 0))) :
    w.cell? ⟨B, 0, none⟩ = some v0 ∧ w.cell? ⟨B, 1, none⟩ = some v1 ∧ w.cell? ⟨B, 2, none⟩ = some v2 ∧ w.cell? ⟨B, 3, none⟩ = some v3 ∧ w.cell? ⟨B, 4, none⟩ = some v4 :=
  ⟨cell_of_row w B 0 _ _ (0, 0) h, cell_of_row w B 1 _ _ (0, 0) h, cell_of_row w B 2 _ _ (0, 0) h, cell_of_row w B 3 _ _ (0, 0) h, cell_of_row w B 4 _ _ (0, 0) h⟩
/-- What is written so far. -/
def Txt (name : ByteArray) (l : List At) (k : Nat) (S : ByteArray) : Prop :=
  S.data.toList = 60 :: (name.data.toList ++ body (l.take k)) ∧ S.size ≤ 31 + 634 * k ∧ (∀ j (h : j < l.length), j < k → fairB l[j].1 = true ∧ l[j].2.size ≤ 100) ∧ lone (l.take k)
theorem app_list (a b : ByteArray) : (a ++ b).data.toList = a.data.toList ++ b.data.toList := by rw [ByteArray.data_append, Array.toList_append]
theorem txt_start {name : ByteArray} (l : List At) (hn : fairB name = true) : Txt name l 0 (⟨#[60]⟩ ++ name) := by
  refine ⟨?_, ?_, fun j _ h => absurd h (Nat.not_lt_zero _), ?_⟩
  · rw [app_list, List.take_zero]
    show [60] ++ name.data.toList = 60 :: (name.data.toList ++ [])
    rw [List.append_nil]; rfl
  · have := (fair_yes hn).2.1
    rw [ByteArray.size_append]
    show 1 + name.size ≤ _
    omega
  · rw [List.take_zero]; exact List.Pairwise.nil
theorem txt_next {name S ev : ByteArray} {l : List At} {k : Nat} (h : Txt name l k S) (hk : k < l.length) (hev : ev = escS true l[k].2) (hf : fairB l[k].1 = true) (hv : l[k].2.size ≤ 100) (hu : ∀ i (hi : i < l.length), i < k → eqS l[k].1 l[i].1 = false) :
    Txt name l (k + 1) (S ++ ((((⟨#[32]⟩ ++ l[k].1) ++ ⟨#[61, 34]⟩) ++ ev) ++ ⟨#[34]⟩)) := by
  obtain ⟨h1, h2, h3, h4⟩ := h
  have ht : l.take (k + 1) = l.take k ++ [l[k]] := by rw [List.take_succ_eq_append_getElem hk]
  refine ⟨?_, ?_, fun j hj hjk => ?_, ?_⟩
  · rw [app_list, app_list, app_list, app_list, app_list, h1, ht, hev, E.escS_list]
    unfold body
    rw [List.flatMap_append]
    show _ = 60 :: (name.data.toList ++ ((l.take k).flatMap piece ++ (piece l[k] ++ [])))
    unfold piece
    simp
  · have := (fair_yes hf).2.1
    have h5 := escS_le true l[k].2
    rw [← hev] at h5
    have e1 : (⟨#[32]⟩ : ByteArray).size = 1 := rfl
    have e2 : (⟨#[61, 34]⟩ : ByteArray).size = 2 := rfl
    have e3 : (⟨#[34]⟩ : ByteArray).size = 1 := rfl
    rw [ByteArray.size_append, ByteArray.size_append, ByteArray.size_append, ByteArray.size_append, ByteArray.size_append, e1, e2, e3]
    omega
  · rcases Nat.lt_or_ge j k with h6 | h6
    · exact h3 j hj h6
    · obtain rfl : j = k := by omega
      exact ⟨hf, hv⟩
  · rw [ht]
    unfold lone
    rw [List.pairwise_append]
    refine ⟨h4, List.pairwise_singleton _ _, fun x hx y hy => ?_⟩
    rw [List.mem_singleton.1 hy]
    obtain ⟨i, hi, rfl⟩ := List.getElem_of_mem hx
    rw [List.length_take] at hi
    rw [List.getElem_take]
    have h7 := hu i (by omega) (by omega)
    rw [← Bool.not_eq_true, eqS_iff] at h7
    exact fun e => h7 e.symm
/-- What Read makes of what was written. -/
theorem txt_end {name S more : ByteArray} {l : List At} {k : Nat} (h : Txt name l k S) (hk : l.length ≤ k) (hn : fairB name = true) (self : Bool) {T : ByteArray} (hT : T.data.toList = S.data.toList ++ ends self more.data.toList) :
    rdT T.data.toList = ⟨1, name, l, self, S.size + (if self then 2 else 1), true⟩ := by
  obtain ⟨h1, _, h3, h4⟩ := h
  rw [List.take_of_length_le hk] at h1 h4
  have hl : ∀ a ∈ l, fairB a.1 = true := by
    intro a ha
    obtain ⟨i, hi, rfl⟩ := List.getElem_of_mem ha
    exact (h3 i hi (by omega)).1
  have hz : S.size = 1 + name.size + (body l).length := by
    rw [← C.size_list, h1, List.length_cons, List.length_append, C.size_list]; omega
  rw [hT, h1, hz]
  have := rd_back name l self more.data.toList hn hl h4
  rw [← this]
  congr 1
  simp

set_option maxRecDepth 100000 in
set_option maxHeartbeats 6400000 in
theorem back_walk (name : ByteArray) (a : Option Addr) (cap : Nat) (l : List At) (self : Bool) (behind : ByteArray) (w : World) (hT : StAt w) (wn : name.size ≤ maxLen) (hcap : l.length ≤ cap) (hA : AttrsAt w a l) (hz : ∀ p ∈ l, p.1.size ≤ maxLen ∧ p.2.size ≤ maxLen) (wb : behind.size ≤ maxLen) :
    Calls Tryd.prog 5 #[.string name, .slice a l.length cap, .bool self, .string behind] w fun e w' => e = .returned (.bool true) ∧ Below w.heap.size w w' := by
  have HT := Lib.hid hT
  have HA := Lib.hid hA
  have HZ := Lib.hid hz
  have HFn := Lib.hid (fun W => fair_any name W wn)
  have HAw := Lib.hid (fun W (h : Below w.heap.size w W) => awake_any W (C.StAt.below HT.out h))
  unfold maxLen at wn wb
  clear hT hA hz
  by_cases h8 : 8 < l.length
  · have h4 : (8 : Int) < l.length := by omega
    clear h8
    go_enter Tryd.func5, Tryd.ntmps5
    go_wp2_with fail
    refine (HAw.out _ (Below.refl _ _)).mono ?_
    rintro e w1 ⟨rfl, hb⟩
    have HB := Lib.hid hb
    clear hb
    go_wp2
    go_ret
    exact ⟨rfl, HB.out⟩
  · have h4 : ¬ (8 : Int) < l.length := by omega
    by_cases h100 : 100 < behind.size
    · have h5 : (100 : Int) < behind.size := by omega
      clear h8 h100
      go_enter Tryd.func5, Tryd.ntmps5
      go_wp2_with fail
      refine (HAw.out _ (Below.refl _ _)).mono ?_
      rintro e w1 ⟨rfl, hb⟩
      have HB := Lib.hid hb
      clear hb
      go_wp2
      go_ret
      exact ⟨rfl, HB.out⟩
    · have h5 : ¬ (100 : Int) < behind.size := by omega
      cases hfn : fairB name with
      | false =>
        rw [hfn] at HFn
        clear h8 h100 hfn
        go_enter Tryd.func5, Tryd.ntmps5
        go_wp2_with (go_at_call 12; refine (HFn.out _).mono ?_; rintro e w' ⟨rfl, rfl⟩)
        refine (HAw.out _ (Below.refl _ _)).mono ?_
        rintro e w1 ⟨rfl, hb⟩
        have HB := Lib.hid hb
        clear hb
        go_wp2
        go_ret
        exact ⟨rfl, HB.out⟩
      | true =>
        rw [hfn] at HFn
        have HNm := Lib.hid hfn
        have hns : name.size ≤ 30 := (fair_yes hfn).2.1
        have HS0 := Lib.hid (txt_start l hfn)
        clear hfn
        go_enter Tryd.func5, Tryd.ntmps5
        go_wp2_with (go_at_call 12; refine (HFn.out _).mono ?_; rintro e w' ⟨rfl, rfl⟩)
        go_loopw [9, 35] (fun v9 v wr => ∃ (k : Nat) (S : ByteArray), k ≤ l.length ∧ v = .int .i64 k ∧ v9 = .string S ∧ Txt name l k S ∧ Below w.heap.size w wr) (fun _ v _ => l.length - (intOf v).toNat)
        case atStart => exact ⟨0, _, Nat.zero_le _, rfl, rfl, HS0.out, Below.refl _ _⟩
        case round =>
          obtain ⟨wo, ew0⟩ : ∃ wo, wo = wr := ⟨_, rfl⟩
          subst ew0
          obtain ⟨k, S, hk, rfl, rfl, htx, hbo⟩ := hrel
          have HTx := Lib.hid htx
          have HBo := Lib.hid hbo
          have hSs : S.size ≤ 6000 := by have := htx.2.1; omega
          clear htx hbo HS0
          by_cases hlt : k < l.length
          · obtain ⟨b, off, rfl, hbk, hcl⟩ := HA.out (fun e => by rw [e] at hlt; simp at hlt)
            have x1 : wo.cell? ⟨b, off + k * 2, none⟩ = some (.string l[k].1) := (HBo.out.cell (p := ⟨b, off + k * 2, none⟩) hbk).trans (hcl k hlt).1
            have x2 : wo.cell? ⟨b, off + k * 2 + 1, none⟩ = some (.string l[k].2) := (HBo.out.cell (p := ⟨b, off + k * 2 + 1, none⟩) hbk).trans (hcl k hlt).2
            have HCl := Lib.hid hcl
            have HNx := Lib.hid (fun ev h1 h2 h3 h4 => txt_next (ev := ev) HTx.out hlt h1 h2 h3 h4)
            have hzx := HZ.out l[k] (List.getElem_mem hlt)
            have HFx := Lib.hid (fun W => fair_any l[k].1 W hzx.1)
            obtain ⟨hz1, hz2⟩ := hzx
            clear hcl
            generalize l[k] = x at *
            have hi1 : (0 : Int) ≤ (k : Int) := by omega
            have hi2 : (k : Int) < (l.length : Int) := by omega
            have hi3 : (k : Int) ≤ (cap : Int) := by omega
            have HXx := Lib.hid (heap_alloc_new wo (.cells #[.string x.1, .string x.2] 31))
            have HBx := Lib.hid (HBo.out.alloc HBo.out.size (.cells #[.string x.1, .string x.2] 31))
            go_upto_region 7 with fail
            obtain ⟨wx, ew⟩ : ∃ wx, wx = wo.alloc (.cells #[.string x.1, .string x.2] 31) := ⟨_, rfl⟩
            rw [← ew] at HXx HBx ⊢
            clear ew x1 x2
            have q1 : wx.cell? ⟨wo.heap.size, 0, none⟩ = some (.string x.1) := cell_of_row wx wo.heap.size 0 _ _ (0, 0) HXx.out
            have q2 : wx.cell? ⟨wo.heap.size, 1, none⟩ = some (.string x.2) := cell_of_row wx wo.heap.size 1 _ _ (0, 0) HXx.out
            cases hfx : fairB x.1 with
            | false =>
              rw [hfx] at HFx
              clear hfx
              go_wp2_with (go_at_call 12; refine (HFx.out _).mono ?_; rintro e w' ⟨rfl, rfl⟩)
              refine (HAw.out _ HBx.out).mono ?_
              rintro e w1 ⟨rfl, hb⟩
              have HB := below_step HBx hb
              clear hb
              go_wp2
              go_ret
              exact ⟨rfl, HB.out⟩
            | true =>
              rw [hfx] at HFx
              have HFxx := Lib.hid hfx
              have hxs : x.1.size ≤ 30 := (fair_yes hfx).2.1
              clear hfx
              by_cases hv : 100 < x.2.size
              · have hv2 : (100 : Int) < x.2.size := by omega
                clear hv
                go_wp2_with (go_at_call 12; refine (HFx.out _).mono ?_; rintro e w' ⟨rfl, rfl⟩)
                refine (HAw.out _ HBx.out).mono ?_
                rintro e w1 ⟨rfl, hb⟩
                have HB := below_step HBx hb
                clear hb
                go_wp2
                go_ret
                exact ⟨rfl, HB.out⟩
              · have hv2 : ¬ (100 : Int) < x.2.size := by omega
                go_wp2_with (go_at_call 12; refine (HFx.out _).mono ?_; rintro e w' ⟨rfl, rfl⟩)
                go_loopw [55] (fun v wq => ∃ j : Nat, j ≤ k ∧ v = .int .i64 j ∧ Below wx.heap.size wx wq ∧ ∀ i (hi : i < l.length), i < j → eqS x.1 l[i].1 = false) (fun v _ => k - (intOf v).toNat)
                case atStart => exact ⟨0, Nat.zero_le _, rfl, Below.refl _ _, fun i _ h => absurd h (Nat.not_lt_zero _)⟩
                case round =>
                  obtain ⟨j, hj, rfl, hbq, hun⟩ := hrel
                  have HUn := Lib.hid hun
                  have HBq := Lib.hid hbq
                  have HBq0 := below_step HBx hbq
                  have HXq := Lib.hid (heap_of hbq HXx.out)
                  clear hbq hun q1 q2
                  have q1 : wr.cell? ⟨wo.heap.size, 0, none⟩ = some (.string x.1) := cell_of_row wr wo.heap.size 0 _ _ (0, 0) HXq.out
                  have q2 : wr.cell? ⟨wo.heap.size, 1, none⟩ = some (.string x.2) := cell_of_row wr wo.heap.size 1 _ _ (0, 0) HXq.out
                  have hw : wo.heap.size < wr.heap.size := (Array.getElem?_eq_some_iff.1 HXq.out).1
                  by_cases hjlt : j < k
                  · have hj0 : j < l.length := by omega
                    have y1 : wr.cell? ⟨b, off + j * 2, none⟩ = some (.string l[j].1) := (HBq0.out.cell (p := ⟨b, off + j * 2, none⟩) hbk).trans (HCl.out j hj0).1
                    have y2 : wr.cell? ⟨b, off + j * 2 + 1, none⟩ = some (.string l[j].2) := (HBq0.out.cell (p := ⟨b, off + j * 2 + 1, none⟩) hbk).trans (HCl.out j hj0).2
                    have HBn := Lib.hid (HBq.out.alloc HBq.out.size (.cells #[.string l[j].1, .string l[j].2] 31))
                    have HBn0 := Lib.hid (HBq0.out.alloc HBq0.out.size (.cells #[.string l[j].1, .string l[j].2] 31))
                    have hj1 : (0 : Int) ≤ (j : Int) := by omega
                    have hj2 : (j : Int) < (k : Int) := by omega
                    cases hq : eqS x.1 l[j].1 with
                    | true =>
                      unfold eqS at hq
                      generalize l[j] = y at *
                      go_wp2_with fail
                      refine (HAw.out _ HBn0.out).mono ?_
                      rintro e w1 ⟨rfl, hb⟩
                      have HB := below_step HBn0 hb
                      clear hb
                      go_wp2
                      go_ret
                      exact ⟨rfl, HB.out⟩
                    | false =>
                      have HU2 : Hid (∀ i (hi : i < l.length), i < j + 1 → eqS x.1 l[i].1 = false) := Lib.hid (by
                        intro i hi hij
                        rcases Nat.lt_or_ge i j with h | h
                        · exact HUn.out i hi h
                        · obtain rfl : i = j := by omega
                          exact hq)
                      unfold eqS at hq
                      generalize l[j] = y at *
                      go_wp2
                      go_roundw
                      case rel => exact ⟨j + 1, by omega, by go_num, HBn.out, HU2.out⟩
                      case measure => simp [intOf]; omega
                  · have HU3 : Hid (∀ i (hi : i < l.length), i < k → eqS x.1 l[i].1 = false) := Lib.hid (fun i hi hik => HUn.out i hi (by omega))
                    have HVal := Lib.hid (fun W => E.value_any x.2 W (by omega))
                    have hev := escS_le true x.2
                    obtain ⟨ev, hee⟩ : ∃ ev, ev = escS true x.2 := ⟨_, rfl⟩
                    have HNext := Lib.hid (HNx.out ev hee HFxx.out (by omega) HU3.out)
                    rw [← hee] at HVal hev
                    have hev2 : ev.size ≤ 600 := by omega
                    clear hee hev HUn HBq HXq
                    have hB3 := HBq0.out
                    have n1 : ¬ 9223372036854775807 < 1 + x.1.size := by omega
                    have n2 : ¬ 9223372036854775807 < 1 + x.1.size + 2 := by omega
                    have n3 : ¬ 9223372036854775807 < 1 + x.1.size + 2 + ev.size := by omega
                    have n4 : ¬ 9223372036854775807 < 1 + x.1.size + 2 + ev.size + 1 := by omega
                    have n5 : ¬ 9223372036854775807 < S.size + (1 + x.1.size + 2 + ev.size + 1) := by omega
                    go_wp2_with fail
                    go_region_held3 (fun w' => w'.cell? ⟨wo.heap.size, 0, none⟩ = some (.string x.1) ∧ w'.cell? ⟨wo.heap.size, 1, none⟩ = some (.string x.2) ∧ Below w.heap.size w w')
                      ((go_split_ands; refine ⟨?_, ?_, ?_⟩ <;> first | assumption | go_keep | exact drewB1 (by assumption)))
                      ((go_at_call 13; go_split_ands; refine (HVal.out _).mono ?_; rintro e w4 ⟨rfl, hb4⟩; have hk1 := cell_keep (B := wo.heap.size) (o := 0) (u := .string x.1) hb4 (by assumption); have hk2 := cell_keep (B := wo.heap.size) (o := 1) (u := .string x.2) hb4 (by assumption); have hk3 := below_trans (w := w) (by assumption) hb4))
                    have HBe := Lib.hid hk3
                    clear hb4 hk1 hk2 hk3
                    go_wp2
                    go_roundw
                    case rel => exact ⟨k + 1, _, by omega, by go_num, rfl, HNext.out, by first | exact HBe.out | exact drewB1 HBe.out⟩
                    case measure => simp [intOf]; omega
          · have HRd : Hid (∀ T : ByteArray, T.data.toList = S.data.toList ++ ends self behind.data.toList → rdT T.data.toList = ⟨1, name, l, self, S.size + (if self then 2 else 1), true⟩) := Lib.hid (fun T hT => txt_end HTx.out (by omega) HNm.out self hT)
            have hbs : behind.size ≤ 100 := by omega
            have HTo := Lib.hid (C.StAt.below HT.out HBo.out)
            have HAo := Lib.hid (HA.out.below HBo.out)
            have HL : Hid (l.length ≤ 1000000) := Lib.hid (by omega)
            obtain ⟨n, hn⟩ : ∃ n, n = S.size + (if self then 2 else 1) := ⟨_, rfl⟩
            rw [← hn] at HRd
            clear HTx h100
            cases self with
            | false =>
              have hn2 : n = S.size + 1 := hn
              have hnq : ((n : Int) == (S.size : Int) + 1) = true := by rw [beq_iff_eq]; omega
              have e62 : (⟨#[62]⟩ : ByteArray).size = 1 := rfl
              have HR := Lib.hid (read_any ((S ++ ⟨#[62]⟩) ++ behind) wo HTo.out (by simp only [ByteArray.size_append, e62]; omega))
              rw [HRd.out _ (by simp only [app_list, List.append_assoc]; rfl)] at HR
              clear hn hn2 e62 HRd
              go_wp2_with fail
              refine HR.out.mono ?_
              rintro e w1 ⟨a', cap', _, he, hat, hbl⟩
              unfold tokV at he
              subst he
              have HB1 := below_step HBo hbl
              have HA1 := Lib.hid (HAo.out.below hbl)
              have HB2 := Lib.hid (HB1.out.alloc HB1.out.size (.cells #[.int .i64 1, .string name, .slice a' l.length cap', .bool false, .string ⟨#[]⟩] 25))
              have HA2 := Lib.hid (HA1.out.alloc (.cells #[.int .i64 1, .string name, .slice a' l.length cap', .bool false, .string ⟨#[]⟩] 25))
              have HM2 := Lib.hid (A.AttrsAt.alloc (show AttrsAt w1 a' l from hat) (.cells #[.int .i64 1, .string name, .slice a' l.length cap', .bool false, .string ⟨#[]⟩] 25))
              have HK2 := Lib.hid (heap_alloc_new w1 (.cells #[.int .i64 1, .string name, .slice a' l.length cap', .bool false, .string ⟨#[]⟩] 25))
              clear hat hbl HR
              go_upto_region 20 with fail
              obtain ⟨w2, ew⟩ : ∃ w2, w2 = w1.alloc (.cells #[.int .i64 1, .string name, .slice a' l.length cap', .bool false, .string ⟨#[]⟩] 25) := ⟨_, rfl⟩
              rw [← show (⟨#[]⟩ : ByteArray) = ByteArray.empty from rfl]
              rw [← ew] at HB2 HA2 HM2 HK2 ⊢
              clear ew
              have HSa := Lib.hid (tsame_any ⟨1, name, l, false, n, true⟩ a' a cap' cap w2 HL.out HM2.out HA2.out)
              unfold tokV at HSa
              rw [← show (⟨#[]⟩ : ByteArray) = ByteArray.empty from rfl] at HSa
              obtain ⟨c0, c1, c2, c3, c4⟩ := row_at HK2.out
              go_wp2_with fail
              refine HSa.out.mono ?_
              rintro e w3 ⟨rfl, hb⟩
              have HB3 := below_step HB2 hb
              clear hb
              go_wp2_with fail
              refine (HAw.out _ HB3.out).mono ?_
              rintro e w4 ⟨rfl, hb⟩
              have HB4 := below_step HB3 hb
              clear hb
              go_wp2
              go_ret
              exact ⟨rfl, HB4.out⟩
            | true =>
              have hn2 : n = S.size + 2 := hn
              have hnq : ((n : Int) == (S.size : Int) + 1 + 1) = true := by rw [beq_iff_eq]; omega
              have e62 : (⟨#[62]⟩ : ByteArray).size = 1 := rfl
              have e47 : (⟨#[47]⟩ : ByteArray).size = 1 := rfl
              have HR := Lib.hid (read_any (((S ++ ⟨#[47]⟩) ++ ⟨#[62]⟩) ++ behind) wo HTo.out (by simp only [ByteArray.size_append, e62, e47]; omega))
              rw [HRd.out _ (by simp only [app_list, List.append_assoc]; rfl)] at HR
              clear hn hn2 e62 e47 HRd
              go_wp2_with fail
              refine HR.out.mono ?_
              rintro e w1 ⟨a', cap', _, he, hat, hbl⟩
              unfold tokV at he
              subst he
              have HB1 := below_step HBo hbl
              have HA1 := Lib.hid (HAo.out.below hbl)
              have HB2 := Lib.hid (HB1.out.alloc HB1.out.size (.cells #[.int .i64 1, .string name, .slice a' l.length cap', .bool true, .string ⟨#[]⟩] 25))
              have HA2 := Lib.hid (HA1.out.alloc (.cells #[.int .i64 1, .string name, .slice a' l.length cap', .bool true, .string ⟨#[]⟩] 25))
              have HM2 := Lib.hid (A.AttrsAt.alloc (show AttrsAt w1 a' l from hat) (.cells #[.int .i64 1, .string name, .slice a' l.length cap', .bool true, .string ⟨#[]⟩] 25))
              have HK2 := Lib.hid (heap_alloc_new w1 (.cells #[.int .i64 1, .string name, .slice a' l.length cap', .bool true, .string ⟨#[]⟩] 25))
              clear hat hbl HR
              go_upto_region 20 with fail
              obtain ⟨w2, ew⟩ : ∃ w2, w2 = w1.alloc (.cells #[.int .i64 1, .string name, .slice a' l.length cap', .bool true, .string ⟨#[]⟩] 25) := ⟨_, rfl⟩
              rw [← show (⟨#[]⟩ : ByteArray) = ByteArray.empty from rfl]
              rw [← ew] at HB2 HA2 HM2 HK2 ⊢
              clear ew
              have HSa := Lib.hid (tsame_any ⟨1, name, l, true, n, true⟩ a' a cap' cap w2 HL.out HM2.out HA2.out)
              unfold tokV at HSa
              rw [← show (⟨#[]⟩ : ByteArray) = ByteArray.empty from rfl] at HSa
              obtain ⟨c0, c1, c2, c3, c4⟩ := row_at HK2.out
              go_wp2_with fail
              refine HSa.out.mono ?_
              rintro e w3 ⟨rfl, hb⟩
              have HB3 := below_step HB2 hb
              clear hb
              go_wp2_with fail
              refine (HAw.out _ HB3.out).mono ?_
              rintro e w4 ⟨rfl, hb⟩
              have HB4 := below_step HB3 hb
              clear hb
              go_wp2
              go_ret
              exact ⟨rfl, HB4.out⟩
end Go.Proofs.YtkfaenhidjekdaaDoor.T
