/-
  The walk of the law TreeUps.
-/
import Derived.Test.YtnihomlmjfgmdaaNUpsP
import Derived.Test.YtnihomlmjfgmdaaNUpsOpen
import Derived.Test.YtnihomlmjfgmdaaNAwake
import Derived.Test.YtnihomlmjfgmdaaNSmall
import Derived.Deep.CutBlock
import Derived.Deep.DeepCutAuto
import Derived.Outline
namespace Go.Proofs.Ytnihomlmjfgmdaa
open Go.RowKit

/-- What stands between the two trees while the operations are done. -/
def Mid (w : World) (p q k : Nat) (W : World) : Prop :=
  ∃ P S, Duo w (okA w) p q P P.length S W ∧ Good P ∧ P.length ≤ k + 1 ∧ kidSum P ≤ k ∧ S ≤ k
theorem Mid.below {w : World} {p q k : Nat} {W W' : World} (h : Mid w p q k W) (hb : Below W.heap.size W W') : Mid w p q k W' := by
  obtain ⟨P, S, h1, h2⟩ := h
  exact ⟨P, S, h1.below hb fun _ h _ => h, h2⟩
theorem good_norm {l : List Nd} (h : Good (l.map norm)) : Good l := by
  have e1 : upF (l.map norm) = upF l := funext fun j => upI_norm l (j : Int)
  have e2 : ksF (l.map norm) = ksF l := funext fun j => by
    show (nodeI (l.map norm) (j : Int)).kids = (nodeI l (j : Int)).kids
    rw [nodeI_norm]; rfl
  unfold Good at h ⊢
  rw [e1, e2, List.length_map] at h
  exact h
theorem upF_at {l : List Nd} {i : Nat} (h : i < l.length) : upF l i = l[i].up := by unfold upF; simp [h]
theorem count_take {l : List Int} {j : Nat} (h : j < l.length) (x : Int) : (l.take (j + 1)).count x = (l.take j).count x + if l[j] = x then 1 else 0 := by
  rw [List.take_succ_eq_append_getElem h, List.count_append, List.count_singleton]
  by_cases e : l[j] = x
  · rw [if_pos e]; simp [e]
  · rw [if_neg e]; simp [e]
theorem OpAt.kept {w w' : World} {b o : Nat} {x : Oq} (h : OpAt w b o x) (hlt : b < w.heap.size) (hb : Below w.heap.size w w') : OpAt w' b o x := h.below hlt hb
def RetM (w : World) (p q k : Nat) (e : Ending) (W' : World) : Prop := e = .returned (.bool true) ∧ Mid w p q (k + 1) W'
/-- One operation keeps what stands between the two trees. -/
theorem mid_done {w W : World} {p q k : Nat} (h : Mid w p q k W) (hk : k ≤ 30) (o : Oq) (hr : ReadK w o.x) (hs : smallN o.x) :
    Calls Try.prog 7 #[.pointer (some ⟨p, 0, none⟩), .pointer (some ⟨q, 0, none⟩), .agg #[.int .i64 o.d, .int .i64 o.a, .int .i64 o.b, .int .i64 o.c, .int .i64 o.x.kind, .int .i64 o.x.space, .string o.x.name, o.x.av, .string o.x.data, .int .i64 o.x.up, o.x.kv]] W (RetM w p q k) := by
  obtain ⟨P, S, h1, h2, h3, h4, h5⟩ := h
  refine (done_any w p q P P.length S o.d o.a o.b o.c o.x W h1 ⟨hr, h2.pos, rfl, by omega, fun y hy => Nat.le_trans (kids_le h4 y hy) (by omega), by omega, by have := hs.2.2.2; omega⟩).mono ?_
  rintro e W' ⟨rfl, S', hS, hd⟩
  have := (len_op P o.d o.a o.b o.c o.x).2
  have := sum_op P o.d o.a o.b o.c o.x
  exact ⟨rfl, _, S', hd, good_op h2 _ _ _ _ _, by omega, by omega, by omega⟩

set_option maxRecDepth 100000 in
set_option maxHeartbeats 6400000 in
theorem ups_walk (v : Value) (l : List Oq) (w : World) (hv : ReadO w v l) (hl : l.length ≤ maxLen) (hsz : ∀ i (h : i < l.length), sizedN l[i].x) :
    Calls Try.prog 3 #[v] w (RetT w) := by
  obtain ⟨va, vc, rfl, hv1, hv2⟩ := hv
  have hlm : l.length ≤ 2 ^ 63 - 1 := hl
  clear hl
  have HV1 := Lib.hid hv1
  have HV2 := Lib.hid hv2
  have HSz := Lib.hid hsz
  have HNw := Lib.hid new_any
  have HAw := Lib.hid awake_any
  clear hv1 hv2 hsz
  go_enter Try.func3, Try.ntmps3
  go_wp2_with fail
  refine (HNw.out w).mono ?_
  rintro e w1 ⟨v1, rfl, hb1, hn1⟩
  have HB1 := Lib.hid hb1
  have HN1 := Lib.hid hn1
  obtain ⟨a1, c1, rfl, _, _⟩ := hn1.nr.slice
  clear hb1 hn1
  go_upto_region 2 with fail
  show Code.wp _ _ _ _ (W1 w1 (.slice a1 [rootN].length c1))
  have HT2 : Hid (TreeAt (W1 w1 (.slice a1 [rootN].length c1)) (RN NoR w (W1 w1 (.slice a1 [rootN].length c1))) w1.heap.size (.slice a1 [rootN].length c1) [rootN]) := Lib.hid ⟨heap_alloc_new w1 _, .inr ⟨HB1.out.size, by simp [W1]⟩, (HN1.out.below (w1_below w1 _)).wide (rn_rn (w1_below w1 _).size) (rn_lt fun k h => h.elim)⟩
  have HB2 : Hid (Below w.heap.size w (W1 w1 (.slice a1 [rootN].length c1))) := Lib.hid (HB1.out.trans ((w1_below w1 _).mono HB1.out.size))
  obtain ⟨w2, ew⟩ : ∃ w2, w2 = W1 w1 (.slice a1 [rootN].length c1) := ⟨_, rfl⟩
  rw [← ew] at HT2 HB2 ⊢
  clear ew
  obtain ⟨p, hp⟩ : ∃ p, p = w1.heap.size := ⟨_, rfl⟩
  rw [← hp] at HT2 ⊢
  clear hp HN1 HB1
  go_wp2_with fail
  refine (HNw.out w2).mono ?_
  rintro e w3 ⟨v3, rfl, hb3, hn3⟩
  have HB3 := Lib.hid hb3
  have HN3 := Lib.hid hn3
  obtain ⟨a3, c3, rfl, _, _⟩ := hn3.nr.slice
  clear hb3 hn3
  go_upto_region 3 with fail
  show Code.wp _ _ _ _ (W1 w3 (.slice a3 [rootN].length c3))
  have HM : Hid (Mid w p w3.heap.size 0 (W1 w3 (.slice a3 [rootN].length c3))) := Lib.hid (by
    have hT4 : TreeAt (W1 w3 (.slice a3 [rootN].length c3)) (RN NoR w2 (W1 w3 (.slice a3 [rootN].length c3))) w3.heap.size (.slice a3 [rootN].length c3) [rootN] := ⟨heap_alloc_new w3 _, .inr ⟨HB3.out.size, by simp [W1]⟩, (HN3.out.below (w1_below w3 _)).wide (rn_rn (w1_below w3 _).size) (rn_lt fun k h => h.elim)⟩
    have hb24 : Below w2.heap.size w2 (W1 w3 (.slice a3 [rootN].length c3)) := HB3.out.trans ((w1_below w3 _).mono HB3.out.size)
    refine ⟨[rootN], 0, ⟨HB2.out.trans (hb24.mono HB2.out.size), RN NoR w w2, RN NoR w2 _, ⟨_, _, HT2.out.below hb24, rfl⟩, ⟨_, _, hT4, rfl, Nat.le_refl _⟩, fun k h1 h2 => ?_, fun k h => ?_⟩, good_new, by simp, Nat.le_refl _, Nat.le_refl _⟩
    · rcases h1 with h1 | h1
      · exact h1
      · rcases h2 with h2 | h2
        · exact h2
        · omega
    · rcases h with (h | h) | (h | h)
      · exact h.elim
      · exact h.1
      · exact h.elim
      · exact Nat.le_trans HB2.out.size h.1)
  obtain ⟨w4, ew⟩ : ∃ w4, w4 = W1 w3 (.slice a3 [rootN].length c3) := ⟨_, rfl⟩
  rw [← ew] at HM ⊢
  clear ew
  obtain ⟨q, hq⟩ : ∃ q, q = w3.heap.size := ⟨_, rfl⟩
  rw [← hq] at HM ⊢
  clear hq HN3 HB3 HT2 HB2
  go_upto_block 0 with fail
  go_cut [17, 5, 6] (fun _ _ _ w' => ∃ k, k ≤ 30 ∧ Mid w p q k w')
  case first =>
    go_wp2
    go_loopw [17] (fun v wr => ∃ k : Nat, k ≤ l.length ∧ k ≤ 30 ∧ v = .int .i64 k ∧ Mid w p q k wr) (fun v _ => l.length - (intOf v).toNat)
    case atStart => exact ⟨0, Nat.zero_le _, by omega, rfl, HM.out⟩
    case round =>
      obtain ⟨k, hk, hk30, rfl, hmid⟩ := hrel
      have HMr := Lib.hid hmid
      clear hmid
      by_cases hlt : k < l.length
      · obtain ⟨b, off, rfl, hbl, hc⟩ := HV1.out (fun e => by rw [e] at hlt; simp at hlt)
        have HBw : Hid (Below w.heap.size w wr) := Lib.hid (by obtain ⟨_, _, h, _⟩ := HMr.out; exact h.1)
        have HOk := Lib.hid ((hc k hlt).below hbl HBw.out)
        have HRk := Lib.hid (HV2.out k hlt)
        have HSk := Lib.hid (HSz.out k hlt)
        have hi0 : (0 : Int) ≤ (k : Int) := by omega
        have hi1 : (k : Int) < (l.length : Int) := by omega
        clear hc hbl
        generalize l[k] = o at *
        obtain ⟨⟨ka, kc, hkv, _⟩, aa, ac, hav, _⟩ := HRk.out
        have HKv := Lib.hid hkv
        have HAv := Lib.hid hav
        obtain ⟨x0, x1, x2, x3, x4, x5, x6, x7, x8, x9, x10⟩ := HOk.out.c11
        rw [hkv] at x10
        rw [hav] at x7
        clear hkv hav
        have HBo : Hid (Below wr.heap.size wr (wr.alloc (.cells #[.int .i64 o.d, .int .i64 o.a, .int .i64 o.b, .int .i64 o.c, .int .i64 o.x.kind, .int .i64 o.x.space, .string o.x.name, .slice aa o.x.attrs.length ac, .string o.x.data, .int .i64 o.x.up, .slice ka o.x.kids.length kc] 32))) := Lib.hid (below_box wr _)
        have HXo : Hid ((wr.alloc (.cells #[.int .i64 o.d, .int .i64 o.a, .int .i64 o.b, .int .i64 o.c, .int .i64 o.x.kind, .int .i64 o.x.space, .string o.x.name, .slice aa o.x.attrs.length ac, .string o.x.data, .int .i64 o.x.up, .slice ka o.x.kids.length kc] 32)).heap[wr.heap.size]? = some (Obj.cells #[.int .i64 o.d, .int .i64 o.a, .int .i64 o.b, .int .i64 o.c, .int .i64 o.x.kind, .int .i64 o.x.space, .string o.x.name, .slice aa o.x.attrs.length ac, .string o.x.data, .int .i64 o.x.up, .slice ka o.x.kids.length kc] 32 (0, 0))) := Lib.hid (heap_alloc_new wr _)
        go_upto_region 6 with fail
        show Code.wp _ _ _ _ (wr.alloc (.cells #[.int .i64 o.d, .int .i64 o.a, .int .i64 o.b, .int .i64 o.c, .int .i64 o.x.kind, .int .i64 o.x.space, .string o.x.name, .slice aa o.x.attrs.length ac, .string o.x.data, .int .i64 o.x.up, .slice ka o.x.kids.length kc] 32))
        obtain ⟨w5, ew⟩ : ∃ w5, w5 = wr.alloc (.cells #[.int .i64 o.d, .int .i64 o.a, .int .i64 o.b, .int .i64 o.c, .int .i64 o.x.kind, .int .i64 o.x.space, .string o.x.name, .slice aa o.x.attrs.length ac, .string o.x.data, .int .i64 o.x.up, .slice ka o.x.kids.length kc] 32) := ⟨_, rfl⟩
        rw [← ew] at HBo HXo ⊢
        clear ew x0 x1 x2 x3 x4 x5 x6 x7 x8 x9 x10
        have HM5 := Lib.hid (HMr.out.below HBo.out)
        have y0 : w5.cell? ⟨wr.heap.size, 0, none⟩ = some (.int .i64 o.d) := cell_of_row w5 _ 0 _ _ _ HXo.out
        have y1 : w5.cell? ⟨wr.heap.size, 1, none⟩ = some (.int .i64 o.a) := cell_of_row w5 _ 1 _ _ _ HXo.out
        have y2 : w5.cell? ⟨wr.heap.size, 2, none⟩ = some (.int .i64 o.b) := cell_of_row w5 _ 2 _ _ _ HXo.out
        have y3 : w5.cell? ⟨wr.heap.size, 3, none⟩ = some (.int .i64 o.c) := cell_of_row w5 _ 3 _ _ _ HXo.out
        have y4 : w5.cell? ⟨wr.heap.size, 4, none⟩ = some (.int .i64 o.x.kind) := cell_of_row w5 _ 4 _ _ _ HXo.out
        have y5 : w5.cell? ⟨wr.heap.size, 5, none⟩ = some (.int .i64 o.x.space) := cell_of_row w5 _ 5 _ _ _ HXo.out
        have y6 : w5.cell? ⟨wr.heap.size, 6, none⟩ = some (.string o.x.name) := cell_of_row w5 _ 6 _ _ _ HXo.out
        have y7 : w5.cell? ⟨wr.heap.size, 7, none⟩ = some (.slice aa o.x.attrs.length ac) := cell_of_row w5 _ 7 _ _ _ HXo.out
        have y8 : w5.cell? ⟨wr.heap.size, 8, none⟩ = some (.string o.x.data) := cell_of_row w5 _ 8 _ _ _ HXo.out
        have y9 : w5.cell? ⟨wr.heap.size, 9, none⟩ = some (.int .i64 o.x.up) := cell_of_row w5 _ 9 _ _ _ HXo.out
        have y10 : w5.cell? ⟨wr.heap.size, 10, none⟩ = some (.slice ka o.x.kids.length kc) := cell_of_row w5 _ 10 _ _ _ HXo.out
        by_cases h30 : (30 : Int) ≤ (k : Int)
        · have d30 : decide ((30 : Int) ≤ (k : Int)) = true := by simpa using h30
          go_wp2
          go_meet
          exact ⟨k, hk30, HM5.out⟩
        · have d30 : decide ((30 : Int) ≤ (k : Int)) = false := by simpa using h30
          have HNo := Lib.hid (node_any o.x w5 (HRk.out.below (HBw.out.trans (HBo.out.mono HBw.out.size))) HSk.out)
          unfold Nd.val at HNo
          rw [HKv.out, HAv.out] at HNo
          go_wp2_with fail
          refine HNo.out.mono ?_
          rintro e w6 ⟨bb, rfl, hbb, hb6⟩
          have HBB := Lib.hid hbb
          have HM6 := Lib.hid (HM5.out.below hb6)
          have HX6 : Hid (w6.heap[wr.heap.size]? = some (Obj.cells #[.int .i64 o.d, .int .i64 o.a, .int .i64 o.b, .int .i64 o.c, .int .i64 o.x.kind, .int .i64 o.x.space, .string o.x.name, .slice aa o.x.attrs.length ac, .string o.x.data, .int .i64 o.x.up, .slice ka o.x.kids.length kc] 32 (0, 0))) := Lib.hid ((hb6.block _ (Array.getElem?_eq_some_iff.1 HXo.out).1).trans HXo.out)
          clear hb6 hbb y0 y1 y2 y3 y4 y5 y6 y7 y8 y9 y10 HNo
          cases bb with
          | false =>
            go_wp2
            go_meet
            exact ⟨k, hk30, HM6.out⟩
          | true =>
            have HDo := Lib.hid (mid_done HM6.out hk30 o HRk.out (HBB.out (by trivial)))
            rw [HKv.out, HAv.out] at HDo
            have z0 : w6.cell? ⟨wr.heap.size, 0, none⟩ = some (.int .i64 o.d) := cell_of_row w6 _ 0 _ _ _ HX6.out
            have z1 : w6.cell? ⟨wr.heap.size, 1, none⟩ = some (.int .i64 o.a) := cell_of_row w6 _ 1 _ _ _ HX6.out
            have z2 : w6.cell? ⟨wr.heap.size, 2, none⟩ = some (.int .i64 o.b) := cell_of_row w6 _ 2 _ _ _ HX6.out
            have z3 : w6.cell? ⟨wr.heap.size, 3, none⟩ = some (.int .i64 o.c) := cell_of_row w6 _ 3 _ _ _ HX6.out
            have z4 : w6.cell? ⟨wr.heap.size, 4, none⟩ = some (.int .i64 o.x.kind) := cell_of_row w6 _ 4 _ _ _ HX6.out
            have z5 : w6.cell? ⟨wr.heap.size, 5, none⟩ = some (.int .i64 o.x.space) := cell_of_row w6 _ 5 _ _ _ HX6.out
            have z6 : w6.cell? ⟨wr.heap.size, 6, none⟩ = some (.string o.x.name) := cell_of_row w6 _ 6 _ _ _ HX6.out
            have z7 : w6.cell? ⟨wr.heap.size, 7, none⟩ = some (.slice aa o.x.attrs.length ac) := cell_of_row w6 _ 7 _ _ _ HX6.out
            have z8 : w6.cell? ⟨wr.heap.size, 8, none⟩ = some (.string o.x.data) := cell_of_row w6 _ 8 _ _ _ HX6.out
            have z9 : w6.cell? ⟨wr.heap.size, 9, none⟩ = some (.int .i64 o.x.up) := cell_of_row w6 _ 9 _ _ _ HX6.out
            have z10 : w6.cell? ⟨wr.heap.size, 10, none⟩ = some (.slice ka o.x.kids.length kc) := cell_of_row w6 _ 10 _ _ _ HX6.out
            go_wp2_with fail
            refine HDo.out.mono ?_
            rintro e w7 ⟨rfl, hm7⟩
            have HM7 := Lib.hid hm7
            clear hm7 z0 z1 z2 z3 z4 z5 z6 z7 z8 z9 z10 HDo
            go_wp2
            go_roundw
            case rel => exact ⟨k + 1, by omega, by omega, by go_num, HM7.out⟩
            case measure => simp [intOf]; omega
      · go_wp2
        go_meet
        exact ⟨k, hk30, HMr.out⟩
  case rest =>
    obtain ⟨w5, rfl⟩ : ∃ w5, w5 = wc := ⟨_, rfl⟩
    obtain ⟨k0, hk0, P, S, hD, hG, hPl, _, _⟩ := hcut
    obtain ⟨hbw, R1, R2, ⟨vt, ll, hT, hP⟩, _, _, _⟩ := hD
    subst hP
    have hGl : Good ll := good_norm hG
    have hll : ll.length ≤ 31 := by rw [List.length_map] at hPl; omega
    have hpos := hGl.pos
    have HG := Lib.hid hGl
    have HT := Lib.hid hT
    have HBw := Lib.hid hbw
    obtain ⟨g, cap, rfl, hcl, hcm, hg, hcell, _⟩ := hT.nodes.nr.form hpos
    have HNc : Hid (∀ W, Below w5.heap.size w5 W → ∀ i (h : i < ll.length), NodeAt W g (i * 7) ll[i]) := Lib.hid fun W hb i h k hk => (hb.cell (p := ⟨g, i * 7 + k, none⟩) hg).trans (hcell i h k hk)
    have hpc := HT.out.cell
    unfold maxLen at hcm
    clear hGl hG hT hbw hcell hPl HM HNw HV1 HV2 HSz
    go_wp2
    have hplt : p < w5.heap.size := World.block_lt_of_cell? w5 _ hpc
    have HPc : Hid (∀ W, Below w5.heap.size w5 W → W.cell? ⟨p, 0, none⟩ = some (.slice (some ⟨g, 0, none⟩) ll.length cap)) := Lib.hid fun W hb => (hb.cell (p := ⟨p, 0, none⟩) hplt).trans hpc
    clear hpc
    go_loopw [37] (fun v wr => ∃ k : Nat, k ≤ ll.length ∧ v = .int .i64 k ∧ Below w5.heap.size w5 wr) (fun v _ => ll.length - (intOf v).toNat)
    case atStart => exact ⟨0, Nat.zero_le _, rfl, Below.refl _ _⟩
    case round =>
      obtain ⟨k, hk, rfl, hbr⟩ := hrel
      have HBr := Lib.hid hbr
      clear hbr
      by_cases hlt : k < ll.length
      · have hi0 : (0 : Int) ≤ (k : Int) := by omega
        have hi1 : (k : Int) < (ll.length : Int) := by omega
        have HXk := Lib.hid (HNc.out wr HBr.out k hlt)
        have HKf := Lib.hid (HT.out.nodes.kr k hlt).form
        have HKids : Hid (∀ j (hj : j < ll[k].kids.length), ∃ m : Nat, ll[k].kids[j] = (m : Int) ∧ ∃ h : m < ll.length, ll[m].up = (k : Int)) := Lib.hid fun j hj => by
          obtain ⟨m, e, hm, hu⟩ := HG.out.kid k hlt ll[k].kids[j] (by rw [ksF_at hlt]; exact List.getElem_mem hj)
          exact ⟨m, e, hm, by rw [← upF_at hm]; exact hu⟩
        have HUp : Hid (ll[k].up = -1 ∨ ∃ m : Nat, ll[k].up = (m : Int) ∧ ∃ h : m < ll.length, ll[m].kids.count (k : Int) = 1 ∧ rholdsP ll (k : Int) (m : Int) = false) := Lib.hid (by
          rcases HG.out.up_ k hlt with h | ⟨m, h1, h2, h3⟩
          · exact .inl (by rw [← upF_at hlt]; exact h)
          · exact .inr ⟨m, by rw [← upF_at hlt]; exact h1, h2, by rw [← ksF_at h2]; exact h3, good_holds HG.out hlt h1⟩)
        have HAr := Lib.hid (HT.out.nodes.ar k hlt)
        generalize ll[k] = x at *
        obtain ⟨aa, ac, hav, _⟩ := HAr.out
        obtain ⟨ka, kc, hkv, hkl, hkm, hknone, hkc⟩ := HKf.out
        unfold maxLen at hkm
        obtain ⟨x0, x1, x2, x3, x4, x5, x6⟩ := HXk.out.c7
        rw [hkv] at x6
        rw [hav] at x3
        have HKc : Hid (∀ W, Below w5.heap.size w5 W → ∀ j (hj : j < x.kids.length), ∃ g6, ka = some ⟨g6, 0, none⟩ ∧ W.cell? ⟨g6, j, none⟩ = some (.int .i64 x.kids[j])) := Lib.hid fun W hb j hj => by
          cases ka with
          | none => have := hknone rfl; omega
          | some ad =>
            obtain ⟨g6, rfl, hg6, hc, _⟩ := hkc ad rfl
            exact ⟨g6, rfl, (hb.cell (p := ⟨g6, j, none⟩) hg6).trans (hc j hj)⟩
        clear hkv hav hknone hkc
        have HBo : Hid (Below wr.heap.size wr (wr.alloc (.cells #[.int .i64 x.kind, .int .i64 x.space, .string x.name, .slice aa x.attrs.length ac, .string x.data, .int .i64 x.up, .slice ka x.kids.length kc] 30))) := Lib.hid (below_box wr _)
        have HXo : Hid ((wr.alloc (.cells #[.int .i64 x.kind, .int .i64 x.space, .string x.name, .slice aa x.attrs.length ac, .string x.data, .int .i64 x.up, .slice ka x.kids.length kc] 30)).heap[wr.heap.size]? = some (Obj.cells #[.int .i64 x.kind, .int .i64 x.space, .string x.name, .slice aa x.attrs.length ac, .string x.data, .int .i64 x.up, .slice ka x.kids.length kc] 30 (0, 0))) := Lib.hid (heap_alloc_new wr _)
        go_upto_region 13 with fail
        show Code.wp _ _ _ _ (wr.alloc (.cells #[.int .i64 x.kind, .int .i64 x.space, .string x.name, .slice aa x.attrs.length ac, .string x.data, .int .i64 x.up, .slice ka x.kids.length kc] 30))
        obtain ⟨wb, ew⟩ : ∃ wb, wb = wr.alloc (.cells #[.int .i64 x.kind, .int .i64 x.space, .string x.name, .slice aa x.attrs.length ac, .string x.data, .int .i64 x.up, .slice ka x.kids.length kc] 30) := ⟨_, rfl⟩
        rw [← ew] at HBo HXo ⊢
        clear ew x0 x1 x2 x3 x4 x5 x6
        have HBb : Hid (Below w5.heap.size w5 wb) := Lib.hid (HBr.out.trans (HBo.out.mono HBr.out.size))
        have y5 : wb.cell? ⟨wr.heap.size, 5, none⟩ = some (.int .i64 x.up) := cell_of_row wb _ 5 _ _ _ HXo.out
        have y6 : wb.cell? ⟨wr.heap.size, 6, none⟩ = some (.slice ka x.kids.length kc) := cell_of_row wb _ 6 _ _ _ HXo.out
        have hpb := HPc.out wb HBb.out
        go_upto_block 4 with fail
        go_cut [45, 11] (fun _ _ w' => wb = w')
        case first =>
          go_wp2
          go_loop [45] (fun v => ∃ j : Nat, j ≤ x.kids.length ∧ v = .int .i64 j) (fun v => x.kids.length - (intOf v).toNat)
          case atStart => exact ⟨0, Nat.zero_le _, rfl⟩
          case round =>
            obtain ⟨j, hj, rfl⟩ := hrel
            by_cases hjl : j < x.kids.length
            · obtain ⟨m, hm, hml, hmu⟩ := HKids.out j hjl
              obtain ⟨g6, hka, hcj⟩ := HKc.out wb HBb.out j hjl
              rw [hm] at hcj
              have hXm := (HNc.out wb HBb.out m hml).c7.2.2.2.2.2.1
              rw [hmu] at hXm
              have d1 : decide ((m : Int) < 0) = false := by simp
              have d2 : decide ((ll.length : Int) ≤ (m : Int)) = false := by simp; omega
              have d3 : ((k : Int) != (k : Int)) = false := by simp
              have c1 : (0 : Int) ≤ (m : Int) := by omega
              have c2 : (m : Int) < (ll.length : Int) := by omega
              have c3 : (0 : Int) ≤ (j : Int) := by omega
              have c4 : (j : Int) < (x.kids.length : Int) := by omega
              subst hka
              clear hm hmu
              go_wp2
              go_round
              case rel => exact ⟨j + 1, by omega, by go_num⟩
              case measure => simp [intOf]; omega
            · go_wp2
              go_meet
              exact rfl
        case rest =>
          obtain rfl := hcut
          rcases HUp.out with hu | ⟨m, hu, hml, hcnt, hho⟩
          · rw [hu] at y5
            have d2 : decide ((ll.length : Int) ≤ (-1 : Int)) = false := by simp; omega
            clear hu
            go_wp2
            go_loopw [12] (fun v w' => v = .int .i64 0 ∧ wb = w') (fun _ _ => 0)
            case atStart => exact ⟨rfl, rfl⟩
            case round =>
              obtain ⟨rfl, rfl⟩ := hrel
              go_wp2
              go_roundw
              case rel => exact ⟨k + 1, by omega, by go_num, HBb.out⟩
              case measure => simp [intOf]; omega
          · rw [hu] at y5
            have d1 : decide ((m : Int) < -1) = false := decide_eq_false (by omega)
            have d2 : decide ((ll.length : Int) ≤ (m : Int)) = false := by simp; omega
            have d3 : decide ((0 : Int) ≤ (m : Int)) = true := by simp
            have c1 : (0 : Int) ≤ (m : Int) := by omega
            have c2 : (m : Int) < (ll.length : Int) := by omega
            have HHo := Lib.hid (rholds_any _ ll (k : Int) (m : Int) wb (by omega) (HT.out.below HBb.out).nodes.nr)
            rw [hho] at HHo
            have HKm := Lib.hid (HT.out.nodes.kr m hml).form
            have HCt := Lib.hid hcnt
            have HNm := Lib.hid (fun W hb => (HNc.out W hb m hml).c7.2.2.2.2.2.2)
            clear hu hho hcnt
            generalize ll[m] = z at *
            obtain ⟨kb, kd, hkv, hkl2, hkm2, hknone, hkc⟩ := HKm.out
            unfold maxLen at hkm2
            have HKd : Hid (∀ W, Below w5.heap.size w5 W → ∀ j (hj : j < z.kids.length), ∃ g6, kb = some ⟨g6, 0, none⟩ ∧ W.cell? ⟨g6, j, none⟩ = some (.int .i64 z.kids[j])) := Lib.hid fun W hb j hj => by
              cases kb with
              | none => have := hknone rfl; omega
              | some ad =>
                obtain ⟨g6, rfl, hg6, hc, _⟩ := hkc ad rfl
                exact ⟨g6, rfl, (hb.cell (p := ⟨g6, j, none⟩) hg6).trans (hc j hj)⟩
            rw [hkv] at HNm
            clear hkv hknone hkc
            go_wp2_with fail
            refine HHo.out.mono ?_
            rintro e w7 ⟨rfl, hb7⟩
            have HB7 : Hid (Below w5.heap.size w5 w7) := Lib.hid (HBb.out.trans (hb7.mono HBb.out.size))
            have z5 := cell_keep hb7 y5
            have hp7 := HPc.out w7 HB7.out
            have hm7 := HNm.out w7 HB7.out
            clear hb7 y5 y6 hpb HHo d1 d2
            go_wp2
            go_loopw [12, 9] (fun v u w' => ∃ j : Nat, j ≤ z.kids.length ∧ v = .int .i64 j ∧ u = .int .i64 ((z.kids.take j).count (k : Int) : Nat) ∧ w7 = w') (fun v _ _ => z.kids.length - (intOf v).toNat)
            case atStart => exact ⟨0, Nat.zero_le _, rfl, by simp, rfl⟩
            case round =>
              obtain ⟨j, hj, rfl, rfl, rfl⟩ := hrel
              by_cases hjl : j < z.kids.length
              · obtain ⟨g6, hkb, hcj⟩ := HKd.out w7 HB7.out j hjl
                have c3 : (0 : Int) ≤ (j : Int) := by omega
                have c4 : (j : Int) < (z.kids.length : Int) := by omega
                have HCn := Lib.hid (count_take hjl (k : Int))
                have hle : (z.kids.take j).count (k : Int) ≤ j := Nat.le_trans List.count_le_length (by rw [List.length_take]; omega)
                obtain ⟨ct, hct⟩ : ∃ ct, ct = (z.kids.take j).count (k : Int) := ⟨_, rfl⟩
                rw [← hct] at HCn hle ⊢
                have HCq := Lib.hid hct
                subst hkb
                clear hct
                by_cases e : z.kids[j] = (k : Int)
                · have HE : Hid ((z.kids.take (j + 1)).count (k : Int) = ct + 1) := Lib.hid (by rw [HCn.out, if_pos e])
                  have d4 : (z.kids[j] == (k : Int)) = true := by simpa using e
                  clear e
                  generalize z.kids[j] = y at *
                  go_wp2
                  go_roundw
                  case rel => exact ⟨j + 1, by omega, by go_num, by rw [HE.out]; go_num, trivial⟩
                  case measure => simp [intOf]; omega
                · have HE : Hid ((z.kids.take (j + 1)).count (k : Int) = ct) := Lib.hid (by rw [HCn.out, if_neg e]; rfl)
                  have d4 : (z.kids[j] == (k : Int)) = false := by simpa using e
                  clear e
                  generalize z.kids[j] = y at *
                  go_wp2
                  go_roundw
                  case rel => exact ⟨j + 1, by omega, by go_num, by rw [HE.out], trivial⟩
                  case measure => simp [intOf]; omega
              · have hct : (z.kids.take j).count (k : Int) = 1 := by rw [List.take_of_length_le (by omega)]; exact HCt.out
                rw [hct]
                go_wp2
                go_roundw
                case rel => exact ⟨k + 1, by omega, by go_num, HB7.out⟩
                case measure => simp [intOf]; omega
      · go_wp2_with fail
        refine (HAw.out _).mono ?_
        rintro e w9 ⟨rfl, hb9⟩
        have HB9 : Hid (Below w.heap.size w w9) := Lib.hid ((HBw.out.trans (HBr.out.mono HBw.out.size)).trans (hb9.mono (Nat.le_trans HBw.out.size HBr.out.size)))
        clear hb9
        go_wp2
        go_ret
        exact ⟨rfl, HB9.out⟩
end Go.Proofs.Ytnihomlmjfgmdaa
