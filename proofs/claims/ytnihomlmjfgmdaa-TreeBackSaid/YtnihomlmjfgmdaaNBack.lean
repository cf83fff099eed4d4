/-
  The walk of the law TreeBack.
-/
import Derived.Test.YtnihomlmjfgmdaaNAwake
import Derived.Test.YtnihomlmjfgmdaaNBackP
namespace Go.Proofs.Ytnihomlmjfgmdaa
open Go.RowKit

theorem keepsB {R : Nat → Prop} {w w1 w2 : World} (h : Below w.heap.size w w1) (hk : Keeps R w1 w2) (hr : ∀ k, R k → w.heap.size ≤ k) : Below w.heap.size w w2 := h.trans (hk.below h.size hr)
theorem small_of {l : List Nd} (h : ∀ i (h : i < l.length), smallN l[i]) {m : List Nd} (hm : m.map norm = l.map norm) : ∀ i (h : i < m.length), smallN m[i] := fun i hi => by
  have hl : m.length = l.length := by have := congrArg List.length hm; simpa using this
  have e : norm m[i] = norm l[i] := by
    have e3 : (m.map norm)[i]? = (l.map norm)[i]? := by rw [hm]
    rw [List.getElem?_map, List.getElem?_map, List.getElem?_eq_getElem hi, List.getElem?_eq_getElem (by omega)] at e3
    exact Option.some.inj e3
  have hs := h i (by omega)
  have e1 : m[i].name = l[i].name := by have h := congrArg Nd.name e; exact h
  have e2 : m[i].data = l[i].data := by have h := congrArg Nd.data e; exact h
  have e3 : m[i].kids = l[i].kids := by have h := congrArg Nd.kids e; exact h
  have e4 : m[i].attrs = l[i].attrs := by have h := congrArg Nd.attrs e; exact h
  unfold smallN at hs ⊢
  rw [e1, e2, e3, e4]; exact hs
/-- The world behind the two boxes of TreeBack. -/
def T2 (w : World) (v : Value) (x : Nd) : World := (w.alloc (.cells #[v] 25)).alloc (box x)

set_option maxRecDepth 100000 in
set_option maxHeartbeats 6400000 in
theorem back_walk (v : Value) (l : List Nd) (x : Nd) (up at_ : Int) (w : World) (hv : ReadN w v l) (hx : ReadK w x) (hl : l.length ≤ maxLen) (hsz : ∀ i (h : i < l.length), l[i].name.size ≤ maxLen ∧ l[i].data.size ≤ maxLen ∧ l[i].attrs.length ≤ maxLen) (hsx : x.name.size ≤ maxLen ∧ x.data.size ≤ maxLen ∧ x.attrs.length ≤ maxLen) :
    Calls Try.prog 4 #[.agg #[v], x.val, .int .i64 up, .int .i64 at_] w (RetT w) := by
  have HV := Lib.hid hv
  have HXr := Lib.hid hx
  have HAw := Lib.hid awake_any
  have HB1 : Hid (Below w.heap.size w (T2 w v x)) := Lib.hid ((below_box w _).alloc (by simp) _)
  have HZ1 : Hid ((T2 w v x).heap.size = w.heap.size + 2) := Lib.hid (by simp [T2])
  have HX1 : Hid (NodeAt (T2 w v x) (w.heap.size + 1) 0 x) := Lib.hid (by
    have h := box_at (w.alloc (.cells #[v] 25)) x
    rw [show (w.alloc (.cells #[v] 25)).heap.size = w.heap.size + 1 by simp] at h
    exact h)
  have HA1 : Hid ((T2 w v x).heap[w.heap.size]? = some (.cells #[v] 25 (0, 0))) := Lib.hid ((Below.heap_alloc _ _ _ (by simp)).trans (heap_alloc_new w _))
  have HT1 := Lib.hid (tree_any v l (T2 w v x) (hv.below HB1.out) hl hsz)
  have HN := Lib.hid (fun W (hW : Below w.heap.size w W) => node_any x W (hx.below hW) hsx)
  obtain ⟨a, cap, rfl, _, _⟩ := hv
  obtain ⟨⟨xka, xkc, hxk, _⟩, xaa, xac, hxa, hxat⟩ := hx
  have HXK := Lib.hid hxk
  have HXA := Lib.hid hxa
  have HXAt := Lib.hid hxat
  clear hl hsz hsx hxk hxa hxat
  unfold Nd.val at HN
  rw [HXK.out, HXA.out] at HN
  unfold Nd.val
  rw [HXK.out, HXA.out]
  go_enter Try.func4, Try.ntmps4
  go_upto_region 1 with fail
  have hT2 : T2 w (.slice a l.length cap) x = (w.alloc (.cells #[.slice a l.length cap] 25)).alloc (.cells #[.int .i64 x.kind, .int .i64 x.space, .string x.name, .slice xaa x.attrs.length xac, .string x.data, .int .i64 x.up, .slice xka x.kids.length xkc] 30) := by
    show _ = (w.alloc (.cells #[.slice a l.length cap] 25)).alloc (.cells #[.int .i64 x.kind, .int .i64 x.space, .string x.name, .slice xaa x.attrs.length xac, .string x.data, .int .i64 x.up, .slice xka x.kids.length xkc] 30)
    rw [← HXK.out, ← HXA.out]; rfl
  rw [← hT2]
  clear hT2
  generalize T2 w (.slice a l.length cap) x = w1 at *
  have hp1 : w1.cell? ⟨w.heap.size, 0, none⟩ = some (.slice a l.length cap) := by simp [World.cell?, HA1.out]
  go_wp2_with fail
  refine HT1.out.mono ?_
  rintro e w2 ⟨bb, rfl, hbb, hb2⟩
  have HBB := Lib.hid hbb
  have HB2 := below_step HB1 hb2
  have HA2 : Hid (w2.heap[w.heap.size]? = some (.cells #[.slice a l.length cap] 25 (0, 0))) := Lib.hid ((hb2.block _ (by rw [HZ1.out]; omega)).trans HA1.out)
  have HX2 := Lib.hid (HX1.out.below hb2)
  have HZ2 : Hid (w.heap.size + 2 ≤ w2.heap.size) := Lib.hid (by have := hb2.size; rw [HZ1.out] at this; exact this)
  clear hb2 hbb hp1 HT1 HX1 HA1 HZ1 HB1
  cases bb with
  | false =>
    go_wp2_with fail
    refine (HAw.out _).mono ?_
    rintro e w3 ⟨rfl, hb3⟩
    have HB3 := below_step HB2 hb3
    clear hb3
    go_wp2
    go_ret
    exact ⟨rfl, HB3.out⟩
  | true =>
    obtain ⟨hl20, hsmall⟩ := HBB.out (by trivial)
    have HSm := Lib.hid hsmall
    clear hsmall HBB
    obtain ⟨x0, x1, x2, x3, x4, x5, x6⟩ := HX2.out.c7
    rw [HXK.out] at x6
    rw [HXA.out] at x3
    have HN2 := Lib.hid (HN.out w2 HB2.out)
    go_wp2_with fail
    refine HN2.out.mono ?_
    rintro e w3 ⟨bb, rfl, hbb, hb3⟩
    have HBB := Lib.hid hbb
    have HB3 := below_step HB2 hb3
    have HA3 : Hid (w3.heap[w.heap.size]? = some (.cells #[.slice a l.length cap] 25 (0, 0))) := Lib.hid ((hb3.block _ (by have := HZ2.out; omega)).trans HA2.out)
    have HX3 := Lib.hid (HX2.out.below hb3)
    have HZ3 : Hid (w.heap.size + 2 ≤ w3.heap.size) := Lib.hid (Nat.le_trans HZ2.out hb3.size)
    clear hb3 hbb x0 x1 x2 x3 x4 x5 x6 HN2 HN HX2 HA2 HZ2 HB2
    cases bb with
    | false =>
      go_wp2_with fail
      refine (HAw.out _).mono ?_
      rintro e w4 ⟨rfl, hb4⟩
      have HB4 := below_step HB3 hb4
      clear hb4
      go_wp2
      go_ret
      exact ⟨rfl, HB4.out⟩
    | true =>
      have HSx := Lib.hid (HBB.out (by trivial))
      clear HBB
      have hp3 : w3.cell? ⟨w.heap.size, 0, none⟩ = some (.slice a l.length cap) := by simp [World.cell?, HA3.out]
      by_cases hneg : up < 0
      · have d1 : decide (up < 0) = true := by simpa using hneg
        go_wp2_with fail
        refine (HAw.out _).mono ?_
        rintro e w4 ⟨rfl, hb4⟩
        have HB4 := below_step HB3 hb4
        clear hb4
        go_wp2
        go_ret
        exact ⟨rfl, HB4.out⟩
      · have d1 : decide (up < 0) = false := by simpa using hneg
        by_cases hbig : (l.length : Int) ≤ up
        · have d2 : decide ((l.length : Int) ≤ up) = true := by simpa using hbig
          go_wp2_with fail
          refine (HAw.out _).mono ?_
          rintro e w4 ⟨rfl, hb4⟩
          have HB4 := below_step HB3 hb4
          clear hb4 hp3
          go_wp2
          go_ret
          exact ⟨rfl, HB4.out⟩
        · have d2 : decide ((l.length : Int) ≤ up) = false := by simpa using hbig
          obtain ⟨j, rfl⟩ : ∃ j : Nat, up = (j : Int) := ⟨up.toNat, by omega⟩
          have hjl : j < l.length := by omega
          clear hneg hbig
          have HCl := Lib.hid (clone_any _ l w3 (HV.out.below HB3.out) (by omega) (fun i h => ⟨by have := (HSm.out i h).2.2.1; omega, by have := (HSm.out i h).2.2.2; omega⟩))
          go_wp2_with fail
          refine HCl.out.mono ?_
          rintro e w4 ⟨vC, lC, rfl, hb4, hnC, hmC⟩
          have HA4 : Hid (w4.heap[w.heap.size]? = some (.cells #[.slice a l.length cap] 25 (0, 0))) := Lib.hid ((hb4.block _ (by have := HZ3.out; omega)).trans HA3.out)
          have HX4 := Lib.hid (HX3.out.below hb4)
          have HB4 := below_step HB3 hb4
          have HZ4 : Hid (w3.heap.size ≤ w4.heap.size) := Lib.hid hb4.size
          have HNC := Lib.hid hnC
          have HMC := Lib.hid hmC
          obtain ⟨aC, cC, rfl, _, _⟩ := hnC.nr.slice
          have HlC : Hid (lC.length = l.length) := Lib.hid (by have := congrArg List.length hmC; simpa using this)
          have hp4 : w4.cell? ⟨w.heap.size, 0, none⟩ = some (.slice a l.length cap) := by simp [World.cell?, HA4.out]
          have hf4 : w4.frozen? ⟨w.heap.size, 0, none⟩ = false := by simp [World.frozen?, HA4.out]
          clear hb4 hnC hmC hp3 HCl
          go_upto_region 4 with fail
          have hT5 : TreeAt (w4.setCell ⟨w.heap.size, 0, none⟩ (.slice aC lC.length cC)) (fun k => k = w.heap.size ∨ RN NoR w3 w4 k) w.heap.size (.slice aC lC.length cC) lC := ⟨heap_setCell_same w4 _ 0 _ _ _ HA4.out, .inl rfl, (HNC.out.setTree HA4.out _).wide (fun k h => .inr h) (fun k h => by
            have hs : (w4.setCell ⟨w.heap.size, 0, none⟩ (.slice aC lC.length cC)).heap.size = w4.heap.size := by simp
            rw [hs]
            rcases h with h | h | h
            · have := HZ3.out; have := HZ4.out; omega
            · exact h.elim
            · exact h.2)⟩
          have HT5 := Lib.hid hT5
          have HB5 : Hid (Below w.heap.size w (w4.setCell ⟨w.heap.size, 0, none⟩ (.slice aC lC.length cC))) := Lib.hid (HB4.out.setCell (Nat.le_refl _) _)
          have HX5 : Hid (NodeAt (w4.setCell ⟨w.heap.size, 0, none⟩ (.slice aC lC.length cC)) (w.heap.size + 1) 0 x) := Lib.hid (HX4.out.block (setCell_other (by omega)))
          obtain ⟨w5, ew⟩ : ∃ w5, w5 = w4.setCell ⟨w.heap.size, 0, none⟩ (.slice aC lC.length cC) := ⟨_, rfl⟩
          rw [← ew] at HT5 HB5 HX5 ⊢
          clear ew hT5 hp4 hf4 HX4 HA3 HA4 HX3
          have HAd := Lib.hid (add_any _ w.heap.size _ lC x xaa xac w5 HT5.out (by have := HlC.out; omega) (by have := HlC.out; omega) HXA.out (HXAt.out.below HB5.out) (by have := HSx.out.2.2.2; omega))
          unfold Nd.val at HAd
          rw [HXK.out, HXA.out] at HAd
          obtain ⟨x0, x1, x2, x3, x4, x5, x6⟩ := HX5.out.c7
          rw [HXK.out] at x6
          rw [HXA.out] at x3
          have HRR : Hid (∀ k, (k = w.heap.size ∨ RN NoR w3 w4 k) → w.heap.size ≤ k) := Lib.hid (fun k h => by
            rcases h with h | h | h
            · omega
            · exact h.elim
            · have := HZ3.out; omega)
          generalize hRR : (fun k => k = w.heap.size ∨ RN NoR w3 w4 k) = R5 at *
          have HRR5 : Hid (∀ k, R5 k → w.heap.size ≤ k) := Lib.hid (by rw [← hRR]; exact HRR.out)
          clear hRR HRR
          go_wp2_with fail
          refine HAd.out.mono ?_
          rintro e w6 ⟨rfl, hk6, v6, av6, ht6⟩
          have HK6 := Lib.hid hk6
          have HB6 : Hid (Below w.heap.size w w6) := Lib.hid (keepsB HB5.out hk6 HRR5.out)
          obtain ⟨l6, hl6⟩ : ∃ l6, l6 = lC ++ [({ x with av := av6, up := -1, kv := .slice none 0 0, kids := [] } : Nd)] := ⟨_, rfl⟩
          rw [← hl6] at ht6
          have hlen6 : l6.length = l.length + 1 := by rw [hl6, List.length_append, HlC.out]; rfl
          have hup6 : upI (l6.map norm) (l.length : Int) = -1 := by
            rw [upI_norm]; unfold upI
            rw [nodeI_at (by omega : l.length < l6.length)]
            simp only [hl6, ← HlC.out]
            rw [List.getElem_append_right (Nat.le_refl _)]; simp
          have HSm6 : Hid (∀ i (h : i < l6.length), smallN l6[i]) := Lib.hid (fun i h => by
            have hC := small_of HSm.out HMC.out
            have hsx := HSx.out
            subst hl6
            by_cases hi : i < lC.length
            · rw [List.getElem_append_left hi]; exact hC i hi
            · have : i = lC.length := by simp at h; omega
              subst this
              rw [List.getElem_append_right (Nat.le_refl _)]
              simp only [Nat.sub_self, List.getElem_cons_zero]
              exact ⟨hsx.1, hsx.2.1, by simp, hsx.2.2.2⟩)
          obtain ⟨a6, c6, rfl, hc6, _⟩ := ht6.nodes.nr.slice
          rw [hlen6] at ht6
          have HT6 := Lib.hid ht6
          have HL6 := Lib.hid hlen6
          have HU6 := Lib.hid hup6
          rw [HlC.out]
          clear hk6 ht6 hlen6 hup6 hl6 x0 x1 x2 x3 x4 x5 x6 HAd HX5
          have hp6 := HT6.out.cell
          have d3 : decide ((l.length : Int) ≤ (j : Int)) = false := by simp; omega
          unfold maxLen at hc6
          have HCl2 := Lib.hid (fun W (hW : Below w6.heap.size w6 W) => clone_any _ l6 W ((HT6.out.below hW).nodes.read) (by have := HL6.out; omega) (fun i h => ⟨by have := (HSm6.out i h).2.2.1; omega, by have := (HSm6.out i h).2.2.2; omega⟩))
          go_wp2_with fail
          refine (HCl2.out w6 (Below.refl _ _)).mono ?_
          rintro e w7 ⟨vU, lU, rfl, hb7, hnU, hmU⟩
          have HB7' := Lib.hid hb7
          have HNU := Lib.hid hnU
          have HMU := Lib.hid hmU
          obtain ⟨aU, cU, rfl, _, _⟩ := hnU.nr.slice
          have HlU : Hid (lU.length = l.length + 1) := Lib.hid (by have := congrArg List.length hmU; have h6 := HL6.out; simp at this; omega)
          clear hb7 hnU hmU hp6 HCl2 d1 d2
          go_upto_region 8 with fail
          show Code.wp _ _ _ _ (W1 w7 (.slice aU lU.length cU))
          have HW8 := Lib.hid (w1_below w7 (.slice aU lU.length cU))
          have hTU : TreeAt (W1 w7 (.slice aU lU.length cU)) (fun k => k = w7.heap.size ∨ RN NoR w6 w7 k) w7.heap.size (.slice aU lU.length cU) lU := ⟨heap_alloc_new w7 _, .inl rfl, (HNU.out.below HW8.out).wide (fun k h => .inr h) (fun k h => by
            have hs : (W1 w7 (.slice aU lU.length cU)).heap.size = w7.heap.size + 1 := by simp [W1]
            rw [hs]
            rcases h with h | h | h
            · omega
            · exact h.elim
            · omega)⟩
          have HTU := Lib.hid hTU
          have HB8 : Hid (Below w6.heap.size w6 (W1 w7 (.slice aU lU.length cU))) := Lib.hid (HB7'.out.trans (HW8.out.mono HB7'.out.size))
          obtain ⟨w8, ew⟩ : ∃ w8, w8 = W1 w7 (.slice aU lU.length cU) := ⟨_, rfl⟩
          rw [← ew] at HTU HB8 ⊢
          clear ew hTU HW8
          have HRU : Hid (∀ k, (k = w7.heap.size ∨ RN NoR w6 w7 k) → w6.heap.size ≤ k) := Lib.hid (fun k h => by
            rcases h with h | h | h
            · have := HB7'.out.size; omega
            · exact h.elim
            · exact h.1)
          generalize hRU : (fun k => k = w7.heap.size ∨ RN NoR w6 w7 k) = RU at *
          have HRU8 : Hid (∀ k, RU k → w6.heap.size ≤ k) := Lib.hid (by rw [← hRU]; exact HRU.out)
          clear hRU HRU
          have HT8 := Lib.hid (HT6.out.below HB8.out)
          have HR6 : Hid (∀ k, RN R5 w5 w6 k → k < w6.heap.size) := Lib.hid HT6.out.nodes.lt
          have HR6b : Hid (∀ k, RN R5 w5 w6 k → w.heap.size ≤ k) := Lib.hid (fun k h => by
            rcases h with h | h
            · exact HRR5.out k h
            · have := HB5.out.size; omega)
          have HPsm : Hid (∀ y ∈ l6.map norm, y.kids.length ≤ 60) := Lib.hid (fun y hy => by
            obtain ⟨z, hz, rfl⟩ := List.mem_map.1 hy
            obtain ⟨i, hi, rfl⟩ := List.mem_iff_getElem.1 hz
            exact (HSm6.out i hi).2.2.1)
          have HPl : Hid ((l6.map norm).length = l.length + 1) := Lib.hid (by rw [List.length_map, HL6.out])
          have HPut := Lib.hid (put_any (RN R5 w5 w6) w.heap.size (l6.map norm) (j : Int) at_ (l.length : Int) w8 ⟨_, _, HT8.out, rfl⟩ (fun y hy => by have := HPsm.out y hy; omega))
          have HQsm : Hid (∀ y ∈ putP (l6.map norm) (j : Int) at_ (l.length : Int), y.kids.length ≤ 61) := Lib.hid (small_putP HPl.out hjl HU6.out HPsm.out)
          go_wp2_with fail
          refine HPut.out.mono ?_
          rintro e w9 ⟨rfl, hk9, v9, l9, ht9, hl9⟩
          have HB9 : Hid (Below w.heap.size w w9) := Lib.hid (keepsB (HB6.out.trans (HB8.out.mono HB6.out.size)) hk9 HR6b.out)
          have HTU9 := Lib.hid (HTU.out.other hk9 (fun k h h' => by have := HRU8.out k h; have := HR6.out k h'; omega))
          have HT9 := Lib.hid ht9
          have HL9 := Lib.hid hl9
          have HS89 : Hid (w8.heap.size ≤ w9.heap.size) := Lib.hid hk9.size
          have HlenQ : Hid (l9.length = l.length + 1) := Lib.hid (by
            have h1 : l9.length = (putP (l6.map norm) (j : Int) at_ (l.length : Int)).length := by rw [← hl9, List.length_map]
            cases hm : mayP (l6.map norm) (l.length : Int) (j : Int) with
            | false => rw [h1, back_stay hm]; exact HPl.out
            | true => rw [h1]; exact (back_up HPl.out hjl HU6.out hm).2.2)
          have hj9 : j < l9.length := by have := HlenQ.out; omega
          have hn9 : l.length < l9.length := by have := HlenQ.out; omega
          have hjU : j < lU.length := by have := HlU.out; omega
          obtain ⟨g9, cap9, hv9, hc9, hm9, hg9, hr9⟩ := ht9.nodes.nr.form (by omega)
          clear hr9
          subst hv9
          unfold maxLen at hm9
          obtain ⟨gU, capU, hvU, hcU, hmU, hgU, hrU⟩ := HTU9.out.nodes.nr.form (by omega)
          clear hrU
          injection hvU with hvU1 hvU2 hvU3
          subst hvU1 hvU3
          clear hvU2
          have hp9 := HT9.out.cell
          have hq9 := HTU9.out.cell
          obtain ⟨_, hck9, _⟩ := HT9.out.up_cell hj9
          obtain ⟨hcu9, _, _⟩ := HT9.out.up_cell hn9
          obtain ⟨_, hckU, _⟩ := HTU9.out.up_cell hjU
          obtain ⟨ka9, kc9, hkv9, hkr9⟩ := (HT9.out.nodes.kr j hj9).form
          obtain ⟨kaU, kcU, hkvU, hkrU⟩ := (HTU9.out.nodes.kr j hjU).form
          have HKR9 := Lib.hid (HT9.out.nodes.kr j hj9)
          have HKRU := Lib.hid (HTU9.out.nodes.kr j hjU)
          rw [hkv9] at hck9 HKR9
          rw [hkvU] at hckU HKRU
          have HsU : Hid (lU[j].kids = (nodeI (l6.map norm) (j : Int)).kids) := Lib.hid (by rw [← HMU.out]; exact (nodeI_map_norm hjU).symm)
          have Hs9 : Hid (l9[j].kids = (nodeI (putP (l6.map norm) (j : Int) at_ (l.length : Int)) (j : Int)).kids) := Lib.hid (by rw [← hl9]; exact (nodeI_map_norm hj9).symm)
          have Hu9 : Hid (upI l9 (l.length : Int) = upI (putP (l6.map norm) (j : Int) at_ (l.length : Int)) (l.length : Int)) := Lib.hid (by rw [← hl9, upI_norm])
          have HCut := Lib.hid (fun W (hW : Below w9.heap.size w9 W) => cut_any _ w.heap.size _ (l.length : Int) W ⟨_, l9, HT9.out.below hW, rfl⟩ (fun y hy => by have := HQsm.out y (by rw [← HL9.out]; exact hy); omega))
          have HLe9 : Hid (l9[j].kids.length ≤ 61) := Lib.hid (HQsm.out (norm l9[j]) (by rw [← hl9]; exact List.mem_map.2 ⟨_, List.getElem_mem hj9, rfl⟩))
          have HIC := Lib.hid (iclone_any _ _ w9 HKR9.out (by have := HLe9.out; omega))
          have hi0 : (0 : Int) ≤ (j : Int) := by omega
          have hi1 : (j : Int) < (l9.length : Int) := by omega
          have hi2 : (0 : Int) ≤ (l.length : Int) := by omega
          have hi3 : (l.length : Int) < (l9.length : Int) := by omega
          have hi4 : (j : Int) < (lU.length : Int) := by omega
          rw [hl9] at HCut
          have HkvU := Lib.hid hkvU
          clear hk9 ht9 hl9 hkv9 hkvU hkr9 hkrU d3 HPut
          generalize hk9e : l9[j].kids = ks9 at *
          generalize hkUe : lU[j].kids = ksU at *
          have HkUe := Lib.hid hkUe
          clear hk9e hkUe
          generalize upI l9 (l.length : Int) = u9 at *
          go_wp2_with fail
          refine HIC.out.mono ?_
          rintro e w10 ⟨v10, rfl, hk10, hb10⟩
          obtain ⟨a10, c10, rfl, _⟩ := hk10.form
          have HB10' := Lib.hid hb10
          have hp10 := cell_keep hb10 hp9
          have hq10 := cell_keep hb10 hq9
          have hcu10 := cell_keep hb10 hcu9
          have hckU10 := cell_keep hb10 hckU
          have HC10 := Lib.hid (HCut.out w10 hb10)
          have HB10 := below_step HB9 hb10
          have HTU10 := Lib.hid (HTU9.out.below hb10)
          clear hb10 hp9 hq9 hcu9 hck9 hckU hk10 HIC
          cases hm : mayP (l6.map norm) (l.length : Int) (j : Int) with
          | false =>
            have hstay := back_stay (at_ := at_) hm
            have e1 := Hu9.out
            rw [hstay, HU6.out] at e1
            subst e1
            have b1 : ((-1 : Int) == (j : Int)) = false := by first | (simp; done) | (simp; omega)
            clear hstay hm
            go_wp2_with fail
            refine HC10.out.mono ?_
            rintro e w11 ⟨rfl, hk11, ht11⟩
            have HB11 : Hid (Below w.heap.size w w11) := Lib.hid (keepsB HB10.out hk11 (fun k h => by
              rcases h with h | h
              · exact HR6b.out k h
              · have := HB6.out.size; have := HB8.out.size; omega))
            clear hk11 ht11 hp10 hq10 hcu10 hckU10
            go_wp2_with fail
            refine (HAw.out _).mono ?_
            rintro e w14 ⟨rfl, hb14⟩
            have HB14 := below_step HB11 hb14
            clear hb14
            go_wp2
            go_ret
            exact ⟨rfl, HB14.out⟩
          | true =>
            obtain ⟨f1, f2, f3⟩ := back_up (at_ := at_) HPl.out hjl HU6.out hm
            have e1 := Hu9.out
            rw [f1] at e1
            subst e1
            have hks : ks9.length = ksU.length + 1 := by rw [Hs9.out, f2, ins_len, ← HsU.out]
            have b1 : ((j : Int) == (j : Int)) = true := by simp
            have b2 : ((ks9.length : Int) == (ksU.length : Int) + 1) = true := by rw [hks]; simp
            have hw1 : (ksU.length : Int) + 1 ≤ 100 := by have := HLe9.out; omega
            have HCutP : Hid (idxI (l.length : Int) ksU = -1 → cutP (putP (l6.map norm) (j : Int) at_ (l.length : Int)) (l.length : Int) = lU.map norm) := Lib.hid (fun h => by rw [HMU.out]; exact back_cut HPl.out hjl HU6.out hm (by rw [← HsU.out]; exact h))
            have HAtt : Hid (∀ y ∈ cutP (putP (l6.map norm) (j : Int) at_ (l.length : Int)) (l.length : Int), y.attrs.length ≤ 14) := Lib.hid (all_cutP (fun x u h => h) (fun x ks h => h) (all_putP (fun x u h => h) (fun x ks h => h) (fun y hy => by
              obtain ⟨z, hz, rfl⟩ := List.mem_map.1 hy
              obtain ⟨i, hi, rfl⟩ := List.mem_iff_getElem.1 hz
              exact (HSm6.out i hi).2.2.2)))
            have HKid : Hid (∀ y ∈ cutP (putP (l6.map norm) (j : Int) at_ (l.length : Int)) (l.length : Int), y.kids.length ≤ 61) := Lib.hid (small_cutP HQsm.out)
            clear f1 f2 f3 hks hm
            go_wp2_with fail
            refine HC10.out.mono ?_
            rintro e w11 ⟨rfl, hk11, v11, l11, ht11, hl11⟩
            have HB11 : Hid (Below w.heap.size w w11) := Lib.hid (keepsB HB10.out hk11 (fun k h => by
              rcases h with h | h
              · exact HR6b.out k h
              · have := HB6.out.size; have := HB8.out.size; omega))
            have HTU11 := Lib.hid (HTU10.out.other hk11 (fun k h h' => by
              have h1 := HRU8.out k h
              have h2 := HTU.out.nodes.lt k h
              rcases h' with h' | h'
              · have := HR6.out k h'; omega
              · omega))
            have HT11 := Lib.hid ht11
            have hlen11 : l11.length ≤ 10000 := by
              have h1 := length_cutP (putP (l6.map norm) (j : Int) at_ (l.length : Int)) (l.length : Int)
              have h2 := congrArg List.length hl11
              have h3 := congrArg List.length HL9.out
              simp at h2 h3
              have := HlenQ.out
              omega
            have hsz11 : ∀ i (h : i < l11.length), l11[i].kids.length ≤ 100000 ∧ l11[i].attrs.length ≤ 100000 := fun i h => by
              have hmem : norm l11[i] ∈ cutP (putP (l6.map norm) (j : Int) at_ (l.length : Int)) (l.length : Int) := by rw [← hl11]; exact List.mem_map.2 ⟨_, List.getElem_mem h, rfl⟩
              have h1 := HKid.out _ hmem
              have h2 := HAtt.out _ hmem
              exact ⟨Nat.le_trans (show l11[i].kids.length ≤ 61 from h1) (by omega), Nat.le_trans (show l11[i].attrs.length ≤ 14 from h2) (by omega)⟩
            have hszU : ∀ i (h : i < lU.length), lU[i].kids.length ≤ 100000 ∧ lU[i].attrs.length ≤ 100000 := fun i h => by
              have h0 := small_of HSm6.out HMU.out i h
              exact ⟨by have := h0.2.2.1; omega, by have := h0.2.2.2; omega⟩
            have HEq := Lib.hid (equal_any v11 (.slice (some ⟨gU, 0, none⟩) lU.length cU) l11 lU w11 HT11.out.nodes.read HTU11.out.nodes.read hlen11 (by have := HlU.out; omega) hsz11 hszU)
            have HKRU11 : Hid (KR w11 (.slice kaU ksU.length kcU) ksU) := Lib.hid (by have h := HTU11.out.nodes.kr j hjU; rw [HkvU.out, HkUe.out] at h; exact h)
            have hp11 := HT11.out.cell
            have hq11 := HTU11.out.cell
            obtain ⟨_, hckU11, _⟩ := HTU11.out.up_cell hjU
            rw [HkvU.out] at hckU11
            obtain ⟨a11, c11, rfl, _, _⟩ := ht11.nodes.nr.slice
            rw [hl11] at HEq
            have HCon := Lib.hid (fun W (hW : Below w11.heap.size w11 W) => contains_any (.slice kaU ksU.length kcU) ksU (l.length : Int) W (HKRU11.out.below hW))
            clear hk11 ht11 hl11 hlen11 hsz11 hszU hp10 hq10 hcu10 hckU10 b1 b2
            go_wp2_with fail
            refine HEq.out.mono ?_
            rintro e w12 ⟨bE, rfl, hbE, hb12⟩
            have HB12 := below_step HB11 hb12
            have HBE := Lib.hid hbE
            have hq12 := cell_keep hb12 hq11
            have hck12 := cell_keep hb12 hckU11
            have HCo12 := Lib.hid (HCon.out w12 hb12)
            clear hb12 hbE hp11 hq11 hckU11 HEq
            cases bE with
            | true =>
              clear hq12 hck12
              go_wp2_with fail
              refine (HAw.out _).mono ?_
              rintro e w14 ⟨rfl, hb14⟩
              have HB14 := below_step HB12 hb14
              clear hb14
              go_wp2
              go_ret
              exact ⟨rfl, HB14.out⟩
            | false =>
              have hpos : decide (0 ≤ idxI (l.length : Int) ksU) = true := by
                rcases idxI_cases (l.length : Int) ksU with h | ⟨k, h, _⟩
                · have := HBE.out (HCutP.out h); cases this
                · rw [h]; simp
              rw [hpos] at HCo12
              clear hpos
              go_wp2_with fail
              refine HCo12.out.mono ?_
              rintro e w13 ⟨rfl, rfl⟩
              clear hq12 hck12
              go_wp2_with fail
              refine (HAw.out _).mono ?_
              rintro e w14 ⟨rfl, hb14⟩
              have HB14 := below_step HB12 hb14
              clear hb14
              go_wp2
              go_ret
              exact ⟨rfl, HB14.out⟩
end Go.Proofs.Ytnihomlmjfgmdaa
