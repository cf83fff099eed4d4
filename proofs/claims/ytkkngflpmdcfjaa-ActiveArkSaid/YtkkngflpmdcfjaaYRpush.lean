/-
  The walks of the document's end and Push. Written by gen_rpush.py.
-/
import Derived.Test.YtkkngflpmdcfjaaYRnode
import Derived.Test.YtkkngflpmdcfjaaYFind
namespace Go.Proofs.Ytkkngflpmdcfjaa
open Go.RowKit

theorem others_getD {s t : Array Value} {k : Nat} (h : s[k]? = t[k]?) : s.getD k undef = t.getD k undef := by
  simp [Array.getD_eq_getD_getElem?, h]
theorem endN_hit {zs : List Int} {k : Nat} (h : zs.getD k 0 = -1) : endN zs (k + 1) = k + 1 := by unfold endN; rw [if_pos h]
theorem endN_on {zs : List Int} {k : Nat} (h : zs.getD k 0 ≠ -1) : endN zs (k + 1) = endN zs k := by conv => lhs; unfold endN; rw [if_neg h]
set_option maxRecDepth 100000 in
set_option maxHeartbeats 2000000 in
theorem rend_any (a : Option Addr) (cap : Nat) (xs : List Int) (w : World) (hA : IntsAt w a xs) (hl : xs.length ≤ 1000000) :
    Calls Try.prog 120 #[.slice a xs.length cap] w fun e w' => e = .returned (.int .i64 (endI xs : Nat)) ∧ w' = w := by
  have HA := Lib.hid hA
  have hl2 : (xs.length : Int) ≤ 1000000 := by omega
  clear hA
  go_enter Try.func120, Try.ntmps120
  go_wp2
  go_loop [3] (fun i => ∃ k : Nat, k ≤ xs.length ∧ i = .int .i64 ((k : Int) - 1) ∧ endI xs = endN xs k) (fun i => (intOf i + 1).toNat)
  case atStart => exact ⟨xs.length, Nat.le_refl _, rfl, rfl⟩
  case round =>
    obtain ⟨k, hk, rfl, hh⟩ := hrel
    have HH := Lib.hid hh
    clear hh
    cases k with
    | zero =>
      have HF : Hid (0 = endI xs) := Lib.hid (by rw [HH.out]; rfl)
      go_wp2
      go_ret
      exact ⟨by rw [← HF.out]; rfl, rfl⟩
    | succ k =>
      obtain ⟨b, off, rfl, _, hc⟩ := HA.out (fun e => by rw [e] at hk; simp at hk)
      have hck := hc k hk
      have e1 : (((k + 1 : Nat) : Int) - 1) = (k : Int) := by omega
      rw [e1]
      have hk0 : (0 : Int) ≤ (k : Int) := by omega
      have hk1 : (k : Int) < (xs.length : Int) := by omega
      have eg : xs.getD k 0 = xs[k] := by rw [List.getD_eq_getElem?_getD, List.getElem?_eq_getElem hk]; rfl
      clear hc e1
      by_cases hm : xs[k] = -1
      · have hb : (xs[k] == -1) = true := by simp [hm]
        have HF : Hid (endI xs = k + 1) := Lib.hid (by rw [HH.out, endN_hit (by rw [eg]; exact hm)])
        clear hm eg HH
        generalize xs[k] = z at *
        go_wp2
        go_ret
        exact ⟨by rw [HF.out]; rfl, rfl⟩
      · have hb : (xs[k] == -1) = false := by simp [hm]
        have HF : Hid (endI xs = endN xs k) := Lib.hid (by rw [HH.out, endN_on (by rw [eg]; exact hm)])
        clear hm eg HH
        generalize xs[k] = z at *
        go_wp2
        go_round
        case rel => exact ⟨k, by omega, rfl, HF.out⟩
        case measure => simp [intOf]
set_option linter.unusedVariables false in
def rpF (ua : Option Addr) (ln ucap b off xl cap m : Nat) (z ii : Int) (q : Bool) : Nat → SF
  | 0 => SF.val (.agg #[.slice ua ln ucap])
  | 1 => SF.val (.slice (some ⟨b, off, none⟩) xl cap)
  | 2 => SF.val (.int .i64 (m : Int))
  | 3 => SF.val (.pointer (some ⟨b, off + m, none⟩))
  | 4 => SF.val (.int .i64 z)
  | 5 => SF.val (.int .i64 ii)
  | _ => SF.val (.bool q)
def cfG (g : Int → Bool) (p : Int × Int) (pre : List (Nat × Int)) : Int × Int := pre.foldl (fun p x => if g x.2 = true then (p.1 + 1, (x.1 : Int)) else p) p
/-- What is left of the end of a list, from a place on back. -/
def tlE (xs : List Int) (m : Nat) : List (Nat × Int) := (bkN xs m).takeWhile fun x => decide (x.2 ≠ -1)
theorem tlE_on {xs : List Int} {m : Nat} (h : xs.getD m 0 ≠ -1) : tlE xs (m + 1) = (m, xs.getD m 0) :: tlE xs m := by
  unfold tlE; conv => lhs; unfold bkN
  rw [List.takeWhile_cons, if_pos (by simpa using h)]
theorem tlE_end {xs : List Int} : ∀ {m : Nat}, endN xs m = m → tlE xs m = []
  | 0, _ => rfl
  | m + 1, h => by
    by_cases e : xs.getD m 0 = -1
    · unfold tlE bkN; rw [List.takeWhile_cons, if_neg (by show ¬ decide (xs.getD m 0 ≠ -1) = true; rw [decide_eq_false (fun h => h e)]; decide)]
    · rw [endN_on e] at h
      have := endN_le xs m
      omega
theorem endN_lt {xs : List Int} {m : Nat} (h : endN xs (m + 1) < m + 1) : xs.getD m 0 ≠ -1 := fun e => by rw [endN_hit e] at h; omega

set_option maxRecDepth 100000 in
set_option maxHeartbeats 4000000 in
theorem rpush_any (u : Value) (l : List Nd) (sa : Option Addr) (cap : Nat) (xs : List Int) (ii : Int) (w : World) (hu : ReadN w u l) (hf : ∀ j (h : j < l.length), l[j].attrs.length ≤ 1000000) (hA : IntsAt w sa xs) (hl : xs.length ≤ 1000000) :
    Calls Try.prog 61 #[.agg #[u], .slice sa xs.length cap, .int .i64 ii] w (RetI (pushP (fun x => alikeT l x ii) xs ii) w) := by
  have HA := Lib.hid hA
  have HAl : Hid (∀ W, Below w.heap.size w W → ∀ one : Int, Calls Try.prog 121 #[.agg #[u], .int .i64 one, .int .i64 ii] W fun e w' => e = .returned (.bool (alikeT l one ii)) ∧ Below W.heap.size W w') := Lib.hid (fun W hW one => ralike_node u l one ii W (hu.below hW) hf)
  have HEn : Hid (∀ W, Below w.heap.size w W → Calls Try.prog 120 #[.slice sa xs.length cap] W fun e w' => e = .returned (.int .i64 (endI xs : Nat)) ∧ w' = W) := Lib.hid (fun W hW => rend_any sa cap xs W (hA.below hW) hl)
  obtain ⟨ua, ucap, rfl, _, _⟩ := hu
  have hl2 : (xs.length : Int) ≤ 1000000 := by omega
  obtain ⟨g, hg⟩ : ∃ g : Int → Bool, g = fun x => alikeT l x ii := ⟨_, rfl⟩
  have HAl : Hid (∀ W, Below w.heap.size w W → ∀ one : Int, Calls Try.prog 121 #[.agg #[.slice ua l.length ucap], .int .i64 one, .int .i64 ii] W fun e w' => e = .returned (.bool (g one)) ∧ Below W.heap.size W w') := Lib.hid (by rw [hg]; exact HAl.out)
  rw [← hg]
  have hel : endI xs ≤ xs.length := endN_le xs xs.length
  have hel2 : ((endI xs : Nat) : Int) ≤ 1000000 := by omega
  have HX := Lib.hid (w1_cell w (.slice ua l.length ucap))
  have HB0 : Hid (Below w.heap.size w (W1 w (.slice ua l.length ucap))) := Lib.hid (w1_below w _)
  have HS0 : Hid (w.heap.size < (W1 w (.slice ua l.length ucap)).heap.size) := Lib.hid (by simp [W1])
  clear hg hf hA
  obtain ⟨E, hE⟩ : ∃ E, E = endI xs := ⟨_, rfl⟩
  have HE := Lib.hid hE
  rw [← hE] at HEn hel hel2
  clear hE
  go_enter Try.func61, Try.ntmps61
  go_upto_region 1 with fail
  show Code.wp _ _ _ _ (W1 w (.slice ua l.length ucap))
  obtain ⟨w1, ew⟩ : ∃ w1, w1 = W1 w (.slice ua l.length ucap) := ⟨_, rfl⟩
  rw [← ew] at HX HB0 HS0 ⊢
  clear ew
  go_wp2
  go_loopw [7, 8, 9] (fun v7 v8 v9 wr => ∃ (m : Nat) (c f : Int), E ≤ m ∧ m ≤ xs.length ∧ v9 = .int .i64 ((m : Int) - 1) ∧ v8 = .int .i64 c ∧ v7 = .int .i64 f ∧ cfG g (c, f) (tlE xs m) = cfP g (endE xs) ∧ endN xs m = E ∧ 0 ≤ c ∧ c + m ≤ xs.length ∧ Below w1.heap.size w1 wr) (fun _ _ v9 _ => (intOf v9 + 1).toNat)
  case atStart => exact ⟨xs.length, 0, -1, hel, Nat.le_refl _, rfl, rfl, rfl, rfl, HE.out.symm, Int.le_refl _, by omega, Below.refl _ _⟩
  case round =>
    obtain ⟨m, c, f, hEm, hmn, rfl, rfl, rfl, hcf, hen, hc0, hcm, hbel⟩ := hrel
    have HB := Lib.hid hbel
    have HCf := Lib.hid hcf
    have HEn2 := Lib.hid (HEn.out wr (HB0.out.trans (hbel.mono HB0.out.size)))
    have hx : wr.cell? ⟨w.heap.size, 0, none⟩ = some (.slice ua l.length ucap) := (hbel.cell (p := ⟨w.heap.size, 0, none⟩) HS0.out).trans HX.out
    have HSr : Hid (w.heap.size < wr.heap.size) := Lib.hid (Nat.lt_of_lt_of_le HS0.out hbel.size)
    clear hbel hcf
    by_cases hlt : E < m
    · obtain ⟨m, rfl⟩ : ∃ k, m = k + 1 := ⟨m - 1, by omega⟩
      have hne : xs.getD m 0 ≠ -1 := endN_lt (by rw [hen]; exact hlt)
      have hmx : m < xs.length := by omega
      have HTl := Lib.hid (tlE_on hne)
      have HNx : Hid (endN xs m = E) := Lib.hid (by rw [← hen, endN_on hne])
      have eg : xs.getD m 0 = xs[m] := by rw [List.getD_eq_getElem?_getD, List.getElem?_eq_getElem hmx]; rfl
      rw [eg] at HTl
      obtain ⟨b, off, rfl, hbl, hcc⟩ := HA.out (fun e => by rw [e] at hmx; simp at hmx)
      have HZ : Hid (∀ W, Below wr.heap.size wr W → W.cell? ⟨b, off + m, none⟩ = some (.int .i64 xs[m])) := Lib.hid (fun W hW => ((HB0.out.trans (HB.out.mono HB0.out.size)).trans (hW.mono (Nat.le_trans HB0.out.size HB.out.size)) |>.cell (p := ⟨b, off + m, none⟩) hbl).trans (hcc m hmx))
      have HXb : Hid (∀ W, Below wr.heap.size wr W → W.cell? ⟨w.heap.size, 0, none⟩ = some (.slice ua l.length ucap)) := Lib.hid (fun W hW => (hW.cell (p := ⟨w.heap.size, 0, none⟩) HSr.out).trans hx)
      have HAk : Hid (∀ W, Below wr.heap.size wr W → Calls Try.prog 121 #[.agg #[.slice ua l.length ucap], .int .i64 xs[m], .int .i64 ii] W fun e w' => e = .returned (.bool (g xs[m])) ∧ Below W.heap.size W w') := Lib.hid (fun W hW => HAl.out W ((HB0.out.trans (HB.out.mono HB0.out.size)).trans (hW.mono (Nat.le_trans HB0.out.size HB.out.size))) _)
      have e1 : (((m + 1 : Nat) : Int) - 1) = (m : Int) := by omega
      rw [e1]
      have hm0 : (E : Int) ≤ (m : Int) := by omega
      have hm1 : (m : Int) < (xs.length : Int) := by omega
      have hm2 : (0 : Int) ≤ (m : Int) := by omega
      have hcb : c ≤ 1000000 := by omega
      have HCn : Hid (cfG g (if g xs[m] = true then (c + 1, (m : Int)) else (c, f)) (tlE xs m) = cfP g (endE xs)) := Lib.hid (by rw [← HCf.out, HTl.out]; rfl)
      clear hne hcc eg e1 hlt hen hEm hmn HTl HCf
      generalize xs[m] = z at *
      generalize g z = q at *
      go_upto_region 5 with (go_at_call 120; refine HEn2.out.mono ?_; rintro e w4 ⟨rfl, rfl⟩)
      refine region_facts (rpF ua l.length ucap b off xs.length cap m z ii q) (by kernel_rfl) (dst_of (by kernel_rfl)) (inj_of (by kernel_rfl)) (acy_of (by kernel_rfl)) ?step ?fin
      case step =>
        intro i o a w1 ho hf
        have HB := Lib.hid hf.base
        match i, ho with
        | 0, ho =>
          obtain rfl := Option.some.inj ho
          have h3 : a.tmps[3]? = some (.pointer (some ⟨w.heap.size, 0, none⟩)) := (hf.others 3 (no_of (by kernel_rfl))).trans rfl
          have e3 := eval_at h3
          refine wpOp_go rfl (wanted_free rfl) ?_
          clear hf
          have g1 := HXb.out _ HB.out
          go_simp
          exact ⟨_, rfl, rfl, Below.refl _ _⟩
        | 1, ho =>
          obtain rfl := Option.some.inj ho
          have h1 : a.tmps[1]? = some (.slice (some ⟨b, off, none⟩) xs.length cap) := (hf.others 1 (no_of (by kernel_rfl))).trans rfl
          have e1 := eval_at h1
          refine wpOp_go rfl (wanted_free rfl) ?_
          clear hf
          go_simp
          exact ⟨_, rfl, rfl, Below.refl _ _⟩
        | 2, ho =>
          obtain rfl := Option.some.inj ho
          have h9 : a.tmps[9]? = some (.int .i64 (m : Int)) := (hf.others 9 (no_of (by kernel_rfl))).trans rfl
          have e9 := eval_at h9
          refine wpOp_go rfl (wanted_free rfl) ?_
          clear hf
          go_simp
          exact ⟨_, rfl, rfl, Below.refl _ _⟩
        | 3, ho =>
          obtain rfl := Option.some.inj ho
          obtain ⟨v22, h22, f22⟩ := hf.facts ⟨1, .data⟩ (by simp) rfl _ _ rfl rfl
          obtain rfl : v22 = .slice (some ⟨b, off, none⟩) xs.length cap := f22
          have e22 := eval_at h22
          obtain ⟨v23, h23, f23⟩ := hf.facts ⟨2, .data⟩ (by simp) rfl _ _ rfl rfl
          obtain rfl : v23 = .int .i64 (m : Int) := f23
          have e23 := eval_at h23
          refine wpOp_go rfl (wanted_free rfl) ?_
          clear hf
          have g0 : (0 : Int) ≤ (m : Int) := by omega
          go_simp
          exact ⟨_, rfl, rfl, Below.refl _ _⟩
        | 4, ho =>
          obtain rfl := Option.some.inj ho
          obtain ⟨v24, h24, f24⟩ := hf.facts ⟨3, .data⟩ (by simp) rfl _ _ rfl rfl
          obtain rfl : v24 = .pointer (some ⟨b, off + m, none⟩) := f24
          have e24 := eval_at h24
          refine wpOp_go rfl (wanted_free rfl) ?_
          clear hf
          have g1 := HZ.out _ HB.out
          go_simp
          exact ⟨_, rfl, rfl, Below.refl _ _⟩
        | 5, ho =>
          obtain rfl := Option.some.inj ho
          have h2 : a.tmps[2]? = some (.int .i64 ii) := (hf.others 2 (no_of (by kernel_rfl))).trans rfl
          have e2 := eval_at h2
          refine wpOp_go rfl (wanted_free rfl) ?_
          clear hf
          go_simp
          exact ⟨_, rfl, rfl, Below.refl _ _⟩
        | 6, ho =>
          obtain rfl := Option.some.inj ho
          obtain ⟨v21, h21, f21⟩ := hf.facts ⟨0, .data⟩ (by simp) rfl _ _ rfl rfl
          obtain rfl : v21 = .agg #[.slice ua l.length ucap] := f21
          have e21 := eval_at h21
          obtain ⟨v25, h25, f25⟩ := hf.facts ⟨4, .data⟩ (by simp) rfl _ _ rfl rfl
          obtain rfl : v25 = .int .i64 z := f25
          have e25 := eval_at h25
          obtain ⟨v26, h26, f26⟩ := hf.facts ⟨5, .data⟩ (by simp) rfl _ _ rfl rfl
          obtain rfl : v26 = .int .i64 ii := f26
          have e26 := eval_at h26
          refine wpOp_go rfl (wanted_free rfl) ?_
          clear hf
          go_simp
          go_at_call 121
          refine (HAk.out _ HB.out).mono ?_
          rintro e w4 ⟨rfl, hb⟩
          exact ⟨_, rfl, rfl, hb⟩
        | i + 7, ho => exact absurd ho (by simp)
      case fin =>
        intro listed a w1 hf hall
        obtain ⟨v27, h27, f27⟩ := hf.facts 6 _ _ rfl rfl (hall 6 (of_decide_eq_true (by kernel_rfl)))
        obtain rfl : v27 = .bool q := f27
        have HBr := Lib.hid hf.base
        have hsz := hf.size
        have hd := hf.defers
        have q0 := others_getD (hf.others 0 (no_of (by kernel_rfl)))
        have q1 := others_getD (hf.others 1 (no_of (by kernel_rfl)))
        have q2 := others_getD (hf.others 2 (no_of (by kernel_rfl)))
        have q3 := others_getD (hf.others 3 (no_of (by kernel_rfl)))
        have q4 := others_getD (hf.others 4 (no_of (by kernel_rfl)))
        have q5 := others_getD (hf.others 5 (no_of (by kernel_rfl)))
        have q6 := others_getD (hf.others 6 (no_of (by kernel_rfl)))
        have q7 := others_getD (hf.others 7 (no_of (by kernel_rfl)))
        have q8 := others_getD (hf.others 8 (no_of (by kernel_rfl)))
        have q9 := others_getD (hf.others 9 (no_of (by kernel_rfl)))
        have q10 := others_getD (hf.others 10 (no_of (by kernel_rfl)))
        have q11 := others_getD (hf.others 11 (no_of (by kernel_rfl)))
        have q12 := others_getD (hf.others 12 (no_of (by kernel_rfl)))
        have q13 := others_getD (hf.others 13 (no_of (by kernel_rfl)))
        have q14 := others_getD (hf.others 14 (no_of (by kernel_rfl)))
        have q15 := others_getD (hf.others 15 (no_of (by kernel_rfl)))
        have q16 := others_getD (hf.others 16 (no_of (by kernel_rfl)))
        have q17 := others_getD (hf.others 17 (no_of (by kernel_rfl)))
        have q18 := others_getD (hf.others 18 (no_of (by kernel_rfl)))
        have q19 := others_getD (hf.others 19 (no_of (by kernel_rfl)))
        have q20 := others_getD (hf.others 20 (no_of (by kernel_rfl)))
        have q28 := others_getD (hf.others 28 (no_of (by kernel_rfl)))
        have q29 := others_getD (hf.others 29 (no_of (by kernel_rfl)))
        have q30 := others_getD (hf.others 30 (no_of (by kernel_rfl)))
        have q31 := others_getD (hf.others 31 (no_of (by kernel_rfl)))
        have q32 := others_getD (hf.others 32 (no_of (by kernel_rfl)))
        have q33 := others_getD (hf.others 33 (no_of (by kernel_rfl)))
        have q34 := others_getD (hf.others 34 (no_of (by kernel_rfl)))
        have q35 := others_getD (hf.others 35 (no_of (by kernel_rfl)))
        have q36 := others_getD (hf.others 36 (no_of (by kernel_rfl)))
        have q37 := others_getD (hf.others 37 (no_of (by kernel_rfl)))
        have q38 := others_getD (hf.others 38 (no_of (by kernel_rfl)))
        have q39 := others_getD (hf.others 39 (no_of (by kernel_rfl)))
        have q40 := others_getD (hf.others 40 (no_of (by kernel_rfl)))
        have q41 := others_getD (hf.others 41 (no_of (by kernel_rfl)))
        have q42 := others_getD (hf.others 42 (no_of (by kernel_rfl)))
        have q43 := others_getD (hf.others 43 (no_of (by kernel_rfl)))
        have q44 := others_getD (hf.others 44 (no_of (by kernel_rfl)))
        have q45 := others_getD (hf.others 45 (no_of (by kernel_rfl)))
        have q46 := others_getD (hf.others 46 (no_of (by kernel_rfl)))
        have q47 := others_getD (hf.others 47 (no_of (by kernel_rfl)))
        have q48 := others_getD (hf.others 48 (no_of (by kernel_rfl)))
        have q49 := others_getD (hf.others 49 (no_of (by kernel_rfl)))
        have q50 := others_getD (hf.others 50 (no_of (by kernel_rfl)))
        have q51 := others_getD (hf.others 51 (no_of (by kernel_rfl)))
        have q52 := others_getD (hf.others 52 (no_of (by kernel_rfl)))
        have q53 := others_getD (hf.others 53 (no_of (by kernel_rfl)))
        have q54 := others_getD (hf.others 54 (no_of (by kernel_rfl)))
        have q27 : a.tmps.getD 27 undef = .bool q := by simp [Array.getD_eq_getD_getElem?, h27]
        clear hf h27
        cases a
        rename_i tm ds
        dsimp only at hsz hd q0 q1 q2 q3 q4 q5 q6 q7 q8 q9 q10 q11 q12 q13 q14 q15 q16 q17 q18 q19 q20 q27 q28 q29 q30 q31 q32 q33 q34 q35 q36 q37 q38 q39 q40 q41 q42 q43 q44 q45 q46 q47 q48 q49 q50 q51 q52 q53 q54
        subst hd
        have et : tm = #[tm.getD 0 undef, tm.getD 1 undef, tm.getD 2 undef, tm.getD 3 undef, tm.getD 4 undef, tm.getD 5 undef, tm.getD 6 undef, tm.getD 7 undef, tm.getD 8 undef, tm.getD 9 undef, tm.getD 10 undef, tm.getD 11 undef, tm.getD 12 undef, tm.getD 13 undef, tm.getD 14 undef, tm.getD 15 undef, tm.getD 16 undef, tm.getD 17 undef, tm.getD 18 undef, tm.getD 19 undef, tm.getD 20 undef, tm.getD 21 undef, tm.getD 22 undef, tm.getD 23 undef, tm.getD 24 undef, tm.getD 25 undef, tm.getD 26 undef, tm.getD 27 undef, tm.getD 28 undef, tm.getD 29 undef, tm.getD 30 undef, tm.getD 31 undef, tm.getD 32 undef, tm.getD 33 undef, tm.getD 34 undef, tm.getD 35 undef, tm.getD 36 undef, tm.getD 37 undef, tm.getD 38 undef, tm.getD 39 undef, tm.getD 40 undef, tm.getD 41 undef, tm.getD 42 undef, tm.getD 43 undef, tm.getD 44 undef, tm.getD 45 undef, tm.getD 46 undef, tm.getD 47 undef, tm.getD 48 undef, tm.getD 49 undef, tm.getD 50 undef, tm.getD 51 undef, tm.getD 52 undef, tm.getD 53 undef, tm.getD 54 undef] := tmps_lit tm 55 (hsz.trans rfl)
        rw [q0, q1, q2, q3, q4, q5, q6, q7, q8, q9, q10, q11, q12, q13, q14, q15, q16, q17, q18, q19, q20, q27, q28, q29, q30, q31, q32, q33, q34, q35, q36, q37, q38, q39, q40, q41, q42, q43, q44, q45, q46, q47, q48, q49, q50, q51, q52, q53, q54] at et
        clear hsz q0 q1 q2 q3 q4 q5 q6 q7 q8 q9 q10 q11 q12 q13 q14 q15 q16 q17 q18 q19 q20 q27 q28 q29 q30 q31 q32 q33 q34 q35 q36 q37 q38 q39 q40 q41 q42 q43 q44 q45 q46 q47 q48 q49 q50 q51 q52 q53 q54
        generalize tm.getD 21 undef = y21 at et
        generalize tm.getD 22 undef = y22 at et
        generalize tm.getD 23 undef = y23 at et
        generalize tm.getD 24 undef = y24 at et
        generalize tm.getD 25 undef = y25 at et
        generalize tm.getD 26 undef = y26 at et
        simp only [Array.getD_eq_getD_getElem?, List.getElem?_toArray, List.getElem?_cons_succ, List.getElem?_cons_zero, Option.getD_some] at et
        subst et
        have HBn := below_step HB HBr.out
        rename_i K hK
        cases q with
        | true =>
          go_wp2
          go_roundw
          case rel => exact ⟨m, c + 1, (m : Int), by omega, by omega, rfl, rfl, rfl, HCn.out, HNx.out, by omega, by omega, HBn.out⟩
          case measure => simp [intOf]
        | false =>
          go_wp2
          go_roundw
          case rel => exact ⟨m, c, f, by omega, by omega, rfl, rfl, rfl, HCn.out, HNx.out, by omega, by omega, HBn.out⟩
          case measure => simp [intOf]
    · have hEq : E = m := by omega
      have HP : Hid ((c, f) = cfP g (endE xs)) := Lib.hid (by rw [← HCf.out, tlE_end (by rw [hen]; exact hEq)]; rfl)
      have HBw : Hid (Below w.heap.size w wr) := Lib.hid (HB0.out.trans (HB.out.mono HB0.out.size))
      have HPp : Hid (woN (pushG c f) xs xs.length ++ [ii] = pushP g xs ii) := Lib.hid (by unfold pushP; rw [← HP.out])
      have hm0 : (m : Int) - 1 < (E : Int) := by omega
      have hcb : c ≤ 1000000 := by omega
      clear HCf HP hx hlt hen hEm hmn hEq
      go_wp2_with (go_at_call 120; refine HEn2.out.mono ?_; rintro e w4 ⟨rfl, rfl⟩)
      go_loopw [10, 11] (fun v10 v11 wx => ∃ k : Nat, k ≤ xs.length ∧ v11 = .int .i64 k ∧ KR wx v10 (woN (pushG c f) xs k) ∧ (∀ b, v10.ownBlock = some b → w.heap.size ≤ b) ∧ Below w.heap.size w wx) (fun _ v11 _ => xs.length - (intOf v11).toNat)
      case atStart => exact ⟨0, Nat.zero_le _, rfl, ⟨World.ownsRow_nil _ _ _ _, okRow_none⟩, fun b hb => (by cases hb), HBw.out⟩
      case round =>
        clear HBw
        obtain ⟨k, hk, rfl, hkr, ho, hb⟩ := hrel
        have HK := Lib.hid hkr
        have HO := Lib.hid ho
        have HB2 := Lib.hid hb
        obtain ⟨va, vc, ev, _, _, _, _⟩ := hkr.form
        subst ev
        have hwl := woN_len (pushG c f) xs k
        clear hkr ho hb
        by_cases hlt : k < xs.length
        · obtain ⟨b, off, rfl, hbl, hc⟩ := HA.out (fun e => by rw [e] at hlt; simp at hlt)
          have hcz := (HB2.out.cell (p := ⟨b, off + k, none⟩) hbl).trans (hc k hlt)
          have hst : woN (pushG c f) xs (k + 1) = woN (pushG c f) xs k ++ (if pushG c f k xs[k] = true then [] else [xs[k]]) := by
            show woN (pushG c f) xs k ++ (if pushG c f k (xs.getD k 0) = true then [] else [xs.getD k 0]) = _
            rw [List.getD_eq_getElem?_getD, List.getElem?_eq_getElem hlt]; rfl
          have hi0 : (0 : Int) ≤ (k : Int) := by omega
          have hi1 : (k : Int) < (xs.length : Int) := by omega
          clear hc
          generalize xs[k] = z at *
          by_cases h3 : c < 3
          · have HSk : Hid (woN (pushG c f) xs (k + 1) = woN (pushG c f) xs k ++ [z]) := Lib.hid (by rw [hst, if_neg]; unfold pushG; rw [decide_eq_false (by omega)]; simp)
            clear hst
            generalize woN (pushG c f) xs k = ys at *
            go_wp2_with (at_builtin; refine wpList_append_ints _ rfl _ _ rfl _ _ rfl (HK.out.alloc _) (some ⟨wr.heap.size, 0, none⟩) 1 [z] rfl (one_int wr z) (by simp; omega) ?_; intro v2 w2 hk2 hgrow2 hat2)
            go_roundw
            case rel =>
              refine ⟨k + 1, by omega, by go_num, by rw [HSk.out]; exact hk2, fun j hj => ?_, (HB2.out.alloc HB2.out.size _).grown hgrow2 (by have := HB2.out.size; simp; omega) HO.out⟩
              rcases hat2 with e | e
              · exact HO.out j (e ▸ hj)
              · rw [e] at hj; injection hj with hj; have := HB2.out.size; simp at hj; omega
            case measure => simp [intOf]; omega
          · by_cases hkf : (k : Int) = f
            · have HSk : Hid (woN (pushG c f) xs (k + 1) = woN (pushG c f) xs k) := Lib.hid (by rw [hst, if_pos, List.append_nil]; unfold pushG; rw [decide_eq_true (by omega), decide_eq_true hkf]; rfl)
              have hnf : ((k : Int) != f) = false := by simp [hkf]
              have HKF := Lib.hid hkf
              clear hst hkf
              generalize woN (pushG c f) xs k = ys at *
              go_wp2
              go_roundw
              case rel => exact ⟨k + 1, by omega, by go_num, by rw [HSk.out]; exact HK.out, HO.out, HB2.out⟩
              case measure => simp [intOf]; omega
            · have HSk : Hid (woN (pushG c f) xs (k + 1) = woN (pushG c f) xs k ++ [z]) := Lib.hid (by rw [hst, if_neg]; unfold pushG; rw [decide_eq_false hkf, Bool.and_false]; decide)
              have hnf : ((k : Int) != f) = true := by simp [hkf]
              clear hst hkf
              generalize woN (pushG c f) xs k = ys at *
              go_wp2_with (at_builtin; refine wpList_append_ints _ rfl _ _ rfl _ _ rfl (HK.out.alloc _) (some ⟨wr.heap.size, 0, none⟩) 1 [z] rfl (one_int wr z) (by simp; omega) ?_; intro v2 w2 hk2 hgrow2 hat2)
              go_roundw
              case rel =>
                refine ⟨k + 1, by omega, by go_num, by rw [HSk.out]; exact hk2, fun j hj => ?_, (HB2.out.alloc HB2.out.size _).grown hgrow2 (by have := HB2.out.size; simp; omega) HO.out⟩
                rcases hat2 with e | e
                · exact HO.out j (e ▸ hj)
                · rw [e] at hj; injection hj with hj; have := HB2.out.size; simp at hj; omega
              case measure => simp [intOf]; omega
        · obtain rfl : k = xs.length := by omega
          generalize woN (pushG c f) xs xs.length = ys at *
          go_wp2_with (at_builtin; refine wpList_append_ints _ rfl _ _ rfl _ _ rfl (HK.out.alloc _) (some ⟨wr.heap.size, 0, none⟩) 1 [ii] rfl (one_int wr ii) (by simp; omega) ?_; intro v2 w2 hk2 hgrow2 hat2)
          go_ret
          refine ⟨v2, rfl, by rw [← HPp.out]; exact hk2, fun j hj => ?_, (HB2.out.alloc HB2.out.size _).grown hgrow2 (by have := HB2.out.size; simp; omega) HO.out⟩
          rcases hat2 with e | e
          · exact HO.out j (e ▸ hj)
          · rw [e] at hj; injection hj with hj; have := HB2.out.size; simp at hj; omega
end Go.Proofs.Ytkkngflpmdcfjaa
