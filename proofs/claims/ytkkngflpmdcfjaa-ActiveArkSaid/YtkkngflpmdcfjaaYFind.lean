/-
  The walk of Find. Written by gen_find.py.
-/
import Derived.Test.YtkkngflpmdcfjaaYPush
namespace Go.Proofs.Ytkkngflpmdcfjaa
open Go.RowKit

attribute [local go_sem] Oper.semAt_some
/-- The first one that is so; -1: none. -/
def fiP (g : Int → Bool) : List (Nat × Int) → Int
  | [] => -1
  | x :: r => if g x.2 = true then x.2 else fiP g r
theorem fiP_hit (g : Int → Bool) (x : Nat × Int) (r : List (Nat × Int)) (hx : g x.2 = true) : ∀ pre : List (Nat × Int), (∀ y ∈ pre, g y.2 = false) → fiP g (pre ++ x :: r) = x.2
  | [], _ => by show fiP g (x :: r) = _; unfold fiP; rw [if_pos hx]
  | y :: p, h => by
    show fiP g (y :: (p ++ x :: r)) = _
    unfold fiP
    rw [if_neg (by rw [h y (by simp)]; decide)]
    exact fiP_hit g x r hx p fun z hz => h z (by simp [hz])
theorem fiP_none (g : Int → Bool) : ∀ pre : List (Nat × Int), (∀ y ∈ pre, g y.2 = false) → fiP g pre = -1
  | [], _ => rfl
  | y :: p, h => by
    unfold fiP
    rw [if_neg (by rw [h y (by simp)]; decide)]
    exact fiP_none g p fun z hz => h z (by simp [hz])
def named (l : List Nd) (nm : ByteArray) (i : Int) : Bool := inN l.length i && (decide ((nodeI l i).kind = 1) && decide ((nodeI l i).space = 0) && decide ((nodeI l i).name = nm))
theorem tmps_lit (t : Array Value) (n : Nat) (h : t.size = n) : t = ((List.range n).map fun i => t.getD i undef).toArray := by
  apply Array.ext
  · simp [h]
  · intro i h1 h2
    simp [Array.getD_eq_getD_getElem?, h1]
theorem results_int1 {fn : Func} {p : Tmp} (h : fn.results = #[.cell p 3]) (tmps : Array Value) (w : World) (B : Nat) (v : Value)
    (hp : tmps.getD p undef = .pointer (some ⟨B, 0, none⟩)) (hv : Boxed w B 3 v) : (results fn tmps).run Try.prog w = .ok v w := by
  have hp' : tmps[p]?.getD undef = .pointer (some ⟨B, 0, none⟩) := by simpa using hp
  have hc := hv.cell
  have hl : (loadVar 3 ⟨B, 0, none⟩).run Try.prog w = .ok v w := by
    simp [loadVar, go_sem, hc]
  simp [results, h, hp', asAddr, hl]
set_option linter.unusedVariables false in
def fiF0 (b o1 : Nat) (x1 : Nd) (nm : ByteArray) (q : Bool) : Nat → SF
  | 0 => SF.val (.pointer (some ⟨b, o1, none⟩))
  | 1 => SF.val (.pointer (some ⟨b, o1, none⟩))
  | 2 => SF.val (.pointer (some ⟨b, o1, none⟩))
  | 3 => SF.val (.int .i64 x1.kind)
  | 4 => SF.val (.bool false)
  | 5 => SF.val (.bool false)
  | 6 => SF.val (undef)
  | 7 => SF.val (undef)
  | 8 => SF.val (undef)
  | 9 => SF.val (undef)
  | 10 => SF.val (undef)
  | 11 => SF.val (.bool false)
  | 12 => SF.val (.bool false)
  | 13 => SF.val (undef)
  | 14 => SF.val (undef)
  | 15 => SF.val (undef)
  | 16 => SF.val (undef)
  | 17 => SF.val (undef)
  | 18 => SF.val (undef)
  | 19 => SF.val (.bool false)
  | _ => SF.val (.bool true)
set_option linter.unusedVariables false in
def fiF1 (b o1 : Nat) (x1 : Nd) (nm : ByteArray) (q : Bool) : Nat → SF
  | 0 => SF.val (.pointer (some ⟨b, o1, none⟩))
  | 1 => SF.val (.pointer (some ⟨b, o1, none⟩))
  | 2 => SF.val (.pointer (some ⟨b, o1, none⟩))
  | 3 => SF.val (.int .i64 x1.kind)
  | 4 => SF.val (.bool true)
  | 5 => SF.val (.bool true)
  | 6 => SF.val (.pointer (some ⟨b, o1, none⟩))
  | 7 => SF.val (.pointer (some ⟨b, o1, none⟩))
  | 8 => SF.val (.pointer (some ⟨b, o1 + 1, none⟩))
  | 9 => SF.val (.int .i64 x1.space)
  | 10 => SF.val (.bool false)
  | 11 => SF.val (.bool false)
  | 12 => SF.val (.bool false)
  | 13 => SF.val (undef)
  | 14 => SF.val (undef)
  | 15 => SF.val (undef)
  | 16 => SF.val (undef)
  | 17 => SF.val (undef)
  | 18 => SF.val (undef)
  | 19 => SF.val (.bool false)
  | _ => SF.val (.bool true)
set_option linter.unusedVariables false in
def fiF2 (b o1 : Nat) (x1 : Nd) (nm : ByteArray) (q : Bool) : Nat → SF
  | 0 => SF.val (.pointer (some ⟨b, o1, none⟩))
  | 1 => SF.val (.pointer (some ⟨b, o1, none⟩))
  | 2 => SF.val (.pointer (some ⟨b, o1, none⟩))
  | 3 => SF.val (.int .i64 x1.kind)
  | 4 => SF.val (.bool true)
  | 5 => SF.val (.bool true)
  | 6 => SF.val (.pointer (some ⟨b, o1, none⟩))
  | 7 => SF.val (.pointer (some ⟨b, o1, none⟩))
  | 8 => SF.val (.pointer (some ⟨b, o1 + 1, none⟩))
  | 9 => SF.val (.int .i64 x1.space)
  | 10 => SF.val (.bool true)
  | 11 => SF.val (.bool true)
  | 12 => SF.val (.bool true)
  | 13 => SF.val (.pointer (some ⟨b, o1, none⟩))
  | 14 => SF.val (.pointer (some ⟨b, o1, none⟩))
  | 15 => SF.val (.pointer (some ⟨b, o1 + 2, none⟩))
  | 16 => SF.val (.string x1.name)
  | 17 => SF.val (.string nm)
  | 18 => SF.val (.bool q)
  | 19 => SF.val (.bool q)
  | _ => SF.val (.bool true)

set_option maxRecDepth 100000 in
set_option maxHeartbeats 4000000 in
theorem find_any (u : Value) (l : List Nd) (sa : Option Addr) (cap : Nat) (xs : List Int) (nm : ByteArray) (w : World) (hu : ReadN w u l) (hA : IntsAt w sa xs) (hl : xs.length ≤ 1000000) :
    Calls Try.prog 64 #[.agg #[u], .slice sa xs.length cap, .string nm] w fun e w' => e = .returned (.int .i64 (fiP (named l nm) (endE xs))) ∧ Below w.heap.size w w' := by
  have HA := Lib.hid hA
  have HN := Lib.hid hu
  obtain ⟨ua, ucap, rfl, _, _⟩ := hu
  have hl2 : (xs.length : Int) ≤ 1000000 := by omega
  obtain ⟨g, hg⟩ : ∃ g : Int → Bool, g = named l nm := ⟨_, rfl⟩
  have HG := Lib.hid hg
  rw [← hg]
  clear hg hA
  refine (callsIn_wide (n := 5)).1 ?_
  refine callsIn_of_wp_marks Try.func64 rfl trivial ?_ rfl
  simp only [Try.ntmps64, List.size_toArray, List.length_cons, List.length_nil, Nat.reduceAdd, Nat.reduceSub, Array.replicate_succ, Array.replicate_zero, List.push_toArray, List.append_toArray, List.nil_append, List.cons_append]
  gi_wp2_with (refine ⟨trivial, ?_⟩; gi_at_call 116; refine (endf_any Fence.wide _ trivial rfl _ _ ⟨_, _, _, rfl⟩).mono ?_; rintro e w' ⟨rfl, rfl⟩)
  obtain ⟨w1, ew1⟩ : ∃ w1, w1 = w.alloc (.cells #[.slice ua l.length ucap] 24) := ⟨_, rfl⟩
  rw [← ew1]
  obtain ⟨w2, ew2⟩ : ∃ w2, w2 = w1.alloc (.cells #[.string nm] 9) := ⟨_, rfl⟩
  rw [← ew2]
  obtain ⟨w4, ew4⟩ : ∃ w4, w4 = w2.alloc (.cells #[.int .i64 0] 3) := ⟨_, rfl⟩
  rw [← ew4]
  obtain ⟨w3, ew3⟩ : ∃ w3, w3 = w4.alloc (.cells #[.slice sa xs.length cap] 29) := ⟨_, rfl⟩
  rw [← ew3]
  have s1 : w1.heap.size = w.heap.size + 1 := by rw [ew1]; simp
  have s2 : w2.heap.size = w.heap.size + 1 + 1 := by rw [ew2]; simp [s1]
  have s4 : w4.heap.size = w.heap.size + 1 + 1 + 1 := by rw [ew4]; simp [s2]
  have hsz : w3.heap.size = w.heap.size + 1 + 1 + 1 + 1 := by rw [ew3]; simp [s4]
  have b0 : Boxed w3 w.heap.size 24 (.slice ua l.length ucap) := by
    have h := Boxed.new w 24 (.slice ua l.length ucap)
    rw [← ew1] at h
    rw [ew3, ew4, ew2]
    exact ((h.alloc _).alloc _).alloc _
  have b1 : Boxed w3 (w.heap.size + 1) 9 (.string nm) := by
    have h := Boxed.new w1 9 (.string nm)
    rw [← ew2, s1] at h
    rw [ew3, ew4]
    exact (h.alloc _).alloc _
  have b2 : Boxed w3 (w.heap.size + 1 + 1) 3 (.int .i64 0) := by
    have h := Boxed.new w2 3 (.int .i64 0)
    rw [← ew4, s2] at h
    rw [ew3]
    exact h.alloc _
  have b3 : w3.heap[w.heap.size + 1 + 1 + 1]? = some (.cells #[.slice sa xs.length cap] 29 (0, 0)) := by
    have h := heap_alloc_new w4 (.cells #[.slice sa xs.length cap] 29)
    rw [← ew3, s4] at h
    exact h
  have hB0 : Below w.heap.size w w3 := by
    rw [ew3, ew4, ew2, ew1]
    exact ((((Below.refl _ w).alloc (Nat.le_refl _) _).alloc (by simp) _).alloc (by simp; omega) _).alloc (by simp; omega) _
  clear ew1 ew2 ew3 ew4 s1 s2 s4
  refine wpIn_rangeFunc_Y rfl (by omega) (gf := 151) (lb := #[.pointer (some ⟨w.heap.size + 1 + 1 + 1, 0, none⟩)]) rfl trivial (enters_of Try.func151 (by kernel_rfl) rfl)
    (end_seq 4 (by omega) (w.heap.size + 1 + 1 + 1) w.heap.size sa cap xs hl w3 (HA.out.b.below hB0) b3 (by omega)) (by omega) (by omega) (Below.refl _ _) (fun _ => rfl)
    (fun pre Z A => HV w (w.heap.size + 1 + 1 + 1 + 1) [(w.heap.size, 24, .slice ua l.length ucap), (w.heap.size + 1, 9, .string nm), (w.heap.size + 1 + 1, 3, .int .i64 0)] Z A ∧ ∀ x ∈ pre, g x.2 = false)
    (fun c _ Z A => c = .ret ∧ HV w (w.heap.size + 1 + 1 + 1 + 1) [(w.heap.size, 24, .slice ua l.length ucap), (w.heap.size + 1, 9, .string nm), (w.heap.size + 1 + 1, 3, .int .i64 (fiP g (endE xs)))] Z A)
    ?hI ?hIxO ?hIa ?hIp ?hIx ?h0
    (fun x => { tmps := #[.agg #[.slice ua l.length ucap], .slice sa xs.length cap, .string nm, .pointer (some ⟨w.heap.size, 0, none⟩), undef, .pointer (some ⟨w.heap.size + 1, 0, none⟩), .pointer (some ⟨w.heap.size + 1 + 1, 0, none⟩), undef, .int .i64 x.2, undef, .slice sa xs.length cap, .func (.func 151) #[] #[.pointer (some ⟨w.heap.size + 1 + 1 + 1, 0, none⟩)], .int .i64 (x.1 : Nat), .int .i64 x.2, undef, undef, undef, undef, undef, undef, undef, undef, undef, undef, undef, undef, undef, undef, undef, undef, undef, undef, undef, undef, undef, undef, undef, undef, undef, undef, undef, undef, undef], defers := [] }) ?assign ?body ?done ?stop
  case hI => intro pre Z A B h hO; exact ⟨h.1.outs hO, h.2⟩
  case hIxO => intro c pre Z A B h hO; exact ⟨h.1, h.2.outs hO⟩
  case hIa => intro pre Z A o h; exact ⟨h.1.alloc o, h.2⟩
  case hIp => intro pre Z A l o o' h hl ho _ _; exact ⟨h.1.put (by omega) ho, h.2⟩
  case hIx => intro c pre Z A l o o' h hl ho _ _; exact ⟨h.1, h.2.put (by omega) ho⟩
  case h0 =>
    refine ⟨⟨fun x hx => ?_, fun k h => h.elim, hB0, by omega, by omega⟩, fun x hx => by cases hx⟩
    simp only [List.mem_cons, List.not_mem_nil, or_false] at hx
    rcases hx with rfl | rfl | rfl
    · exact ⟨b0, fun h => h, by dsimp only; omega, by dsimp only; omega⟩
    · exact ⟨b1, fun h => h, by dsimp only; omega, by dsimp only; omega⟩
    · exact ⟨b2, fun h => h, by dsimp only; omega, by dsimp only; omega⟩
  case assign =>
    intro l x W K hK
    dsimp only [encI]
    gi_wp2
    exact hK
  case body =>
    rintro rd pre Z ⟨at_, one⟩ W hsW ⟨hI, hno⟩ hpre
    have HV0 := Lib.hid hI
    obtain ⟨h1, hz, hb, hn, hw⟩ := hI
    have d0 := h1 (w.heap.size, 24, .slice ua l.length ucap) (by simp)
    have d1 := h1 (w.heap.size + 1, 9, .string nm) (by simp)
    have d2 := h1 (w.heap.size + 1 + 1, 3, .int .i64 0) (by simp)
    dsimp only at d0 d1 d2
    have c0 := d0.1.cell
    have HD0 := Lib.hid d0
    have HD1 := Lib.hid d1
    have HD2 := Lib.hid d2
    have HZ := Lib.hid hz
    have HBW := Lib.hid hb
    -- a round that goes on
    have HOn : Hid (∀ A : World, g one = false → Below W.heap.size W A → postY w3.heap.size w.heap.size (w.heap.size + 1 + 1 + 1) (fun pre Z A => HV w (w.heap.size + 1 + 1 + 1 + 1) [(w.heap.size, 24, .slice ua l.length ucap), (w.heap.size + 1, 9, .string nm), (w.heap.size + 1 + 1, 3, .int .i64 0)] Z A ∧ ∀ x ∈ pre, g x.2 = false) (fun c _ Z A => c = .ret ∧ HV w (w.heap.size + 1 + 1 + 1 + 1) [(w.heap.size, 24, .slice ua l.length ucap), (w.heap.size + 1, 9, .string nm), (w.heap.size + 1 + 1, 3, .int .i64 (fiP g (endE xs)))] Z A) (pre ++ [(at_, one)]) Z W Exit.normal { tmps := #[], defers := [] } A) := Lib.hid (fun A hq hA => by
      have hsA := hA.size
      refine ⟨keeps_below hA, ⟨hA.mono hb.size, hA.block _ (by omega)⟩, fun k hk => hA.block k (hz k hk).2, HV0.out.below hA, fun x hx => ?_⟩
      rcases List.mem_append.1 hx with h | h
      · exact hno x h
      · obtain rfl : x = (at_, one) := by simpa using h
        exact hq)
    have HHit : Hid (g one = true → fiP g (endE xs) = one) := Lib.hid (fun hq => by
      obtain ⟨r, hr⟩ := hpre
      rw [← hr, List.append_assoc]
      exact fiP_hit g (at_, one) r hq pre hno)
    clear h1 hz hb hw d0 d1 d2 hpre hno b0 b1 b2 b3
    gi_wp2_with (refine ⟨trivial, ?_⟩; refine (CallsIn.inRound _ (callsIn_wide.2 (isn_any ua l.length ucap one W))).mono ?_)
    rintro e w4 ⟨rfl, hb4⟩
    have HB4 := Lib.hid hb4
    have hsz4 := hb4.size
    have c4 : w4.cell? ⟨w.heap.size, 0, none⟩ = some (.slice ua l.length ucap) := (hb4.cell (p := ⟨w.heap.size, 0, none⟩) HD0.out.1.lt).trans c0
    cases hin : inN l.length one with
    | false =>
      have HFin := Lib.hid (HOn.out w4 (by rw [HG.out]; unfold named; rw [hin]; rfl) hb4)
      clear hb4 c0 c4 hsz4
      gi_wp2
      exact HFin.out
    | true =>
      have HIn := Lib.hid hin
      obtain ⟨j, rfl, hj⟩ := inN_nat hin
      obtain ⟨b, o1, a1, c1, ⟨off, cap1, e1, eo1⟩, hbl, hc1, _⟩ := HN.out.at hj
      obtain ⟨rfl, rfl⟩ : ua = some ⟨b, off, none⟩ ∧ ucap = cap1 := by simpa using e1
      have HG1 : Hid (g j = (decide (l[j].kind = 1) && decide (l[j].space = 0) && decide (l[j].name = nm))) := Lib.hid (by rw [HG.out]; unfold named; rw [HIn.out, nodeI_at hj]; rfl)
      have HC1 : Hid (∀ V, Below w4.heap.size w4 V → NodeC V b o1 l[j] a1 c1) := Lib.hid (fun V hV => (hc1.below hbl (HBW.out.trans (HB4.out.mono HBW.out.size))).below (Nat.lt_of_lt_of_le hbl (Nat.le_trans HBW.out.size HB4.out.size)) hV)
      have HNm : Hid (∀ V, Below w4.heap.size w4 V → V.cell? ⟨w.heap.size + 1, 0, none⟩ = some (.string nm)) := Lib.hid (fun V hV => (hV.cell (p := ⟨w.heap.size + 1, 0, none⟩) (Nat.lt_of_lt_of_le HD1.out.1.lt HB4.out.size)).trans ((HB4.out.cell (p := ⟨w.heap.size + 1, 0, none⟩) HD1.out.1.lt).trans HD1.out.1.cell))
      have hp1 : off + j * 7 = o1 := eo1.symm
      have hj0 : (0 : Int) ≤ (j : Int) := by omega
      have hj1 : (j : Int) < (l.length : Int) := by omega
      clear eo1 hc1 hbl hin hb4 c0
      generalize l[j] = x1 at *
      gi_wp2
      clear c4 hp1 hj0 hj1
      obtain ⟨one, hone⟩ : ∃ one : Int, one = (j : Int) := ⟨_, rfl⟩
      rw [← hone] at HG1 HHit HOn ⊢
      by_cases hkd : x1.kind = 1
      · have hk1 : (x1.kind == 1) = true := by simp [hkd]
        by_cases hsp : x1.space = 0
        · have hs1 : (x1.space == 0) = true := by simp [hsp]
          obtain ⟨q, hq⟩ : ∃ q, q = decide (x1.name = nm) := ⟨_, rfl⟩
          have hn2 : (x1.name.toList == nm.toList) = q := by
            rw [hq]
            by_cases hnm : x1.name = nm
            · simp [hnm]
            · rw [decide_eq_false hnm, beq_eq_false_iff_ne]; intro e; apply hnm; apply eqB; rw [ByteArray.toList_eq, ByteArray.toList_eq] at e; exact e
          have HGq : Hid (g one = q) := Lib.hid (by rw [HG1.out, hq, decide_eq_true hkd, decide_eq_true hsp]; rfl)
          clear hq hkd hsp HG1
          cases q with
          | true =>
            refine roundreg_facts (fiF2 b o1 x1 nm true) (by kernel_rfl) (dst_of (by kernel_rfl)) (inj_of (by kernel_rfl)) (acy_of (by kernel_rfl)) ?step ?fin
            case step =>
              intro i o a w1 ho hf
              have HB := Lib.hid hf.base
              match i, ho with
              | 0, ho =>
                obtain rfl := Option.some.inj ho
                have h9 : a.tmps[9]? = some (.pointer (some ⟨b, o1, none⟩)) := (hf.others 9 (no_of (by kernel_rfl))).trans rfl
                have e9 := eval_at h9
                refine wpOpIn_go rfl (wanted_free rfl) (fun c h => by cases h) ?_
                clear hf
                go_simp
                exact ⟨_, rfl, rfl, Below.refl _ _⟩
              | 1, ho =>
                obtain rfl := Option.some.inj ho
                obtain ⟨v22, h22, f22⟩ := hf.facts ⟨0, .data⟩ (by simp) rfl _ _ rfl rfl
                obtain rfl : v22 = .pointer (some ⟨b, o1, none⟩) := f22
                have e22 := eval_at h22
                refine wpOpIn_go rfl (wanted_free rfl) (fun c h => by cases h) ?_
                clear hf
                go_simp
                exact ⟨_, rfl, rfl, Below.refl _ _⟩
              | 2, ho =>
                obtain rfl := Option.some.inj ho
                obtain ⟨v23, h23, f23⟩ := hf.facts ⟨1, .data⟩ (by simp) rfl _ _ rfl rfl
                obtain rfl : v23 = .pointer (some ⟨b, o1, none⟩) := f23
                have e23 := eval_at h23
                refine wpOpIn_go rfl (wanted_free rfl) (fun c h => by cases h) ?_
                clear hf
                go_simp
                exact ⟨_, rfl, rfl, Below.refl _ _⟩
              | 3, ho =>
                obtain rfl := Option.some.inj ho
                obtain ⟨v24, h24, f24⟩ := hf.facts ⟨2, .data⟩ (by simp) rfl _ _ rfl rfl
                obtain rfl : v24 = .pointer (some ⟨b, o1, none⟩) := f24
                have e24 := eval_at h24
                refine wpOpIn_go rfl (wanted_free rfl) (fun c h => by cases h) ?_
                clear hf
                have g1 := (HC1.out _ HB.out).kind
                go_simp
                exact ⟨_, rfl, rfl, Below.refl _ _⟩
              | 4, ho =>
                obtain rfl := Option.some.inj ho
                obtain ⟨v25, h25, f25⟩ := hf.facts ⟨3, .data⟩ (by simp) rfl _ _ rfl rfl
                obtain rfl : v25 = .int .i64 x1.kind := f25
                have e25 := eval_at h25
                refine wpOpIn_go rfl (wanted_free rfl) (fun c h => by cases h) ?_
                clear hf
                go_simp
                exact ⟨_, rfl, rfl, Below.refl _ _⟩
              | 5, ho =>
                obtain rfl := Option.some.inj ho
                obtain ⟨v26, h26, f26⟩ := hf.facts ⟨4, .data⟩ (by simp) rfl _ _ rfl rfl
                obtain rfl : v26 = .bool true := f26
                have e26 := eval_at h26
                refine wpOpIn_go rfl (wanted_free rfl) (fun c h => by cases h) ?_
                clear hf
                go_simp
                exact ⟨_, rfl, rfl, Below.refl _ _⟩
              | 6, ho =>
                obtain rfl := Option.some.inj ho
                obtain ⟨v27, h27, f27⟩ := hf.facts ⟨5, .guard⟩ (by simp) rfl _ _ rfl rfl
                obtain rfl : v27 = .bool true := f27
                have h9 : a.tmps[9]? = some (.pointer (some ⟨b, o1, none⟩)) := (hf.others 9 (no_of (by kernel_rfl))).trans rfl
                have e9 := eval_at h9
                refine wpOpIn_go rfl (wanted_guard rfl rfl rfl h27) (fun c h => by cases h) ?_
                clear hf
                go_simp
                exact ⟨_, rfl, rfl, Below.refl _ _⟩
              | 7, ho =>
                obtain rfl := Option.some.inj ho
                obtain ⟨v28, h28, f28⟩ := hf.facts ⟨6, .data⟩ (by simp) rfl _ _ rfl rfl
                obtain rfl : v28 = .pointer (some ⟨b, o1, none⟩) := f28
                have e28 := eval_at h28
                obtain ⟨v27, h27, f27⟩ := hf.facts ⟨5, .guard⟩ (by simp) rfl _ _ rfl rfl
                obtain rfl : v27 = .bool true := f27
                refine wpOpIn_go rfl (wanted_guard rfl rfl rfl h27) (fun c h => by cases h) ?_
                clear hf
                go_simp
                exact ⟨_, rfl, rfl, Below.refl _ _⟩
              | 8, ho =>
                obtain rfl := Option.some.inj ho
                obtain ⟨v29, h29, f29⟩ := hf.facts ⟨7, .data⟩ (by simp) rfl _ _ rfl rfl
                obtain rfl : v29 = .pointer (some ⟨b, o1, none⟩) := f29
                have e29 := eval_at h29
                obtain ⟨v27, h27, f27⟩ := hf.facts ⟨5, .guard⟩ (by simp) rfl _ _ rfl rfl
                obtain rfl : v27 = .bool true := f27
                refine wpOpIn_go rfl (wanted_guard rfl rfl rfl h27) (fun c h => by cases h) ?_
                clear hf
                go_simp
                exact ⟨_, rfl, rfl, Below.refl _ _⟩
              | 9, ho =>
                obtain rfl := Option.some.inj ho
                obtain ⟨v30, h30, f30⟩ := hf.facts ⟨8, .data⟩ (by simp) rfl _ _ rfl rfl
                obtain rfl : v30 = .pointer (some ⟨b, o1 + 1, none⟩) := f30
                have e30 := eval_at h30
                obtain ⟨v27, h27, f27⟩ := hf.facts ⟨5, .guard⟩ (by simp) rfl _ _ rfl rfl
                obtain rfl : v27 = .bool true := f27
                refine wpOpIn_go rfl (wanted_guard rfl rfl rfl h27) (fun c h => by cases h) ?_
                clear hf
                have g1 := (HC1.out _ HB.out).space
                go_simp
                exact ⟨_, rfl, rfl, Below.refl _ _⟩
              | 10, ho =>
                obtain rfl := Option.some.inj ho
                obtain ⟨v31, h31, f31⟩ := hf.facts ⟨9, .data⟩ (by simp) rfl _ _ rfl rfl
                obtain rfl : v31 = .int .i64 x1.space := f31
                have e31 := eval_at h31
                obtain ⟨v27, h27, f27⟩ := hf.facts ⟨5, .guard⟩ (by simp) rfl _ _ rfl rfl
                obtain rfl : v27 = .bool true := f27
                refine wpOpIn_go rfl (wanted_guard rfl rfl rfl h27) (fun c h => by cases h) ?_
                clear hf
                go_simp
                exact ⟨_, rfl, rfl, Below.refl _ _⟩
              | 11, ho =>
                obtain rfl := Option.some.inj ho
                obtain ⟨v27, h27, f27⟩ := hf.facts ⟨5, .data⟩ (by simp) rfl _ _ rfl rfl
                obtain rfl : v27 = .bool true := f27
                have e27 := eval_at h27
                obtain ⟨v32, h32, f32⟩ := hf.facts ⟨10, .data⟩ (by simp) rfl _ _ rfl rfl
                obtain rfl : v32 = .bool true := f32
                have e32 := eval_at h32
                refine wpOpIn_go rfl (wanted_free rfl) (fun c h => by cases h) ?_
                clear hf
                go_simp
                exact ⟨_, rfl, rfl, Below.refl _ _⟩
              | 12, ho =>
                obtain rfl := Option.some.inj ho
                obtain ⟨v33, h33, f33⟩ := hf.facts ⟨11, .data⟩ (by simp) rfl _ _ rfl rfl
                obtain rfl : v33 = .bool true := f33
                have e33 := eval_at h33
                refine wpOpIn_go rfl (wanted_free rfl) (fun c h => by cases h) ?_
                clear hf
                go_simp
                exact ⟨_, rfl, rfl, Below.refl _ _⟩
              | 13, ho =>
                obtain rfl := Option.some.inj ho
                obtain ⟨v34, h34, f34⟩ := hf.facts ⟨12, .guard⟩ (by simp) rfl _ _ rfl rfl
                obtain rfl : v34 = .bool true := f34
                have h9 : a.tmps[9]? = some (.pointer (some ⟨b, o1, none⟩)) := (hf.others 9 (no_of (by kernel_rfl))).trans rfl
                have e9 := eval_at h9
                refine wpOpIn_go rfl (wanted_guard rfl rfl rfl h34) (fun c h => by cases h) ?_
                clear hf
                go_simp
                exact ⟨_, rfl, rfl, Below.refl _ _⟩
              | 14, ho =>
                obtain rfl := Option.some.inj ho
                obtain ⟨v35, h35, f35⟩ := hf.facts ⟨13, .data⟩ (by simp) rfl _ _ rfl rfl
                obtain rfl : v35 = .pointer (some ⟨b, o1, none⟩) := f35
                have e35 := eval_at h35
                obtain ⟨v34, h34, f34⟩ := hf.facts ⟨12, .guard⟩ (by simp) rfl _ _ rfl rfl
                obtain rfl : v34 = .bool true := f34
                refine wpOpIn_go rfl (wanted_guard rfl rfl rfl h34) (fun c h => by cases h) ?_
                clear hf
                go_simp
                exact ⟨_, rfl, rfl, Below.refl _ _⟩
              | 15, ho =>
                obtain rfl := Option.some.inj ho
                obtain ⟨v36, h36, f36⟩ := hf.facts ⟨14, .data⟩ (by simp) rfl _ _ rfl rfl
                obtain rfl : v36 = .pointer (some ⟨b, o1, none⟩) := f36
                have e36 := eval_at h36
                obtain ⟨v34, h34, f34⟩ := hf.facts ⟨12, .guard⟩ (by simp) rfl _ _ rfl rfl
                obtain rfl : v34 = .bool true := f34
                refine wpOpIn_go rfl (wanted_guard rfl rfl rfl h34) (fun c h => by cases h) ?_
                clear hf
                go_simp
                exact ⟨_, rfl, rfl, Below.refl _ _⟩
              | 16, ho =>
                obtain rfl := Option.some.inj ho
                obtain ⟨v37, h37, f37⟩ := hf.facts ⟨15, .data⟩ (by simp) rfl _ _ rfl rfl
                obtain rfl : v37 = .pointer (some ⟨b, o1 + 2, none⟩) := f37
                have e37 := eval_at h37
                obtain ⟨v34, h34, f34⟩ := hf.facts ⟨12, .guard⟩ (by simp) rfl _ _ rfl rfl
                obtain rfl : v34 = .bool true := f34
                refine wpOpIn_go rfl (wanted_guard rfl rfl rfl h34) (fun c h => by cases h) ?_
                clear hf
                have g1 := (HC1.out _ HB.out).name
                go_simp
                exact ⟨_, rfl, rfl, Below.refl _ _⟩
              | 17, ho =>
                obtain rfl := Option.some.inj ho
                obtain ⟨v34, h34, f34⟩ := hf.facts ⟨12, .guard⟩ (by simp) rfl _ _ rfl rfl
                obtain rfl : v34 = .bool true := f34
                have h5 : a.tmps[5]? = some (.pointer (some ⟨w.heap.size + 1, 0, none⟩)) := (hf.others 5 (no_of (by kernel_rfl))).trans rfl
                have e5 := eval_at h5
                refine wpOpIn_go rfl (wanted_guard rfl rfl rfl h34) (fun c h => by cases h) ?_
                clear hf
                have g1 := HNm.out _ HB.out
                go_simp
                exact ⟨_, rfl, rfl, Below.refl _ _⟩
              | 18, ho =>
                obtain rfl := Option.some.inj ho
                obtain ⟨v38, h38, f38⟩ := hf.facts ⟨16, .data⟩ (by simp) rfl _ _ rfl rfl
                obtain rfl : v38 = .string x1.name := f38
                have e38 := eval_at h38
                obtain ⟨v39, h39, f39⟩ := hf.facts ⟨17, .data⟩ (by simp) rfl _ _ rfl rfl
                obtain rfl : v39 = .string nm := f39
                have e39 := eval_at h39
                obtain ⟨v34, h34, f34⟩ := hf.facts ⟨12, .guard⟩ (by simp) rfl _ _ rfl rfl
                obtain rfl : v34 = .bool true := f34
                refine wpOpIn_go rfl (wanted_guard rfl rfl rfl h34) (fun c h => by cases h) ?_
                clear hf
                go_simp
                exact ⟨_, rfl, rfl, Below.refl _ _⟩
              | 19, ho =>
                obtain rfl := Option.some.inj ho
                obtain ⟨v34, h34, f34⟩ := hf.facts ⟨12, .data⟩ (by simp) rfl _ _ rfl rfl
                obtain rfl : v34 = .bool true := f34
                have e34 := eval_at h34
                obtain ⟨v40, h40, f40⟩ := hf.facts ⟨18, .data⟩ (by simp) rfl _ _ rfl rfl
                obtain rfl : v40 = .bool true := f40
                have e40 := eval_at h40
                refine wpOpIn_go rfl (wanted_free rfl) (fun c h => by cases h) ?_
                clear hf
                go_simp
                exact ⟨_, rfl, rfl, Below.refl _ _⟩
              | i + 20, ho => exact absurd ho (by simp)
            case fin =>
              intro listed a w1 hf hall
              obtain ⟨v0, h0, f0⟩ := hf.facts 19 _ _ rfl rfl (hall 19 (of_decide_eq_true (by kernel_rfl)))
              obtain rfl : v0 = .bool true := f0
              have h8 : a.tmps[8]? = some (.int .i64 one) := (hf.others 8 (no_of (by kernel_rfl))).trans rfl
              have h6 : a.tmps[6]? = some (.pointer (some ⟨w.heap.size + 1 + 1, 0, none⟩)) := (hf.others 6 (no_of (by kernel_rfl))).trans rfl
              have hsz := hf.size
              have HBe := Lib.hid hf.base
              cases a
              rename_i tm ds
              dsimp only at hsz h0 h8 h6
              clear hf hall
              rename_i K hK
              refine hK _ _ ?_
              clear hK
              subst hone
              refine wpIn_cond_true (eval_at h0) ?_
              have hbW := below_trans HB4.out HBe.out
              have hsW1 := hbW.size
              have e2 : Boxed w1 (w.heap.size + 1 + 1) 3 (.int .i64 0) := (hbW.block _ HD2.out.1.lt).trans HD2.out.1
              have k2 := e2.cell
              have f2 := e2.frozen
              have HFin : Hid (postY w3.heap.size w.heap.size (w.heap.size + 1 + 1 + 1) (fun pre Z A => HV w (w.heap.size + 1 + 1 + 1 + 1) [(w.heap.size, 24, .slice (some ⟨b, off, none⟩) l.length ucap), (w.heap.size + 1, 9, .string nm), (w.heap.size + 1 + 1, 3, .int .i64 0)] Z A ∧ ∀ x ∈ pre, g x.2 = false) (fun c _ Z A => c = .ret ∧ HV w (w.heap.size + 1 + 1 + 1 + 1) [(w.heap.size, 24, .slice (some ⟨b, off, none⟩) l.length ucap), (w.heap.size + 1, 9, .string nm), (w.heap.size + 1 + 1, 3, .int .i64 (fiP g (endE xs)))] Z A) (pre ++ [(at_, (j : Int))]) Z W Exit.ret { tmps := #[], defers := [] } (w1.setCell ⟨w.heap.size + 1 + 1, 0, none⟩ (.int .i64 (j : Int)))) := Lib.hid (by
                have hs : (w1.setCell ⟨w.heap.size + 1 + 1, 0, none⟩ (.int .i64 (j : Int))).heap.size = w1.heap.size := by simp
                have hot : ∀ k, k ≠ w.heap.size + 1 + 1 → k < W.heap.size → (w1.setCell ⟨w.heap.size + 1 + 1, 0, none⟩ (.int .i64 (j : Int))).heap[k]? = W.heap[k]? := fun k hk h3 => (heap_setCell_other w1 ⟨w.heap.size + 1 + 1, 0, none⟩ k _ hk).trans (hbW.block k h3)
                have hbel : Below w.heap.size W (w1.setCell ⟨w.heap.size + 1 + 1, 0, none⟩ (.int .i64 (j : Int))) := (hbW.mono HBW.out.size).setCell (p := ⟨w.heap.size + 1 + 1, 0, none⟩) (by show w.heap.size ≤ w.heap.size + 1 + 1; omega) _
                refine ⟨⟨by rw [hs]; exact hsW1, fun k o hk ho _ => (hot k (by omega) (Array.getElem?_eq_some_iff.1 ho).1).trans ho⟩, rfl, ?_⟩
                obtain ⟨h1, hz, hb, hn, hw⟩ := HV0.out
                refine ⟨fun x hx => ?_, fun k hk => ⟨(hz k hk).1, by rw [hs]; exact Nat.lt_of_lt_of_le (hz k hk).2 hsW1⟩, hb.trans hbel, by rw [hs]; omega, hw⟩
                rw [HHit.out HGq.out] at hx
                simp only [List.mem_cons, List.not_mem_nil, or_false] at hx
                rcases hx with rfl | rfl | rfl
                · exact ⟨(hot _ (by omega) HD0.out.1.lt).trans HD0.out.1, HD0.out.2⟩
                · exact ⟨(hot _ (by omega) HD1.out.1.lt).trans HD1.out.1, HD1.out.2⟩
                · exact ⟨e2.set _, HD2.out.2⟩)
              clear e2 hbW hsW1
              have et : tm = #[tm.getD 0 undef, tm.getD 1 undef, tm.getD 2 undef, tm.getD 3 undef, tm.getD 4 undef, tm.getD 5 undef, tm.getD 6 undef, tm.getD 7 undef, tm.getD 8 undef, tm.getD 9 undef, tm.getD 10 undef, tm.getD 11 undef, tm.getD 12 undef, tm.getD 13 undef, tm.getD 14 undef, tm.getD 15 undef, tm.getD 16 undef, tm.getD 17 undef, tm.getD 18 undef, tm.getD 19 undef, tm.getD 20 undef, tm.getD 21 undef, tm.getD 22 undef, tm.getD 23 undef, tm.getD 24 undef, tm.getD 25 undef, tm.getD 26 undef, tm.getD 27 undef, tm.getD 28 undef, tm.getD 29 undef, tm.getD 30 undef, tm.getD 31 undef, tm.getD 32 undef, tm.getD 33 undef, tm.getD 34 undef, tm.getD 35 undef, tm.getD 36 undef, tm.getD 37 undef, tm.getD 38 undef, tm.getD 39 undef, tm.getD 40 undef, tm.getD 41 undef, tm.getD 42 undef] := tmps_lit tm 43 (hsz.trans rfl)
              have q6 : tm.getD 6 undef = .pointer (some ⟨w.heap.size + 1 + 1, 0, none⟩) := by simp [Array.getD_eq_getD_getElem?, h6]
              have q8 : tm.getD 8 undef = .int .i64 (j : Int) := by simp [Array.getD_eq_getD_getElem?, h8]
              rw [q6, q8] at et
              clear h0 h6 h8 q6 q8 hsz
              generalize tm.getD 0 undef = y0 at et
              generalize tm.getD 1 undef = y1 at et
              generalize tm.getD 2 undef = y2 at et
              generalize tm.getD 3 undef = y3 at et
              generalize tm.getD 4 undef = y4 at et
              generalize tm.getD 5 undef = y5 at et
              generalize tm.getD 7 undef = y7 at et
              generalize tm.getD 9 undef = y9 at et
              generalize tm.getD 10 undef = y10 at et
              generalize tm.getD 11 undef = y11 at et
              generalize tm.getD 12 undef = y12 at et
              generalize tm.getD 13 undef = y13 at et
              generalize tm.getD 14 undef = y14 at et
              generalize tm.getD 15 undef = y15 at et
              generalize tm.getD 16 undef = y16 at et
              generalize tm.getD 17 undef = y17 at et
              generalize tm.getD 18 undef = y18 at et
              generalize tm.getD 19 undef = y19 at et
              generalize tm.getD 20 undef = y20 at et
              generalize tm.getD 21 undef = y21 at et
              generalize tm.getD 22 undef = y22 at et
              generalize tm.getD 23 undef = y23 at et
              generalize tm.getD 24 undef = y24 at et
              generalize tm.getD 25 undef = y25 at et
              generalize tm.getD 26 undef = y26 at et
              generalize tm.getD 27 undef = y27 at et
              generalize tm.getD 28 undef = y28 at et
              generalize tm.getD 29 undef = y29 at et
              generalize tm.getD 30 undef = y30 at et
              generalize tm.getD 31 undef = y31 at et
              generalize tm.getD 32 undef = y32 at et
              generalize tm.getD 33 undef = y33 at et
              generalize tm.getD 34 undef = y34 at et
              generalize tm.getD 35 undef = y35 at et
              generalize tm.getD 36 undef = y36 at et
              generalize tm.getD 37 undef = y37 at et
              generalize tm.getD 38 undef = y38 at et
              generalize tm.getD 39 undef = y39 at et
              generalize tm.getD 40 undef = y40 at et
              generalize tm.getD 41 undef = y41 at et
              generalize tm.getD 42 undef = y42 at et
              subst et
              gi_wp2
              exact HFin.out
          | false =>
            skip
            refine roundreg_facts (fiF2 b o1 x1 nm false) (by kernel_rfl) (dst_of (by kernel_rfl)) (inj_of (by kernel_rfl)) (acy_of (by kernel_rfl)) ?step ?fin
            case step =>
              intro i o a w1 ho hf
              have HB := Lib.hid hf.base
              match i, ho with
              | 0, ho =>
                obtain rfl := Option.some.inj ho
                have h9 : a.tmps[9]? = some (.pointer (some ⟨b, o1, none⟩)) := (hf.others 9 (no_of (by kernel_rfl))).trans rfl
                have e9 := eval_at h9
                refine wpOpIn_go rfl (wanted_free rfl) (fun c h => by cases h) ?_
                clear hf
                go_simp
                exact ⟨_, rfl, rfl, Below.refl _ _⟩
              | 1, ho =>
                obtain rfl := Option.some.inj ho
                obtain ⟨v22, h22, f22⟩ := hf.facts ⟨0, .data⟩ (by simp) rfl _ _ rfl rfl
                obtain rfl : v22 = .pointer (some ⟨b, o1, none⟩) := f22
                have e22 := eval_at h22
                refine wpOpIn_go rfl (wanted_free rfl) (fun c h => by cases h) ?_
                clear hf
                go_simp
                exact ⟨_, rfl, rfl, Below.refl _ _⟩
              | 2, ho =>
                obtain rfl := Option.some.inj ho
                obtain ⟨v23, h23, f23⟩ := hf.facts ⟨1, .data⟩ (by simp) rfl _ _ rfl rfl
                obtain rfl : v23 = .pointer (some ⟨b, o1, none⟩) := f23
                have e23 := eval_at h23
                refine wpOpIn_go rfl (wanted_free rfl) (fun c h => by cases h) ?_
                clear hf
                go_simp
                exact ⟨_, rfl, rfl, Below.refl _ _⟩
              | 3, ho =>
                obtain rfl := Option.some.inj ho
                obtain ⟨v24, h24, f24⟩ := hf.facts ⟨2, .data⟩ (by simp) rfl _ _ rfl rfl
                obtain rfl : v24 = .pointer (some ⟨b, o1, none⟩) := f24
                have e24 := eval_at h24
                refine wpOpIn_go rfl (wanted_free rfl) (fun c h => by cases h) ?_
                clear hf
                have g1 := (HC1.out _ HB.out).kind
                go_simp
                exact ⟨_, rfl, rfl, Below.refl _ _⟩
              | 4, ho =>
                obtain rfl := Option.some.inj ho
                obtain ⟨v25, h25, f25⟩ := hf.facts ⟨3, .data⟩ (by simp) rfl _ _ rfl rfl
                obtain rfl : v25 = .int .i64 x1.kind := f25
                have e25 := eval_at h25
                refine wpOpIn_go rfl (wanted_free rfl) (fun c h => by cases h) ?_
                clear hf
                go_simp
                exact ⟨_, rfl, rfl, Below.refl _ _⟩
              | 5, ho =>
                obtain rfl := Option.some.inj ho
                obtain ⟨v26, h26, f26⟩ := hf.facts ⟨4, .data⟩ (by simp) rfl _ _ rfl rfl
                obtain rfl : v26 = .bool true := f26
                have e26 := eval_at h26
                refine wpOpIn_go rfl (wanted_free rfl) (fun c h => by cases h) ?_
                clear hf
                go_simp
                exact ⟨_, rfl, rfl, Below.refl _ _⟩
              | 6, ho =>
                obtain rfl := Option.some.inj ho
                obtain ⟨v27, h27, f27⟩ := hf.facts ⟨5, .guard⟩ (by simp) rfl _ _ rfl rfl
                obtain rfl : v27 = .bool true := f27
                have h9 : a.tmps[9]? = some (.pointer (some ⟨b, o1, none⟩)) := (hf.others 9 (no_of (by kernel_rfl))).trans rfl
                have e9 := eval_at h9
                refine wpOpIn_go rfl (wanted_guard rfl rfl rfl h27) (fun c h => by cases h) ?_
                clear hf
                go_simp
                exact ⟨_, rfl, rfl, Below.refl _ _⟩
              | 7, ho =>
                obtain rfl := Option.some.inj ho
                obtain ⟨v28, h28, f28⟩ := hf.facts ⟨6, .data⟩ (by simp) rfl _ _ rfl rfl
                obtain rfl : v28 = .pointer (some ⟨b, o1, none⟩) := f28
                have e28 := eval_at h28
                obtain ⟨v27, h27, f27⟩ := hf.facts ⟨5, .guard⟩ (by simp) rfl _ _ rfl rfl
                obtain rfl : v27 = .bool true := f27
                refine wpOpIn_go rfl (wanted_guard rfl rfl rfl h27) (fun c h => by cases h) ?_
                clear hf
                go_simp
                exact ⟨_, rfl, rfl, Below.refl _ _⟩
              | 8, ho =>
                obtain rfl := Option.some.inj ho
                obtain ⟨v29, h29, f29⟩ := hf.facts ⟨7, .data⟩ (by simp) rfl _ _ rfl rfl
                obtain rfl : v29 = .pointer (some ⟨b, o1, none⟩) := f29
                have e29 := eval_at h29
                obtain ⟨v27, h27, f27⟩ := hf.facts ⟨5, .guard⟩ (by simp) rfl _ _ rfl rfl
                obtain rfl : v27 = .bool true := f27
                refine wpOpIn_go rfl (wanted_guard rfl rfl rfl h27) (fun c h => by cases h) ?_
                clear hf
                go_simp
                exact ⟨_, rfl, rfl, Below.refl _ _⟩
              | 9, ho =>
                obtain rfl := Option.some.inj ho
                obtain ⟨v30, h30, f30⟩ := hf.facts ⟨8, .data⟩ (by simp) rfl _ _ rfl rfl
                obtain rfl : v30 = .pointer (some ⟨b, o1 + 1, none⟩) := f30
                have e30 := eval_at h30
                obtain ⟨v27, h27, f27⟩ := hf.facts ⟨5, .guard⟩ (by simp) rfl _ _ rfl rfl
                obtain rfl : v27 = .bool true := f27
                refine wpOpIn_go rfl (wanted_guard rfl rfl rfl h27) (fun c h => by cases h) ?_
                clear hf
                have g1 := (HC1.out _ HB.out).space
                go_simp
                exact ⟨_, rfl, rfl, Below.refl _ _⟩
              | 10, ho =>
                obtain rfl := Option.some.inj ho
                obtain ⟨v31, h31, f31⟩ := hf.facts ⟨9, .data⟩ (by simp) rfl _ _ rfl rfl
                obtain rfl : v31 = .int .i64 x1.space := f31
                have e31 := eval_at h31
                obtain ⟨v27, h27, f27⟩ := hf.facts ⟨5, .guard⟩ (by simp) rfl _ _ rfl rfl
                obtain rfl : v27 = .bool true := f27
                refine wpOpIn_go rfl (wanted_guard rfl rfl rfl h27) (fun c h => by cases h) ?_
                clear hf
                go_simp
                exact ⟨_, rfl, rfl, Below.refl _ _⟩
              | 11, ho =>
                obtain rfl := Option.some.inj ho
                obtain ⟨v27, h27, f27⟩ := hf.facts ⟨5, .data⟩ (by simp) rfl _ _ rfl rfl
                obtain rfl : v27 = .bool true := f27
                have e27 := eval_at h27
                obtain ⟨v32, h32, f32⟩ := hf.facts ⟨10, .data⟩ (by simp) rfl _ _ rfl rfl
                obtain rfl : v32 = .bool true := f32
                have e32 := eval_at h32
                refine wpOpIn_go rfl (wanted_free rfl) (fun c h => by cases h) ?_
                clear hf
                go_simp
                exact ⟨_, rfl, rfl, Below.refl _ _⟩
              | 12, ho =>
                obtain rfl := Option.some.inj ho
                obtain ⟨v33, h33, f33⟩ := hf.facts ⟨11, .data⟩ (by simp) rfl _ _ rfl rfl
                obtain rfl : v33 = .bool true := f33
                have e33 := eval_at h33
                refine wpOpIn_go rfl (wanted_free rfl) (fun c h => by cases h) ?_
                clear hf
                go_simp
                exact ⟨_, rfl, rfl, Below.refl _ _⟩
              | 13, ho =>
                obtain rfl := Option.some.inj ho
                obtain ⟨v34, h34, f34⟩ := hf.facts ⟨12, .guard⟩ (by simp) rfl _ _ rfl rfl
                obtain rfl : v34 = .bool true := f34
                have h9 : a.tmps[9]? = some (.pointer (some ⟨b, o1, none⟩)) := (hf.others 9 (no_of (by kernel_rfl))).trans rfl
                have e9 := eval_at h9
                refine wpOpIn_go rfl (wanted_guard rfl rfl rfl h34) (fun c h => by cases h) ?_
                clear hf
                go_simp
                exact ⟨_, rfl, rfl, Below.refl _ _⟩
              | 14, ho =>
                obtain rfl := Option.some.inj ho
                obtain ⟨v35, h35, f35⟩ := hf.facts ⟨13, .data⟩ (by simp) rfl _ _ rfl rfl
                obtain rfl : v35 = .pointer (some ⟨b, o1, none⟩) := f35
                have e35 := eval_at h35
                obtain ⟨v34, h34, f34⟩ := hf.facts ⟨12, .guard⟩ (by simp) rfl _ _ rfl rfl
                obtain rfl : v34 = .bool true := f34
                refine wpOpIn_go rfl (wanted_guard rfl rfl rfl h34) (fun c h => by cases h) ?_
                clear hf
                go_simp
                exact ⟨_, rfl, rfl, Below.refl _ _⟩
              | 15, ho =>
                obtain rfl := Option.some.inj ho
                obtain ⟨v36, h36, f36⟩ := hf.facts ⟨14, .data⟩ (by simp) rfl _ _ rfl rfl
                obtain rfl : v36 = .pointer (some ⟨b, o1, none⟩) := f36
                have e36 := eval_at h36
                obtain ⟨v34, h34, f34⟩ := hf.facts ⟨12, .guard⟩ (by simp) rfl _ _ rfl rfl
                obtain rfl : v34 = .bool true := f34
                refine wpOpIn_go rfl (wanted_guard rfl rfl rfl h34) (fun c h => by cases h) ?_
                clear hf
                go_simp
                exact ⟨_, rfl, rfl, Below.refl _ _⟩
              | 16, ho =>
                obtain rfl := Option.some.inj ho
                obtain ⟨v37, h37, f37⟩ := hf.facts ⟨15, .data⟩ (by simp) rfl _ _ rfl rfl
                obtain rfl : v37 = .pointer (some ⟨b, o1 + 2, none⟩) := f37
                have e37 := eval_at h37
                obtain ⟨v34, h34, f34⟩ := hf.facts ⟨12, .guard⟩ (by simp) rfl _ _ rfl rfl
                obtain rfl : v34 = .bool true := f34
                refine wpOpIn_go rfl (wanted_guard rfl rfl rfl h34) (fun c h => by cases h) ?_
                clear hf
                have g1 := (HC1.out _ HB.out).name
                go_simp
                exact ⟨_, rfl, rfl, Below.refl _ _⟩
              | 17, ho =>
                obtain rfl := Option.some.inj ho
                obtain ⟨v34, h34, f34⟩ := hf.facts ⟨12, .guard⟩ (by simp) rfl _ _ rfl rfl
                obtain rfl : v34 = .bool true := f34
                have h5 : a.tmps[5]? = some (.pointer (some ⟨w.heap.size + 1, 0, none⟩)) := (hf.others 5 (no_of (by kernel_rfl))).trans rfl
                have e5 := eval_at h5
                refine wpOpIn_go rfl (wanted_guard rfl rfl rfl h34) (fun c h => by cases h) ?_
                clear hf
                have g1 := HNm.out _ HB.out
                go_simp
                exact ⟨_, rfl, rfl, Below.refl _ _⟩
              | 18, ho =>
                obtain rfl := Option.some.inj ho
                obtain ⟨v38, h38, f38⟩ := hf.facts ⟨16, .data⟩ (by simp) rfl _ _ rfl rfl
                obtain rfl : v38 = .string x1.name := f38
                have e38 := eval_at h38
                obtain ⟨v39, h39, f39⟩ := hf.facts ⟨17, .data⟩ (by simp) rfl _ _ rfl rfl
                obtain rfl : v39 = .string nm := f39
                have e39 := eval_at h39
                obtain ⟨v34, h34, f34⟩ := hf.facts ⟨12, .guard⟩ (by simp) rfl _ _ rfl rfl
                obtain rfl : v34 = .bool true := f34
                refine wpOpIn_go rfl (wanted_guard rfl rfl rfl h34) (fun c h => by cases h) ?_
                clear hf
                go_simp
                exact ⟨_, rfl, rfl, Below.refl _ _⟩
              | 19, ho =>
                obtain rfl := Option.some.inj ho
                obtain ⟨v34, h34, f34⟩ := hf.facts ⟨12, .data⟩ (by simp) rfl _ _ rfl rfl
                obtain rfl : v34 = .bool true := f34
                have e34 := eval_at h34
                obtain ⟨v40, h40, f40⟩ := hf.facts ⟨18, .data⟩ (by simp) rfl _ _ rfl rfl
                obtain rfl : v40 = .bool false := f40
                have e40 := eval_at h40
                refine wpOpIn_go rfl (wanted_free rfl) (fun c h => by cases h) ?_
                clear hf
                go_simp
                exact ⟨_, rfl, rfl, Below.refl _ _⟩
              | i + 20, ho => exact absurd ho (by simp)
            case fin =>
              intro listed a w1 hf hall
              obtain ⟨v0, h0, f0⟩ := hf.facts 19 _ _ rfl rfl (hall 19 (of_decide_eq_true (by kernel_rfl)))
              obtain rfl : v0 = .bool false := f0
              have h8 : a.tmps[8]? = some (.int .i64 one) := (hf.others 8 (no_of (by kernel_rfl))).trans rfl
              have h6 : a.tmps[6]? = some (.pointer (some ⟨w.heap.size + 1 + 1, 0, none⟩)) := (hf.others 6 (no_of (by kernel_rfl))).trans rfl
              have hsz := hf.size
              have HBe := Lib.hid hf.base
              cases a
              rename_i tm ds
              dsimp only at hsz h0 h8 h6
              clear hf hall
              rename_i K hK
              refine hK _ _ ?_
              clear hK
              subst hone
              refine wpIn_cond_false (eval_at h0) ?_
              gi_wp2
              exact HOn.out _ HGq.out (HB4.out.trans (HBe.out.mono HB4.out.size))
        · have hs1 : (x1.space == 0) = false := by simpa using hsp
          skip
          have HGq : Hid (g one = false) := Lib.hid (by rw [HG1.out, decide_eq_false hsp, Bool.and_false, Bool.false_and])
          clear hkd hsp HG1
          refine roundreg_facts (fiF1 b o1 x1 nm false) (by kernel_rfl) (dst_of (by kernel_rfl)) (inj_of (by kernel_rfl)) (acy_of (by kernel_rfl)) ?step ?fin
          case step =>
            intro i o a w1 ho hf
            have HB := Lib.hid hf.base
            match i, ho with
            | 0, ho =>
              obtain rfl := Option.some.inj ho
              have h9 : a.tmps[9]? = some (.pointer (some ⟨b, o1, none⟩)) := (hf.others 9 (no_of (by kernel_rfl))).trans rfl
              have e9 := eval_at h9
              refine wpOpIn_go rfl (wanted_free rfl) (fun c h => by cases h) ?_
              clear hf
              go_simp
              exact ⟨_, rfl, rfl, Below.refl _ _⟩
            | 1, ho =>
              obtain rfl := Option.some.inj ho
              obtain ⟨v22, h22, f22⟩ := hf.facts ⟨0, .data⟩ (by simp) rfl _ _ rfl rfl
              obtain rfl : v22 = .pointer (some ⟨b, o1, none⟩) := f22
              have e22 := eval_at h22
              refine wpOpIn_go rfl (wanted_free rfl) (fun c h => by cases h) ?_
              clear hf
              go_simp
              exact ⟨_, rfl, rfl, Below.refl _ _⟩
            | 2, ho =>
              obtain rfl := Option.some.inj ho
              obtain ⟨v23, h23, f23⟩ := hf.facts ⟨1, .data⟩ (by simp) rfl _ _ rfl rfl
              obtain rfl : v23 = .pointer (some ⟨b, o1, none⟩) := f23
              have e23 := eval_at h23
              refine wpOpIn_go rfl (wanted_free rfl) (fun c h => by cases h) ?_
              clear hf
              go_simp
              exact ⟨_, rfl, rfl, Below.refl _ _⟩
            | 3, ho =>
              obtain rfl := Option.some.inj ho
              obtain ⟨v24, h24, f24⟩ := hf.facts ⟨2, .data⟩ (by simp) rfl _ _ rfl rfl
              obtain rfl : v24 = .pointer (some ⟨b, o1, none⟩) := f24
              have e24 := eval_at h24
              refine wpOpIn_go rfl (wanted_free rfl) (fun c h => by cases h) ?_
              clear hf
              have g1 := (HC1.out _ HB.out).kind
              go_simp
              exact ⟨_, rfl, rfl, Below.refl _ _⟩
            | 4, ho =>
              obtain rfl := Option.some.inj ho
              obtain ⟨v25, h25, f25⟩ := hf.facts ⟨3, .data⟩ (by simp) rfl _ _ rfl rfl
              obtain rfl : v25 = .int .i64 x1.kind := f25
              have e25 := eval_at h25
              refine wpOpIn_go rfl (wanted_free rfl) (fun c h => by cases h) ?_
              clear hf
              go_simp
              exact ⟨_, rfl, rfl, Below.refl _ _⟩
            | 5, ho =>
              obtain rfl := Option.some.inj ho
              obtain ⟨v26, h26, f26⟩ := hf.facts ⟨4, .data⟩ (by simp) rfl _ _ rfl rfl
              obtain rfl : v26 = .bool true := f26
              have e26 := eval_at h26
              refine wpOpIn_go rfl (wanted_free rfl) (fun c h => by cases h) ?_
              clear hf
              go_simp
              exact ⟨_, rfl, rfl, Below.refl _ _⟩
            | 6, ho =>
              obtain rfl := Option.some.inj ho
              obtain ⟨v27, h27, f27⟩ := hf.facts ⟨5, .guard⟩ (by simp) rfl _ _ rfl rfl
              obtain rfl : v27 = .bool true := f27
              have h9 : a.tmps[9]? = some (.pointer (some ⟨b, o1, none⟩)) := (hf.others 9 (no_of (by kernel_rfl))).trans rfl
              have e9 := eval_at h9
              refine wpOpIn_go rfl (wanted_guard rfl rfl rfl h27) (fun c h => by cases h) ?_
              clear hf
              go_simp
              exact ⟨_, rfl, rfl, Below.refl _ _⟩
            | 7, ho =>
              obtain rfl := Option.some.inj ho
              obtain ⟨v28, h28, f28⟩ := hf.facts ⟨6, .data⟩ (by simp) rfl _ _ rfl rfl
              obtain rfl : v28 = .pointer (some ⟨b, o1, none⟩) := f28
              have e28 := eval_at h28
              obtain ⟨v27, h27, f27⟩ := hf.facts ⟨5, .guard⟩ (by simp) rfl _ _ rfl rfl
              obtain rfl : v27 = .bool true := f27
              refine wpOpIn_go rfl (wanted_guard rfl rfl rfl h27) (fun c h => by cases h) ?_
              clear hf
              go_simp
              exact ⟨_, rfl, rfl, Below.refl _ _⟩
            | 8, ho =>
              obtain rfl := Option.some.inj ho
              obtain ⟨v29, h29, f29⟩ := hf.facts ⟨7, .data⟩ (by simp) rfl _ _ rfl rfl
              obtain rfl : v29 = .pointer (some ⟨b, o1, none⟩) := f29
              have e29 := eval_at h29
              obtain ⟨v27, h27, f27⟩ := hf.facts ⟨5, .guard⟩ (by simp) rfl _ _ rfl rfl
              obtain rfl : v27 = .bool true := f27
              refine wpOpIn_go rfl (wanted_guard rfl rfl rfl h27) (fun c h => by cases h) ?_
              clear hf
              go_simp
              exact ⟨_, rfl, rfl, Below.refl _ _⟩
            | 9, ho =>
              obtain rfl := Option.some.inj ho
              obtain ⟨v30, h30, f30⟩ := hf.facts ⟨8, .data⟩ (by simp) rfl _ _ rfl rfl
              obtain rfl : v30 = .pointer (some ⟨b, o1 + 1, none⟩) := f30
              have e30 := eval_at h30
              obtain ⟨v27, h27, f27⟩ := hf.facts ⟨5, .guard⟩ (by simp) rfl _ _ rfl rfl
              obtain rfl : v27 = .bool true := f27
              refine wpOpIn_go rfl (wanted_guard rfl rfl rfl h27) (fun c h => by cases h) ?_
              clear hf
              have g1 := (HC1.out _ HB.out).space
              go_simp
              exact ⟨_, rfl, rfl, Below.refl _ _⟩
            | 10, ho =>
              obtain rfl := Option.some.inj ho
              obtain ⟨v31, h31, f31⟩ := hf.facts ⟨9, .data⟩ (by simp) rfl _ _ rfl rfl
              obtain rfl : v31 = .int .i64 x1.space := f31
              have e31 := eval_at h31
              obtain ⟨v27, h27, f27⟩ := hf.facts ⟨5, .guard⟩ (by simp) rfl _ _ rfl rfl
              obtain rfl : v27 = .bool true := f27
              refine wpOpIn_go rfl (wanted_guard rfl rfl rfl h27) (fun c h => by cases h) ?_
              clear hf
              go_simp
              exact ⟨_, rfl, rfl, Below.refl _ _⟩
            | 11, ho =>
              obtain rfl := Option.some.inj ho
              obtain ⟨v27, h27, f27⟩ := hf.facts ⟨5, .data⟩ (by simp) rfl _ _ rfl rfl
              obtain rfl : v27 = .bool true := f27
              have e27 := eval_at h27
              obtain ⟨v32, h32, f32⟩ := hf.facts ⟨10, .data⟩ (by simp) rfl _ _ rfl rfl
              obtain rfl : v32 = .bool false := f32
              have e32 := eval_at h32
              refine wpOpIn_go rfl (wanted_free rfl) (fun c h => by cases h) ?_
              clear hf
              go_simp
              exact ⟨_, rfl, rfl, Below.refl _ _⟩
            | 12, ho =>
              obtain rfl := Option.some.inj ho
              obtain ⟨v33, h33, f33⟩ := hf.facts ⟨11, .data⟩ (by simp) rfl _ _ rfl rfl
              obtain rfl : v33 = .bool false := f33
              have e33 := eval_at h33
              refine wpOpIn_go rfl (wanted_free rfl) (fun c h => by cases h) ?_
              clear hf
              go_simp
              exact ⟨_, rfl, rfl, Below.refl _ _⟩
            | 13, ho =>
              obtain rfl := Option.some.inj ho
              obtain ⟨v34, h34, f34⟩ := hf.facts ⟨12, .guard⟩ (by simp) rfl _ _ rfl rfl
              obtain rfl : v34 = .bool false := f34
              have h9 : a.tmps[9]? = some (.pointer (some ⟨b, o1, none⟩)) := (hf.others 9 (no_of (by kernel_rfl))).trans rfl
              have e9 := eval_at h9
              exact wpOpIn_off rfl (unwanted_guard rfl rfl rfl h34 rfl) ⟨undef, rfl, rfl, Below.refl _ _⟩
            | 14, ho =>
              obtain rfl := Option.some.inj ho
              obtain ⟨v35, h35, f35⟩ := hf.facts ⟨13, .data⟩ (by simp) rfl _ _ rfl rfl
              obtain rfl : v35 = undef := f35
              have e35 := eval_at h35
              obtain ⟨v34, h34, f34⟩ := hf.facts ⟨12, .guard⟩ (by simp) rfl _ _ rfl rfl
              obtain rfl : v34 = .bool false := f34
              exact wpOpIn_off rfl (unwanted_guard rfl rfl rfl h34 rfl) ⟨undef, rfl, rfl, Below.refl _ _⟩
            | 15, ho =>
              obtain rfl := Option.some.inj ho
              obtain ⟨v36, h36, f36⟩ := hf.facts ⟨14, .data⟩ (by simp) rfl _ _ rfl rfl
              obtain rfl : v36 = undef := f36
              have e36 := eval_at h36
              obtain ⟨v34, h34, f34⟩ := hf.facts ⟨12, .guard⟩ (by simp) rfl _ _ rfl rfl
              obtain rfl : v34 = .bool false := f34
              exact wpOpIn_off rfl (unwanted_guard rfl rfl rfl h34 rfl) ⟨undef, rfl, rfl, Below.refl _ _⟩
            | 16, ho =>
              obtain rfl := Option.some.inj ho
              obtain ⟨v37, h37, f37⟩ := hf.facts ⟨15, .data⟩ (by simp) rfl _ _ rfl rfl
              obtain rfl : v37 = undef := f37
              have e37 := eval_at h37
              obtain ⟨v34, h34, f34⟩ := hf.facts ⟨12, .guard⟩ (by simp) rfl _ _ rfl rfl
              obtain rfl : v34 = .bool false := f34
              exact wpOpIn_off rfl (unwanted_guard rfl rfl rfl h34 rfl) ⟨undef, rfl, rfl, Below.refl _ _⟩
            | 17, ho =>
              obtain rfl := Option.some.inj ho
              obtain ⟨v34, h34, f34⟩ := hf.facts ⟨12, .guard⟩ (by simp) rfl _ _ rfl rfl
              obtain rfl : v34 = .bool false := f34
              have h5 : a.tmps[5]? = some (.pointer (some ⟨w.heap.size + 1, 0, none⟩)) := (hf.others 5 (no_of (by kernel_rfl))).trans rfl
              have e5 := eval_at h5
              exact wpOpIn_off rfl (unwanted_guard rfl rfl rfl h34 rfl) ⟨undef, rfl, rfl, Below.refl _ _⟩
            | 18, ho =>
              obtain rfl := Option.some.inj ho
              obtain ⟨v38, h38, f38⟩ := hf.facts ⟨16, .data⟩ (by simp) rfl _ _ rfl rfl
              obtain rfl : v38 = undef := f38
              have e38 := eval_at h38
              obtain ⟨v39, h39, f39⟩ := hf.facts ⟨17, .data⟩ (by simp) rfl _ _ rfl rfl
              obtain rfl : v39 = undef := f39
              have e39 := eval_at h39
              obtain ⟨v34, h34, f34⟩ := hf.facts ⟨12, .guard⟩ (by simp) rfl _ _ rfl rfl
              obtain rfl : v34 = .bool false := f34
              exact wpOpIn_off rfl (unwanted_guard rfl rfl rfl h34 rfl) ⟨undef, rfl, rfl, Below.refl _ _⟩
            | 19, ho =>
              obtain rfl := Option.some.inj ho
              obtain ⟨v34, h34, f34⟩ := hf.facts ⟨12, .data⟩ (by simp) rfl _ _ rfl rfl
              obtain rfl : v34 = .bool false := f34
              have e34 := eval_at h34
              obtain ⟨v40, h40, f40⟩ := hf.facts ⟨18, .data⟩ (by simp) rfl _ _ rfl rfl
              obtain rfl : v40 = undef := f40
              have e40 := eval_at h40
              refine wpOpIn_go rfl (wanted_free rfl) (fun c h => by cases h) ?_
              clear hf
              go_simp
              exact ⟨_, rfl, rfl, Below.refl _ _⟩
            | i + 20, ho => exact absurd ho (by simp)
          case fin =>
            intro listed a w1 hf hall
            obtain ⟨v0, h0, f0⟩ := hf.facts 19 _ _ rfl rfl (hall 19 (of_decide_eq_true (by kernel_rfl)))
            obtain rfl : v0 = .bool false := f0
            have h8 : a.tmps[8]? = some (.int .i64 one) := (hf.others 8 (no_of (by kernel_rfl))).trans rfl
            have h6 : a.tmps[6]? = some (.pointer (some ⟨w.heap.size + 1 + 1, 0, none⟩)) := (hf.others 6 (no_of (by kernel_rfl))).trans rfl
            have hsz := hf.size
            have HBe := Lib.hid hf.base
            cases a
            rename_i tm ds
            dsimp only at hsz h0 h8 h6
            clear hf hall
            rename_i K hK
            refine hK _ _ ?_
            clear hK
            subst hone
            refine wpIn_cond_false (eval_at h0) ?_
            gi_wp2
            exact HOn.out _ HGq.out (HB4.out.trans (HBe.out.mono HB4.out.size))
      · have hk1 : (x1.kind == 1) = false := by simpa using hkd
        skip
        have HGq : Hid (g one = false) := Lib.hid (by rw [HG1.out, decide_eq_false hkd, Bool.false_and, Bool.false_and])
        clear hkd HG1
        refine roundreg_facts (fiF0 b o1 x1 nm false) (by kernel_rfl) (dst_of (by kernel_rfl)) (inj_of (by kernel_rfl)) (acy_of (by kernel_rfl)) ?step ?fin
        case step =>
          intro i o a w1 ho hf
          have HB := Lib.hid hf.base
          match i, ho with
          | 0, ho =>
            obtain rfl := Option.some.inj ho
            have h9 : a.tmps[9]? = some (.pointer (some ⟨b, o1, none⟩)) := (hf.others 9 (no_of (by kernel_rfl))).trans rfl
            have e9 := eval_at h9
            refine wpOpIn_go rfl (wanted_free rfl) (fun c h => by cases h) ?_
            clear hf
            go_simp
            exact ⟨_, rfl, rfl, Below.refl _ _⟩
          | 1, ho =>
            obtain rfl := Option.some.inj ho
            obtain ⟨v22, h22, f22⟩ := hf.facts ⟨0, .data⟩ (by simp) rfl _ _ rfl rfl
            obtain rfl : v22 = .pointer (some ⟨b, o1, none⟩) := f22
            have e22 := eval_at h22
            refine wpOpIn_go rfl (wanted_free rfl) (fun c h => by cases h) ?_
            clear hf
            go_simp
            exact ⟨_, rfl, rfl, Below.refl _ _⟩
          | 2, ho =>
            obtain rfl := Option.some.inj ho
            obtain ⟨v23, h23, f23⟩ := hf.facts ⟨1, .data⟩ (by simp) rfl _ _ rfl rfl
            obtain rfl : v23 = .pointer (some ⟨b, o1, none⟩) := f23
            have e23 := eval_at h23
            refine wpOpIn_go rfl (wanted_free rfl) (fun c h => by cases h) ?_
            clear hf
            go_simp
            exact ⟨_, rfl, rfl, Below.refl _ _⟩
          | 3, ho =>
            obtain rfl := Option.some.inj ho
            obtain ⟨v24, h24, f24⟩ := hf.facts ⟨2, .data⟩ (by simp) rfl _ _ rfl rfl
            obtain rfl : v24 = .pointer (some ⟨b, o1, none⟩) := f24
            have e24 := eval_at h24
            refine wpOpIn_go rfl (wanted_free rfl) (fun c h => by cases h) ?_
            clear hf
            have g1 := (HC1.out _ HB.out).kind
            go_simp
            exact ⟨_, rfl, rfl, Below.refl _ _⟩
          | 4, ho =>
            obtain rfl := Option.some.inj ho
            obtain ⟨v25, h25, f25⟩ := hf.facts ⟨3, .data⟩ (by simp) rfl _ _ rfl rfl
            obtain rfl : v25 = .int .i64 x1.kind := f25
            have e25 := eval_at h25
            refine wpOpIn_go rfl (wanted_free rfl) (fun c h => by cases h) ?_
            clear hf
            go_simp
            exact ⟨_, rfl, rfl, Below.refl _ _⟩
          | 5, ho =>
            obtain rfl := Option.some.inj ho
            obtain ⟨v26, h26, f26⟩ := hf.facts ⟨4, .data⟩ (by simp) rfl _ _ rfl rfl
            obtain rfl : v26 = .bool false := f26
            have e26 := eval_at h26
            refine wpOpIn_go rfl (wanted_free rfl) (fun c h => by cases h) ?_
            clear hf
            go_simp
            exact ⟨_, rfl, rfl, Below.refl _ _⟩
          | 6, ho =>
            obtain rfl := Option.some.inj ho
            obtain ⟨v27, h27, f27⟩ := hf.facts ⟨5, .guard⟩ (by simp) rfl _ _ rfl rfl
            obtain rfl : v27 = .bool false := f27
            have h9 : a.tmps[9]? = some (.pointer (some ⟨b, o1, none⟩)) := (hf.others 9 (no_of (by kernel_rfl))).trans rfl
            have e9 := eval_at h9
            exact wpOpIn_off rfl (unwanted_guard rfl rfl rfl h27 rfl) ⟨undef, rfl, rfl, Below.refl _ _⟩
          | 7, ho =>
            obtain rfl := Option.some.inj ho
            obtain ⟨v28, h28, f28⟩ := hf.facts ⟨6, .data⟩ (by simp) rfl _ _ rfl rfl
            obtain rfl : v28 = undef := f28
            have e28 := eval_at h28
            obtain ⟨v27, h27, f27⟩ := hf.facts ⟨5, .guard⟩ (by simp) rfl _ _ rfl rfl
            obtain rfl : v27 = .bool false := f27
            exact wpOpIn_off rfl (unwanted_guard rfl rfl rfl h27 rfl) ⟨undef, rfl, rfl, Below.refl _ _⟩
          | 8, ho =>
            obtain rfl := Option.some.inj ho
            obtain ⟨v29, h29, f29⟩ := hf.facts ⟨7, .data⟩ (by simp) rfl _ _ rfl rfl
            obtain rfl : v29 = undef := f29
            have e29 := eval_at h29
            obtain ⟨v27, h27, f27⟩ := hf.facts ⟨5, .guard⟩ (by simp) rfl _ _ rfl rfl
            obtain rfl : v27 = .bool false := f27
            exact wpOpIn_off rfl (unwanted_guard rfl rfl rfl h27 rfl) ⟨undef, rfl, rfl, Below.refl _ _⟩
          | 9, ho =>
            obtain rfl := Option.some.inj ho
            obtain ⟨v30, h30, f30⟩ := hf.facts ⟨8, .data⟩ (by simp) rfl _ _ rfl rfl
            obtain rfl : v30 = undef := f30
            have e30 := eval_at h30
            obtain ⟨v27, h27, f27⟩ := hf.facts ⟨5, .guard⟩ (by simp) rfl _ _ rfl rfl
            obtain rfl : v27 = .bool false := f27
            exact wpOpIn_off rfl (unwanted_guard rfl rfl rfl h27 rfl) ⟨undef, rfl, rfl, Below.refl _ _⟩
          | 10, ho =>
            obtain rfl := Option.some.inj ho
            obtain ⟨v31, h31, f31⟩ := hf.facts ⟨9, .data⟩ (by simp) rfl _ _ rfl rfl
            obtain rfl : v31 = undef := f31
            have e31 := eval_at h31
            obtain ⟨v27, h27, f27⟩ := hf.facts ⟨5, .guard⟩ (by simp) rfl _ _ rfl rfl
            obtain rfl : v27 = .bool false := f27
            exact wpOpIn_off rfl (unwanted_guard rfl rfl rfl h27 rfl) ⟨undef, rfl, rfl, Below.refl _ _⟩
          | 11, ho =>
            obtain rfl := Option.some.inj ho
            obtain ⟨v27, h27, f27⟩ := hf.facts ⟨5, .data⟩ (by simp) rfl _ _ rfl rfl
            obtain rfl : v27 = .bool false := f27
            have e27 := eval_at h27
            obtain ⟨v32, h32, f32⟩ := hf.facts ⟨10, .data⟩ (by simp) rfl _ _ rfl rfl
            obtain rfl : v32 = undef := f32
            have e32 := eval_at h32
            refine wpOpIn_go rfl (wanted_free rfl) (fun c h => by cases h) ?_
            clear hf
            go_simp
            exact ⟨_, rfl, rfl, Below.refl _ _⟩
          | 12, ho =>
            obtain rfl := Option.some.inj ho
            obtain ⟨v33, h33, f33⟩ := hf.facts ⟨11, .data⟩ (by simp) rfl _ _ rfl rfl
            obtain rfl : v33 = .bool false := f33
            have e33 := eval_at h33
            refine wpOpIn_go rfl (wanted_free rfl) (fun c h => by cases h) ?_
            clear hf
            go_simp
            exact ⟨_, rfl, rfl, Below.refl _ _⟩
          | 13, ho =>
            obtain rfl := Option.some.inj ho
            obtain ⟨v34, h34, f34⟩ := hf.facts ⟨12, .guard⟩ (by simp) rfl _ _ rfl rfl
            obtain rfl : v34 = .bool false := f34
            have h9 : a.tmps[9]? = some (.pointer (some ⟨b, o1, none⟩)) := (hf.others 9 (no_of (by kernel_rfl))).trans rfl
            have e9 := eval_at h9
            exact wpOpIn_off rfl (unwanted_guard rfl rfl rfl h34 rfl) ⟨undef, rfl, rfl, Below.refl _ _⟩
          | 14, ho =>
            obtain rfl := Option.some.inj ho
            obtain ⟨v35, h35, f35⟩ := hf.facts ⟨13, .data⟩ (by simp) rfl _ _ rfl rfl
            obtain rfl : v35 = undef := f35
            have e35 := eval_at h35
            obtain ⟨v34, h34, f34⟩ := hf.facts ⟨12, .guard⟩ (by simp) rfl _ _ rfl rfl
            obtain rfl : v34 = .bool false := f34
            exact wpOpIn_off rfl (unwanted_guard rfl rfl rfl h34 rfl) ⟨undef, rfl, rfl, Below.refl _ _⟩
          | 15, ho =>
            obtain rfl := Option.some.inj ho
            obtain ⟨v36, h36, f36⟩ := hf.facts ⟨14, .data⟩ (by simp) rfl _ _ rfl rfl
            obtain rfl : v36 = undef := f36
            have e36 := eval_at h36
            obtain ⟨v34, h34, f34⟩ := hf.facts ⟨12, .guard⟩ (by simp) rfl _ _ rfl rfl
            obtain rfl : v34 = .bool false := f34
            exact wpOpIn_off rfl (unwanted_guard rfl rfl rfl h34 rfl) ⟨undef, rfl, rfl, Below.refl _ _⟩
          | 16, ho =>
            obtain rfl := Option.some.inj ho
            obtain ⟨v37, h37, f37⟩ := hf.facts ⟨15, .data⟩ (by simp) rfl _ _ rfl rfl
            obtain rfl : v37 = undef := f37
            have e37 := eval_at h37
            obtain ⟨v34, h34, f34⟩ := hf.facts ⟨12, .guard⟩ (by simp) rfl _ _ rfl rfl
            obtain rfl : v34 = .bool false := f34
            exact wpOpIn_off rfl (unwanted_guard rfl rfl rfl h34 rfl) ⟨undef, rfl, rfl, Below.refl _ _⟩
          | 17, ho =>
            obtain rfl := Option.some.inj ho
            obtain ⟨v34, h34, f34⟩ := hf.facts ⟨12, .guard⟩ (by simp) rfl _ _ rfl rfl
            obtain rfl : v34 = .bool false := f34
            have h5 : a.tmps[5]? = some (.pointer (some ⟨w.heap.size + 1, 0, none⟩)) := (hf.others 5 (no_of (by kernel_rfl))).trans rfl
            have e5 := eval_at h5
            exact wpOpIn_off rfl (unwanted_guard rfl rfl rfl h34 rfl) ⟨undef, rfl, rfl, Below.refl _ _⟩
          | 18, ho =>
            obtain rfl := Option.some.inj ho
            obtain ⟨v38, h38, f38⟩ := hf.facts ⟨16, .data⟩ (by simp) rfl _ _ rfl rfl
            obtain rfl : v38 = undef := f38
            have e38 := eval_at h38
            obtain ⟨v39, h39, f39⟩ := hf.facts ⟨17, .data⟩ (by simp) rfl _ _ rfl rfl
            obtain rfl : v39 = undef := f39
            have e39 := eval_at h39
            obtain ⟨v34, h34, f34⟩ := hf.facts ⟨12, .guard⟩ (by simp) rfl _ _ rfl rfl
            obtain rfl : v34 = .bool false := f34
            exact wpOpIn_off rfl (unwanted_guard rfl rfl rfl h34 rfl) ⟨undef, rfl, rfl, Below.refl _ _⟩
          | 19, ho =>
            obtain rfl := Option.some.inj ho
            obtain ⟨v34, h34, f34⟩ := hf.facts ⟨12, .data⟩ (by simp) rfl _ _ rfl rfl
            obtain rfl : v34 = .bool false := f34
            have e34 := eval_at h34
            obtain ⟨v40, h40, f40⟩ := hf.facts ⟨18, .data⟩ (by simp) rfl _ _ rfl rfl
            obtain rfl : v40 = undef := f40
            have e40 := eval_at h40
            refine wpOpIn_go rfl (wanted_free rfl) (fun c h => by cases h) ?_
            clear hf
            go_simp
            exact ⟨_, rfl, rfl, Below.refl _ _⟩
          | i + 20, ho => exact absurd ho (by simp)
        case fin =>
          intro listed a w1 hf hall
          obtain ⟨v0, h0, f0⟩ := hf.facts 19 _ _ rfl rfl (hall 19 (of_decide_eq_true (by kernel_rfl)))
          obtain rfl : v0 = .bool false := f0
          have h8 : a.tmps[8]? = some (.int .i64 one) := (hf.others 8 (no_of (by kernel_rfl))).trans rfl
          have h6 : a.tmps[6]? = some (.pointer (some ⟨w.heap.size + 1 + 1, 0, none⟩)) := (hf.others 6 (no_of (by kernel_rfl))).trans rfl
          have hsz := hf.size
          have HBe := Lib.hid hf.base
          cases a
          rename_i tm ds
          dsimp only at hsz h0 h8 h6
          clear hf hall
          rename_i K hK
          refine hK _ _ ?_
          clear hK
          subst hone
          refine wpIn_cond_false (eval_at h0) ?_
          gi_wp2
          exact HOn.out _ HGq.out (HB4.out.trans (HBe.out.mono HB4.out.size))
  case done =>
    rintro Dd ys Z W rfl hall ⟨hI, hno⟩ hK hzD
    obtain ⟨h1, hz, hb, hn, hw⟩ := hI
    rw [hall] at hno
    have HF := Lib.hid (fiP_none g _ hno)
    have d2 := (h1 (w.heap.size + 1 + 1, 3, .int .i64 0) (by simp)).1
    dsimp only at d2
    have k2 := d2.cell
    have f2 := d2.frozen
    have HK := Lib.hid hK
    have HBw := Lib.hid hb
    clear h1 hz hb hw hno hall b0 b1 b2 b3
    gi_wp2
    have hK2 : (W.setCell ⟨w.heap.size + 1 + 1, 0, none⟩ (.int .i64 (-1))).heap[w3.heap.size]? = some (.deferred (some [])) := (heap_setCell_other W ⟨w.heap.size + 1 + 1, 0, none⟩ w3.heap.size _ (by show w3.heap.size ≠ w.heap.size + 1 + 1; omega)).trans HK.out
    refine ⟨by simp, .inl ⟨_, _, rfl, run_takeDeferred hK2, ?_⟩⟩
    have hv3 : Boxed ((W.setCell ⟨w.heap.size + 1 + 1, 0, none⟩ (.int .i64 (-1))).putObj w3.heap.size (.deferred none)) (w.heap.size + 1 + 1) 3 (.int .i64 (-1)) := (World.putObj_heap_other (by omega)).trans (d2.set _)
    exact ⟨_, results_int1 rfl _ _ _ _ rfl hv3, by rw [HF.out], (HBw.out.setCell (p := ⟨w.heap.size + 1 + 1, 0, none⟩) (by show w.heap.size ≤ w.heap.size + 1 + 1; omega) _).trans (put_below (by omega) hK2)⟩
  case stop =>
    rintro Dd c pre Z W rfl _ ⟨rfl, hI⟩ hK hzD
    obtain ⟨h1, hz, hb, hn, hw⟩ := hI
    have d2 := (h1 (w.heap.size + 1 + 1, 3, .int .i64 (fiP g (endE xs))) (by simp)).1
    dsimp only at d2
    have HBw := Lib.hid hb
    clear h1 hz hb hw b0 b1 b2 b3
    gi_wp2
    refine ⟨by simp, .inl ⟨_, _, rfl, run_takeDeferred hK, ?_⟩⟩
    have hv3 : Boxed (W.putObj w3.heap.size (.deferred none)) (w.heap.size + 1 + 1) 3 (.int .i64 (fiP g (endE xs))) := (World.putObj_heap_other (by omega)).trans d2
    exact ⟨_, results_int1 rfl _ _ _ _ rfl hv3, rfl, HBw.out.trans (put_below (by omega) hK)⟩
end Go.Proofs.Ytkkngflpmdcfjaa
