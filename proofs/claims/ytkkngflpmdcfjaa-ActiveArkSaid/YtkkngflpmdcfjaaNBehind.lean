/-
  The walk of behind at lists of numbers: one more behind a list, in room that is unused, or in new memory.
-/
import Derived.Test.YtkkngflpmdcfjaaNConcat
namespace Go.Proofs.Ytkkngflpmdcfjaa
open Go.RowKit

/-- One more behind a list of numbers: the old slice still reads as it did. -/
def RetMore (v : Value) (xs : List Int) (x : Int) (w : World) (e : Ending) (w' : World) : Prop :=
  ∃ v', e = .returned v' ∧ KR w' v' (xs ++ [x]) ∧ KR w' v xs ∧ w.grownBy w' v.ownBlock ∧ (v'.ownBlock = v.ownBlock ∨ ∃ g, v'.ownBlock = some g ∧ w.heap.size ≤ g)

set_option maxRecDepth 100000 in
theorem unused_any (z : Int) (w : World) : Calls Try.prog 138 #[.int .i64 z] w fun e w' => e = .returned (.bool (z == -9223372036854775808)) ∧ w = w' := by
  go_enter Try.func138, Try.ntmps138
  go_wp2
  go_ret
  exact ⟨rfl, rfl⟩
set_option maxRecDepth 100000 in
/-- append onto a slice that is full: new memory. -/
theorem run_append_full (w : World) (ty : TypeId) (a : Option Addr) (c : Nat) (xs : List Int) (hK : KR w (.slice a xs.length c) xs) (ha : a ≠ none) (A : Addr) (x : Int) (hx : w.cell? A = some (.int .i64 x)) (hA : ∃ b off, A = ⟨b, off, none⟩) (h : xs.length ≤ 2999999) :
    ∃ cap, (Builtin.append_ #[29, 29] ty #[.slice a xs.length xs.length, .slice (some A) 1 1]).run Try.prog w = .ok (.slice (some ⟨w.heap.size, 0, none⟩) (xs.length + 1) cap) (w.drew.alloc (.cells ((xs.map (Value.int .i64)).toArray ++ [Value.int .i64 x].toArray ++ Builtin.zeroCells (Value.int .i64 0).cells (cap - (xs.length + 1))) 3)) ∧
      KR (w.drew.alloc (.cells ((xs.map (Value.int .i64)).toArray ++ [Value.int .i64 x].toArray ++ Builtin.zeroCells (Value.int .i64 0).cells (cap - (xs.length + 1))) 3)) (.slice (some ⟨w.heap.size, 0, none⟩) (xs.length + 1) cap) (xs ++ [x]) ∧ xs.length + 1 ≤ cap ∧ cap ≤ maxLen := by
  obtain ⟨i0, hi, hz0, hz1, hz2⟩ := info_parts int_info
  obtain ⟨b, off, rfl⟩ := hA
  obtain ⟨a', cap', hv, hle, hm, hnone, hc⟩ := hK.form
  injection hv with e1 e2 e3
  subst e1 e3
  cases a with
  | none => exact absurd rfl ha
  | some ad =>
    obtain ⟨g, rfl, hg, hcell, _⟩ := hc ad rfl
    have hge := grownCap_ge w (xs.length + 1) xs.length 3
    have hcm := grownCap_le_maxLen w (xs.length + 1) xs.length 3 (by unfold maxLen; omega)
    have hr := run_append_grow (P := Try.prog) w 29 ty 3 i0 _ Try.underlying29 hi hz0 ⟨g, 0, none⟩ xs.length xs.length (xs.map (Value.int .i64)) (by rw [hz1]; simp) (ints_news fun j hj => by rw [Nat.zero_add]; exact hcell j hj) ⟨b, off, none⟩ 1 1 [.int .i64 x] (by rw [hz1]; rfl)
      (fun j u hj => by
        match j, hj with
        | 0, hj =>
          simp at hj; subst hj
          simpa [Addr.add] using hx) (by omega) (by omega) (growslice_fits (by omega) (by rw [hz2]; omega))
    refine ⟨_, hr, ⟨⟨by simp, .inr ⟨w.heap.size, _, _, by rw [List.length_append]; rfl, Nat.zero_le _, heap_alloc_new w.drew _, by rw [List.length_append]; exact hge, hcm, ?_, ?_⟩⟩, okRow.allocD (ok_three (n := xs.length) (m := 1) (size := 1) (by simp) rfl rfl (ints_ok xs) (ints_ok [x]) zero_iok)⟩, hge, hcm⟩
    · simp only [Array.size_append, List.size_toArray, size_zeroCells, List.length_map, List.length_cons, List.length_nil]
      show xs.length + (0 + 1) + (_ - (xs.length + 1)) * 1 = _ * 1
      omega
    · simp only [Array.toList_append]
      rw [List.take_append_of_le_length (by simp), List.take_of_length_le (by simp)]; simp
set_option maxRecDepth 100000 in
theorem run_append_fit (w : World) (ty : TypeId) (g cap : Nat) (xs : List Int) (hK : KR w (.slice (some ⟨g, 0, none⟩) xs.length cap) xs) (A : Nat) (x : Int) (hx : IntsAt w (some ⟨A, 0, none⟩) [x]) (hroom : xs.length < cap) (h : xs.length ≤ 2999999) :
    ∃ w', (Builtin.append_ #[29, 29] ty #[.slice (some ⟨g, 0, none⟩) xs.length cap, .slice (some ⟨A, 0, none⟩) 1 1]).run Try.prog w = .ok (.slice (some ⟨g, 0, none⟩) (xs.length + 1) cap) w' ∧
      KR w' (.slice (some ⟨g, 0, none⟩) (xs.length + 1) cap) (xs ++ [x]) ∧ KR w' (.slice (some ⟨g, 0, none⟩) xs.length cap) xs ∧ w.grownBy w' (some g) := by
  obtain ⟨i0, hi, hz0, hz1, hz2⟩ := info_parts int_info
  obtain ⟨v', w', hr, hK', hg, _⟩ := run_append_ints w ty _ xs hK (some ⟨A, 0, none⟩) 1 [x] hx (by simp; omega)
  obtain ⟨b, off, e, _, hc⟩ := hx (by simp)
  injection e with e; injection e with e1 e2; subst e1 e2
  obtain ⟨w2, hr2, hown2, _⟩ := run_append_fits (P := Try.prog) w 0 29 ty 3 i0 1 Try.underlying29 hi hz1 g xs.length cap _ hK.1 ⟨A, 0, none⟩ 1 1 [.int .i64 x] rfl (ints_news (m := [x]) hc) (ints_one [x]) hroom
  have e := hr.symm.trans hr2
  injection e with e1 e2
  rw [e1] at hK'
  rw [e2] at hK' hg
  exact ⟨w2, hr2, hK', hK'.front, hg⟩

set_option maxRecDepth 100000 in
set_option maxHeartbeats 1600000 in
theorem behind_any (v : Value) (xs : List Int) (x : Int) (w : World) (hK : KR w v xs) (hs : xs.length ≤ 1000000) :
    Calls Try.prog 137 #[v, .int .i64 x, .int .i64 (-9223372036854775808), .func (.func 138) #[] #[]] w (RetMore v xs x w) := by
  obtain ⟨a, cap, rfl, hle, hm, hnone, hcells⟩ := hK.form
  unfold maxLen at hm
  have HK := Lib.hid hK
  have HN := Lib.hid hnone
  have HU := Lib.hid (fun z W => unused_any z W)
  by_cases hroom : xs.length < cap
  · cases a with
    | none => have := hnone rfl; omega
    | some ad =>
      obtain ⟨g, rfl, hg, _, hsp, _⟩ := hcells ad rfl
      obtain ⟨z, hz⟩ := hsp xs.length hroom
      have HUz := Lib.hid (HU.out z w)
      clear hK hnone hcells hsp HU
      by_cases hq : z = -9223372036854775808
      · have hb : (z == -9223372036854775808) = true := by simp [hq]
        rw [hb] at HUz
        clear hb hq
        obtain ⟨w2, hr, hk1, hk2, hgr⟩ := run_append_fit (w.alloc (.cells #[.int .i64 x] 3)) 29 g cap xs (HK.out.alloc _) w.heap.size x (one_int w x) hroom (by omega)
        have HR := Lib.hid hr
        have HF : Hid (RetMore (.slice (some ⟨g, 0, none⟩) xs.length cap) xs x w (.returned (.slice (some ⟨g, 0, none⟩) (xs.length + 1) cap)) w2) := Lib.hid ⟨_, rfl, hk1, hk2, (World.grownBy_alloc w _ _).trans hgr, .inl rfl⟩
        clear hr hk1 hk2 hgr
        go_enter Try.func137, Try.ntmps137
        go_wp2_with fail
        refine HUz.out.mono ?_
        rintro e w1 ⟨rfl, rfl⟩
        go_wp2_with (at_builtin; refine Lib.wpList_append_run _ rfl _ _ _ _ rfl _ _ rfl rfl _ _ HR.out ?_)
        go_ret
        exact HF.out
      · have hb : (z == -9223372036854775808) = false := by simp [hq]
        rw [hb] at HUz
        clear hb hq
        have HKa := Lib.hid (HK.out.alloc (.cells #[.int .i64 x] 3))
        obtain ⟨cap2, hr, hk1, hc1, hc2⟩ := run_append_full (w.alloc (.cells #[.int .i64 x] 3)) 29 (some ⟨g, 0, none⟩) cap xs HKa.out (by simp) ⟨w.heap.size, 0, none⟩ x (by simp [go_sem]) ⟨_, _, rfl⟩ (by omega)
        have hz2 : (w.alloc (.cells #[.int .i64 x] 3)).heap.size = w.heap.size + 1 := by simp
        rw [hz2] at hr hk1
        have HG2 : Hid (w.grownBy ((w.alloc (.cells #[.int .i64 x] 3)).drew.alloc (.cells ((xs.map (Value.int .i64)).toArray ++ [Value.int .i64 x].toArray ++ Builtin.zeroCells (Value.int .i64 0).cells (cap2 - (xs.length + 1))) 3)) none) := Lib.hid ((World.grownBy_alloc w _ none).trans ⟨rfl, rfl, rfl, by simp, fun k hk _ => Below.heap_alloc _ _ _ hk⟩)
        obtain ⟨w2, ew2⟩ : ∃ w2, w2 = ((w.alloc (.cells #[.int .i64 x] 3)).drew.alloc (.cells ((xs.map (Value.int .i64)).toArray ++ [Value.int .i64 x].toArray ++ Builtin.zeroCells (Value.int .i64 0).cells (cap2 - (xs.length + 1))) 3)) := ⟨_, rfl⟩
        rw [← ew2] at hr hk1 HG2
        have HR := Lib.hid hr
        have HK2 := Lib.hid hk1
        unfold maxLen at hc2
        clear hr hk1 hz2 ew2 HKa
        have HE : Hid (∀ wr, w2.grownBy wr (some (w.heap.size + 1)) → KR wr (.slice (some ⟨w.heap.size + 1, 0, none⟩) (xs.length + 1) cap2) (xs ++ [x]) → RetMore (.slice (some ⟨g, 0, none⟩) xs.length cap) xs x w (.returned (.slice (some ⟨w.heap.size + 1, 0, none⟩) (xs.length + 1) cap2)) wr) := Lib.hid (fun wr hg2 hk2 => by
          have hgb : ∀ k, k < w.heap.size → wr.heap[k]? = w.heap[k]? := fun k hk => (hg2.block k (Nat.lt_of_lt_of_le hk HG2.out.size) (by simp; omega)).trans (HG2.out.block k hk (by simp))
          exact ⟨_, rfl, hk2, HK.out.kept fun q hq => hgb q (HK.out.lt q hq), ⟨hg2.os.trans HG2.out.os, hg2.tape.trans HG2.out.tape, hg2.output.trans HG2.out.output, Nat.le_trans HG2.out.size hg2.size, fun k hk _ => hgb k hk⟩, .inr ⟨w.heap.size + 1, rfl, by omega⟩⟩)
        by_cases hfull : cap2 = xs.length + 1
        · subst hfull
          clear hc1
          go_enter Try.func137, Try.ntmps137
          go_wp2_with fail
          refine HUz.out.mono ?_
          rintro e w1 ⟨rfl, rfl⟩
          go_wp2_with (at_builtin; refine Lib.wpList_append_run _ rfl _ _ _ _ rfl _ _ rfl rfl _ _ HR.out ?_)
          go_loopw [48] (fun q wr => q = .int .i64 0 ∧ w2 = wr) (fun _ _ => 0)
          case atStart => exact ⟨rfl, rfl⟩
          case round =>
            obtain ⟨rfl, rfl⟩ := hrel
            go_wp2
            go_ret
            exact HE.out _ (World.grownBy.refl _ _) HK2.out
        · have hgt : xs.length + 1 < cap2 := by omega
          have hgi : (xs.length : Int) + 1 ≤ (cap2 : Int) := by omega
          clear hc1 hfull
          go_enter Try.func137, Try.ntmps137
          go_wp2_with fail
          refine HUz.out.mono ?_
          rintro e w1 ⟨rfl, rfl⟩
          go_wp2_with (at_builtin; refine Lib.wpList_append_run _ rfl _ _ _ _ rfl _ _ rfl rfl _ _ HR.out ?_)
          go_loopw [48] (fun q wr => ∃ k : Nat, k ≤ cap2 - (xs.length + 1) ∧ q = .int .i64 k ∧ KR wr (.slice (some ⟨w.heap.size + 1, 0, none⟩) (xs.length + 1) cap2) (xs ++ [x]) ∧ w2.grownBy wr (some (w.heap.size + 1))) (fun q _ => cap2 - (xs.length + 1) - (intOf q).toNat)
          case atStart => exact ⟨0, Nat.zero_le _, rfl, HK2.out, World.grownBy.refl _ _⟩
          case round =>
            obtain ⟨k, hk, rfl, hkr, hgr⟩ := hrel
            have HKr := Lib.hid hkr
            have HGr := Lib.hid hgr
            clear hkr hgr
            by_cases hlt : k < cap2 - (xs.length + 1)
            · obtain ⟨zz, hzz, hfz⟩ : ∃ zz, wr.cell? ⟨w.heap.size + 1, xs.length + 1 + k, none⟩ = some (.int .i64 zz) ∧ wr.frozen? ⟨w.heap.size + 1, xs.length + 1 + k, none⟩ = false := by
                obtain ⟨a', c', hv, _, _, _, hc⟩ := HKr.out.form
                injection hv with e1 e2 e3
                subst e1 e3
                obtain ⟨g', e, _, _, hs, hf⟩ := hc _ rfl
                cases e
                obtain ⟨zz, hzz⟩ := hs (xs.length + 1 + k) (by omega)
                exact ⟨zz, hzz, hf _⟩
              obtain ⟨hs1, hs2⟩ := HKr.out.spare (xs.length + 1 + k) (by first | (simp; done) | (simp; omega)) (-9223372036854775808)
              have HS1 := Lib.hid hs1
              have HS2 := Lib.hid hs2
              have hlt2 : (k : Int) < ((cap2 - (xs.length + 1) : Nat) : Int) := by omega
              clear hs1 hs2
              go_wp2
              go_roundw
              case rel => exact ⟨k + 1, by omega, by go_num, HS1.out, HGr.out.trans HS2.out⟩
              case measure => simp [intOf]; omega
            · go_wp2
              go_ret
              exact HE.out _ HGr.out HKr.out
  · obtain rfl : xs.length = cap := by omega
    cases a with
    | some ad =>
      obtain ⟨g, rfl, hg, _, hsp, _⟩ := hcells ad rfl
      clear hK hnone hcells hsp HU hle
      have HKa := Lib.hid (HK.out.alloc (.cells #[.int .i64 x] 3))
      obtain ⟨cap2, hr, hk1, hc1, hc2⟩ := run_append_full (w.alloc (.cells #[.int .i64 x] 3)) 29 (some ⟨g, 0, none⟩) xs.length xs HKa.out (by simp) ⟨w.heap.size, 0, none⟩ x (by simp [go_sem]) ⟨_, _, rfl⟩ (by omega)
      have hz2 : (w.alloc (.cells #[.int .i64 x] 3)).heap.size = w.heap.size + 1 := by simp
      rw [hz2] at hr hk1
      have HG2 : Hid (w.grownBy ((w.alloc (.cells #[.int .i64 x] 3)).drew.alloc (.cells ((xs.map (Value.int .i64)).toArray ++ [Value.int .i64 x].toArray ++ Builtin.zeroCells (Value.int .i64 0).cells (cap2 - (xs.length + 1))) 3)) none) := Lib.hid ((World.grownBy_alloc w _ none).trans ⟨rfl, rfl, rfl, by simp, fun k hk _ => Below.heap_alloc _ _ _ hk⟩)
      obtain ⟨w2, ew2⟩ : ∃ w2, w2 = ((w.alloc (.cells #[.int .i64 x] 3)).drew.alloc (.cells ((xs.map (Value.int .i64)).toArray ++ [Value.int .i64 x].toArray ++ Builtin.zeroCells (Value.int .i64 0).cells (cap2 - (xs.length + 1))) 3)) := ⟨_, rfl⟩
      rw [← ew2] at hr hk1 HG2
      have HR := Lib.hid hr
      have HK2 := Lib.hid hk1
      unfold maxLen at hc2
      clear hr hk1 hz2 ew2 HKa
      have HE : Hid (∀ wr, w2.grownBy wr (some (w.heap.size + 1)) → KR wr (.slice (some ⟨w.heap.size + 1, 0, none⟩) (xs.length + 1) cap2) (xs ++ [x]) → RetMore (.slice (some ⟨g, 0, none⟩) xs.length xs.length) xs x w (.returned (.slice (some ⟨w.heap.size + 1, 0, none⟩) (xs.length + 1) cap2)) wr) := Lib.hid (fun wr hg2 hk2 => by
        have hgb : ∀ k, k < w.heap.size → wr.heap[k]? = w.heap[k]? := fun k hk => (hg2.block k (Nat.lt_of_lt_of_le hk HG2.out.size) (by simp; omega)).trans (HG2.out.block k hk (by simp))
        exact ⟨_, rfl, hk2, HK.out.kept fun q hq => hgb q (HK.out.lt q hq), ⟨hg2.os.trans HG2.out.os, hg2.tape.trans HG2.out.tape, hg2.output.trans HG2.out.output, Nat.le_trans HG2.out.size hg2.size, fun k hk _ => hgb k hk⟩, .inr ⟨w.heap.size + 1, rfl, by omega⟩⟩)
      by_cases hfull : cap2 = xs.length + 1
      · subst hfull
        clear hc1
        go_enter Try.func137, Try.ntmps137
        go_wp2_with (at_builtin; refine Lib.wpList_append_run _ rfl _ _ _ _ rfl _ _ rfl rfl _ _ HR.out ?_)
        go_loopw [48] (fun q wr => q = .int .i64 0 ∧ w2 = wr) (fun _ _ => 0)
        case atStart => exact ⟨rfl, rfl⟩
        case round =>
          obtain ⟨rfl, rfl⟩ := hrel
          go_wp2
          go_ret
          exact HE.out _ (World.grownBy.refl _ _) HK2.out
      · have hgt : xs.length + 1 < cap2 := by omega
        have hgi : (xs.length : Int) + 1 ≤ (cap2 : Int) := by omega
        clear hc1 hfull
        go_enter Try.func137, Try.ntmps137
        go_wp2_with (at_builtin; refine Lib.wpList_append_run _ rfl _ _ _ _ rfl _ _ rfl rfl _ _ HR.out ?_)
        go_loopw [48] (fun q wr => ∃ k : Nat, k ≤ cap2 - (xs.length + 1) ∧ q = .int .i64 k ∧ KR wr (.slice (some ⟨w.heap.size + 1, 0, none⟩) (xs.length + 1) cap2) (xs ++ [x]) ∧ w2.grownBy wr (some (w.heap.size + 1))) (fun q _ => cap2 - (xs.length + 1) - (intOf q).toNat)
        case atStart => exact ⟨0, Nat.zero_le _, rfl, HK2.out, World.grownBy.refl _ _⟩
        case round =>
          obtain ⟨k, hk, rfl, hkr, hgr⟩ := hrel
          have HKr := Lib.hid hkr
          have HGr := Lib.hid hgr
          clear hkr hgr
          by_cases hlt : k < cap2 - (xs.length + 1)
          · obtain ⟨zz, hzz, hfz⟩ : ∃ zz, wr.cell? ⟨w.heap.size + 1, xs.length + 1 + k, none⟩ = some (.int .i64 zz) ∧ wr.frozen? ⟨w.heap.size + 1, xs.length + 1 + k, none⟩ = false := by
              obtain ⟨a', c', hv, _, _, _, hc⟩ := HKr.out.form
              injection hv with e1 e2 e3
              subst e1 e3
              obtain ⟨g', e, _, _, hs, hf⟩ := hc _ rfl
              cases e
              obtain ⟨zz, hzz⟩ := hs (xs.length + 1 + k) (by omega)
              exact ⟨zz, hzz, hf _⟩
            obtain ⟨hs1, hs2⟩ := HKr.out.spare (xs.length + 1 + k) (by first | (simp; done) | (simp; omega)) (-9223372036854775808)
            have HS1 := Lib.hid hs1
            have HS2 := Lib.hid hs2
            have hlt2 : (k : Int) < ((cap2 - (xs.length + 1) : Nat) : Int) := by omega
            clear hs1 hs2
            go_wp2
            go_roundw
            case rel => exact ⟨k + 1, by omega, by go_num, HS1.out, HGr.out.trans HS2.out⟩
            case measure => simp [intOf]; omega
          · go_wp2
            go_ret
            exact HE.out _ HGr.out HKr.out
    | none =>
      obtain rfl : xs = [] := List.eq_nil_of_length_eq_zero (hnone rfl)
      clear hK hnone hcells HU hle hroom hm HN
      obtain ⟨v', w2, hr, hk1, hgr, hat⟩ := run_append_ints (w.alloc (.cells #[.int .i64 x] 3)) 29 (.slice none 0 0) [] (KR.nil _) (some ⟨w.heap.size, 0, none⟩) 1 [x] (one_int w x) (by simp)
      obtain ⟨a', cap2, rfl, hc1, hc2, hn2, hcc⟩ := hk1.form
      have ha : a' = some ⟨w.heap.size + 1, 0, none⟩ := by
        cases a' with
        | none => have := hn2 rfl; simp at hc1; omega
        | some ad =>
          obtain ⟨g', rfl, _⟩ := hcc ad rfl
          rcases hat with e | e
          · cases e
          · simp [Value.ownBlock] at e; rw [e]
      subst ha
      have HG2 : Hid (w.grownBy w2 none) := Lib.hid ((World.grownBy_alloc w _ none).trans hgr)
      have HR := Lib.hid hr
      have HK2 := Lib.hid hk1
      unfold maxLen at hc2
      have hc1 : 1 ≤ cap2 := by simpa using hc1
      clear hr hk1 hgr hat hn2 hcc
      have HE : Hid (∀ wr, w2.grownBy wr (some (w.heap.size + 1)) → KR wr (.slice (some ⟨w.heap.size + 1, 0, none⟩) (1) cap2) (([] : List Int) ++ [x]) → RetMore (.slice none 0 0) ([] : List Int) x w (.returned (.slice (some ⟨w.heap.size + 1, 0, none⟩) (1) cap2)) wr) := Lib.hid (fun wr hg2 hk2 => by
        have hgb : ∀ k, k < w.heap.size → wr.heap[k]? = w.heap[k]? := fun k hk => (hg2.block k (Nat.lt_of_lt_of_le hk HG2.out.size) (by simp; omega)).trans (HG2.out.block k hk (by simp))
        exact ⟨_, rfl, hk2, HK.out.kept fun q hq => hgb q (HK.out.lt q hq), ⟨hg2.os.trans HG2.out.os, hg2.tape.trans HG2.out.tape, hg2.output.trans HG2.out.output, Nat.le_trans HG2.out.size hg2.size, fun k hk _ => hgb k hk⟩, .inr ⟨w.heap.size + 1, rfl, by omega⟩⟩)
      by_cases hfull : cap2 = 1
      · subst hfull
        clear hc1
        go_enter Try.func137, Try.ntmps137
        go_wp2_with (at_builtin; refine Lib.wpList_append_run _ rfl _ _ _ _ rfl _ _ rfl rfl _ _ HR.out ?_)
        go_loopw [48] (fun q wr => q = .int .i64 0 ∧ w2 = wr) (fun _ _ => 0)
        case atStart => exact ⟨rfl, rfl⟩
        case round =>
          obtain ⟨rfl, rfl⟩ := hrel
          go_wp2
          go_ret
          exact HE.out _ (World.grownBy.refl _ _) HK2.out
      · have hgt : 1 < cap2 := by omega
        have hgi : (0 : Int) + 1 ≤ (cap2 : Int) := by omega
        clear hc1 hfull
        go_enter Try.func137, Try.ntmps137
        go_wp2_with (at_builtin; refine Lib.wpList_append_run _ rfl _ _ _ _ rfl _ _ rfl rfl _ _ HR.out ?_)
        go_loopw [48] (fun q wr => ∃ k : Nat, k ≤ cap2 - (1) ∧ q = .int .i64 k ∧ KR wr (.slice (some ⟨w.heap.size + 1, 0, none⟩) (1) cap2) (([] : List Int) ++ [x]) ∧ w2.grownBy wr (some (w.heap.size + 1))) (fun q _ => cap2 - (1) - (intOf q).toNat)
        case atStart => exact ⟨0, Nat.zero_le _, rfl, HK2.out, World.grownBy.refl _ _⟩
        case round =>
          obtain ⟨k, hk, rfl, hkr, hgr⟩ := hrel
          have HKr := Lib.hid hkr
          have HGr := Lib.hid hgr
          clear hkr hgr
          by_cases hlt : k < cap2 - (1)
          · obtain ⟨zz, hzz, hfz⟩ : ∃ zz, wr.cell? ⟨w.heap.size + 1, 1 + k, none⟩ = some (.int .i64 zz) ∧ wr.frozen? ⟨w.heap.size + 1, 1 + k, none⟩ = false := by
              obtain ⟨a', c', hv, _, _, _, hc⟩ := HKr.out.form
              injection hv with e1 e2 e3
              subst e1 e3
              obtain ⟨g', e, _, _, hs, hf⟩ := hc _ rfl
              cases e
              obtain ⟨zz, hzz⟩ := hs (1 + k) (by omega)
              exact ⟨zz, hzz, hf _⟩
            obtain ⟨hs1, hs2⟩ := HKr.out.spare (1 + k) (by first | (simp; done) | (simp; omega)) (-9223372036854775808)
            have HS1 := Lib.hid hs1
            have HS2 := Lib.hid hs2
            have hlt2 : (k : Int) < ((cap2 - (1) : Nat) : Int) := by omega
            clear hs1 hs2
            go_wp2
            go_roundw
            case rel => exact ⟨k + 1, by omega, by go_num, HS1.out, HGr.out.trans HS2.out⟩
            case measure => simp [intOf]; omega
          · go_wp2
            go_ret
            exact HE.out _ HGr.out HKr.out
end Go.Proofs.Ytkkngflpmdcfjaa
