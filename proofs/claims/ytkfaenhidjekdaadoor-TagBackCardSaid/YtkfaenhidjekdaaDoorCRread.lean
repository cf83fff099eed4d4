/-
  The walk of the document's Read.
-/
import Derived.Test.YtkfaenhidjekdaaDoorCRead
namespace Go.Proofs.YtkfaenhidjekdaaDoor.C
open Go.RowKit
set_option linter.unusedVariables false

theorem dg_ten (c : UInt8) : decide ((0 : Int) ≤ dg 10 c) = decide (48 ≤ (c.toNat : Int) ∧ (c.toNat : Int) ≤ 57) := by
  rw [decide_eq_decide]
  unfold dg hxI
  split <;> split at * <;> (try split at *) <;> (try split at *) <;> omega
theorem goes_at {s : ByteArray} {k : Nat} (h : k < s.size) : goes (s.data.toList.drop k) = (s[k] == 61 || (leI (s[k].toNat : Int) || decide (48 ≤ (s[k].toNat : Int) ∧ (s[k].toNat : Int) ≤ 57))) := by
  rw [drop_at s k h, ← dg_ten, ← Bool.or_assoc]; rfl

set_option maxHeartbeats 6400000 in
theorem rread_one (s : ByteArray) (value : Bool) (w : World) (R : Ref) (hs : s.size ≤ 1000000) (hp : 0 < s.size) (e1 : s.toList ≠ []) (e2 : s.toList.isEmpty = false) (f1 : ((s[0].toNat : Int) == 38) = true) (f2 : ((s[0].toNat : Int) != 38) = false) (hc0 : s[0].toNat < 2 ^ 8) (h1 : s.size ≤ 1)
    (HN : Hid (∀ (k : Nat) (W : World), k ≤ s.size → Calls Tryd.prog 63 #[.string (s.extract 1 k)] W (NamedPost ((s.data.toList.take k).drop 1) W))) (HM : Hid (min ((s.size : Int) - 1) 12 = ((min s.size 13 - 1 : Nat) : Int))) (HR : Hid (R = rdN s.data.toList value (min s.size 13))) :
    Calls Tryd.prog 53 #[.string s, .bool value] w (RefPost R w) := by
  go_enter Tryd.func53, Tryd.ntmps53
  go_wp2
  go_loopw [6] (fun i wr => ∃ k : Nat, k + 1 ≤ s.size ∧ i = .int .i64 k ∧ R = rdN s.data.toList value (k + 1) ∧ Below w.heap.size w wr) (fun i _ => (intOf i).toNat)
  case atStart => exact ⟨min s.size 13 - 1, by omega, by rw [HM.out], by rw [HR.out]; congr 1; omega, Below.refl _ _⟩
  case round =>
    obtain ⟨k, hk, rfl, hr, hb⟩ := hrel
    have HK := Lib.hid hr
    have HB := Lib.hid hb
    clear hr hb
    by_cases h2 : 1 ≤ k
    · exfalso; omega
    · have HQ : Hid (R = noRef) := Lib.hid (by rw [HK.out]; exact rdN_low _ _ _ (by omega))
      go_wp2
      go_ret2
      exact ⟨ret_none HQ.out, HB.out⟩

set_option maxHeartbeats 6400000 in
theorem rread_more (s : ByteArray) (value : Bool) (w : World) (R : Ref) (hs : s.size ≤ 1000000) (hp : 0 < s.size) (e1 : s.toList ≠ []) (e2 : s.toList.isEmpty = false) (f1 : ((s[0].toNat : Int) == 38) = true) (f2 : ((s[0].toNat : Int) != 38) = false) (hc0 : s[0].toNat < 2 ^ 8) (h1 : 1 < s.size) (f3 : ((s[1].toNat : Int) == 35) = false) (f4 : ((s[1].toNat : Int) != 35) = true)
    (HN : Hid (∀ (k : Nat) (W : World), k ≤ s.size → Calls Tryd.prog 63 #[.string (s.extract 1 k)] W (NamedPost ((s.data.toList.take k).drop 1) W))) (HM : Hid (min ((s.size : Int) - 1) 12 = ((min s.size 13 - 1 : Nat) : Int))) (HR : Hid (R = rdN s.data.toList value (min s.size 13))) :
    Calls Tryd.prog 53 #[.string s, .bool value] w (RefPost R w) := by
  have hc1 := s[1].toNat_lt
  go_enter Tryd.func53, Tryd.ntmps53
  go_wp2
  go_loopw [6] (fun i wr => ∃ k : Nat, k + 1 ≤ s.size ∧ i = .int .i64 k ∧ R = rdN s.data.toList value (k + 1) ∧ Below w.heap.size w wr) (fun i _ => (intOf i).toNat)
  case atStart => exact ⟨min s.size 13 - 1, by omega, by rw [HM.out], by rw [HR.out]; congr 1; omega, Below.refl _ _⟩
  case round =>
    obtain ⟨k, hk, rfl, hr, hb⟩ := hrel
    have HK := Lib.hid hr
    have HB := Lib.hid hb
    clear hr hb
    by_cases h2 : 1 ≤ k
    · have HA := Lib.hid (HK.out.trans (rdN_at s.data.toList value (k + 1) (by omega)))
      have HNk := Lib.hid (HN.out (k + 1) wr hk)
      by_cases hz : nm ((s.data.toList.take (k + 1)).drop 1) = 0
      · have ho : nmOk ((s.data.toList.take (k + 1)).drop 1) = false := by unfold nmOk; rw [hz]; rfl
        have HF := Lib.hid (HA.out.trans (if_pos hz))
        have HNk' : Hid (Calls Tryd.prog 63 #[.string (s.extract 1 (k + 1))] wr fun e w' => e = .returned (.tuple #[.string (nmTx ((s.data.toList.take (k + 1)).drop 1)), .bool false]) ∧ Below wr.heap.size wr w') := Lib.hid (by
          have := HNk.out
          unfold NamedPost at this
          rw [ho] at this
          exact this)
        clear ho hz HNk
        go_wp2_with fail
        refine HNk'.out.mono ?_
        rintro e w1 ⟨rfl, hb⟩
        have HB1 : Hid (Below w.heap.size w w1) := Lib.hid (HB.out.trans (hb.mono HB.out.size))
        clear hb
        go_wp2
        go_roundw
        case rel => exact ⟨k - 1, by omega, by go_num, by rw [HF.out]; congr 1; omega, HB1.out⟩
        case measure => simp [intOf]; omega
      · have ho : nmOk ((s.data.toList.take (k + 1)).drop 1) = true := by unfold nmOk; rw [decide_eq_true hz]
        have ht : nmTx ((s.data.toList.take (k + 1)).drop 1) = encS (nm ((s.data.toList.take (k + 1)).drop 1)) := by unfold nmTx; rw [if_neg hz]
        have HF := Lib.hid (HA.out.trans (if_neg hz))
        have HNk' : Hid (Calls Tryd.prog 63 #[.string (s.extract 1 (k + 1))] wr fun e w' => e = .returned (.tuple #[.string (encS (nm ((s.data.toList.take (k + 1)).drop 1))), .bool true]) ∧ Below wr.heap.size wr w') := Lib.hid (by
          have := HNk.out
          unfold NamedPost at this
          rw [ho, ht] at this
          exact this)
        have hlast := get_at s k (by omega)
        rw [show k + 1 - 1 = k by omega, hlast] at HF
        clear ho ht hz HNk hlast
        generalize encS (nm ((s.data.toList.take (k + 1)).drop 1)) = T at *
        have hc := (s[k]'(by omega)).toNat_lt
        cases value with
        | false =>
          have HQ : Hid (R = (T, k + 1)) := Lib.hid (by rw [HF.out]; simp)
          go_wp2_with fail
          refine HNk'.out.mono ?_
          rintro e w1 ⟨rfl, hb⟩
          have HB1 : Hid (Below w.heap.size w w1) := Lib.hid (HB.out.trans (hb.mono HB.out.size))
          clear hb
          go_wp2
          go_ret2
          exact ⟨ret_ref (by rw [HQ.out]) (by rw [HQ.out]; go_num), HB1.out⟩
        | true =>
          by_cases h59 : (s[k]'(by omega)) = 59
          · have HQ : Hid (R = (T, k + 1)) := Lib.hid (by rw [HF.out, h59]; simp)
            obtain ⟨q1, q2⟩ := byte_yes 59 rfl h59
            clear h59
            go_wp2_with fail
            refine HNk'.out.mono ?_
            rintro e w1 ⟨rfl, hb⟩
            have HB1 : Hid (Below w.heap.size w w1) := Lib.hid (HB.out.trans (hb.mono HB.out.size))
            clear hb
            go_wp2
            go_ret2
            exact ⟨ret_ref (by rw [HQ.out]) (by rw [HQ.out]; go_num), HB1.out⟩
          · obtain ⟨q1, q2⟩ := byte_no 59 rfl h59
            by_cases hend : k + 1 < s.size
            · have HG := Lib.hid (goes_at hend)
              have hd := s[k + 1].toNat_lt
              by_cases h61 : s[k + 1] = 61
              · have HQ : Hid (R = noRef) := Lib.hid (by rw [HF.out, HG.out, h61]; rw [if_pos ⟨rfl, by simpa using h59, by simp⟩])
                obtain ⟨q3, q4⟩ := byte_yes 61 rfl h61
                clear h59 h61
                go_wp2_with fail
                refine HNk'.out.mono ?_
                rintro e w1 ⟨rfl, hb⟩
                have HB1 : Hid (Below w.heap.size w w1) := Lib.hid (HB.out.trans (hb.mono HB.out.size))
                clear hb
                go_wp2
                go_ret2
                exact ⟨ret_none HQ.out, HB1.out⟩
              · obtain ⟨q3, q4⟩ := byte_no 61 rfl h61
                have g61 : (s[k + 1] == 61) = false := by simpa using h61
                have HL := Lib.hid (fun W => alnum_any (s[k + 1].toNat : Int) W (by omega) (by omega))
                rw [g61, Bool.false_or] at HG
                clear h61 g61
                generalize (leI (s[k + 1].toNat : Int) || decide (48 ≤ (s[k + 1].toNat : Int) ∧ (s[k + 1].toNat : Int) ≤ 57)) = g at *
                cases g with
                | false =>
                  have HQ : Hid (R = (T, k + 1)) := Lib.hid (by rw [HF.out, HG.out]; simp)
                  clear h59
                  go_wp2_with fail
                  refine HNk'.out.mono ?_
                  rintro e w1 ⟨rfl, hb⟩
                  have HB1 : Hid (Below w.heap.size w w1) := Lib.hid (HB.out.trans (hb.mono HB.out.size))
                  clear hb
                  go_wp2_with fail
                  refine (HL.out w1).mono ?_
                  rintro e w2 ⟨rfl, rfl⟩
                  go_wp2
                  go_ret2
                  exact ⟨ret_ref (by rw [HQ.out]) (by rw [HQ.out]; go_num), HB1.out⟩
                | true =>
                  have HQ : Hid (R = noRef) := Lib.hid (by rw [HF.out, HG.out]; rw [if_pos ⟨rfl, by simpa using h59, rfl⟩])
                  clear h59
                  go_wp2_with fail
                  refine HNk'.out.mono ?_
                  rintro e w1 ⟨rfl, hb⟩
                  have HB1 : Hid (Below w.heap.size w w1) := Lib.hid (HB.out.trans (hb.mono HB.out.size))
                  clear hb
                  go_wp2_with fail
                  refine (HL.out w1).mono ?_
                  rintro e w2 ⟨rfl, rfl⟩
                  go_wp2
                  go_ret2
                  exact ⟨ret_none HQ.out, HB1.out⟩
            · have HQ : Hid (R = (T, k + 1)) := Lib.hid (by
                rw [HF.out, List.drop_eq_nil_of_le (by rw [size_list]; omega)]
                simp [goes])
              clear h59
              go_wp2_with fail
              refine HNk'.out.mono ?_
              rintro e w1 ⟨rfl, hb⟩
              have HB1 : Hid (Below w.heap.size w w1) := Lib.hid (HB.out.trans (hb.mono HB.out.size))
              clear hb
              go_wp2
              go_ret2
              exact ⟨ret_ref (by rw [HQ.out]) (by rw [HQ.out]; go_num), HB1.out⟩
    · have HQ : Hid (R = noRef) := Lib.hid (by rw [HK.out]; exact rdN_low _ _ _ (by omega))
      go_wp2
      go_ret2
      exact ⟨ret_none HQ.out, HB.out⟩

set_option maxHeartbeats 6400000 in
theorem rread_any (s : ByteArray) (value : Bool) (w : World) (hs : s.size ≤ 1000000) :
    Calls Tryd.prog 53 #[.string s, .bool value] w (RefPost (rd s.data.toList value) w) := by
  by_cases h0 : s.size = 0
  · have HF := Lib.hid (rd_none (l := s.data.toList) (value := value) (by rw [List.getElem?_eq_none (by rw [size_list]; omega)]; simp))
    obtain ⟨e1, e2⟩ := empty_yes h0
    clear h0
    go_enter Tryd.func53, Tryd.ntmps53
    go_wp2
    go_ret2
    exact ⟨ret_none HF.out, Below.refl _ _⟩
  obtain ⟨e1, e2⟩ := empty_no h0
  have hp : 0 < s.size := by omega
  clear h0
  have hc0 := s[0].toNat_lt
  by_cases hA : s[0] = 38
  · obtain ⟨f1, f2⟩ := byte_yes 38 rfl hA
    have g0 : s.data.toList[0]? = some 38 := by rw [get_at s 0 hp, hA]
    clear hA
    by_cases hB : ∃ h : 1 < s.size, s[1] = 35
    · obtain ⟨h1, hB⟩ := hB
      obtain ⟨f3, f4⟩ := byte_yes 35 rfl hB
      have HF := Lib.hid (rd_num (value := value) g0 (by rw [get_at s 1 h1, hB]))
      have HN := Lib.hid (rnumber_any s w h1 hs)
      have hc1 := s[1].toNat_lt
      clear hB g0
      go_enter Tryd.func53, Tryd.ntmps53
      go_wp2_with fail
      refine HN.out.mono ?_
      rintro e w1 ⟨rfl, hb⟩
      have HB := Lib.hid hb
      clear hb
      go_wp2
      go_ret2
      exact ⟨ret_ref (by rw [HF.out]) (by rw [HF.out]), HB.out⟩
    · have HB1 : Hid (∀ h : 1 < s.size, s[1] ≠ 35) := Lib.hid (fun h e => hB ⟨h, e⟩)
      have hR := (rd_name (value := value) g0 (by
        by_cases h : 1 < s.size
        · rw [get_at s 1 h]; intro e; exact hB ⟨h, Option.some.inj e⟩
        · rw [List.getElem?_eq_none (by rw [size_list]; omega)]; simp)).trans (rdN_min _ _).symm
      rw [size_list] at hR
      have HN : Hid (∀ (k : Nat) (W : World), k ≤ s.size → Calls Tryd.prog 63 #[.string (s.extract 1 k)] W (NamedPost ((s.data.toList.take k).drop 1) W)) := Lib.hid (fun k W hk => by
        have := rnamed_any (s.extract 1 k) W
        rw [ext_list] at this; exact this)
      have HM : Hid (min ((s.size : Int) - 1) 12 = ((min s.size 13 - 1 : Nat) : Int)) := Lib.hid (by omega)
      generalize rd s.data.toList value = R at *
      have HR := Lib.hid hR
      clear hR hB g0
      have hcase : s.size ≤ 1 ∨ ∃ h : 1 < s.size, s[1] ≠ 35 := by
        by_cases h : 1 < s.size
        · exact .inr ⟨h, HB1.out h⟩
        · exact .inl (by omega)
      clear HB1
      rcases hcase with h1 | ⟨h1, hB⟩
      · exact rread_one s value w R hs hp e1 e2 f1 f2 hc0 h1 HN HM HR
      · obtain ⟨f3, f4⟩ := byte_no 35 rfl hB
        exact rread_more s value w R hs hp e1 e2 f1 f2 hc0 h1 f3 f4 HN HM HR
  · obtain ⟨f1, f2⟩ := byte_no 38 rfl hA
    have HF := Lib.hid (rd_none (l := s.data.toList) (value := value) (by rw [get_at s 0 hp]; simpa using hA))
    clear hA
    go_enter Tryd.func53, Tryd.ntmps53
    go_wp2
    go_ret2
    exact ⟨ret_none HF.out, Below.refl _ _⟩
end Go.Proofs.YtkfaenhidjekdaaDoor.C
