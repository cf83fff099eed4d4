/-
  The law RemarkBack.
-/
import Derived.Test.YtdljjfeojccidaaRAgree
import Derived.Test.YtdljjfeojccidaaRReads
namespace Go.Proofs.Ytdljjfeojccidaa.R
open Go.RowKit

theorem back_text (s b : ByteArray) (h0 : pre [62] s.data.toList = false) (h1 : pre [45, 62] s.data.toList = false) (hA : Lib.contains s.data.toList pA = false) (hB : Lib.contains s.data.toList pB = false) :
    rem ((⟨#[60, 33, 45, 45]⟩ : ByteArray) ++ s ++ ⟨#[45, 45, 62]⟩ ++ b).data.toList false = ⟨4, ByteArray.empty, s, s.size + 7, true⟩ := by
  have e : ((⟨#[60, 33, 45, 45]⟩ : ByteArray) ++ s ++ ⟨#[45, 45, 62]⟩ ++ b).data.toList = [60, 33, 45, 45] ++ (s.data.toList ++ (pA ++ b.data.toList)) := by
    rw [ByteArray.data_append, Array.toList_append, ByteArray.data_append, Array.toList_append, ByteArray.data_append, Array.toList_append, List.append_assoc, List.append_assoc]
    rfl
  rw [e, back_rem _ _ h0 h1 hA hB, C.mkB_of, C.size_list]

set_option maxRecDepth 100000 in
set_option maxHeartbeats 6400000 in
theorem back_walk (s b : ByteArray) (w : World) (hM : MaxAt w) (ws : s.size ≤ maxLen) (wb : b.size ≤ maxLen) :
    Calls Try.prog 5 #[.string s, .string b] w fun e w' => e = .returned (.bool true) ∧ Below w.heap.size w w' := by
  unfold maxLen at ws wb
  have HM := Lib.hid hM
  have out : (200 : Int) < s.size ∨ (¬ (200 : Int) < s.size ∧ (100 : Int) < b.size) →
      Calls Try.prog 5 #[.string s, .string b] w fun e w' => e = .returned (.bool true) ∧ Below w.heap.size w w' := by
    intro h
    clear hM
    rcases h with h1 | ⟨h1, h2⟩
    all_goals
      go_enter Try.func5, Try.ntmps5
      go_wp2_with fail
      refine (awake_any _ HM.out).mono ?_
      rintro e w1 ⟨rfl, hb⟩
      have HB := Lib.hid hb
      clear hb
      go_wp2
      go_ret
      exact ⟨rfl, HB.out⟩
  by_cases hout : (200 : Int) < s.size ∨ (100 : Int) < b.size
  · exact out (by omega)
  · clear out
    have h4 : ¬ (200 : Int) < s.size := by omega
    have h4' : ¬ (100 : Int) < b.size := by omega
    obtain ⟨mx, hm⟩ := hM
    have HP0 : Hid (Calls Try.prog 12 #[.string s, .string ⟨#[62]⟩] w fun e w' => e = .returned (.bool (pre [62] s.data.toList)) ∧ w = w') := Lib.hid ((Try.strings_HasPrefix s ⟨#[62]⟩ w).mono fun _ _ h => ⟨h.1, h.2.symm⟩)
    have HP1 : Hid (Calls Try.prog 12 #[.string s, .string ⟨#[45, 62]⟩] w fun e w' => e = .returned (.bool (pre [45, 62] s.data.toList)) ∧ w = w') := Lib.hid ((Try.strings_HasPrefix s ⟨#[45, 62]⟩ w).mono fun _ _ h => ⟨h.1, h.2.symm⟩)
    have HC0 : Hid (Calls Try.prog 13 #[.string s, .string ⟨#[45, 45, 62]⟩] w fun e w' => e = .returned (.bool (Lib.contains s.data.toList pA)) ∧ w = w') := Lib.hid ((Try.strings_Contains s ⟨#[45, 45, 62]⟩ mx w (by omega) hm).mono fun _ _ h => ⟨h.1, h.2.symm⟩)
    have HC1 : Hid (Calls Try.prog 13 #[.string s, .string ⟨#[45, 45, 33, 62]⟩] w fun e w' => e = .returned (.bool (Lib.contains s.data.toList pB)) ∧ w = w') := Lib.hid ((Try.strings_Contains s ⟨#[45, 45, 33, 62]⟩ mx w (by omega) hm).mono fun _ _ h => ⟨h.1, h.2.symm⟩)
    clear hout hm
    have HBk := Lib.hid (back_text s b)
    generalize pre [62] s.data.toList = q0 at *
    generalize pre [45, 62] s.data.toList = q1 at *
    generalize Lib.contains s.data.toList pA = q2 at *
    generalize Lib.contains s.data.toList pB = q3 at *
    by_cases hq : q0 = false ∧ q1 = false ∧ q2 = false ∧ q3 = false
    · obtain ⟨rfl, rfl, rfl, rfl⟩ := hq
      have hbk := HBk.out rfl rfl rfl rfl
      have hz : ((⟨#[60, 33, 45, 45]⟩ : ByteArray) ++ s ++ ⟨#[45, 45, 62]⟩ ++ b).size ≤ 10000 := by
        rw [ByteArray.size_append, ByteArray.size_append, ByteArray.size_append]
        show 4 + s.size + 3 + b.size ≤ 10000
        omega
      have HR := Lib.hid (read_any _ false w HM.out hz)
      rw [hbk] at HR
      have n1 : ¬ 9223372036854775807 < 4 + s.size := by omega
      have n2 : ¬ 9223372036854775807 < 4 + s.size + 3 := by omega
      have n3 : ¬ 9223372036854775807 < 4 + s.size + 3 + b.size := by omega
      have HS := Lib.hid (fun W => same_any ⟨4, ByteArray.empty, s, s.size + 7, true⟩ W)
      unfold remV at HS
      simp only at HS
      clear hbk hz HBk
      go_enter Try.func5, Try.ntmps5
      go_wp2_with fail
      refine HP0.out.mono ?_
      rintro e w' ⟨rfl, rfl⟩
      go_wp2_with fail
      refine HP1.out.mono ?_
      rintro e w' ⟨rfl, rfl⟩
      go_wp2_with fail
      refine HC0.out.mono ?_
      rintro e w' ⟨rfl, rfl⟩
      go_wp2_with fail
      refine HC1.out.mono ?_
      rintro e w' ⟨rfl, rfl⟩
      go_wp2_with fail
      refine HR.out.mono ?_
      rintro e w1 ⟨rfl, hbl⟩
      have HB1 : Hid (Below w.heap.size w w1) := Lib.hid hbl
      have HB2 := k1_below HB1 ⟨4, ByteArray.empty, s, s.size + 7, true⟩
      have HK2 := Lib.hid (Kept.made w1 ⟨4, ByteArray.empty, s, s.size + 7, true⟩)
      clear hbl HR HB1 HP0 HP1 HC0 HC1
      unfold remV
      go_upto_region 4 with fail
      show Code.wp _ _ _ _ (K1 w1 ⟨4, ByteArray.empty, s, s.size + 7, true⟩)
      obtain ⟨w2, ew⟩ : ∃ w2, w2 = K1 w1 ⟨4, ByteArray.empty, s, s.size + 7, true⟩ := ⟨_, rfl⟩
      rw [show w1.alloc (.cells (tokC 4 ByteArray.empty s) 25) = w2 from ew.symm] at HK2
      rw [← ew] at HB2 ⊢
      clear ew
      obtain ⟨c0, c1, c2, c3, c4⟩ := HK2.out.row
      simp only at c0 c1 c2 c3 c4
      go_wp2_with fail
      refine (HS.out _).mono ?_
      rintro e w5 ⟨rfl, hbl⟩
      have HB5 := below_step HB2 hbl
      clear hbl c0 c1 c2 c3 c4 HS HK2
      go_wp2_with fail
      refine (awake_any _ (HM.out.below HB5.out)).mono ?_
      rintro e w6 ⟨rfl, hbl⟩
      have HB6 := below_step HB5 hbl
      clear hbl
      go_wp2
      go_ret
      exact ⟨rfl, HB6.out⟩
    · clear HBk
      cases q0 with
      | true =>
        clear hq HP1 HC0 HC1
        go_enter Try.func5, Try.ntmps5
        go_wp2_with fail
        refine HP0.out.mono ?_
        rintro e w' ⟨rfl, rfl⟩
        go_wp2_with fail
        refine (awake_any _ HM.out).mono ?_
        rintro e w6 ⟨rfl, hbl⟩
        have HB6 := Lib.hid hbl
        clear hbl
        go_wp2
        go_ret
        exact ⟨rfl, HB6.out⟩
      | false =>
        cases q1 with
        | true =>
          clear hq HC0 HC1
          go_enter Try.func5, Try.ntmps5
          go_wp2_with fail
          refine HP0.out.mono ?_
          rintro e w' ⟨rfl, rfl⟩
          go_wp2_with fail
          refine HP1.out.mono ?_
          rintro e w' ⟨rfl, rfl⟩
          go_wp2_with fail
          refine (awake_any _ HM.out).mono ?_
          rintro e w6 ⟨rfl, hbl⟩
          have HB6 := Lib.hid hbl
          clear hbl
          go_wp2
          go_ret
          exact ⟨rfl, HB6.out⟩
        | false =>
          cases q2 with
          | true =>
            clear hq HC1
            go_enter Try.func5, Try.ntmps5
            go_wp2_with fail
            refine HP0.out.mono ?_
            rintro e w' ⟨rfl, rfl⟩
            go_wp2_with fail
            refine HP1.out.mono ?_
            rintro e w' ⟨rfl, rfl⟩
            go_wp2_with fail
            refine HC0.out.mono ?_
            rintro e w' ⟨rfl, rfl⟩
            go_wp2_with fail
            refine (awake_any _ HM.out).mono ?_
            rintro e w6 ⟨rfl, hbl⟩
            have HB6 := Lib.hid hbl
            clear hbl
            go_wp2
            go_ret
            exact ⟨rfl, HB6.out⟩
          | false =>
            have hq3 : q3 = true := by
              cases q3
              · exact absurd ⟨rfl, rfl, rfl, rfl⟩ hq
              · rfl
            subst hq3
            clear hq
            go_enter Try.func5, Try.ntmps5
            go_wp2_with fail
            refine HP0.out.mono ?_
            rintro e w' ⟨rfl, rfl⟩
            go_wp2_with fail
            refine HP1.out.mono ?_
            rintro e w' ⟨rfl, rfl⟩
            go_wp2_with fail
            refine HC0.out.mono ?_
            rintro e w' ⟨rfl, rfl⟩
            go_wp2_with fail
            refine HC1.out.mono ?_
            rintro e w' ⟨rfl, rfl⟩
            go_wp2_with fail
            refine (awake_any _ HM.out).mono ?_
            rintro e w6 ⟨rfl, hbl⟩
            have HB6 := Lib.hid hbl
            clear hbl
            go_wp2
            go_ret
            exact ⟨rfl, HB6.out⟩
end Go.Proofs.Ytdljjfeojccidaa.R
