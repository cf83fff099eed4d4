/-
  The walks of the two laws on kinds, and of 'awake'.
-/
import Derived.Test.YtgnfianpjhhofaaKref
namespace Go.Proofs.Ytgnfianpjhhofaa.K
open Go.RowKit Go.Proofs.Ytgnfianpjhhofaa.W

theorem c_0 : specialK 1 ⟨#[116, 105, 116, 108, 101]⟩ = true := by decide +kernel
theorem c_1 : specialK 1 ⟨#[112]⟩ = false := by decide +kernel
theorem c_2 : isOf 0 ⟨#[98]⟩ formattingB = true := by decide +kernel
theorem c_3 : isOf 0 ⟨#[98, 114]⟩ voidB = true := by decide +kernel
theorem c_4 : isOf 0 ⟨#[104, 54]⟩ headingB = true := by decide +kernel
theorem c_5 : isOf 0 ⟨#[108, 105]⟩ impliedB = true := by decide +kernel
theorem c_6 : inL blockB ⟨#[100, 105, 118]⟩ = true := by decide +kernel
theorem c_7 : isOf 0 ⟨#[116, 100]⟩ markerB = true := by decide +kernel
theorem c_8 : stopsK 2 0 ⟨#[98, 117, 116, 116, 111, 110]⟩ = true := by decide +kernel
theorem c_9 : inL breakoutB ⟨#[98]⟩ = true := by decide +kernel
theorem c_10 : lexedK ⟨#[116, 105, 116, 108, 101]⟩ = 1 := by decide +kernel

set_option maxHeartbeats 3000000 in
theorem awake_any (w : World) :
    Calls Try.prog 12 #[] w fun e w' => e = .returned (.bool true) ∧ Below w.heap.size w w' := by
  go_enter Try.func12, Try.ntmps12
  go_wp2_with fail
  refine (special_any 1 ⟨#[116, 105, 116, 108, 101]⟩ _).mono ?_
  rw [c_0]
  rintro e w0 ⟨rfl, hb⟩
  have HB := Lib.hid hb
  clear hb
  go_wp2_with fail
  refine (special_any 1 ⟨#[112]⟩ _).mono ?_
  rw [c_1]
  rintro e w1 ⟨rfl, hb⟩
  replace HB := below_step HB hb
  clear hb
  go_wp2_with fail
  refine (formatting_any 0 ⟨#[98]⟩ _).mono ?_
  rw [c_2]
  rintro e w2 ⟨rfl, hb⟩
  replace HB := below_step HB hb
  clear hb
  go_wp2_with fail
  refine (void_any 0 ⟨#[98, 114]⟩ _).mono ?_
  rw [c_3]
  rintro e w3 ⟨rfl, hb⟩
  replace HB := below_step HB hb
  clear hb
  go_wp2_with fail
  refine (heading_any 0 ⟨#[104, 54]⟩ _).mono ?_
  rw [c_4]
  rintro e w4 ⟨rfl, hb⟩
  replace HB := below_step HB hb
  clear hb
  go_wp2_with fail
  refine (implied_any 0 ⟨#[108, 105]⟩ _).mono ?_
  rw [c_5]
  rintro e w5 ⟨rfl, hb⟩
  replace HB := below_step HB hb
  clear hb
  go_wp2_with fail
  refine (block_any ⟨#[100, 105, 118]⟩ _).mono ?_
  rw [c_6]
  rintro e w6 ⟨rfl, hb⟩
  replace HB := below_step HB hb
  clear hb
  go_wp2_with fail
  refine (marker_any 0 ⟨#[116, 100]⟩ _).mono ?_
  rw [c_7]
  rintro e w7 ⟨rfl, hb⟩
  replace HB := below_step HB hb
  clear hb
  go_wp2_with fail
  refine (stops_any 2 0 ⟨#[98, 117, 116, 116, 111, 110]⟩ _).mono ?_
  rw [c_8]
  rintro e w8 ⟨rfl, hb⟩
  replace HB := below_step HB hb
  clear hb
  go_wp2_with fail
  refine (breakout_any ⟨#[98]⟩ _).mono ?_
  rw [c_9]
  rintro e w9 ⟨rfl, hb⟩
  replace HB := below_step HB hb
  clear hb
  go_wp2_with fail
  refine (lexed_any ⟨#[116, 105, 116, 108, 101]⟩ _).mono ?_
  rw [c_10]
  rintro e w10 ⟨rfl, hb⟩
  replace HB := below_step HB hb
  clear hb
  go_wp2
  go_ret
  exact ⟨rfl, HB.out⟩

set_option maxHeartbeats 6000000 in
theorem tell_walk (scope space : Int) (name : ByteArray) (w : World) (hn : name.size ≤ maxLen) :
    Calls Try.prog 4 #[.int .i64 scope, .int .i64 space, .string name] w fun e w' => e = .returned (.bool true) ∧ Below w.heap.size w w' := by
  unfold maxLen at hn
  by_cases h60 : 60 < name.size
  · have h6 : (60 : Int) < name.size := by omega
    clear h60
    go_enter Try.func4, Try.ntmps4
    go_wp2_with fail
    refine (awake_any _).mono ?_
    rintro e w1 ⟨rfl, hb⟩
    have HB := Lib.hid hb
    clear hb
    go_wp2
    go_ret
    exact ⟨rfl, HB.out⟩
  have h6 : ¬ (60 : Int) < name.size := by omega
  clear h60
  have HP0 := Lib.hid (fun W => special_any space name W)
  have HR0 := Lib.hid (fun W => rspecial_any space name W)
  generalize specialK space name = v0 at *
  have HP1 := Lib.hid (fun W => formatting_any space name W)
  have HR1 := Lib.hid (fun W => rformatting_any space name W)
  generalize isOf space name formattingB = v1 at *
  have HP2 := Lib.hid (fun W => void_any space name W)
  have HR2 := Lib.hid (fun W => rvoid_any space name W)
  generalize isOf space name voidB = v2 at *
  have HP3 := Lib.hid (fun W => heading_any space name W)
  have HR3 := Lib.hid (fun W => rheading_any space name W)
  generalize isOf space name headingB = v3 at *
  have HP4 := Lib.hid (fun W => implied_any space name W)
  have HR4 := Lib.hid (fun W => rimplied_any space name W)
  generalize isOf space name impliedB = v4 at *
  have HP5 := Lib.hid (fun W => block_any name W)
  have HR5 := Lib.hid (fun W => rblock_any name W)
  generalize inL blockB name = v5 at *
  have HP6 := Lib.hid (fun W => marker_any space name W)
  have HR6 := Lib.hid (fun W => rmarker_any space name W)
  generalize isOf space name markerB = v6 at *
  have HP7 := Lib.hid (fun W => stops_any scope space name W)
  have HR7 := Lib.hid (fun W => rstops_any scope space name W)
  generalize stopsK scope space name = v7 at *
  have HP8 := Lib.hid (fun W => breakout_any name W)
  have HR8 := Lib.hid (fun W => rbreakout_any name W)
  generalize inL breakoutB name = v8 at *
  have HP9 := Lib.hid (fun W => lexed_any name W)
  have HR9 := Lib.hid (fun W => rlexed_any name W)
  generalize lexedK name = v9 at *
  go_enter Try.func4, Try.ntmps4
  go_wp2_with fail
  refine (HP0.out _).mono ?_
  rintro e w0 ⟨rfl, hb⟩
  have HB := Lib.hid hb
  clear hb
  go_wp2_with fail
  refine (HR0.out _).mono ?_
  rintro e w1 ⟨rfl, hb⟩
  replace HB := below_step HB hb
  clear hb
  go_wp2_with fail
  refine (HP1.out _).mono ?_
  rintro e w2 ⟨rfl, hb⟩
  replace HB := below_step HB hb
  clear hb
  go_wp2_with fail
  refine (HR1.out _).mono ?_
  rintro e w3 ⟨rfl, hb⟩
  replace HB := below_step HB hb
  clear hb
  go_wp2_with fail
  refine (HP2.out _).mono ?_
  rintro e w4 ⟨rfl, hb⟩
  replace HB := below_step HB hb
  clear hb
  go_wp2_with fail
  refine (HR2.out _).mono ?_
  rintro e w5 ⟨rfl, hb⟩
  replace HB := below_step HB hb
  clear hb
  go_wp2_with fail
  refine (HP3.out _).mono ?_
  rintro e w6 ⟨rfl, hb⟩
  replace HB := below_step HB hb
  clear hb
  go_wp2_with fail
  refine (HR3.out _).mono ?_
  rintro e w7 ⟨rfl, hb⟩
  replace HB := below_step HB hb
  clear hb
  go_wp2_with fail
  refine (HP4.out _).mono ?_
  rintro e w8 ⟨rfl, hb⟩
  replace HB := below_step HB hb
  clear hb
  go_wp2_with fail
  refine (HR4.out _).mono ?_
  rintro e w9 ⟨rfl, hb⟩
  replace HB := below_step HB hb
  clear hb
  go_wp2_with fail
  refine (HP5.out _).mono ?_
  rintro e w10 ⟨rfl, hb⟩
  replace HB := below_step HB hb
  clear hb
  go_wp2_with fail
  refine (HR5.out _).mono ?_
  rintro e w11 ⟨rfl, hb⟩
  replace HB := below_step HB hb
  clear hb
  go_wp2_with fail
  refine (HP6.out _).mono ?_
  rintro e w12 ⟨rfl, hb⟩
  replace HB := below_step HB hb
  clear hb
  go_wp2_with fail
  refine (HR6.out _).mono ?_
  rintro e w13 ⟨rfl, hb⟩
  replace HB := below_step HB hb
  clear hb
  go_wp2_with fail
  refine (HP7.out _).mono ?_
  rintro e w14 ⟨rfl, hb⟩
  replace HB := below_step HB hb
  clear hb
  go_wp2_with fail
  refine (HR7.out _).mono ?_
  rintro e w15 ⟨rfl, hb⟩
  replace HB := below_step HB hb
  clear hb
  go_wp2_with fail
  refine (HP8.out _).mono ?_
  rintro e w16 ⟨rfl, hb⟩
  replace HB := below_step HB hb
  clear hb
  go_wp2_with fail
  refine (HR8.out _).mono ?_
  rintro e w17 ⟨rfl, hb⟩
  replace HB := below_step HB hb
  clear hb
  go_wp2_with fail
  refine (HP9.out _).mono ?_
  rintro e w18 ⟨rfl, hb⟩
  replace HB := below_step HB hb
  clear hb
  go_wp2_with fail
  refine (HR9.out _).mono ?_
  rintro e w19 ⟨rfl, hb⟩
  replace HB := below_step HB hb
  clear hb
  go_wp2_with fail
  refine (awake_any _).mono ?_
  rintro e w99 ⟨rfl, hb⟩
  replace HB := below_step HB hb
  clear hb
  go_wp2
  go_ret
  exact ⟨rfl, HB.out⟩

set_option maxHeartbeats 6000000 in
theorem agree_walk (space : Int) (name : ByteArray) (w : World) (hn : name.size ≤ maxLen) :
    Calls Try.prog 5 #[.int .i64 space, .string name] w fun e w' => e = .returned (.bool true) ∧ Below w.heap.size w w' := by
  unfold maxLen at hn
  by_cases h60 : 60 < name.size
  · have h6 : (60 : Int) < name.size := by omega
    clear h60
    go_enter Try.func5, Try.ntmps5
    go_wp2_with fail
    refine (awake_any _).mono ?_
    rintro e w1 ⟨rfl, hb⟩
    have HB := Lib.hid hb
    clear hb
    go_wp2
    go_ret
    exact ⟨rfl, HB.out⟩
  have h6 : ¬ (60 : Int) < name.size := by omega
  clear h60
  have k1 := @headingVoid_special space name
  have k2 := @stops_sub space name
  have HH := Lib.hid (fun W => heading_any space name W)
  have HV := Lib.hid (fun W => void_any space name W)
  have HS := Lib.hid (fun W => special_any space name W)
  have HT : Hid (∀ W, Calls Try.prog 27 #[.int .i64 3, .int .i64 space, .string name] W fun e w' => e = .returned (.bool (isOf space name stopsTableB)) ∧ Below W.heap.size W w') := Lib.hid (fun W => stops_any 3 space name W)
  have HD : Hid (∀ W, Calls Try.prog 27 #[.int .i64 0, .int .i64 space, .string name] W fun e w' => e = .returned (.bool (fewK space name)) ∧ Below W.heap.size W w') := Lib.hid (fun W => stops_any 0 space name W)
  have HI : Hid (∀ W, Calls Try.prog 27 #[.int .i64 1, .int .i64 space, .string name] W fun e w' => e = .returned (.bool (fewK space name || isOf space name stopsItemB)) ∧ Below W.heap.size W w') := Lib.hid (fun W => stops_any 1 space name W)
  have HU : Hid (∀ W, Calls Try.prog 27 #[.int .i64 2, .int .i64 space, .string name] W fun e w' => e = .returned (.bool (fewK space name || isOf space name stopsButtonB)) ∧ Below W.heap.size W w') := Lib.hid (fun W => stops_any 2 space name W)
  generalize isOf space name stopsItemB = i at *
  generalize isOf space name stopsButtonB = u at *
  generalize isOf space name headingB = h at *
  generalize isOf space name voidB = v at *
  generalize specialK space name = s at *
  generalize isOf space name stopsTableB = t at *
  generalize fewK space name = d at *
  cases h with
  | true =>
    obtain rfl : s = true := k1 rfl
    clear k1
    cases t with
    | true =>
      obtain rfl : d = true := k2 rfl
      clear k2
      go_enter Try.func5, Try.ntmps5
      go_wp2_with fail
      refine (HH.out _).mono ?_
      rintro e w1 ⟨rfl, hb⟩
      have HB := Lib.hid hb
      clear hb
      go_wp2_with fail
      refine (HS.out _).mono ?_
      rintro e w2 ⟨rfl, hb⟩
      replace HB := below_step HB hb
      clear hb
      go_wp2_with fail
      refine (HT.out _).mono ?_
      rintro e w3 ⟨rfl, hb⟩
      replace HB := below_step HB hb
      clear hb
      go_wp2_with fail
      refine (HD.out _).mono ?_
      rintro e w4 ⟨rfl, hb⟩
      replace HB := below_step HB hb
      clear hb
      go_wp2_with fail
      refine (HD.out _).mono ?_
      rintro e w5 ⟨rfl, hb⟩
      replace HB := below_step HB hb
      clear hb
      go_wp2_with fail
      refine (HI.out _).mono ?_
      rintro e w6 ⟨rfl, hb⟩
      replace HB := below_step HB hb
      clear hb
      go_wp2_with fail
      refine (HU.out _).mono ?_
      rintro e w7 ⟨rfl, hb⟩
      replace HB := below_step HB hb
      clear hb
      go_wp2_with fail
      refine (awake_any _).mono ?_
      rintro e w8 ⟨rfl, hb⟩
      replace HB := below_step HB hb
      clear hb
      go_wp2
      go_ret
      exact ⟨rfl, HB.out⟩
    | false =>
      clear k2
      cases d with
      | true =>
        go_enter Try.func5, Try.ntmps5
        go_wp2_with fail
        refine (HH.out _).mono ?_
        rintro e w1 ⟨rfl, hb⟩
        have HB := Lib.hid hb
        clear hb
        go_wp2_with fail
        refine (HS.out _).mono ?_
        rintro e w2 ⟨rfl, hb⟩
        replace HB := below_step HB hb
        clear hb
        go_wp2_with fail
        refine (HT.out _).mono ?_
        rintro e w3 ⟨rfl, hb⟩
        replace HB := below_step HB hb
        clear hb
        go_wp2_with fail
        refine (HD.out _).mono ?_
        rintro e w4 ⟨rfl, hb⟩
        replace HB := below_step HB hb
        clear hb
        go_wp2_with fail
        refine (HI.out _).mono ?_
        rintro e w5 ⟨rfl, hb⟩
        replace HB := below_step HB hb
        clear hb
        go_wp2_with fail
        refine (HU.out _).mono ?_
        rintro e w6 ⟨rfl, hb⟩
        replace HB := below_step HB hb
        clear hb
        go_wp2_with fail
        refine (awake_any _).mono ?_
        rintro e w7 ⟨rfl, hb⟩
        replace HB := below_step HB hb
        clear hb
        go_wp2
        go_ret
        exact ⟨rfl, HB.out⟩
      | false =>
        go_enter Try.func5, Try.ntmps5
        go_wp2_with fail
        refine (HH.out _).mono ?_
        rintro e w1 ⟨rfl, hb⟩
        have HB := Lib.hid hb
        clear hb
        go_wp2_with fail
        refine (HS.out _).mono ?_
        rintro e w2 ⟨rfl, hb⟩
        replace HB := below_step HB hb
        clear hb
        go_wp2_with fail
        refine (HT.out _).mono ?_
        rintro e w3 ⟨rfl, hb⟩
        replace HB := below_step HB hb
        clear hb
        go_wp2_with fail
        refine (HD.out _).mono ?_
        rintro e w4 ⟨rfl, hb⟩
        replace HB := below_step HB hb
        clear hb
        go_wp2_with fail
        refine (awake_any _).mono ?_
        rintro e w5 ⟨rfl, hb⟩
        replace HB := below_step HB hb
        clear hb
        go_wp2
        go_ret
        exact ⟨rfl, HB.out⟩
  | false =>
    cases v with
    | true =>
      obtain rfl : s = true := k1 rfl
      clear k1
      cases t with
      | true =>
        obtain rfl : d = true := k2 rfl
        clear k2
        go_enter Try.func5, Try.ntmps5
        go_wp2_with fail
        refine (HH.out _).mono ?_
        rintro e w1 ⟨rfl, hb⟩
        have HB := Lib.hid hb
        clear hb
        go_wp2_with fail
        refine (HV.out _).mono ?_
        rintro e w2 ⟨rfl, hb⟩
        replace HB := below_step HB hb
        clear hb
        go_wp2_with fail
        refine (HS.out _).mono ?_
        rintro e w3 ⟨rfl, hb⟩
        replace HB := below_step HB hb
        clear hb
        go_wp2_with fail
        refine (HT.out _).mono ?_
        rintro e w4 ⟨rfl, hb⟩
        replace HB := below_step HB hb
        clear hb
        go_wp2_with fail
        refine (HD.out _).mono ?_
        rintro e w5 ⟨rfl, hb⟩
        replace HB := below_step HB hb
        clear hb
        go_wp2_with fail
        refine (HD.out _).mono ?_
        rintro e w6 ⟨rfl, hb⟩
        replace HB := below_step HB hb
        clear hb
        go_wp2_with fail
        refine (HI.out _).mono ?_
        rintro e w7 ⟨rfl, hb⟩
        replace HB := below_step HB hb
        clear hb
        go_wp2_with fail
        refine (HU.out _).mono ?_
        rintro e w8 ⟨rfl, hb⟩
        replace HB := below_step HB hb
        clear hb
        go_wp2_with fail
        refine (awake_any _).mono ?_
        rintro e w9 ⟨rfl, hb⟩
        replace HB := below_step HB hb
        clear hb
        go_wp2
        go_ret
        exact ⟨rfl, HB.out⟩
      | false =>
        clear k2
        cases d with
        | true =>
          go_enter Try.func5, Try.ntmps5
          go_wp2_with fail
          refine (HH.out _).mono ?_
          rintro e w1 ⟨rfl, hb⟩
          have HB := Lib.hid hb
          clear hb
          go_wp2_with fail
          refine (HV.out _).mono ?_
          rintro e w2 ⟨rfl, hb⟩
          replace HB := below_step HB hb
          clear hb
          go_wp2_with fail
          refine (HS.out _).mono ?_
          rintro e w3 ⟨rfl, hb⟩
          replace HB := below_step HB hb
          clear hb
          go_wp2_with fail
          refine (HT.out _).mono ?_
          rintro e w4 ⟨rfl, hb⟩
          replace HB := below_step HB hb
          clear hb
          go_wp2_with fail
          refine (HD.out _).mono ?_
          rintro e w5 ⟨rfl, hb⟩
          replace HB := below_step HB hb
          clear hb
          go_wp2_with fail
          refine (HI.out _).mono ?_
          rintro e w6 ⟨rfl, hb⟩
          replace HB := below_step HB hb
          clear hb
          go_wp2_with fail
          refine (HU.out _).mono ?_
          rintro e w7 ⟨rfl, hb⟩
          replace HB := below_step HB hb
          clear hb
          go_wp2_with fail
          refine (awake_any _).mono ?_
          rintro e w8 ⟨rfl, hb⟩
          replace HB := below_step HB hb
          clear hb
          go_wp2
          go_ret
          exact ⟨rfl, HB.out⟩
        | false =>
          go_enter Try.func5, Try.ntmps5
          go_wp2_with fail
          refine (HH.out _).mono ?_
          rintro e w1 ⟨rfl, hb⟩
          have HB := Lib.hid hb
          clear hb
          go_wp2_with fail
          refine (HV.out _).mono ?_
          rintro e w2 ⟨rfl, hb⟩
          replace HB := below_step HB hb
          clear hb
          go_wp2_with fail
          refine (HS.out _).mono ?_
          rintro e w3 ⟨rfl, hb⟩
          replace HB := below_step HB hb
          clear hb
          go_wp2_with fail
          refine (HT.out _).mono ?_
          rintro e w4 ⟨rfl, hb⟩
          replace HB := below_step HB hb
          clear hb
          go_wp2_with fail
          refine (HD.out _).mono ?_
          rintro e w5 ⟨rfl, hb⟩
          replace HB := below_step HB hb
          clear hb
          go_wp2_with fail
          refine (awake_any _).mono ?_
          rintro e w6 ⟨rfl, hb⟩
          replace HB := below_step HB hb
          clear hb
          go_wp2
          go_ret
          exact ⟨rfl, HB.out⟩
    | false =>
      clear k1
      cases t with
      | true =>
        obtain rfl : d = true := k2 rfl
        clear k2
        go_enter Try.func5, Try.ntmps5
        go_wp2_with fail
        refine (HH.out _).mono ?_
        rintro e w1 ⟨rfl, hb⟩
        have HB := Lib.hid hb
        clear hb
        go_wp2_with fail
        refine (HV.out _).mono ?_
        rintro e w2 ⟨rfl, hb⟩
        replace HB := below_step HB hb
        clear hb
        go_wp2_with fail
        refine (HT.out _).mono ?_
        rintro e w3 ⟨rfl, hb⟩
        replace HB := below_step HB hb
        clear hb
        go_wp2_with fail
        refine (HD.out _).mono ?_
        rintro e w4 ⟨rfl, hb⟩
        replace HB := below_step HB hb
        clear hb
        go_wp2_with fail
        refine (HD.out _).mono ?_
        rintro e w5 ⟨rfl, hb⟩
        replace HB := below_step HB hb
        clear hb
        go_wp2_with fail
        refine (HI.out _).mono ?_
        rintro e w6 ⟨rfl, hb⟩
        replace HB := below_step HB hb
        clear hb
        go_wp2_with fail
        refine (HU.out _).mono ?_
        rintro e w7 ⟨rfl, hb⟩
        replace HB := below_step HB hb
        clear hb
        go_wp2_with fail
        refine (awake_any _).mono ?_
        rintro e w8 ⟨rfl, hb⟩
        replace HB := below_step HB hb
        clear hb
        go_wp2
        go_ret
        exact ⟨rfl, HB.out⟩
      | false =>
        clear k2
        cases d with
        | true =>
          go_enter Try.func5, Try.ntmps5
          go_wp2_with fail
          refine (HH.out _).mono ?_
          rintro e w1 ⟨rfl, hb⟩
          have HB := Lib.hid hb
          clear hb
          go_wp2_with fail
          refine (HV.out _).mono ?_
          rintro e w2 ⟨rfl, hb⟩
          replace HB := below_step HB hb
          clear hb
          go_wp2_with fail
          refine (HT.out _).mono ?_
          rintro e w3 ⟨rfl, hb⟩
          replace HB := below_step HB hb
          clear hb
          go_wp2_with fail
          refine (HD.out _).mono ?_
          rintro e w4 ⟨rfl, hb⟩
          replace HB := below_step HB hb
          clear hb
          go_wp2_with fail
          refine (HI.out _).mono ?_
          rintro e w5 ⟨rfl, hb⟩
          replace HB := below_step HB hb
          clear hb
          go_wp2_with fail
          refine (HU.out _).mono ?_
          rintro e w6 ⟨rfl, hb⟩
          replace HB := below_step HB hb
          clear hb
          go_wp2_with fail
          refine (awake_any _).mono ?_
          rintro e w7 ⟨rfl, hb⟩
          replace HB := below_step HB hb
          clear hb
          go_wp2
          go_ret
          exact ⟨rfl, HB.out⟩
        | false =>
          go_enter Try.func5, Try.ntmps5
          go_wp2_with fail
          refine (HH.out _).mono ?_
          rintro e w1 ⟨rfl, hb⟩
          have HB := Lib.hid hb
          clear hb
          go_wp2_with fail
          refine (HV.out _).mono ?_
          rintro e w2 ⟨rfl, hb⟩
          replace HB := below_step HB hb
          clear hb
          go_wp2_with fail
          refine (HT.out _).mono ?_
          rintro e w3 ⟨rfl, hb⟩
          replace HB := below_step HB hb
          clear hb
          go_wp2_with fail
          refine (HD.out _).mono ?_
          rintro e w4 ⟨rfl, hb⟩
          replace HB := below_step HB hb
          clear hb
          go_wp2_with fail
          refine (awake_any _).mono ?_
          rintro e w5 ⟨rfl, hb⟩
          replace HB := below_step HB hb
          clear hb
          go_wp2
          go_ret
          exact ⟨rfl, HB.out⟩
end Go.Proofs.Ytgnfianpjhhofaa.K
