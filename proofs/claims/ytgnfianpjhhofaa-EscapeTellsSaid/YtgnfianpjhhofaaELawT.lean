/-
  The walk of EscapeTells.
-/
import Derived.Test.YtgnfianpjhhofaaEAwake
import Derived.Test.YtgnfianpjhhofaaERwrite
namespace Go.Proofs.Ytgnfianpjhhofaa.E
open Go.RowKit Go.Proofs.Ytgnfianpjhhofaa.C

set_option maxHeartbeats 3000000 in
theorem tells_walk (s : ByteArray) (w : World) (ws : s.size ≤ maxLen) :
    Calls Try.prog 3 #[.string s] w fun e w' => e = .returned (.bool true) ∧ Below w.heap.size w w' := by
  unfold maxLen at ws
  by_cases h400 : 400 < s.size
  · have h4 : (400 : Int) < s.size := by omega
    clear h400
    go_enter Try.func3, Try.ntmps3
    go_wp2_with fail
    refine (awake_any _).mono ?_
    rintro e w1 ⟨rfl, hb⟩
    have HB := Lib.hid hb
    clear hb
    go_wp2
    go_ret
    exact ⟨rfl, HB.out⟩
  · have h4 : ¬ (400 : Int) < s.size := by omega
    have hs : s.size ≤ 1000000 := by omega
    have HT := Lib.hid (fun W => text_any s W hs)
    have HV := Lib.hid (fun W => value_any s W hs)
    have HZ := Lib.hid (fun W => Size_any s W hs)
    have HRT := Lib.hid (fun W => rtext_any s W hs)
    have HRV := Lib.hid (fun W => rvalue_any s W hs)
    generalize escS false s = t at *
    generalize escS true s = v at *
    clear h400
    go_enter Try.func3, Try.ntmps3
    go_wp2_with fail
    refine (HT.out _).mono ?_
    rintro e w1 ⟨rfl, hb⟩
    have HB := Lib.hid hb
    clear hb
    go_wp2_with fail
    refine (HRT.out _).mono ?_
    rintro e w2 ⟨rfl, rfl⟩
    go_wp2_with fail
    refine (HV.out _).mono ?_
    rintro e w2 ⟨rfl, hb⟩
    replace HB := below_step HB hb
    clear hb
    go_wp2_with fail
    refine (HRV.out _).mono ?_
    rintro e w3 ⟨rfl, rfl⟩
    go_wp2_with fail
    refine (HZ.out _).mono ?_
    rintro e w3 ⟨rfl, hb⟩
    replace HB := below_step HB hb
    clear hb
    go_wp2_with fail
    refine (HRV.out _).mono ?_
    rintro e w4 ⟨rfl, rfl⟩
    go_wp2_with fail
    refine (awake_any _).mono ?_
    rintro e w5 ⟨rfl, hb⟩
    replace HB := below_step HB hb
    clear hb
    go_wp2
    go_ret
    exact ⟨rfl, HB.out⟩
end Go.Proofs.Ytgnfianpjhhofaa.E
