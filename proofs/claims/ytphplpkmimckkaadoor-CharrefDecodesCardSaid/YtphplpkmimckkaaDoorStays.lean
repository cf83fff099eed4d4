/-
  The walk of the law CharrefStays.
-/
import Derived.Test.YtphplpkmimckkaaDoorLaws
namespace Go.Proofs.YtphplpkmimckkaaDoor
open Go.RowKit Go.Lib

theorem dec_plus (value : Bool) (l : List UInt8) : decS value (mkB (plusL l)) = mkB (plusL l) := by
  unfold decS; rw [mkB_list, dec_same value _ (plus_no l)]
theorem dec_plus_app (value : Bool) (l : List UInt8) (t : ByteArray) : decS value (mkB (plusL l) ++ t) = mkB (plusL l) ++ decS value t := by
  unfold decS
  apply eq_of_list
  rw [mkB_list, ByteArray.data_append, Array.toList_append, mkB_list, dec_plain value _ _ (plus_no l), ByteArray.data_append, Array.toList_append, mkB_list, mkB_list]
theorem plus_size (l : List UInt8) : (mkB (plusL l)).size = l.length := by rw [mkB_size]; unfold plusL; rw [List.length_map]

set_option maxHeartbeats 3200000 in
theorem stays_walk (s t : ByteArray) (value : Bool) (w : World) (hT : StAt w) (hsh : w.ShapedOpen Tryd.prog) (ws : s.size ≤ maxLen) (wt : t.size ≤ maxLen) :
    Calls Tryd.prog 5 #[.string s, .string t, .bool value] w fun e w' => e = .returned (.bool true) ∧ Below w.heap.size w w' := by
  unfold maxLen at ws wt
  have HT := Lib.hid hT
  have HSh := Lib.hid hsh
  clear hT hsh
  have HA : Hid (∀ W, Below w.heap.size w W → Calls Tryd.prog 6 #[] W fun e w' => e = .returned (.bool true) ∧ Below W.heap.size W w') := Lib.hid (fun W hb => awake_any W (HT.out.below hb))
  by_cases h40 : 300 < s.size
  · have h5 : (300 : Int) < s.size := by omega
    clear h40
    go_enter Tryd.func5, Tryd.ntmps5
    go_wp2_with fail
    refine (HA.out w (Below.refl _ _)).mono ?_
    rintro e w1 ⟨rfl, hb⟩
    have HB := Lib.hid hb
    clear hb
    go_wp2
    go_ret
    exact ⟨rfl, HB.out⟩
  have h5 : ¬ (300 : Int) < s.size := by omega
  have hs : s.size ≤ 300 := by omega
  clear h40
  by_cases h300 : 300 < t.size
  · have h6 : (300 : Int) < t.size := by omega
    clear h300
    go_enter Tryd.func5, Tryd.ntmps5
    go_wp2_with fail
    refine (HA.out w (Below.refl _ _)).mono ?_
    rintro e w1 ⟨rfl, hb⟩
    have HB := Lib.hid hb
    clear hb
    go_wp2
    go_ret
    exact ⟨rfl, HB.out⟩
  have h6 : ¬ (300 : Int) < t.size := by omega
  have ht : t.size ≤ 300 := by omega
  clear h300
  have HRA := Lib.hid (Tryd.strings_ReplaceAll_shaped s ⟨#[38]⟩ ⟨#[43]⟩ w HSh.out (by omega) (by decide) (by
    have := countB_le ⟨#[38]⟩ (by decide) s.size s (Nat.le_refl _)
    have e : (ByteArray.mk #[43]).size = 1 := rfl
    rw [e]; omega))
  have hP := plus_size s.data.toList
  rw [size_list] at hP
  have hp : (mkB (plusL s.data.toList)).size ≤ 300 := by omega
  have hd1 := dec_plus value s.data.toList
  have hd2 := dec_plus_app value s.data.toList t
  have hdl : (decS value t).size ≤ 1200 := by
    have := dec_len value t.data.toList
    unfold decS; rw [mkB_size]; rw [size_list] at this; omega
  have HRA' : Hid (Calls Tryd.prog 15 #[.string s, .string ⟨#[38]⟩, .string ⟨#[43]⟩] w fun e w' => e = .returned (.string (mkB (plusL s.data.toList))) ∧ Below w.heap.size w w') := Lib.hid (by
    have := HRA.out
    rw [show (ByteArray.mk #[38]).data.toList = [38] from rfl, show (ByteArray.mk #[43]).data.toList = [43] from rfl, replaceAll_plus] at this
    exact this)
  clear HRA hP
  generalize mkB (plusL s.data.toList) = P at *
  have HD1 : Hid (∀ W, Below w.heap.size w W → Calls Tryd.prog 13 #[.string P, .bool value] W fun e w' => e = .returned (.string P) ∧ Below W.heap.size W w') := Lib.hid (fun W hb => by
    have := decode_any P value W (HT.out.below hb) (by omega)
    rw [hd1] at this; exact this)
  have HD2 : Hid (∀ W, Below w.heap.size w W → Calls Tryd.prog 13 #[.string (P ++ t), .bool value] W fun e w' => e = .returned (.string (P ++ decS value t)) ∧ Below W.heap.size W w') := Lib.hid (fun W hb => by
    have := decode_any (P ++ t) value W (HT.out.below hb) (by rw [ByteArray.size_append]; omega)
    rw [hd2] at this; exact this)
  have HD3 : Hid (∀ W, Below w.heap.size w W → Calls Tryd.prog 13 #[.string t, .bool value] W fun e w' => e = .returned (.string (decS value t)) ∧ Below W.heap.size W w') := Lib.hid (fun W hb => decode_any t value W (HT.out.below hb) (by omega))
  clear hd1 hd2
  generalize decS value t = D at *
  go_enter Tryd.func5, Tryd.ntmps5
  go_wp2_with fail
  refine HRA'.out.mono ?_
  rintro e w1 ⟨rfl, hb⟩
  have HB1 := Lib.hid hb
  clear hb
  go_wp2_with fail
  refine (HD1.out w1 HB1.out).mono ?_
  rintro e w2 ⟨rfl, hb⟩
  have HB2 := below_step HB1 hb
  clear hb
  go_wp2_with fail
  refine (HD2.out w2 HB2.out).mono ?_
  rintro e w3 ⟨rfl, hb⟩
  have HB3 := below_step HB2 hb
  clear hb
  go_wp2_with fail
  refine (HD3.out w3 HB3.out).mono ?_
  rintro e w4 ⟨rfl, hb⟩
  have HB4 := below_step HB3 hb
  clear hb
  go_wp2_with fail
  refine (HA.out w4 HB4.out).mono ?_
  rintro e w7 ⟨rfl, hb⟩
  have HB7 := below_step HB4 hb
  clear hb
  go_wp2
  go_ret
  exact ⟨rfl, HB7.out⟩
end Go.Proofs.YtphplpkmimckkaaDoor
