/-
  The walk of EscapeBack.
-/
import Derived.Test.YtgnfianpjhhofaaDoorEAwake
import Derived.Test.YtgnfianpjhhofaaDoorEAny
import Derived.Test.YtgnfianpjhhofaaDoorCDecode
namespace Go.Proofs.YtgnfianpjhhofaaDoor.E
open Go.RowKit Go.Proofs.YtgnfianpjhhofaaDoor.C Go.Lib

theorem back_dec (q v : Bool) (s : ByteArray) : decS v (escS q s) = s := by
  apply eq_of_list
  unfold decS
  rw [mkB_list, escS_list, dec_esc]
theorem no_signs (s : ByteArray) : ∀ b ∈ (escS false s).data.toList, b ∉ (⟨#[60, 62]⟩ : ByteArray).data.toList := by
  intro b hb hc
  rw [escS_list] at hb
  have hc' : b = 60 ∨ b = 62 := by simpa using hc
  rcases hc' with rfl | rfl
  · exact esc_none false 60 (.inl rfl) _ hb
  · exact esc_none false 62 (.inr (.inl rfl)) _ hb
theorem no_signs_value (s : ByteArray) : ∀ b ∈ (escS true s).data.toList, b ∉ (⟨#[60, 62, 34]⟩ : ByteArray).data.toList := by
  intro b hb hc
  rw [escS_list] at hb
  have hc' : b = 60 ∨ b = 62 ∨ b = 34 := by simpa using hc
  rcases hc' with rfl | rfl | rfl
  · exact esc_none true 60 (.inl rfl) _ hb
  · exact esc_none true 62 (.inr (.inl rfl)) _ hb
  · exact esc_none true 34 (.inr (.inr ⟨rfl, rfl⟩)) _ hb

set_option maxHeartbeats 6000000 in
theorem back_walk (s : ByteArray) (w : World) (hT : StAt w) (ws : s.size ≤ maxLen) :
    Calls Tryd.prog 3 #[.string s] w fun e w' => e = .returned (.bool true) ∧ Below w.heap.size w w' := by
  unfold maxLen at ws
  by_cases h400 : 400 < s.size
  · have h4 : (400 : Int) < s.size := by omega
    clear h400
    go_enter Tryd.func3, Tryd.ntmps3
    go_wp2_with fail
    refine (awake_any _).mono ?_
    rintro e w1 ⟨rfl, hb⟩
    have HB := Lib.hid hb
    clear hb
    go_wp2
    go_ret
    exact ⟨rfl, HB.out⟩
  · have h4 : ¬ (400 : Int) < s.size := by omega
    have hs : s.size ≤ 1000000 := by omega
    have HT := Lib.hid (fun W => text_any s W hs)
    have HV := Lib.hid (fun W => value_any s W hs)
    have ht := escS_le false s
    have hv := escS_le true s
    have HDT : Hid (∀ W, Below w.heap.size w W → Calls Tryd.prog 7 #[.string (escS false s), .bool false] W fun e w' => e = .returned (.string s) ∧ Below W.heap.size W w') := Lib.hid (fun W hW => by
      have h := decode_any (escS false s) false W (hT.below hW) (by omega)
      rw [back_dec] at h; exact h)
    have HDV : Hid (∀ W, Below w.heap.size w W → Calls Tryd.prog 7 #[.string (escS true s), .bool true] W fun e w' => e = .returned (.string s) ∧ Below W.heap.size W w') := Lib.hid (fun W hW => by
      have h := decode_any (escS true s) true W (hT.below hW) (by omega)
      rw [back_dec] at h; exact h)
    have HNT := Lib.hid (fun W => containsAny_none ⟨#[60, 62]⟩ (escS false s) (by decide) (by omega) (by unfold low; decide) (by decide) (no_signs s) W)
    have HNV := Lib.hid (fun W => containsAny_none ⟨#[60, 62, 34]⟩ (escS true s) (by decide) (by omega) (by unfold low; decide) (by decide) (no_signs_value s) W)
    have hv6 : ((escS true s).size : Int) ≤ 6 * (s.size : Int) := by omega
    generalize escS false s = t at *
    generalize escS true s = v at *
    clear h400 hT
    go_enter Tryd.func3, Tryd.ntmps3
    go_wp2_with fail
    refine (HT.out _).mono ?_
    rintro e w1 ⟨rfl, hb⟩
    have HB := Lib.hid hb
    clear hb
    go_wp2_with fail
    refine (HV.out _).mono ?_
    rintro e w2 ⟨rfl, hb⟩
    replace HB := below_step HB hb
    clear hb
    go_wp2_with fail
    refine (HDT.out _ HB.out).mono ?_
    rintro e w3 ⟨rfl, hb⟩
    replace HB := below_step HB hb
    clear hb
    go_wp2_with fail
    refine (HDV.out _ HB.out).mono ?_
    rintro e w4 ⟨rfl, hb⟩
    replace HB := below_step HB hb
    clear hb
    go_wp2_with fail
    refine (HNT.out _).mono ?_
    rintro e w5 ⟨rfl, hb⟩
    replace HB := below_step HB hb
    clear hb
    go_wp2_with fail
    refine (HNV.out _).mono ?_
    rintro e w6 ⟨rfl, hb⟩
    replace HB := below_step HB hb
    clear hb
    go_wp2_with fail
    refine (awake_any _).mono ?_
    rintro e w7 ⟨rfl, hb⟩
    replace HB := below_step HB hb
    clear hb
    go_wp2
    go_ret
    exact ⟨rfl, HB.out⟩
end Go.Proofs.YtgnfianpjhhofaaDoor.E
