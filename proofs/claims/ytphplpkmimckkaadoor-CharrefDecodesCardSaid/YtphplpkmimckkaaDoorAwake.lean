/-
  The walk of 'awake': some answers that the document fixes.
-/
import Derived.Test.YtphplpkmimckkaaDoorRdecode
namespace Go.Proofs.YtphplpkmimckkaaDoor
open Go.RowKit Go.Lib

theorem below_step {w w1 w2 : World} (h : Hid (Below w.heap.size w w1)) (h2 : Below w1.heap.size w1 w2) : Hid (Below w.heap.size w w2) := Lib.hid (h.out.trans (h2.mono h.out.size))
theorem e172 : encS 172 = ⟨#[194, 172]⟩ := by decide
theorem e38 : encS 38 = ⟨#[38]⟩ := by decide
theorem e8364 : encS 8364 = ⟨#[226, 130, 172]⟩ := by decide
theorem e8713 : encS 8713 = ⟨#[226, 136, 137]⟩ := by decide
theorem e65 : encS 65 = ⟨#[65]⟩ := by decide
theorem e60 : encS 60 = ⟨#[60]⟩ := by decide
theorem c_not : rd [38, 110, 111, 116, 105, 116, 59] false = (⟨#[194, 172]⟩, 4) := by
  have : rd [38, 110, 111, 116, 105, 116, 59] false = (encS 172, 4) := by rfl
  rw [this, e172]
theorem c_copy : rd [38, 99, 111, 112, 121, 61, 49] true = noRef := by rfl
theorem c_amp : nm [97, 109, 112] = 38 := by rfl
theorem c_dec : dec false [38, 110, 111, 116, 105, 110, 59, 38, 35, 120, 52, 49, 59, 38, 108, 116] = [226, 136, 137, 65, 60] := by
  have h1 : rd [38, 110, 111, 116, 105, 110, 59, 38, 35, 120, 52, 49, 59, 38, 108, 116] false = (encS 8713, 7) := by rfl
  have h2 : rd [38, 35, 120, 52, 49, 59, 38, 108, 116] false = (encS 65, 6) := by rfl
  have h3 : rd [38, 108, 116] false = (encS 60, 3) := by rfl
  rw [dec_ref false _ (by rw [h1]; simp), h1]
  show _ ++ dec false [38, 35, 120, 52, 49, 59, 38, 108, 116] = _
  rw [dec_ref false _ (by rw [h2]; simp), h2]
  show _ ++ (_ ++ dec false [38, 108, 116]) = _
  rw [dec_ref false _ (by rw [h3]; simp), h3]
  show _ ++ (_ ++ (_ ++ dec false [])) = _
  rw [e8713, e65, e60, dec_nil]; rfl
set_option maxHeartbeats 3200000 in
theorem awake_any (w : World) (hT : StAt w) :
    Calls Tryd.prog 6 #[] w fun e w' => e = .returned (.bool true) ∧ Below w.heap.size w w' := by
  have HT := Lib.hid hT
  have HB := Lib.hid (Below.refl w.heap.size w)
  clear hT
  have HR1 : Hid (∀ W, Below w.heap.size w W → Calls Tryd.prog 9 #[.string ⟨#[38, 110, 111, 116, 105, 116, 59]⟩, .bool false] W fun e w' => e = .returned (.tuple #[.string ⟨#[194, 172]⟩, .int .i64 4]) ∧ Below W.heap.size W w') := Lib.hid (fun W hb => by
    have := read_any ⟨#[38, 110, 111, 116, 105, 116, 59]⟩ false W (HT.out.below hb) (by decide)
    unfold RefPost at this
    rw [show (ByteArray.mk #[38, 110, 111, 116, 105, 116, 59]).data.toList = [38, 110, 111, 116, 105, 116, 59] from rfl, c_not] at this
    exact this)
  have HR2 : Hid (∀ W, Below w.heap.size w W → Calls Tryd.prog 9 #[.string ⟨#[38, 99, 111, 112, 121, 61, 49]⟩, .bool true] W fun e w' => e = .returned (.tuple #[.string ByteArray.empty, .int .i64 0]) ∧ Below W.heap.size W w') := Lib.hid (fun W hb => by
    have := read_any ⟨#[38, 99, 111, 112, 121, 61, 49]⟩ true W (HT.out.below hb) (by decide)
    unfold RefPost at this
    rw [show (ByteArray.mk #[38, 99, 111, 112, 121, 61, 49]).data.toList = [38, 99, 111, 112, 121, 61, 49] from rfl, c_copy] at this
    exact this)
  have HN : Hid (∀ W, Calls Tryd.prog 7 #[.string ⟨#[97, 109, 112]⟩] W fun e w' => e = .returned (.tuple #[.string ⟨#[38]⟩, .bool true]) ∧ Below W.heap.size W w') := Lib.hid (fun W => by
    have := named_any ⟨#[97, 109, 112]⟩ W (by decide)
    unfold NamedPost nmTx nmOk at this
    rw [show (ByteArray.mk #[97, 109, 112]).data.toList = [97, 109, 112] from rfl, c_amp, if_neg (by omega), e38] at this
    exact this)
  have HM : Hid (∀ W, Below w.heap.size w W → Calls Tryd.prog 11 #[.int .i64 128] W fun e w' => e = .returned (.string ⟨#[226, 130, 172]⟩) ∧ W = w') := Lib.hid (fun W hb => by
    have := numbered_any 128 W (HT.out.below hb) (by omega) (by omega)
    rw [show numS 128 = encS 8364 from rfl, e8364] at this
    exact this)
  have HD : Hid (∀ W, Below w.heap.size w W → Calls Tryd.prog 13 #[.string ⟨#[38, 110, 111, 116, 105, 110, 59, 38, 35, 120, 52, 49, 59, 38, 108, 116]⟩, .bool false] W fun e w' => e = .returned (.string ⟨#[226, 136, 137, 65, 60]⟩) ∧ Below W.heap.size W w') := Lib.hid (fun W hb => by
    have := decode_any ⟨#[38, 110, 111, 116, 105, 110, 59, 38, 35, 120, 52, 49, 59, 38, 108, 116]⟩ false W (HT.out.below hb) (by decide)
    unfold decS at this
    rw [show (ByteArray.mk #[38, 110, 111, 116, 105, 110, 59, 38, 35, 120, 52, 49, 59, 38, 108, 116]).data.toList = [38, 110, 111, 116, 105, 110, 59, 38, 35, 120, 52, 49, 59, 38, 108, 116] from rfl, c_dec] at this
    exact this)
  go_enter Tryd.func6, Tryd.ntmps6
  go_wp2_with fail
  refine (HR1.out _ HB.out).mono ?_
  rintro e w1 ⟨rfl, hb⟩
  replace HB := below_step HB hb
  clear hb
  go_wp2_with fail
  refine (HR2.out _ HB.out).mono ?_
  rintro e w2 ⟨rfl, hb⟩
  replace HB := below_step HB hb
  clear hb
  go_wp2_with fail
  refine (HN.out _).mono ?_
  rintro e w3 ⟨rfl, hb⟩
  replace HB := below_step HB hb
  clear hb
  go_wp2_with fail
  refine (HM.out _ HB.out).mono ?_
  rintro e w4 ⟨rfl, rfl⟩
  go_wp2_with fail
  refine (HD.out _ HB.out).mono ?_
  rintro e w5 ⟨rfl, hb⟩
  replace HB := below_step HB hb
  clear hb
  go_wp2
  go_ret
  exact ⟨rfl, HB.out⟩
end Go.Proofs.YtphplpkmimckkaaDoor
