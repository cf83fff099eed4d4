/-
  The walk of 'awake': some answers that the document fixes.
-/
import Derived.Test.YtljpiamlbdknlaaDoorRefs
namespace Go.Proofs.YtljpiamlbdknlaaDoor
open Go.RowKit Go.Lib

theorem c_dec : decL [226, 130, 97, 13, 10, 0] = [239, 191, 189, 97, 10, 239, 191, 189] := by decide
theorem c_enc1 : encS 8364 = ⟨#[226, 130, 172]⟩ := by unfold encS; rw [if_pos (by decide)]; decide
theorem c_enc2 : encS 55296 = ⟨#[239, 191, 189]⟩ := by unfold encS; rw [if_neg (by decide)]
theorem c_ok1 : okU [195, 164] = true := by decide
theorem c_ok2 : okU [13] = false := by decide
theorem c_cnt : stL [195, 164, 98] = 2 := by decide
theorem tabs_alloc {w : World} (h : Tabs w) (o : Obj) : Tabs (w.alloc o) := tabs_below h ((Below.refl _ _).alloc (Nat.le_refl _) o) (tabs_size h)

set_option maxHeartbeats 1600000 in
theorem awake_any (w : World) (hT : Tabs w) :
    Calls Tryd.prog 6 #[] w fun e w' => e = .returned (.bool true) ∧ Below w.heap.size w w' := by
  have HT := Lib.hid hT
  have HB := Lib.hid (Below.refl w.heap.size w)
  have ct := c_dec
  have ce1 := c_enc1
  have ce2 := c_enc2
  have cx := c_cnt
  have co1 := c_ok1
  have co2 := c_ok2
  clear hT
  have HD : Hid (∀ (W : World) (g : Nat), Below w.heap.size w W → BytesAt W (some ⟨g, 0, none⟩) [226, 130, 97, 13, 10, 0] → Calls Tryd.prog 7 #[.slice (some ⟨g, 0, none⟩) 6 6] W fun e w' => e = .returned (.string ⟨#[239, 191, 189, 97, 10, 239, 191, 189]⟩) ∧ Below W.heap.size W w') :=
    Lib.hid (fun W g hb hA => by
      have := decode_any (some ⟨g, 0, none⟩) 6 [226, 130, 97, 13, 10, 0] W (tabs_below HT.out hb (tabs_size HT.out)) (by decide) hA
      rw [c_dec] at this
      exact this)
  have HV : Hid (∀ (W : World) (s : ByteArray) (R : Bool), Below w.heap.size w W → s.size ≤ 1000 → okU s.data.toList = R → Calls Tryd.prog 9 #[.string s] W fun e w' => e = .returned (.bool R) ∧ Below W.heap.size W w') :=
    Lib.hid (fun W s R hb hs hR => by
      have := valid_any s W (tabs_below HT.out hb (tabs_size HT.out)) (by unfold maxLen; omega)
      rw [hR] at this
      exact this)
  have HC : Hid (∀ (W : World), Below w.heap.size w W → Calls Tryd.prog 11 #[.string ⟨#[195, 164, 98]⟩] W fun e w' => e = .returned (.int .i64 2) ∧ Below W.heap.size W w') :=
    Lib.hid (fun W hb => count_any ⟨#[195, 164, 98]⟩ W (tabs_below HT.out hb (tabs_size HT.out)) (by decide))
  clear ct cx co1 co2
  go_enter Tryd.func6, Tryd.ntmps6
  go_wp2_with fail
  refine (HD.out _ _ ((Below.refl _ _).alloc (Nat.le_refl _) _) (.inr ⟨_, rfl, ?_⟩)).mono ?_
  · intro j hj
    rw [show (⟨w.heap.size, 0, none⟩ : Addr).add j = ⟨w.heap.size, 0 + j, none⟩ from Go.WideShapes.add_plain .., Nat.zero_add, World.cell?_alloc_new]
    match j, hj with
    | 0, _ => rfl
    | 1, _ => rfl
    | 2, _ => rfl
    | 3, _ => rfl
    | 4, _ => rfl
    | 5, _ => rfl
  rintro e w1 ⟨rfl, hb⟩
  replace HB : Hid (Below w.heap.size w w1) := Lib.hid (((Below.refl _ _).alloc (Nat.le_refl _) _).trans (hb.mono (by simp)))
  clear hb HD
  go_wp2_with (first
    | (go_at_call 13; refine (encode_any _ _ (by omega) (by omega)).mono ?_; rintro e w2 ⟨rfl, rfl⟩)
    | (go_at_call 9; refine (HV.out _ _ true HB.out (by decide) (by first | exact c_ok1 | fail)).mono ?_; rintro e w2 ⟨rfl, hb⟩; replace HB := Lib.hid (HB.out.trans (hb.mono HB.out.size)); clear hb)
    | (go_at_call 9; refine (HV.out _ _ false HB.out (by decide) (by first | exact c_ok2 | fail)).mono ?_; rintro e w2 ⟨rfl, hb⟩; replace HB := Lib.hid (HB.out.trans (hb.mono HB.out.size)); clear hb)
    | (go_at_call 11; refine (HC.out _ HB.out).mono ?_; rintro e w2 ⟨rfl, hb⟩; replace HB := Lib.hid (HB.out.trans (hb.mono HB.out.size)); clear hb))
  go_ret
  exact ⟨rfl, HB.out⟩
end Go.Proofs.YtljpiamlbdknlaaDoor
