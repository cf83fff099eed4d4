/-
  The walks of escape.write, Text, Value, Size: what the text is.
-/
import Derived.Test.YtkfaenhidjekdaaDoorEPut
namespace Go.Proofs.YtkfaenhidjekdaaDoor.E
open Go.RowKit Go.Maps Go.Proofs.YtkfaenhidjekdaaDoor.C Go.Lib

def escS (q : Bool) (s : ByteArray) : ByteArray := ⟨(esc q s.data.toList).toArray⟩
theorem escS_list (q : Bool) (s : ByteArray) : (escS q s).data.toList = esc q s.data.toList := by simp [escS]
theorem escS_size (q : Bool) (s : ByteArray) : (escS q s).size = (esc q s.data.toList).length := by rw [← size_list, escS_list]
theorem escS_le (q : Bool) (s : ByteArray) : (escS q s).size ≤ 6 * s.size := by have := esc_len q s.data.toList; rw [size_list] at this; rw [escS_size]; exact this

set_option maxHeartbeats 3200000 in
theorem write_any (q : Bool) (mb : Nat) (s : ByteArray) (w : World) (hs : s.size ≤ 1000000) (hM : RMap w mb (ents q)) :
    Calls Tryd.prog 29 #[.string s, .map (some mb)] w fun e w' => e = .returned (.string (escS q s)) ∧ Below w.heap.size w w' := by
  have hmb := hM.lt
  have hle := escS_le q s
  rw [escS_size] at hle
  have HM1 : Hid (RMap (w.alloc (.cells #[.pointer none, .slice none 0 0, .map (some mb)] 64)) mb (ents q)) := Lib.hid (hM.alloc _)
  have HB1 : Hid (Below w.heap.size w (w.alloc (.cells #[.pointer none, .slice none 0 0, .map (some mb)] 64))) := Lib.hid ((Below.refl w.heap.size w).alloc (Nat.le_refl _) _)
  have hb1 : (w.alloc (.cells #[.pointer none, .slice none 0 0, .map (some mb)] 64)).heap[w.heap.size]? = some (.cells #[.pointer none, .slice none 0 0, .map (some mb)] 64 (0, 0)) := heap_alloc_new _ _
  clear hM
  go_enter Tryd.func29, Tryd.ntmps29
  go_wp2_with fail
  generalize w.alloc (.cells #[.pointer none, .slice none 0 0, .map (some mb)] 64) = w1 at *
  refine (size_any q mb s w1 hs HM1.out).mono ?_
  rintro e w2 ⟨rfl, hb⟩
  have hlt1 : w.heap.size < w1.heap.size := heap_lt hb1
  have HM2 := Lib.hid (HM1.out.below hb HM1.out.lt)
  have hb2 := (hb.block _ hlt1).trans hb1
  have HB2 := Lib.hid (HB1.out.trans (hb.mono HB1.out.size))
  clear hb HM1 hb1 HB1
  go_wp2_with fail
  refine (Grow_fresh w.heap.size w.heap.size (esc q s.data.toList).length (.map (some mb)) w2 (Nat.le_refl _) hb2 HB2.out.size (by omega)).mono ?_
  rintro e w3 ⟨rfl, hE, hb⟩
  have HE3 := Lib.hid (show IsEmb w.heap.size w.heap.size (.map (some mb)) [] w3 from .inr hE)
  have HM3 := Lib.hid (HM2.out.below hb hmb)
  have HB3 := Lib.hid (HB2.out.trans hb)
  clear hE hb HM2 hb2 HB2
  go_wp2_with fail
  refine (put_any q w.heap.size w.heap.size mb s w3 hs HM3.out hmb HE3.out (Nat.le_refl _) HB3.out.size).mono ?_
  rintro e w4 ⟨rfl, hE, hb⟩
  have HE4 := Lib.hid hE
  have HB4 := Lib.hid (HB3.out.trans hb)
  clear hE hb HM3 HE3 HB3
  go_wp2_with fail
  refine (String_any w.heap.size w.heap.size (.map (some mb)) _ w4 HE4.out HB4.out.size).mono ?_
  rintro e w5 ⟨rfl, hb⟩
  have HB5 := Lib.hid (HB4.out.trans hb)
  clear hb HE4 HB4
  go_wp2
  go_ret
  exact ⟨rfl, HB5.out⟩

theorem names_four (w : World) : NamesAt (w.alloc (.cells #[.string ⟨#[97, 109, 112, 59]⟩, .string ⟨#[110, 98, 115, 112, 59]⟩, .string ⟨#[108, 116, 59]⟩, .string ⟨#[103, 116, 59]⟩] 9)) w.heap.size 4 :=
  ⟨by decide, by simp, fun k hk => by
    match k, hk with
    | 0, _ => simp; rfl
    | 1, _ => simp; rfl
    | 2, _ => simp; rfl
    | 3, _ => simp; rfl
    | k + 4, hk => omega⟩
theorem names_five (w : World) : NamesAt (w.alloc (.cells #[.string ⟨#[97, 109, 112, 59]⟩, .string ⟨#[110, 98, 115, 112, 59]⟩, .string ⟨#[108, 116, 59]⟩, .string ⟨#[103, 116, 59]⟩, .string ⟨#[113, 117, 111, 116, 59]⟩] 9)) w.heap.size 5 :=
  ⟨by decide, by simp, fun k hk => by
    match k, hk with
    | 0, _ => simp; rfl
    | 1, _ => simp; rfl
    | 2, _ => simp; rfl
    | 3, _ => simp; rfl
    | 4, _ => simp; rfl
    | k + 5, hk => omega⟩

set_option maxHeartbeats 1600000 in
theorem signs_any (w : World) :
    Calls Tryd.prog 30 #[] w fun e w' => ∃ mb, e = .returned (.map (some mb)) ∧ w.heap.size ≤ mb ∧ RMap w' mb (ents true) ∧ Below w.heap.size w w' := by
  go_enter Tryd.func30, Tryd.ntmps30
  go_wp2_with fail
  have hN := names_five w
  have hB0 := (Below.refl w.heap.size w).alloc (Nat.le_refl _) (.cells #[.string ⟨#[97, 109, 112, 59]⟩, .string ⟨#[110, 98, 115, 112, 59]⟩, .string ⟨#[108, 116, 59]⟩, .string ⟨#[103, 116, 59]⟩, .string ⟨#[113, 117, 111, 116, 59]⟩] 9)
  generalize w.alloc (.cells #[.string ⟨#[97, 109, 112, 59]⟩, .string ⟨#[110, 98, 115, 112, 59]⟩, .string ⟨#[108, 116, 59]⟩, .string ⟨#[103, 116, 59]⟩, .string ⟨#[113, 117, 111, 116, 59]⟩] 9) = w0 at *
  refine (named_any w.heap.size 5 w0 hN).mono ?_
  rintro e w1 ⟨rfl, hM, hb⟩
  have HM := Lib.hid hM
  have HB := Lib.hid (hB0.trans (hb.mono hB0.size))
  clear hM hb
  go_wp2
  go_ret
  exact ⟨_, rfl, hB0.size, HM.out, HB.out⟩

set_option maxHeartbeats 1600000 in
theorem value_any (s : ByteArray) (w : World) (hs : s.size ≤ 1000000) :
    Calls Tryd.prog 13 #[.string s] w fun e w' => e = .returned (.string (escS true s)) ∧ Below w.heap.size w w' := by
  go_enter Tryd.func13, Tryd.ntmps13
  go_wp2_with fail
  refine (signs_any w).mono ?_
  rintro e w1 ⟨mb, rfl, _, hM, hb⟩
  have HM := Lib.hid hM
  have HB := Lib.hid hb
  clear hM hb
  go_wp2_with fail
  refine (write_any true _ s w1 hs HM.out).mono ?_
  rintro e w2 ⟨rfl, hb⟩
  replace HB := Lib.hid (HB.out.trans (hb.mono HB.out.size))
  clear hb
  go_wp2
  go_ret
  exact ⟨rfl, HB.out⟩

end Go.Proofs.YtkfaenhidjekdaaDoor.E
