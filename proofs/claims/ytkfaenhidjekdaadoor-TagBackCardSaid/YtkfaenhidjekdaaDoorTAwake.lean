/-
  The walk of awake: some answers that the document fixes.
-/
import Derived.Test.YtkfaenhidjekdaaDoorTRead
import Derived.Test.YtkfaenhidjekdaaDoorTCloses
import Derived.Deep.CutBlock
namespace Go.Proofs.YtkfaenhidjekdaaDoor.T
open Go.RowKit
open Go.Proofs.YtkfaenhidjekdaaDoor.C (StAt)
open Go.Proofs.YtkfaenhidjekdaaDoor.A (AttrsAt below_step)

theorem lit_one : rdT (⟨#[60, 65, 32, 72, 82, 69, 70, 61, 120, 47, 121, 32, 98, 62, 99]⟩ : ByteArray).data.toList = ⟨1, ⟨#[97]⟩, [(⟨#[104, 114, 101, 102]⟩, ⟨#[120, 47, 121]⟩), (⟨#[98]⟩, ByteArray.empty)], false, 14, true⟩ := by kernel_rfl
theorem lit_two : rdT (⟨#[60, 97, 32, 98]⟩ : ByteArray).data.toList = noTok 4 := by kernel_rfl
theorem lit_yes : clB ⟨#[60, 47, 80, 32, 62]⟩ ⟨#[112]⟩ = true := by kernel_rfl
theorem lit_no : clB ⟨#[60, 47, 112, 112, 62]⟩ ⟨#[112]⟩ = false := by kernel_rfl
theorem read_one (w : World) (hT : StAt w) : Calls Tryd.prog 7 #[.string ⟨#[60, 65, 32, 72, 82, 69, 70, 61, 120, 47, 121, 32, 98, 62, 99]⟩] w fun e w' =>
    ∃ b off cap, e = .returned (.tuple #[.agg #[.int .i64 1, .string ⟨#[97]⟩, .slice (some ⟨b, off, none⟩) 2 cap, .bool false, .string ⟨#[]⟩], .int .i64 14, .bool true]) ∧ b < w'.heap.size ∧ 2 ≤ cap ∧ w'.cell? ⟨b, off + 1, none⟩ = some (.string ⟨#[120, 47, 121]⟩) ∧ Below w.heap.size w w' := by
  refine (read_any ⟨#[60, 65, 32, 72, 82, 69, 70, 61, 120, 47, 121, 32, 98, 62, 99]⟩ w hT (by decide)).mono ?_
  rintro e w' ⟨a, cap, hcap, he, hat, hbl⟩
  rw [lit_one] at he hcap hat
  obtain ⟨b, off, rfl, hb, hc⟩ := hat (List.cons_ne_nil _ _)
  exact ⟨b, off, cap, he, hb, hcap, (hc 0 (by decide)).2, hbl⟩
theorem read_two (w : World) (hT : StAt w) : Calls Tryd.prog 7 #[.string ⟨#[60, 97, 32, 98]⟩] w fun e w' =>
    ∃ a cap, e = .returned (.tuple #[.agg #[.int .i64 0, .string ⟨#[]⟩, .slice a 0 cap, .bool false, .string ⟨#[]⟩], .int .i64 4, .bool false]) ∧ Below w.heap.size w w' := by
  refine (read_any ⟨#[60, 97, 32, 98]⟩ w hT (by decide)).mono ?_
  rintro e w' ⟨a, cap, hcap, he, hat, hbl⟩
  rw [lit_two] at he
  exact ⟨a, cap, he, hbl⟩

set_option maxRecDepth 100000 in
set_option maxHeartbeats 3200000 in
theorem awake_any (w : World) (hT : StAt w) : Calls Tryd.prog 6 #[] w fun e w' => e = .returned (.bool true) ∧ Below w.heap.size w w' := by
  have HR1 := Lib.hid (read_one w hT)
  have HR2 := Lib.hid (fun W hW => read_two W hW)
  have HC1 := Lib.hid (fun W => closes_any ⟨#[60, 47, 80, 32, 62]⟩ ⟨#[112]⟩ W (by decide) (by decide))
  have HC2 := Lib.hid (fun W => closes_any ⟨#[60, 47, 112, 112, 62]⟩ ⟨#[112]⟩ W (by decide) (by decide))
  rw [lit_yes] at HC1
  rw [lit_no] at HC2
  have HT := Lib.hid hT
  clear hT
  go_enter Tryd.func6, Tryd.ntmps6
  go_wp2_with fail
  refine HR1.out.mono ?_
  rintro e w1 ⟨b, off, cap, rfl, hb, hcap, hc, hbl⟩
  have HB1 : Hid (Below w.heap.size w w1) := Lib.hid hbl
  have HB2 : Hid (Below w.heap.size w (w1.alloc (.cells #[.int .i64 1, .string ⟨#[97]⟩, .slice (some ⟨b, off, none⟩) 2 cap, .bool false, .string ⟨#[]⟩] 25))) := Lib.hid (hbl.alloc hbl.size _)
  have HH := Lib.hid (heap_alloc_new w1 (.cells #[.int .i64 1, .string ⟨#[97]⟩, .slice (some ⟨b, off, none⟩) 2 cap, .bool false, .string ⟨#[]⟩] 25))
  have HC := Lib.hid (((Below.refl w1.heap.size w1).alloc (Nat.le_refl _) (.cells #[.int .i64 1, .string ⟨#[97]⟩, .slice (some ⟨b, off, none⟩) 2 cap, .bool false, .string ⟨#[]⟩] 25)).cell (p := ⟨b, off + 1, none⟩) hb |>.trans hc)
  have HL : Hid (b < (w1.alloc (.cells #[.int .i64 1, .string ⟨#[97]⟩, .slice (some ⟨b, off, none⟩) 2 cap, .bool false, .string ⟨#[]⟩] 25)).heap.size) := Lib.hid (by simp; omega)
  have HTk := Lib.hid (C.StAt.below HT.out HB2.out)
  clear hbl hc HR1
  go_upto_region 2 with fail
  obtain ⟨w2, ew⟩ : ∃ w2, w2 = w1.alloc (.cells #[.int .i64 1, .string ⟨#[97]⟩, .slice (some ⟨b, off, none⟩) 2 cap, .bool false, .string ⟨#[]⟩] 25) := ⟨_, rfl⟩
  rw [← ew] at HB2 HH HC HL HTk ⊢
  clear ew
  go_wp2_with fail
  refine (HR2.out w2 HTk.out).mono ?_
  rintro e w3 ⟨a3, cap3, rfl, hbl⟩
  have HB3 := below_step HB2 hbl
  have HH3 := Lib.hid ((hbl.block w1.heap.size (Array.getElem?_eq_some_iff.1 HH.out).1).trans HH.out)
  have HC3 := Lib.hid ((hbl.cell (p := ⟨b, off + 1, none⟩) HL.out).trans HC.out)
  have HL3 : Hid (b < w3.heap.size) := Lib.hid (Nat.lt_of_lt_of_le HL.out hbl.size)
  have HY : Hid (Below w3.heap.size w3 (w3.alloc (.cells #[.int .i64 0, .string ⟨#[]⟩, .slice a3 0 cap3, .bool false, .string ⟨#[]⟩] 25))) := Lib.hid ((Below.refl w3.heap.size w3).alloc (Nat.le_refl _) _)
  have HB4 := Lib.hid (HB3.out.alloc HB3.out.size (.cells #[.int .i64 0, .string ⟨#[]⟩, .slice a3 0 cap3, .bool false, .string ⟨#[]⟩] 25))
  have HH4 := Lib.hid ((HY.out.block w1.heap.size (Array.getElem?_eq_some_iff.1 HH3.out).1).trans HH3.out)
  have HC4 := Lib.hid ((HY.out.cell (p := ⟨b, off + 1, none⟩) HL3.out).trans HC3.out)
  clear hbl HY HH3 HC3 HL3 HH HC HL HB2 HB3 HTk HR2
  go_upto_region 3 with fail
  obtain ⟨w4, ew⟩ : ∃ w4, w4 = w3.alloc (.cells #[.int .i64 0, .string ⟨#[]⟩, .slice a3 0 cap3, .bool false, .string ⟨#[]⟩] 25) := ⟨_, rfl⟩
  rw [← ew] at HB4 HH4 HC4 ⊢
  clear ew
  have c0 : w4.cell? ⟨w1.heap.size, 0, none⟩ = some (.int .i64 1) := cell_of_row w4 w1.heap.size 0 _ _ (0, 0) HH4.out
  have c1 : w4.cell? ⟨w1.heap.size, 1, none⟩ = some (.string ⟨#[97]⟩) := cell_of_row w4 w1.heap.size 1 _ _ (0, 0) HH4.out
  have c2 : w4.cell? ⟨w1.heap.size, 2, none⟩ = some (.slice (some ⟨b, off, none⟩) 2 cap) := cell_of_row w4 w1.heap.size 2 _ _ (0, 0) HH4.out
  have cv := HC4.out
  clear HH4 HC4
  go_wp2_with fail
  refine (HC1.out _).mono ?_
  rintro e w5 ⟨rfl, hbl⟩
  have HB5 := below_step HB4 hbl
  clear hbl
  go_wp2_with fail
  refine (HC2.out _).mono ?_
  rintro e w6 ⟨rfl, hbl⟩
  have HB6 := below_step HB5 hbl
  clear hbl
  go_wp2
  go_ret
  exact ⟨rfl, HB6.out⟩
end Go.Proofs.YtkfaenhidjekdaaDoor.T
