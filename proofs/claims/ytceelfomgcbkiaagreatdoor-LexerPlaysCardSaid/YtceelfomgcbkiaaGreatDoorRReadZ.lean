/-
  The walks of readDashes and Read.
-/
import Derived.Test.YtceelfomgcbkiaaGreatDoorGR1Z
import Derived.Test.YtceelfomgcbkiaaGreatDoorGIZ
namespace Go.Proofs.YtceelfomgcbkiaaGreatDoor.R
open Go.RowKit
open Go.Proofs.YtceelfomgcbkiaaGreatDoor.I (leI lowL foldB foldB_eq fold_any letter_any)

theorem comP_le (m : List UInt8) : (comP m).2 ≤ m.length := by have := (comP_bd (m := m)).1; omega
set_option maxHeartbeats 1600000 in
theorem readDashes_any (s : ByteArray) (w : World) (hM : MaxAt w) (h4 : 4 ≤ s.size) (hs : s.size ≤ 10000) :
    Calls Tryz.prog 67 #[.string s] w (RetRem (com (s.data.toList.drop 4)) w) := by
  have HU := Lib.hid (comment_any (s.extract 4 s.size) (W1 w) (w1_max hM) (by rw [ByteArray.size_extract]; omega))
  rw [str_tail] at HU
  unfold com
  have HR := Lib.hid (w1_row w)
  have HB := Lib.hid (w1_below w)
  have hle := comP_le (s.data.toList.drop 4)
  rw [List.length_drop, C.size_list] at hle
  clear hM
  generalize comP (s.data.toList.drop 4) = cp at *
  obtain ⟨d, u⟩ := cp
  simp only at *
  have h4i : (4 : Int) ≤ (s.size : Int) := by omega
  go_enter Tryz.func67, Tryz.ntmps67
  go_wp2_with fail
  refine HU.out.mono ?_
  rintro e w1 ⟨rfl, rfl⟩
  obtain ⟨c0, c1, c2, c3, c4⟩ := row_of HR.out
  obtain ⟨f0, f1, f2, f3, f4⟩ := free_of HR.out
  obtain ⟨w1, ew⟩ : ∃ w1, w1 = W1 w := ⟨_, rfl⟩
  rw [← ew] at c0 c1 c2 c3 c4 f0 f1 f2 f3 f4 HR HB ⊢
  clear ew HU
  go_wp2
  obtain ⟨wf, ewf, ⟨d0, d1, d2, d3, d4⟩, hbf⟩ := fin_of 4 ByteArray.empty d HR.out HB.out
  change bodyPost _ _ _ _ _ (S5 w1 w.heap.size (.int .i64 4) (.string ByteArray.empty) (.slice none 0 0) (.bool false) (.string d))
  rw [← ewf]
  clear ewf c0 c1 c2 c3 c4 f0 f1 f2 f3 f4
  exact bodyPost_ret (v := .tuple #[remV ⟨4, ByteArray.empty, d, 4 + u, true⟩, .int .i64 ((4 + u : Nat) : Int), .bool true]) (by simp [results, Tryz.results67, go_sem, remV, d0, d1, d2, d3, d4]) rfl ⟨rfl, hbf⟩
end Go.Proofs.YtceelfomgcbkiaaGreatDoor.R
