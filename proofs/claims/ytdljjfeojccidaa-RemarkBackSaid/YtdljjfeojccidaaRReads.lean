/-
  The law RemarkReads.
-/
import Derived.Test.YtdljjfeojccidaaRSame
import Derived.Test.YtdljjfeojccidaaRRread
import Derived.Shelf.Vars
namespace Go.Proofs.Ytdljjfeojccidaa.R
open Go.RowKit

theorem max_of {W : World} (h : W.ShapedOpen Try.prog) : MaxAt W :=
  cell_of_shapedOpen_int (g := 0) (t := 3) (zero := #[.int .i64 0]) h (of_decide_eq_true (by kernel_rfl)) (by kernel_rfl) rfl (by kernel_rfl) (by kernel_rfl) Try.underlying3

set_option maxRecDepth 100000 in
set_option maxHeartbeats 3200000 in
theorem reads_walk (s : ByteArray) (f : Bool) (w : World) (hM : MaxAt w) (ws : s.size ≤ maxLen) :
    Calls Try.prog 3 #[.string s, .bool f] w fun e w' => e = .returned (.bool true) ∧ Below w.heap.size w w' := by
  unfold maxLen at ws
  have HM := Lib.hid hM
  clear hM
  by_cases h400 : 400 < s.size
  · have h4 : (400 : Int) < s.size := by omega
    clear h400
    go_enter Try.func3, Try.ntmps3
    go_wp2_with fail
    refine (awake_any _ HM.out).mono ?_
    rintro e w1 ⟨rfl, hb⟩
    have HB := Lib.hid hb
    clear hb
    go_wp2
    go_ret
    exact ⟨rfl, HB.out⟩
  · have h4 : ¬ (400 : Int) < s.size := by omega
    have HA := Lib.hid (read_any s f w HM.out (by omega))
    have HB := Lib.hid (fun W => rread_any s f W (by omega))
    clear h400
    generalize rem s.data.toList f = t at *
    go_enter Try.func3, Try.ntmps3
    go_wp2_with fail
    refine HA.out.mono ?_
    rintro e w1 ⟨rfl, hbl⟩
    have HB1 : Hid (Below w.heap.size w w1) := Lib.hid hbl
    have HB2 := k1_below HB1 t
    have HK2 := Lib.hid (Kept.made w1 t)
    clear hbl HA
    unfold remV
    go_upto_region 4 with fail
    show Code.wp _ _ _ _ (K1 w1 t)
    obtain ⟨w2, ew⟩ : ∃ w2, w2 = K1 w1 t := ⟨_, rfl⟩
    rw [show w1.alloc (.cells (tokC t.kind t.name t.data) 25) = w2 from ew.symm] at HK2
    rw [← ew] at HB2 ⊢
    clear ew
    go_wp2_with fail
    refine (HB.out _).mono ?_
    rintro e w3 ⟨rfl, hbl⟩
    have HB3 := below_step HB2 hbl
    have HK3 := Lib.hid (HK2.out.keep hbl)
    have HB4 := k1_below HB3 t
    have HK4 := Lib.hid (HK3.out.alloc (.cells (tokC t.kind t.name t.data) 25))
    have HL4 := Lib.hid (Kept.made w3 t)
    clear hbl HB HB1 HB2 HK2 HK3 HB3
    unfold remV
    go_upto_region 5 with fail
    show Code.wp _ _ _ _ (K1 w3 t)
    obtain ⟨w4, ew⟩ : ∃ w4, w4 = K1 w3 t := ⟨_, rfl⟩
    rw [show w3.alloc (.cells (tokC t.kind t.name t.data) 25) = w4 from ew.symm] at HK4 HL4
    rw [← ew] at HB4 ⊢
    clear ew
    obtain ⟨c0, c1, c2, c3, c4⟩ := HK4.out.row
    obtain ⟨d0, d1, d2, d3, d4⟩ := HL4.out.row
    have HS := Lib.hid (fun W => same_any t W)
    unfold remV at HS
    obtain ⟨k, nm, d, n, ok⟩ := t
    simp only at *
    go_wp2_with fail
    refine (HS.out _).mono ?_
    rintro e w5 ⟨rfl, hbl⟩
    have HB5 := below_step HB4 hbl
    clear hbl c0 c1 c2 c3 c4 d0 d1 d2 d3 d4 HS HK4 HL4
    go_wp2_with fail
    refine (awake_any _ (HM.out.below HB5.out)).mono ?_
    rintro e w6 ⟨rfl, hbl⟩
    have HB6 := below_step HB5 hbl
    clear hbl
    go_wp2
    go_ret
    exact ⟨rfl, HB6.out⟩
end Go.Proofs.Ytdljjfeojccidaa.R
