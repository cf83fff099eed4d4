/-
  The walk of Split.
-/
import Derived.Test.YtphplpkmimckkaaStrs
namespace Go.Proofs.Ytphplpkmimckkaa
open Go.RowKit

set_option maxHeartbeats 1600000 in
theorem split_any (s : ByteArray) (w : World) (hs : s.size ≤ 1000000) :
    Calls Try.prog 8 #[.string s] w (RetStrs (spl s) w) := by
  obtain ⟨i0, hi, hz0, hz1, hz2⟩ := info_parts str_info
  have HI := Lib.hid (And.intro hi (And.intro hz0 (And.intro hz1 hz2)))
  clear hi hz0 hz1 hz2
  go_enter Try.func8, Try.ntmps8
  go_wp2_with fail
  refine (next_any s _ hs).mono ?_
  rintro e w1 ⟨rfl, hb⟩
  have HB1 := Lib.hid hb
  clear hb
  go_wp2_with fail
  go_loopw [3, 4, 5] (fun v a b wr => ∃ (t : ByteArray) (acc : List ByteArray), a = .string (nxWs t) ∧ b = .string (nxRs t) ∧ t.size + acc.length ≤ s.size ∧ spl s = acc ++ spl t ∧ wr.ownsRow w.heap.size 9 1 v acc.length (acc.map Value.string) ∧ Below w.heap.size w wr)
    (fun _ a b _ => (textOf a).size + (textOf b).size)
  case atStart => exact ⟨s, [], rfl, rfl, by simp, rfl, World.ownsRow_nil _ _ _ _, HB1.out⟩
  case round =>
    obtain ⟨t, acc, rfl, rfl, hlen, hspl, hown, hbel⟩ := hrel
    have HS := Lib.hid hspl
    have HB := Lib.hid hbel
    have HO := Lib.hid hown
    clear hspl hbel hown
    have hnl := nxs_len t
    have hsn := spl_none t
    have hss := spl_some t
    generalize nxWs t = p at *
    generalize nxRs t = r at *
    by_cases hp : p.size = 0
    · have HF : Hid (acc = spl s) := Lib.hid (by rw [HS.out, hsn hp, List.append_nil])
      have he := (empty_yes hp).2
      have he2 := (empty_yes hp).1
      clear hsn hss hp
      go_wp2_with fail
      go_ret
      exact ret_strs HO.out HB.out HF.out
    · have HF : Hid (spl s = (acc ++ [p]) ++ spl r) := Lib.hid (by rw [HS.out, hss hp]; simp)
      have he := (empty_no hp).2
      have he2 := (empty_no hp).1
      have hp' : 1 ≤ p.size := by omega
      clear hsn hss hp
      obtain ⟨hi, hz0, hz1, hz2⟩ := HI.out
      go_wp2_with (at_builtin; refine wpList_append_own _ rfl _ _ 22 rfl w.heap.size 9 i0 (.string ⟨#[]⟩) 1 16 Try.underlying22 hi hz0 hz1 hz2 rfl (by decide) _ _ _ rfl (HO.out.alloc _) ⟨wr.heap.size, 0, none⟩ 1 1 [.string p] rfl rfl (cell_one_new _ _ _) (str_one p) (by unfold maxLen; omega) (by omega) (by have := HB.out.size; simp; omega) ?_; intro v' w2 hown' hgrow2 hnil2; clear hi hz0 hz1 hz2 hnil2)
      have HO2 := Lib.hid (own_snoc hown')
      have HB2 : Hid (Below w.heap.size w w2) := Lib.hid ((HB.out.alloc HB.out.size _).grown hgrow2 (by have := HB.out.size; simp; omega) (fun k hk => (HO.out.lt k hk).1))
      clear hown' hgrow2
      refine (next_any r _ (by omega)).mono ?_
      rintro e w3 ⟨rfl, hb⟩
      have HB3 := Lib.hid hb
      clear hb
      have HO3 : Hid (w3.ownsRow w.heap.size 9 1 v' (acc ++ [p]).length ((acc ++ [p]).map Value.string)) := Lib.hid (own_below HO2.out HB3.out)
      go_wp2
      go_roundw
      case rel => exact ⟨r, acc ++ [p], rfl, rfl, by rw [List.length_append, List.length_singleton]; omega, HF.out, HO3.out, HB2.out.trans (HB3.out.mono HB2.out.size)⟩
      case measure => have := nxs_len r; simp [textOf]; omega
end Go.Proofs.Ytphplpkmimckkaa
