/-
  The walk of the document's Decode.
-/
import Derived.Test.YtkfaenhidjekdaaDoorCDecode
namespace Go.Proofs.YtkfaenhidjekdaaDoor.C
open Go.RowKit

set_option maxHeartbeats 6400000 in
theorem rdecode_any (s : ByteArray) (value : Bool) (w : World) (hs : s.size ≤ 10000) :
    Calls Tryd.prog 40 #[.string s, .bool value] w fun e w' => e = .returned (.string (decS value s)) ∧ Below w.heap.size w w' := by
  go_enter Tryd.func40, Tryd.ntmps40
  go_wp2
  go_loopw [5, 6] (fun t i wr => ∃ (k : Nat) (out : ByteArray), k ≤ s.size ∧ t = .string out ∧ i = .int .i64 k ∧ out.size + 4 * (s.size - k) ≤ 4 * s.size ∧ dec value s.data.toList = out.data.toList ++ dec value (s.data.toList.drop k) ∧ Below w.heap.size w wr) (fun _ i _ => s.size - (intOf i).toNat)
  case atStart => exact ⟨0, ByteArray.empty, Nat.zero_le _, rfl, rfl, by have : ByteArray.empty.size = 0 := rfl; omega, rfl, Below.refl _ _⟩
  case round =>
    obtain ⟨k, out, hk, rfl, rfl, hlen, hdec, hbel⟩ := hrel
    have HD := Lib.hid hdec
    have HB := Lib.hid hbel
    clear hdec hbel
    by_cases hlt : k < s.size
    · have HR := Lib.hid (rread_any (s.extract k s.size) value wr (by rw [ByteArray.size_extract]; omega))
      rw [ext_tail] at HR
      have hok := okR_rd (s.data.toList.drop k) value
      rw [List.length_drop, size_list] at hok
      have hd := drop_at s k hlt
      have h1 : (rd (s.data.toList.drop k) value).2 = 0 → dec value (s.data.toList.drop k) = s[k] :: dec value (s.data.toList.drop (k + 1)) := by
        rw [hd]; exact dec_keep value _ _
      have h2 := dec_ref value (s.data.toList.drop k)
      rw [List.drop_drop] at h2
      clear hd
      generalize rd (s.data.toList.drop k) value = R at *
      obtain ⟨T, n⟩ := R
      unfold RefPost at HR
      unfold okR at hok
      simp only [] at HR hok h1 h2
      by_cases hz : n = 0
      · subst hz
        have HF : Hid (dec value s.data.toList = (out ++ s.extract k (k + 1)).data.toList ++ dec value (s.data.toList.drop (k + 1))) := Lib.hid (by
          rw [HD.out, h1 rfl, ByteArray.data_append, Array.toList_append, ext_list, List.drop_take, drop_at s k hlt]
          simp)
        have hsz : (out ++ s.extract k (k + 1)).size = out.size + 1 := by
          rw [ByteArray.size_append, ByteArray.size_extract]; omega
        have HZ := Lib.hid hsz
        clear h1 h2 hok hsz
        go_wp2_with fail
        refine HR.out.mono ?_
        rintro e w2 ⟨rfl, hb⟩
        have HB2 := Lib.hid (HB.out.trans (hb.mono HB.out.size))
        clear hb HR
        go_wp2
        go_roundw
        case rel => exact ⟨k + 1, out ++ s.extract k (k + 1), by omega, rfl, by go_num, by rw [HZ.out]; omega, HF.out, HB2.out⟩
        case measure => simp [intOf]; omega
      · have n0 : ((n : Int) == 0) = false := by rw [beq_eq_false_iff_ne]; omega
        have hb3 : 2 ≤ n ∧ n ≤ s.size - k ∧ T.size ≤ 4 := by
          rcases hok with ⟨h0, _⟩ | h
          · exact absurd h0 hz
          · exact h
        have HF : Hid (dec value s.data.toList = (out ++ T).data.toList ++ dec value (s.data.toList.drop (k + n))) := Lib.hid (by
          rw [HD.out, h2 hz, ByteArray.data_append, Array.toList_append, List.append_assoc])
        have hsz : (out ++ T).size = out.size + T.size := by rw [ByteArray.size_append]
        have HZ := Lib.hid hsz
        clear h1 h2 hok hsz hz
        obtain ⟨n1, n2, n3⟩ := hb3
        go_wp2_with fail
        refine HR.out.mono ?_
        rintro e w2 ⟨rfl, hb⟩
        have HB2 := Lib.hid (HB.out.trans (hb.mono HB.out.size))
        clear hb HR
        go_wp2
        go_roundw
        case rel => exact ⟨k + n, out ++ T, by omega, rfl, by go_num, by rw [HZ.out]; omega, HF.out, HB2.out⟩
        case measure => simp [intOf]; omega
    · have HF : Hid (out = decS value s) := Lib.hid (by
        apply eq_of_list
        unfold decS
        rw [mkB_list, HD.out, List.drop_eq_nil_of_le (by rw [size_list]; omega), dec_nil, List.append_nil])
      go_wp2
      go_ret
      exact ⟨ret_str HF.out, HB.out⟩
end Go.Proofs.YtkfaenhidjekdaaDoor.C
