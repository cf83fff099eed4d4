/-
  The walks of the document's own Valid and Count.
-/
import Derived.Test.YtljpiamlbdknlaaDoorRdecode
namespace Go.Proofs.YtljpiamlbdknlaaDoor
open Go.RowKit Go.Lib

theorem rdecode_any (b off len cap : Nat) (l : List UInt8) (w : World) (hlen : l.length = len) (hcap : len ≤ cap) (hl : len ≤ 1000000) (hm : cap ≤ maxLen) (hA : BytesIn w b off l) :
    Calls Tryd.prog 8 #[.slice (some ⟨b, off, none⟩) len cap] w fun e w' => e = .returned (.string ⟨(decL l).toArray⟩) ∧ Below w.heap.size w w' := by
  by_cases hne : 0 < len
  · exact rdecode_in b off len cap l w hlen hcap hl hm hne hA
  · have h0 : len = 0 := by omega
    have hl0 : l = [] := List.eq_nil_of_length_eq_zero (by omega)
    subst h0 hl0
    exact rdecode_nil _ cap w

/-- What '[]byte(s)' makes. -/
theorem made (s : ByteArray) (w : World) (hs : s.size ≤ maxLen) : ∃ (cap : Nat) (C : Array Value),
    (convert 9 22 (.string s)).run Tryd.prog w = .ok (.slice (some ⟨w.heap.size, 0, none⟩) s.size cap) (w.drew.alloc (.cells C 5 (C.size, C.size + 1))) ∧
    s.size ≤ cap ∧ cap ≤ maxLen ∧ ∀ W : World, W.heap.size = w.heap.size → BytesIn (W.alloc (.cells C 5 (C.size, C.size + 1))) w.heap.size 0 s.data.toList := by
  refine ⟨_, _, run_bytes_of_string (P := Tryd.prog) w 9 22 5 s Tryd.underlying9 Tryd.underlying22 Tryd.underlying5, grownCap_ge _ _ _ _, grownCap_le_maxLen _ _ _ _ hs, ?_⟩
  intro W hW j hj
  rw [size_list] at hj
  rw [Nat.zero_add, ← hW, World.cell?_alloc_mark, bytesRow_at s _ j hj, ← sAt s j hj]
  rfl

set_option maxHeartbeats 1000000 in
theorem rvalid_any (s : ByteArray) (w : World) (hs : s.size ≤ 1000000) :
    Calls Tryd.prog 10 #[.string s] w fun e w' => e = .returned (.bool (okU s.data.toList)) ∧ Below w.heap.size w w' := by
  obtain ⟨cap, C, hconv, h1, h2, h3⟩ := made s w (by unfold maxLen; omega)
  have HB := Lib.hid h3
  have hq : ∀ R : Bool, okU s.data.toList = R → ((decL s.data.toList == s.toList) = R) := by
    intro R hR
    rw [ByteArray.toList_eq]
    have := decL_eq s.data.toList
    rw [hR] at this
    cases R with
    | true => rw [this.2 rfl]; simp
    | false =>
      cases hx : (decL s.data.toList == s.data.toList) with
      | false => rfl
      | true => have := this.1 (eq_of_beq hx); cases this
  have hq2 := hq _ rfl
  clear hq h3
  generalize okU s.data.toList = R at *
  have HD := Lib.hid (fun (W : World) (hW : BytesIn W w.heap.size 0 s.data.toList) => rdecode_any w.heap.size 0 s.size cap s.data.toList W (size_list s) h1 hs h2 hW)
  clear h1 h2
  go_enter Tryd.func10, Tryd.ntmps10
  go_wp2_with (go_at_call 8; refine (HD.out (w.alloc (.cells C 5 (C.size, C.size + 1))).drew (HB.out w rfl)).mono ?_; rintro e w1 ⟨rfl, hb⟩; have HB1 := Lib.hid hb; clear hb)
  go_ret
  exact ⟨rfl, ((Below.refl _ _).alloc (Nat.le_refl _) _).drew.trans (HB1.out.mono (by simp))⟩

set_option maxHeartbeats 2000000 in
theorem rcount_any (s : ByteArray) (w : World) (hs : s.size ≤ 100000) :
    Calls Tryd.prog 12 #[.string s] w fun e w' => e = .returned (.int .i64 ((stL s.data.toList : Nat))) ∧ Below w.heap.size w w' := by
  obtain ⟨cap, C, hconv, h1, h2, h3⟩ := made s w (by unfold maxLen; omega)
  have HB := Lib.hid h3
  clear h3
  have HD := Lib.hid (fun (W : World) (hW : BytesIn W w.heap.size 0 s.data.toList) => rdecode_any w.heap.size 0 s.size cap s.data.toList W (size_list s) h1 (by omega) h2 hW)
  have HC := Lib.hid (cntL_decL s.data.toList)
  have hdl := decL_len s.data.toList
  have hst := stL_le s.data.toList
  rw [size_list] at hdl hst
  clear h1 h2
  generalize decL s.data.toList = m at *
  generalize stL s.data.toList = N at *
  go_enter Tryd.func12, Tryd.ntmps12
  go_wp2_with fail
  refine (HD.out (w.alloc (.cells C 5 (C.size, C.size + 1))).drew (HB.out w rfl)).mono ?_
  rintro e w1 ⟨rfl, hb⟩
  have HB1 : Hid (Below w.heap.size w w1) := Lib.hid ((((Below.refl _ _).alloc (Nat.le_refl _) _).drew.trans (hb.mono (by simp))))
  clear hb hconv HB HD
  have hmz : (ByteArray.mk m.toArray).size = m.length := by show m.toArray.size = _; simp
  have hml : (ByteArray.mk m.toArray).data.toList = m := by simp
  obtain ⟨cap2, C2, hconv2, g1, g2, g3⟩ := made ⟨m.toArray⟩ w1 (by rw [hmz]; unfold maxLen; omega)
  rw [hmz] at hconv2 g1
  rw [hml] at g3
  have HB2 := Lib.hid g3
  clear g3 hmz hml
  go_wp2
  clear hconv2
  unfold maxLen at g2
  go_loop [4, 5] (fun x y => ∃ k i : Nat, x = .int .i64 k ∧ y = .int .i64 i ∧ i ≤ m.length ∧ k + cntL (m.drop i) = N) (fun _ y => m.length - (intOf y).toNat)
  case atStart => exact ⟨0, 0, rfl, rfl, Nat.zero_le _, by have := HC.out; rw [List.drop_zero]; omega⟩
  case round =>
    obtain ⟨k, i, rfl, rfl, hi, hk⟩ := hrel
    by_cases hlt : i < m.length
    · have hdl2 : (m.drop i).length = m.length - i := List.length_drop ..
      have hne : m.drop i ≠ [] := by intro e; rw [e] at hdl2; simp at hdl2; omega
      have hstep := cntL_step _ hne
      have hp := oneL_pos (m.drop i)
      have hle := oneL_le (m.drop i) hne
      rw [List.drop_drop] at hstep
      rw [hstep] at hk
      have HK := Lib.hid hk
      have HO := Lib.hid (fun (W : World) (hW : BytesIn W w1.heap.size 0 m) => one_any w1.heap.size (0 + i) (m.length - i) (cap2 - i) (m.drop i) W hdl2 (by omega) (by unfold maxLen; omega) (bytesIn_drop hW i))
      rw [Nat.zero_add] at HO
      unfold OnePost at HO
      have hkN : k < N := by omega
      clear hk hstep hne
      generalize (oneL (m.drop i)).1 = n at *
      generalize (oneL (m.drop i)).2 = ok at *
      have hic : i < cap2 := by omega
      go_wp2_with (go_at_call 21; refine (HO.out (w1.alloc (.cells C2 5 (C2.size, C2.size + 1))).drew (HB2.out w1 rfl)).mono ?_; rintro e w2 ⟨rfl, rfl⟩)
      go_round
      case rel => exact ⟨k + 1, i + n, by go_num, by go_num, by omega, by have := HK.out; omega⟩
      case measure => simp [intOf]; omega
    · have hmd : m.drop i = [] := List.drop_of_length_le (by omega)
      rw [hmd] at hk
      obtain rfl : k = N := hk
      clear hmd
      go_wp2
      go_ret
      exact ⟨rfl, (HB1.out.alloc HB1.out.size _).drew⟩
end Go.Proofs.YtljpiamlbdknlaaDoor
