/-
  The walk of LexerWhole.
-/
import Derived.Test.YtceelfomgcbkiaaDoorLAwakeZ
import Derived.Test.YtceelfomgcbkiaaDoorLStepsZ
namespace Go.Proofs.YtceelfomgcbkiaaDoor
open Go.RowKit
open Go.Proofs.YtceelfomgcbkiaaDoor.A (At AttrsAt)
open Go.Proofs.YtceelfomgcbkiaaDoor.R (row_of free_of heap_keep MaxAt drewNB)
open Go.Proofs.YtceelfomgcbkiaaDoor.T (quiet_left)
open Go.Proofs.YtceelfomgcbkiaaDoor.C (StAt)

theorem suf_of (s : ByteArray) (k : Nat) : Lib.hasSuffix s.data.toList (s.extract k s.size).data.toList = true := by
  rw [C.ext_tail]
  exact List.isSuffixOf_iff_suffix.2 (List.drop_suffix k _)
theorem suf_any (s : ByteArray) (k : Nat) (hs : s.size ≤ 10000) (w : World) : Calls Tryd.prog 9 #[.string s, .string (s.extract k s.size)] w fun e w' => e = .returned (.bool true) ∧ w = w' :=
  (Tryd.strings_HasSuffix s (s.extract k s.size) w (by omega)).mono fun _ _ h => ⟨by rw [h.1, suf_of], h.2.symm⟩
/-- What is left is an end of the text. -/
def End (s s' : ByteArray) : Prop := ∃ j, j ≤ s.size ∧ s' = s.extract j s.size
theorem End.size {s s' : ByteArray} (h : End s s') : s'.size ≤ s.size := by obtain ⟨j, hj, rfl⟩ := h; rw [ext_sz s hj]; omega

set_option maxRecDepth 100000 in
set_option maxHeartbeats 12800000 in
theorem whole_walk (s : ByteArray) (a : Option Addr) (cap : Nat) (l : List Sq) (w : World) (hT : StAt w) (hM : MaxAt w) (ws : s.size ≤ maxLen) (hcap : l.length ≤ cap) (hst : StepsAt w a l) :
    Calls Tryd.prog 3 #[.string s, .slice a l.length cap] w fun e w' => e = .returned (.bool true) ∧ Below w.heap.size w w' := by
  unfold maxLen at ws
  have HTM : Hid (∀ W, Below w.heap.size w W → StAt W ∧ MaxAt W) := Lib.hid (fun W h => ⟨hT.below h, hM.below h⟩)
  have HSt := Lib.hid hst
  by_cases h400 : 400 < s.size
  · have h4 : (400 : Int) < s.size := by omega
    have HA := Lib.hid (awake_any w hT hM)
    clear h400 hT hM hst
    go_enter Tryd.func3, Tryd.ntmps3
    go_wp2_with fail
    refine HA.out.mono ?_
    rintro e w1 ⟨rfl, hb⟩
    have HB := Lib.hid hb
    clear hb
    go_wp2
    go_ret
    exact ⟨rfl, HB.out⟩
  · have h4 : ¬ (400 : Int) < s.size := by omega
    have hs : s.size ≤ 10000 := by omega
    have HSs : Hid (∀ s', End s s' → ∀ w, Calls Tryd.prog 9 #[.string s, .string s'] w fun e w' => e = .returned (.bool true) ∧ w = w') := Lib.hid (fun s' h w => by obtain ⟨j, _, rfl⟩ := h; exact suf_any s j hs w)
    have HL0 : Hid (LB 41 (w.alloc (.cells #[.string s] 41)) w.heap.size s) := Lib.hid (heap_alloc_new w _)
    have HB0 : Hid (Below w.heap.size w (w.alloc (.cells #[.string s] 41))) := Lib.hid ((Below.refl _ _).alloc (Nat.le_refl _) _)
    have HX0 : Hid (End s s) := Lib.hid ⟨0, Nat.zero_le _, by apply C.eq_of_list; rw [C.ext_tail]; rfl⟩
    clear h400 hT hM hst
    go_enter Tryd.func3, Tryd.ntmps3
    go_wp2_with fail
    refine (new_any s w).mono ?_
    rintro e w0 ⟨rfl, rfl⟩
    go_wp2_with fail
    go_loopw [18] (fun v wr => ∃ (k : Nat) (s' : ByteArray), k ≤ l.length ∧ v = .int .i64 (k : Nat) ∧ LB 41 wr w.heap.size s' ∧ End s s' ∧ Below w.heap.size w wr) (fun v _ => l.length - (intOf v).toNat)
    case atStart => exact ⟨0, s, Nat.zero_le _, rfl, HL0.out, HX0.out, HB0.out⟩
    case round =>
      obtain ⟨k, s', hk, rfl, hL, hX, hB⟩ := hrel
      have HLr := Lib.hid hL
      have HXr := Lib.hid hX
      have HBr := Lib.hid hB
      have hs' : s'.size ≤ 10000 := Nat.le_trans hX.size hs
      clear hL hX hB HL0 HB0 HX0
      by_cases hlt : k < l.length
      · obtain ⟨b, off, rfl, hbk, hcl⟩ := HSt.out (fun e => by rw [e] at hlt; simp at hlt)
        obtain ⟨y1, y2, y3⟩ := hcl k hlt
        have x1 := (HBr.out.cell (p := ⟨b, off + k * 3, none⟩) hbk).trans y1
        have x2 := (HBr.out.cell (p := ⟨b, off + k * 3 + 1, none⟩) hbk).trans y2
        have x3 := (HBr.out.cell (p := ⟨b, off + k * 3 + 2, none⟩) hbk).trans y3
        clear hcl y1 y2 y3
        generalize l[k] = x at *
        obtain ⟨st, last, fo⟩ := x
        dsimp only at x1 x2 x3
        have hi1 : (0 : Int) ≤ (k : Int) := by omega
        have hi2 : (k : Int) < (l.length : Int) := by omega
        have hi3 : (k : Int) ≤ (cap : Int) := by omega
        have hbx : Below wr.heap.size wr (wr.alloc (.cells #[.int .i64 st, .string last, .bool fo] 27)) := (Below.refl _ _).alloc (Nat.le_refl _) _
        have HHk := Lib.hid (heap_alloc_new wr (.cells #[.int .i64 st, .string last, .bool fo] 27))
        have HLk := Lib.hid (HLr.out.below hbx)
        have HBk : Hid (Below w.heap.size w _) := Lib.hid (HBr.out.trans (hbx.mono HBr.out.size))
        clear hbx HLr HBr
        go_upto_region 7 with fail
        obtain ⟨wk, ew⟩ : ∃ wk, wk = wr.alloc (.cells #[.int .i64 st, .string last, .bool fo] 27) := ⟨_, rfl⟩
        rw [← ew] at HHk HLk HBk ⊢
        clear ew x1 x2 x3
        have c0 := cell_of_row wk wr.heap.size 0 _ _ (0, 0) HHk.out
        have c1 := cell_of_row wk wr.heap.size 1 _ _ (0, 0) HHk.out
        have c2 := cell_of_row wk wr.heap.size 2 _ _ (0, 0) HHk.out
        by_cases h40 : 40 ≤ k
        · have h5 : (40 : Int) ≤ (k : Int) := by omega
          clear h40
          go_wp2_with fail
          refine (left_any _ _ _ _ HLk.out).mono ?_
          rintro e w6 ⟨rfl, rfl⟩
          go_wp2_with fail
          refine (HSs.out _ HXr.out _).mono ?_
          rintro e w6 ⟨rfl, rfl⟩
          go_wp2_with fail
          refine (awake_any _ (HTM.out _ HBk.out).1 (HTM.out _ HBk.out).2).mono ?_
          rintro e w7 ⟨rfl, hb⟩
          have HB7 := A.below_step HBk hb
          clear hb
          go_wp2
          go_ret
          exact ⟨rfl, HB7.out⟩
        · have h5 : ¬ (40 : Int) ≤ (k : Int) := by omega
          clear h40
          by_cases hl40 : 40 < last.size
          · have h6 : (40 : Int) < (last.size : Int) := by omega
            clear hl40
            go_wp2_with fail
            refine (left_any _ _ _ _ HLk.out).mono ?_
            rintro e w6 ⟨rfl, rfl⟩
            go_wp2_with fail
            refine (HSs.out _ HXr.out _).mono ?_
            rintro e w6 ⟨rfl, rfl⟩
            go_wp2_with fail
            refine (awake_any _ (HTM.out _ HBk.out).1 (HTM.out _ HBk.out).2).mono ?_
            rintro e w7 ⟨rfl, hb⟩
            have HB7 := A.below_step HBk hb
            clear hb
            go_wp2
            go_ret
            exact ⟨rfl, HB7.out⟩
          · have h6 : ¬ (40 : Int) < (last.size : Int) := by omega
            have HN := Lib.hid (next_any w.heap.size s' last st fo wk HLk.out hs' (by omega) (fun w' hg => HTM.out _ (grown_below HBk.out hg (Nat.le_refl _) (Nat.le_refl _))))
            have hW := whole_L s' last st fo
            clear hl40
            generalize nxL s' last st fo = r at *
            obtain ⟨⟨kind, nm, attrs, self, data⟩, s2⟩ := r
            obtain ⟨⟨j, hj, hs2⟩, hw3, hw0, hwl⟩ := hW
            dsimp only at hs2 hw3 hw0 hwl
            have HSf : Hid (∀ w, Calls Tryd.prog 9 #[.string s', .string s2] w fun e w' => e = .returned (.bool true) ∧ w = w') := Lib.hid (fun w => by rw [hs2]; exact suf_any s' j hs' w)
            have HX4 : Hid (End s s2) := Lib.hid (by obtain ⟨i, hi, rfl⟩ := HXr.out; exact ⟨i + j, by rw [ext_sz s hi] at hj; omega, by rw [hs2, ext_ext]⟩)
            clear hj hs2
            go_wp2_with fail
            refine (left_any _ _ _ _ HLk.out).mono ?_
            rintro e w1 ⟨rfl, rfl⟩
            go_wp2_with fail
            refine HN.out.mono ?_
            rintro e w3 ⟨ta, tcap, hcap3, he, _, hlb, hgr⟩
            unfold tkV at he
            subst he
            have HB3 : Hid (Below w.heap.size w w3) := Lib.hid (grown_below HBk.out hgr (Nat.le_refl _) (Nat.le_refl _))
            have hb : Below w3.heap.size w3 (w3.alloc (.cells #[.int .i64 kind, .string nm, .slice ta attrs.length tcap, .bool self, .string data] 31)) := (Below.refl _ _).alloc (Nat.le_refl _) _
            have HH4 := Lib.hid (heap_alloc_new w3 (.cells #[.int .i64 kind, .string nm, .slice ta attrs.length tcap, .bool self, .string data] 31))
            have HB4 : Hid (Below w.heap.size w _) := Lib.hid (HB3.out.trans (hb.mono HB3.out.size))
            have hlb2 : LB 41 w3 w.heap.size s2 := hlb
            have HL4 := Lib.hid (hlb2.below hb)
            clear hb hlb hlb2 hgr hcap3 HB3 HN HHk c0 c1 c2 HLk HBk
            go_upto_region 10 with fail
            obtain ⟨w4, ew⟩ : ∃ w4, w4 = w3.alloc (.cells #[.int .i64 kind, .string nm, .slice ta attrs.length tcap, .bool self, .string data] 31) := ⟨_, rfl⟩
            rw [← ew] at HH4 HB4 HL4 ⊢
            clear ew
            obtain ⟨c0, c1, c2, c3, c4⟩ := row_of HH4.out
            have HLf : Hid (∀ n, Calls Tryd.prog 7 #[.pointer (some ⟨w.heap.size, 0, none⟩)] (w4.drewN n) fun e w' => e = .returned (.string s2) ∧ w4.drewN n = w') := Lib.hid (fun n => left_any _ _ _ _ (HL4.out.drewN n))
            clear HH4
            by_cases k0 : kind = 0
            · obtain ⟨ht, hz⟩ := hw0 k0
              unfold endL at ht
              injection ht with q1 q2 q3 q4 q5
              subst q1 q2 q3 q4 q5
              obtain ⟨a1, a2⟩ := C.empty_yes hz
              clear hw0 hw3 hwl k0 hz
              go_quiet ((first | (go_at_call 7; exact quiet_left (HLf.out _)) | (go_at_call 9; exact quiet_left (HSf.out _))))
              go_wp2
              go_roundw
              case rel => exact ⟨k + 1, s2, by omega, by go_num, HL4.out.drewN _, HX4.out, drewNB HB4.out _⟩
              case measure => simp [intOf]; omega
            · have hsz := hwl k0
              have e0 : (kind == 0) = false := by simpa using k0
              have e0' : (kind != 0) = true := by simp [k0]
              have hsz2 : ¬ (s'.size : Int) ≤ (s2.size : Int) := by omega
              by_cases k3 : kind = 3
              · have hd := hw3 k3
                obtain ⟨d1, d2⟩ := C.empty_no hd
                have e3 : (kind == 3) = true := by simp [k3]
                clear hw0 hw3 hwl k0 k3 hd
                by_cases z1 : s2.size = 0
                · obtain ⟨a1, a2⟩ := C.empty_yes z1
                  have Z1 := Lib.hid z1
                  clear z1
                  by_cases z2 : nm.size = 0
                  · obtain ⟨b1, b2⟩ := C.empty_yes z2
                    clear z2
                    go_quiet ((first | (go_at_call 7; exact quiet_left (HLf.out _)) | (go_at_call 9; exact quiet_left (HSf.out _))))
                    go_wp2
                    go_roundw
                    case rel => exact ⟨k + 1, s2, by omega, by go_num, HL4.out.drewN _, HX4.out, drewNB HB4.out _⟩
                    case measure => simp [intOf]; omega
                  · obtain ⟨b1, b2⟩ := C.empty_no z2
                    clear z2
                    go_quiet ((first | (go_at_call 7; exact quiet_left (HLf.out _)) | (go_at_call 9; exact quiet_left (HSf.out _))))
                    go_wp2
                    go_roundw
                    case rel => exact ⟨k + 1, s2, by omega, by go_num, HL4.out.drewN _, HX4.out, drewNB HB4.out _⟩
                    case measure => simp [intOf]; omega
                · obtain ⟨a1, a2⟩ := C.empty_no z1
                  clear z1
                  go_quiet ((first | (go_at_call 7; exact quiet_left (HLf.out _)) | (go_at_call 9; exact quiet_left (HSf.out _))))
                  go_wp2
                  go_roundw
                  case rel => exact ⟨k + 1, s2, by omega, by go_num, HL4.out.drewN _, HX4.out, drewNB HB4.out _⟩
                  case measure => simp [intOf]; omega
              · have e3 : (kind == 3) = false := by simpa using k3
                clear hw0 hw3 hwl k0 k3
                by_cases z1 : s2.size = 0
                · obtain ⟨a1, a2⟩ := C.empty_yes z1
                  have Z1 := Lib.hid z1
                  clear z1
                  by_cases z2 : nm.size = 0
                  · obtain ⟨b1, b2⟩ := C.empty_yes z2
                    clear z2
                    by_cases z3 : data.size = 0
                    · obtain ⟨d1, d2⟩ := C.empty_yes z3
                      clear z3
                      go_quiet ((first | (go_at_call 7; exact quiet_left (HLf.out _)) | (go_at_call 9; exact quiet_left (HSf.out _))))
                      go_wp2
                      go_roundw
                      case rel => exact ⟨k + 1, s2, by omega, by go_num, HL4.out.drewN _, HX4.out, drewNB HB4.out _⟩
                      case measure => simp [intOf]; omega
                    · obtain ⟨d1, d2⟩ := C.empty_no z3
                      clear z3
                      go_quiet ((first | (go_at_call 7; exact quiet_left (HLf.out _)) | (go_at_call 9; exact quiet_left (HSf.out _))))
                      go_wp2
                      go_roundw
                      case rel => exact ⟨k + 1, s2, by omega, by go_num, HL4.out.drewN _, HX4.out, drewNB HB4.out _⟩
                      case measure => simp [intOf]; omega
                  · obtain ⟨b1, b2⟩ := C.empty_no z2
                    clear z2
                    go_quiet ((first | (go_at_call 7; exact quiet_left (HLf.out _)) | (go_at_call 9; exact quiet_left (HSf.out _))))
                    go_wp2
                    go_roundw
                    case rel => exact ⟨k + 1, s2, by omega, by go_num, HL4.out.drewN _, HX4.out, drewNB HB4.out _⟩
                    case measure => simp [intOf]; omega
                · obtain ⟨a1, a2⟩ := C.empty_no z1
                  clear z1
                  go_quiet ((first | (go_at_call 7; exact quiet_left (HLf.out _)) | (go_at_call 9; exact quiet_left (HSf.out _))))
                  go_wp2
                  go_roundw
                  case rel => exact ⟨k + 1, s2, by omega, by go_num, HL4.out.drewN _, HX4.out, drewNB HB4.out _⟩
                  case measure => simp [intOf]; omega
      · have hi2 : ¬ (k : Int) < (l.length : Int) := by omega
        go_wp2_with fail
        refine (left_any _ _ _ _ HLr.out).mono ?_
        rintro e w6 ⟨rfl, rfl⟩
        go_wp2_with fail
        refine (HSs.out _ HXr.out _).mono ?_
        rintro e w6 ⟨rfl, rfl⟩
        go_wp2_with fail
        refine (awake_any _ (HTM.out _ HBr.out).1 (HTM.out _ HBr.out).2).mono ?_
        rintro e w7 ⟨rfl, hb⟩
        have HB7 := A.below_step HBr hb
        clear hb
        go_wp2
        go_ret
        exact ⟨rfl, HB7.out⟩
end Go.Proofs.YtceelfomgcbkiaaDoor
