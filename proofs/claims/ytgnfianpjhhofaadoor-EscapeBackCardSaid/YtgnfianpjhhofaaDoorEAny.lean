/-
  strings.IndexAny and ContainsAny of a text that has none of the characters asked for, at a list of two ASCII characters or more: also at texts of at most eight bytes that are not ASCII.
-/
import Derived.Test.YtgnfianpjhhofaaDoorEPlain
import Derived.Test.YtgnfianpjhhofaaDoorShelf
import Derived.WalkKit
import Derived.IntWalk
import Derived.LoopTactic
import Derived.WalkSpells
import Derived.WalkSmall
import Derived.Lib.Hide
import Derived.Lib.OthersKept
import Derived.Laws.Runes
import Derived.Deep.QuietTactic
import Derived.BigQuiet
import Derived.Lib.IndexAny
import Derived.WalkMore
import Derived.StillTailTactics
namespace Go.Proofs.YtgnfianpjhhofaaDoor.E
open Go.RowKit Go.Proofs.YtgnfianpjhhofaaDoor.C Go.Lib

theorem decode_chr (s : ByteArray) (p : Nat) : Utf8.valid ((Utf8.decode s p).1 : Int) = true := by
  have hb : ∀ k, (s.get! (p + k)).toNat < 256 := fun k => (s.get! (p + k)).toNat_lt
  have h0 := hb 0; have h1 := hb 1
  rw [validRune_eq]
  unfold Utf8.decode
  simp only []
  split
  · unfold validRune; exact decide_eq_true (by omega)
  · split
    · split
      · unfold validRune; exact decide_eq_true (by left; constructor <;> omega)
      · decide
    · split
      · split
        · rename_i h
          simp only [Bool.and_eq_true] at h
          rw [← validRune_eq]; exact h.2
        · decide
      · split
        · split
          · rename_i h
            simp only [Bool.and_eq_true] at h
            rw [← validRune_eq]; exact h.2
          · decide
        · decide
theorem indexByte_no : ∀ (l : List UInt8) (c : UInt8), c ∉ l → indexByte l c = -1
  | [], _, _ => rfl
  | b :: l, c, h => by
    have ih := indexByte_no l c (fun e => h (by simp [e]))
    have hb : ¬ b = c := fun e => h (by simp [e])
    unfold indexByte
    simp [hb, ih]
theorem below_drewN (w : World) : ∀ n, Below w.heap.size w (w.drewN n)
  | 0 => Below.refl _ _
  | n + 1 => (below_drewN w n).drew
def low (l : List UInt8) : Prop := ∀ b ∈ l, b.toNat < 128

set_option maxHeartbeats 3000000 in
set_option maxRecDepth 1000000 in
theorem idxRune_bad (chars : ByteArray) (hac : low chars.data.toList) (w : World) :
    Calls Tryd.prog 27 #[.string chars, .int .i32 65533] w fun e w' => e = .returned (.int .i64 (-1)) ∧ Below w.heap.size w w' := by
  have HC := Lib.hid hac
  have hit : (w.iter chars 0).heap[w.heap.size]? = some (.stringIter chars 0) := w.iter_heap chars 0
  have HB0 : Hid (Below w.heap.size w (w.iter chars 0)) := Lib.hid ((Below.refl w.heap.size w).alloc (Nat.le_refl _) _)
  clear hac
  go_enter Tryd.func27, Tryd.ntmps27
  go_wp2_with fail
  generalize w.iter chars 0 = w1 at *
  go_loopw [6] (fun _ wr => ∃ pos : Nat, pos ≤ chars.size ∧ wr.heap[w.heap.size]? = some (.stringIter chars pos) ∧ Below w.heap.size w wr) (fun _ wr => chars.size - wr.iterPos w.heap.size)
  case atStart => exact ⟨0, Nat.zero_le _, hit, HB0.out⟩
  case round =>
    obtain ⟨pos, hp, hit2, hB⟩ := hrel
    have HB := Lib.hid hB
    clear hB
    by_cases hlt : pos < chars.size
    · have hl : chars[pos].toNat < 128 := HC.out _ (by have := C.get_at chars pos hlt; exact List.mem_of_getElem? this)
      have hnx := fun ty => Lib.run_next_ascii_at (P := Tryd.prog) wr w.heap.size chars pos ty hit2 hlt hl
      have hit3 := Lib.iterAt_heap wr w.heap.size chars pos (pos + 1) hit2
      have HB2 := Lib.hid (Lib.below_iterAt HB.out (Nat.le_refl _) chars (pos + 1))
      have ht : ((chars[pos].toNat : Int) == 65533) = false := by rw [beq_eq_false_iff_ne]; omega
      go_wp2_with fail
      go_roundw
      case rel => exact ⟨pos + 1, by omega, hit3, HB2.out⟩
      case measure => rw [iterPos_of hit3, iterPos_of hit2]; omega
    · obtain rfl : pos = chars.size := by omega
      have hnx := fun ty => Lib.run_next_end_at (P := Tryd.prog) wr w.heap.size chars chars.size ty hit2 (by omega)
      go_wp2_with fail
      go_ret
      exact ⟨rfl, HB.out⟩

set_option maxHeartbeats 3000000 in
set_option maxRecDepth 1000000 in
theorem idxRune_far (chars : ByteArray) (hac : low chars.data.toList) (_hcs : chars.size ≤ 1000) (r : Int) (hv : Utf8.valid r = true) (h128 : 128 ≤ r) (hmax : r ≤ 1114111) (hbad : r ≠ 65533) (w : World) :
    Calls Tryd.prog 27 #[.string chars, .int .i32 r] w fun e w' => e = .returned (.int .i64 (-1)) ∧ Below w.heap.size w w' := by
  have HVR : Hid (∀ W, Calls Tryd.prog 44 #[.int .i32 r] W fun e w' => e = .returned (.bool true) ∧ w' = W) := Lib.hid (fun W => by
    have h := Tryd.utf8_ValidRune r W
    have hv2 : Lib.validRune r = true := by rw [validRune_eq] at hv; exact hv
    rw [hv2] at h
    exact h)
  obtain ⟨e2, e4, elast⟩ := encode_facts r hv h128
  have HC := Lib.hid hac
  have hb' : (r == 65533) = false := by simpa using hbad
  have hlo : ¬ r < 128 := by omega
  clear hac hv hbad
  generalize hE : Utf8.encode r = E at *
  obtain ⟨m, hm⟩ : ∃ m, E.size = m + 1 := ⟨E.size - 1, by omega⟩
  have hl := elast (by omega)
  have hEm : m < E.size := by omega
  have el : 128 ≤ (E[m]'hEm).toNat := by
    have e3 : E[E.size - 1]'(by omega) = E[m]'hEm := by congr 1; omega
    rw [e3] at hl; exact hl
  have hL : (E.size : Int) - 1 = m := by omega
  have hEi : (m : Int) < (E.size : Int) := by omega
  have hEd : decide ((m : Int) < (E.size : Int)) = true := decide_eq_true hEi
  clear elast hl hm
  by_cases hlt : m < chars.size
  · have hc : chars[m].toNat < 128 := HC.out _ (by have := C.get_at chars m hlt; exact List.mem_of_getElem? this)
    have hne : ((chars[m].toNat : Int) != ((E[m]'hEm).toNat : Int)) = true := by rw [bne_iff_ne]; omega
    have hix : indexByte (chars.extract (m + 1) chars.size).data.toList (E[m]'hEm) = -1 := indexByte_no _ _ (fun h => by
      have := HC.out _ (mem_extract h); omega)
    have HIB : Hid (∀ W, Calls Tryd.prog 13 #[.string (chars.extract (m + 1) chars.size), .int .u8 (E[m]'hEm).toNat] W fun e w' => e = .returned (.int .i64 (-1)) ∧ w' = W) := Lib.hid (fun W => by
      have h := Tryd.strings_IndexByte (chars.extract (m + 1) chars.size) (E[m]'hEm).toNat W
      have e : ((((E[m]'hEm).toNat : Int)).toNat.toUInt8) = E[m]'hEm := by simp
      rw [e, hix] at h
      exact h)
    clear hix
    have hci : (m : Int) < (chars.size : Int) := by omega
    have hcd : decide ((m : Int) < (chars.size : Int)) = true := decide_eq_true hci
    have hs1 : (m : Int) + 1 ≤ (chars.size : Int) := by omega
    have hs2 : ¬ (chars.size : Int) < (m : Int) + 1 := by omega
    have hs3 : m + 1 ≤ chars.size := hlt
    have hs4 : 0 ≤ (m : Int) + 1 := by omega
    have hs5 : IntKind.i64.wrap ((m : Int) + 1) = (m : Int) + 1 := wrap_small _ (by omega) (by omega)
    have hs6 : ((m : Int) + 1).toNat = m + 1 := by omega
    have hs7 : decide (0 ≤ (m : Int) + 1) = true := decide_eq_true hs4
    have hs8 : decide ((m : Int) + 1 ≤ (chars.size : Int)) = true := decide_eq_true hs1
    go_enter Tryd.func27, Tryd.ntmps27
    go_wp2_with (go_at_call 44; refine (HVR.out _).mono ?_; rintro e w' ⟨rfl, hw⟩; rw [hw])
    go_step3
    go_wp2_with fail
    go_loopw [9] (fun i wr => i = .int .i64 m ∧ wr = w) (fun _ _ => 0)
    case atStart => exact ⟨by go_num, rfl⟩
    case round =>
      obtain ⟨rfl, rfl⟩ := hrel
      go_wp2_with fail
      go_step3
      go_wp2_with fail
      go_quiet (fail)
      go_wp2_with fail
      have HB3 : Hid (Below wr.heap.size wr (wr.drewN nq)) := Lib.hid (below_drewN wr nq)
      generalize wr.drewN nq = w3 at *
      go_still_tail 7, (by kernel_rfl)
      change wpList _ _ _ _ _ w3.drew
      have HB4 : Hid (Below wr.heap.size wr w3.drew) := Lib.hid HB3.out.drew
      generalize w3.drew = w4 at *
      go_wp2_with fail
      refine (HIB.out _).mono ?_
      rintro e w5 ⟨rfl, rfl⟩
      go_wp2_with fail
      rw [Exit.noGoto_ret]
      go_wp2_with fail
      rw [Exit.noGoto_ret]
      go_ret
      exact ⟨rfl, HB4.out⟩
  · have hnl : ¬ (m : Int) < (chars.size : Int) := by omega
    go_enter Tryd.func27, Tryd.ntmps27
    go_wp2_with (go_at_call 44; refine (HVR.out _).mono ?_; rintro e w' ⟨rfl, hw⟩; rw [hw])
    go_step3
    go_wp2_with fail
    go_loopw [9] (fun i wr => i = .int .i64 m ∧ wr = w) (fun _ _ => 0)
    case atStart => exact ⟨by go_num, rfl⟩
    case round =>
      obtain ⟨rfl, rfl⟩ := hrel
      go_wp2_with fail
      rw [Exit.noGoto_ret]
      go_ret
      exact ⟨rfl, Below.refl _ _⟩

theorem idxRune_none (chars s : ByteArray) (p : Nat) (hp : p < s.size) (hac : low chars.data.toList) (hcs : chars.size ≤ 1000) (hno : ∀ b ∈ s.data.toList, b ∉ chars.data.toList) (w : World) :
    Calls Tryd.prog 27 #[.string chars, .int .i32 ((Utf8.decode s p).1 : Nat)] w fun e w' => e = .returned (.int .i64 (-1)) ∧ Below w.heap.size w w' := by
  by_cases hlow : (s.get! p).toNat < 128
  · have hg := get_bang s p hp
    rw [hg] at hlow
    rw [decode_ascii s p hp hlow]
    refine (Tryd.strings_IndexRune_ascii chars (s[p].toNat : Nat) w (by omega) (by omega)).mono ?_
    rintro e w' ⟨rfl, rfl⟩
    have e1 : ((s[p].toNat : Int)).toNat.toUInt8 = s[p] := by simp
    rw [e1, indexByte_no _ _ (hno _ (List.mem_of_getElem? (C.get_at s p hp)))]
    exact ⟨rfl, Below.refl _ _⟩
  · have h128 : 128 ≤ (Utf8.decode s p).1 := by
      rcases decode_cases s p hp hlow with h | h
      · omega
      · exact h.2.1
    have hv := decode_chr s p
    generalize (Utf8.decode s p).1 = r at *
    by_cases hb : r = 65533
    · subst hb; exact idxRune_bad chars hac w
    · have hmax : (r : Int) ≤ 1114111 := by
        rw [validRune_eq] at hv
        unfold Go.validRune at hv
        have := of_decide_eq_true hv
        omega
      exact idxRune_far chars hac hcs r hv (by omega) hmax (by omega) w

theorem useSet_no (n : Int) (hn : n ≤ 8) (w : World) : Calls Tryd.prog 28 #[.int .i64 n] w fun e w' => e = .returned (.bool false) ∧ w = w' := by
  have h : ¬ 8 < n := by omega
  clear hn
  go_enter Tryd.func28, Tryd.ntmps28
  go_wp2
  go_ret
  exact ⟨rfl, rfl⟩

set_option maxHeartbeats 3000000 in
theorem indexAny_short (chars s : ByteArray) (h2 : 2 ≤ chars.size) (hs : s.size ≤ 8) (hac : low chars.data.toList) (hcs : chars.size ≤ 1000) (hno : ∀ b ∈ s.data.toList, b ∉ chars.data.toList) (w : World) :
    Calls Tryd.prog 17 #[.string s, .string chars] w fun e w' => e = .returned (.int .i64 (-1)) ∧ Below w.heap.size w w' := by
  have HR : Hid (∀ p, p < s.size → ∀ W, Calls Tryd.prog 27 #[.string chars, .int .i32 ((Utf8.decode s p).1 : Nat)] W fun e w' => e = .returned (.int .i64 (-1)) ∧ Below W.heap.size W w') := Lib.hid (fun p hp W => idxRune_none chars s p hp hac hcs hno W)
  have hl1 : chars.toList ≠ [] := fun e => by
    rw [ByteArray.toList_eq] at e
    have := congrArg List.length e
    rw [size_list] at this
    have h0 : chars.size = 0 := this
    omega
  have hl2 : chars.toList.isEmpty = false := by simpa using hl1
  have h1 : ((chars.size : Int) == 1) = false := by rw [beq_eq_false_iff_ne]; omega
  have hit : (w.iter s 0).heap[w.heap.size]? = some (.stringIter s 0) := w.iter_heap s 0
  have HB0 : Hid (Below w.heap.size w (w.iter s 0)) := Lib.hid ((Below.refl w.heap.size w).alloc (Nat.le_refl _) _)
  clear hac hno hcs h2
  go_enter Tryd.func17, Tryd.ntmps17
  go_wp2_with (go_at_call 28; refine (useSet_no s.size (by omega) _).mono ?_; rintro e w' ⟨rfl, rfl⟩)
  generalize w.iter s 0 = w1 at *
  go_loopw [10] (fun _ wr => ∃ pos : Nat, pos ≤ s.size ∧ wr.heap[w.heap.size]? = some (.stringIter s pos) ∧ Below w.heap.size w wr) (fun _ wr => s.size - wr.iterPos w.heap.size)
  case atStart => exact ⟨0, Nat.zero_le _, hit, HB0.out⟩
  case round =>
    obtain ⟨pos, hp, hit2, hB⟩ := hrel
    have HB := Lib.hid hB
    clear hB
    by_cases hlt : pos < s.size
    · have hnx := fun ty => Lib.run_next_any_at (P := Tryd.prog) wr w.heap.size s pos ty hit2 hlt
      have hpos := (step_ok true s pos hlt).pos
      have hfit := (step_ok true s pos hlt).fits
      have HRp := Lib.hid (HR.out pos hlt)
      generalize (Utf8.decode s pos).1 = r at *
      generalize (Utf8.decode s pos).2 = kk at *
      have hit3 := Lib.iterAt_heap wr w.heap.size s pos (pos + kk) hit2
      have HB2 := Lib.hid (Lib.below_iterAt HB.out (Nat.le_refl _) s (pos + kk))
      go_wp2_with fail
      refine (HRp.out _).mono ?_
      rintro e w3 ⟨rfl, hb⟩
      have hit4 : w3.heap[w.heap.size]? = some (.stringIter s (pos + kk)) := (hb.block _ (Array.getElem?_eq_some_iff.1 hit3).1).trans hit3
      have HB3 := Lib.hid (HB2.out.trans (hb.mono HB2.out.size))
      clear hb
      go_wp2_with fail
      go_roundw
      case rel => exact ⟨pos + kk, hfit, hit4, HB3.out⟩
      case measure => rw [iterPos_of hit4, iterPos_of hit2]; omega
    · obtain rfl : pos = s.size := by omega
      have hnx := fun ty => Lib.run_next_end_at (P := Tryd.prog) wr w.heap.size s s.size ty hit2 (by omega)
      go_wp2_with fail
      go_ret
      exact ⟨rfl, HB.out⟩

theorem setZero : ∀ w, (zeroValue 60).run Tryd.prog w = .ok (.agg (Array.replicate 256 (.bool false))) w := by
  have h : (Tryd.prog.info? 60).map (fun i => (i.zero, i.size)) = some (some (.agg (Array.replicate 256 (.bool false))), 256) := by kernel_rfl
  exact (zero_of_info h).1

theorem containsAny_none (chars s : ByteArray) (h2 : 2 ≤ chars.size) (hs : s.size ≤ 1000000) (hac : low chars.data.toList) (hcs : chars.size ≤ 1000) (hno : ∀ b ∈ s.data.toList, b ∉ chars.data.toList) (w : World) :
    Calls Tryd.prog 8 #[.string s, .string chars] w fun e w' => e = .returned (.bool false) ∧ Below w.heap.size w w' := by
  have HI : Hid (∀ W, Calls Tryd.prog 17 #[.string s, .string chars] W fun e w' => e = .returned (.int .i64 (-1)) ∧ Below W.heap.size W w') := Lib.hid (fun W => by
    by_cases h8 : s.size ≤ 8
    · exact indexAny_short chars s h2 h8 hac hcs hno W
    · refine (Tryd.strings_IndexAny_long setZero s chars W h2 (by omega) (by omega) (by omega) (fun j b hb => hac b (List.mem_of_getElem? hb))).mono ?_
      rintro e w' ⟨rfl, rfl⟩
      refine ⟨?_, ((Below.refl _ _).alloc (Nat.le_refl _) _).alloc (by simp) _⟩
      rw [indexAny_none]
      intro j b hj hb
      have := hno b (List.mem_of_getElem? hb)
      simpa using this)
  clear hno hac
  go_enter Tryd.func8, Tryd.ntmps8
  go_wp2_with (go_at_call 17; refine (HI.out _).mono ?_)
  rintro e w' ⟨rfl, hb⟩
  go_wp2
  go_ret
  exact ⟨rfl, hb⟩
end Go.Proofs.YtgnfianpjhhofaaDoor.E
