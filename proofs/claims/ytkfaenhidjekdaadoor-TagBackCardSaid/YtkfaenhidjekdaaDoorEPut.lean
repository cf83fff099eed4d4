/-
  The walk of put: a text is written into the builder that lies within the writer.
-/
import Derived.Test.YtkfaenhidjekdaaDoorESize
import Derived.Test.YtkfaenhidjekdaaDoorEEmb2
import Derived.StillTailTactics
namespace Go.Proofs.YtkfaenhidjekdaaDoor.E
open Go.RowKit Go.Maps Go.Proofs.YtkfaenhidjekdaaDoor.C Go.Lib

theorem runeLen_one (r : Int) (w : World) (h0 : 0 ≤ r) (h1 : r ≤ 127) : Calls Tryd.prog 57 #[.int .i32 r] w fun e w' => e = .returned (.int .i64 1) ∧ w = w' := by
  go_enter Tryd.func57, Tryd.ntmps57
  go_wp2
  go_ret
  exact ⟨rfl, rfl⟩
theorem runeLen_two (r : Int) (w : World) (h0 : 127 < r) (h1 : r ≤ 2047) : Calls Tryd.prog 57 #[.int .i32 r] w fun e w' => e = .returned (.int .i64 2) ∧ w = w' := by
  go_enter Tryd.func57, Tryd.ntmps57
  go_wp2
  go_ret
  exact ⟨rfl, rfl⟩
theorem str_cells (l : List UInt8) (s : ByteArray) : byteCells l ++ strCells s = byteCells (l ++ s.data.toList) := by simp [byteCells, strCells]
theorem ext_take (s : ByteArray) (i j : Nat) : (s.extract i j).data.toList = (s.data.toList.drop i).take (j - i) := by rw [ext_list, List.drop_take]
theorem oK_cells {b : Nat} {w w' : World} (h : Lib.OthersKept 5 (some b) w w') {k : Nat} {cs : Array Value} {t : TypeId} {fz : Nat × Nat} (hk : w.heap[k]? = some (.cells cs t fz)) (hkb : k ≠ b) (ht : t ≠ 5) : w'.heap[k]? = some (.cells cs t fz) :=
  h k _ hk (by simpa using hkb) (fun c f e => by injection e with _ e2 _; exact ht e2)
/-- Where the loop stands: what is written already, and what is to come. -/
def At (q : Bool) (s : ByteArray) (fr pos : Nat) (acc : List UInt8) : Prop := fr ≤ pos ∧ pos ≤ s.size ∧ esc q s.data.toList = acc ++ (s.data.toList.drop fr).take (pos - fr) ++ esc q (s.data.toList.drop pos)
theorem At.start (q : Bool) (s : ByteArray) : At q s 0 0 [] := ⟨Nat.le_refl _, Nat.zero_le _, by simp⟩
theorem At.small {q : Bool} {s : ByteArray} {fr pos : Nat} {acc : List UInt8} (h : At q s fr pos acc) : acc.length + (pos - fr) ≤ 6 * s.size := by
  obtain ⟨h1, h2, h3⟩ := h
  have := congrArg List.length h3
  rw [List.length_append, List.length_append, List.length_take, List.length_drop, size_list] at this
  have := esc_len q s.data.toList
  rw [size_list] at this
  omega
theorem At.no {q : Bool} {s : ByteArray} {fr pos : Nat} {acc : List UInt8} (h : At q s fr pos acc) (hp : pos < s.size) (hr : rpl q (Utf8.decode s pos).1 = none) : At q s fr (pos + (Utf8.decode s pos).2) acc := by
  obtain ⟨h1, h2, h3⟩ := h
  have st := step_ok q s pos hp
  refine ⟨by omega, st.fits, ?_⟩
  rw [h3, st.no hr]
  have e : pos + (Utf8.decode s pos).2 - fr = (pos - fr) + (Utf8.decode s pos).2 := by omega
  rw [e, List.take_add, List.drop_drop, show fr + (pos - fr) = pos by omega]
  simp only [List.append_assoc]
theorem At.yes {q : Bool} {s : ByteArray} {fr pos : Nat} {acc t : List UInt8} (h : At q s fr pos acc) (hp : pos < s.size) (hr : rpl q (Utf8.decode s pos).1 = some t) :
    At q s (pos + (Utf8.decode s pos).2) (pos + (Utf8.decode s pos).2) (acc ++ (s.extract fr pos).data.toList ++ t) ∧ (Utf8.decode s pos).2 = if (Utf8.decode s pos).1 = 160 then 2 else 1 := by
  obtain ⟨h1, h2, h3⟩ := h
  have st := step_ok q s pos hp
  obtain ⟨k1, k2⟩ := st.yes t hr
  refine ⟨⟨Nat.le_refl _, st.fits, ?_⟩, k2⟩
  rw [h3, k1, ext_take, Nat.sub_self, List.take_zero, List.append_nil]
  simp [List.append_assoc]
theorem At.fin {q : Bool} {s : ByteArray} {fr : Nat} {acc : List UInt8} (h : At q s fr s.size acc) : esc q s.data.toList = acc ++ (s.extract fr s.size).data.toList := by
  obtain ⟨h1, h2, h3⟩ := h
  have e : s.data.toList.drop s.size = [] := List.drop_eq_nil_of_le (by rw [size_list]; exact Nat.le_refl _)
  rw [h3, ext_take, e, esc_nil, List.append_nil]

theorem rpl_r {q : Bool} {r : Nat} {t : List UInt8} (h : rpl q r = some t) : (r ≤ 127 ∨ r = 160) ∧ t.length ≤ 6 := by
  unfold rpl at h
  repeat' split at h
  all_goals first
    | (cases h; refine ⟨by omega, by decide⟩)
    | cases h

set_option maxRecDepth 100000 in
set_option maxHeartbeats 6400000 in
theorem put_any (q : Bool) (B b mb : Nat) (s : ByteArray) (w : World) (hs : s.size ≤ 1000000) (hM : RMap w mb (ents q)) (hmb : mb < B) (hE : IsEmb B b (.map (some mb)) [] w) (hB : B ≤ b) (hBw : B ≤ w.heap.size) :
    Calls Tryd.prog 46 #[.pointer (some ⟨b, 0, none⟩), .string s] w fun e w' => e = .returned (.tuple #[]) ∧ IsEmb B b (.map (some mb)) (byteCells (esc q s.data.toList)) w' ∧ Below B w w' := by
  have hit : (w.iter s 0).heap[w.heap.size]? = some (.stringIter s 0) := w.iter_heap s 0
  have hbI : b < w.heap.size := hE.lt
  have HE0 : Hid (IsEmb B b (.map (some mb)) (byteCells []) (w.iter s 0)) := Lib.hid (hE.alloc (.stringIter s 0))
  have HM : Hid (RMap w mb (ents q)) := Lib.hid hM
  have HB0 : Hid (Below B w (w.iter s 0)) := Lib.hid ((Below.refl B w).alloc hBw _)
  clear hM hE
  go_enter Tryd.func46, Tryd.ntmps46
  go_wp2_with fail
  have HA0 := At.start q s
  generalize w.iter s 0 = w1 at *
  go_loopw [4] (fun f wr => ∃ (pos fr : Nat) (acc : List UInt8), f = .int .i64 fr ∧ At q s fr pos acc ∧ wr.heap[w.heap.size]? = some (.stringIter s pos) ∧ IsEmb B b (.map (some mb)) (byteCells acc) wr ∧ Below B w wr) (fun _ wr => s.size - wr.iterPos w.heap.size)
  case atStart => exact ⟨0, 0, [], rfl, HA0, hit, HE0.out, HB0.out⟩
  case round =>
    obtain ⟨pos, fr, acc, rfl, hA, hit2, hE, hBl⟩ := hrel
    have HBl := Lib.hid hBl
    have HE := Lib.hid hE
    have hfp := hA.1
    have hps := hA.2.1
    have hsm := hA.small
    have HA := Lib.hid hA
    have hIw : w.heap.size < wr.heap.size := (Array.getElem?_eq_some_iff.1 hit2).1
    have hbx : b ≠ w.heap.size := by omega
    have hBwr : B ≤ wr.heap.size := by omega
    clear hA hBl hE
    by_cases hlt : pos < s.size
    · have hnx := fun ty => Lib.run_next_any_at (P := Tryd.prog) wr w.heap.size s pos ty hit2 hlt
      have hpos := (step_ok q s pos hlt).pos
      have hfit := (step_ok q s pos hlt).fits
      have hle := decode_le s pos
      have HN : Hid (rpl q (Utf8.decode s pos).1 = none → At q s fr (pos + (Utf8.decode s pos).2) acc) := Lib.hid (HA.out.no hlt)
      have HY : Hid (∀ t, rpl q (Utf8.decode s pos).1 = some t → At q s (pos + (Utf8.decode s pos).2) (pos + (Utf8.decode s pos).2) (acc ++ (s.extract fr pos).data.toList ++ t) ∧ (Utf8.decode s pos).2 = if (Utf8.decode s pos).1 = 160 then 2 else 1) := Lib.hid (fun t ht => HA.out.yes hlt ht)
      generalize (Utf8.decode s pos).1 = r at *
      generalize (Utf8.decode s pos).2 = kk at *
      have hit3 := Lib.iterAt_heap wr w.heap.size s pos (pos + kk) hit2
      have HM2 : Hid (RMap (wr.iterAt w.heap.size s (pos + kk)) mb (ents q)) := Lib.hid ((HM.out.below HBl.out hmb).kept (Lib.iterAt_other wr w.heap.size _ s _ (by omega)))
      have HB2 : Hid (Below B w (wr.iterAt w.heap.size s (pos + kk))) := Lib.hid (Lib.below_iterAt HBl.out (by omega) s (pos + kk))
      have HE2 : Hid (IsEmb B b (.map (some mb)) (byteCells acc) (wr.iterAt w.heap.size s (pos + kk))) := Lib.hid (HE.out.iterAt hit2 (pos + kk))
      have hc2 := HE2.out.cell2
      have hz2 : (wr.iterAt w.heap.size s (pos + kk)).heap.size = wr.heap.size := Lib.iterAt_size _ _ _ _
      rcases ents_rpl q r with ⟨hr, hf⟩ | ⟨t, hr, hf⟩
      · have HA3 := Lib.hid (HN.out hr)
        clear HN HY
        go_wp2_with (first
          | (at_lookup; refine wpList_lookup_rmap _ rfl _ _ _ rfl Tryd.underlying49 Tryd.underlying21 zeroR (zeroRef _) mb (ents q) rfl HM2.out (ents_w q) (ents_d q) r rfl (by unfold i32; omega) ?_; rw [if_pos rfl, hf]; simp only [Option.getD_none, Option.isSome_none]; unfold zeroR))
        have hit4 : ((wr.iterAt w.heap.size s (pos + kk)).alloc (.cells #[.string ⟨#[]⟩, .int .i64 0] 75)).heap[w.heap.size]? = some (.stringIter s (pos + kk)) := (Below.heap_alloc _ _ _ (by rw [hz2]; exact hIw)).trans hit3
        exact ⟨⟨pos + kk, fr, acc, rfl, HA3.out, hit4, HE2.out.alloc _, HB2.out.alloc (by rw [hz2]; exact hBwr) _⟩, by rw [iterPos_of hit4, iterPos_of hit2]; omega⟩
      · obtain ⟨hAy, hkk⟩ := HY.out t hr
        have HA3 := Lib.hid hAy
        have HKK := Lib.hid hkk
        obtain ⟨mo, hf⟩ : ∃ mo : Int, fnd (ents q) r = some (refV t mo) := ⟨_, hf⟩
        have HF := Lib.hid hf
        obtain ⟨hr2, ht6⟩ := rpl_r hr
        have hit4 : ((wr.iterAt w.heap.size s (pos + kk)).alloc (.cells #[.string ⟨t.toArray⟩, .int .i64 mo] 75)).heap[w.heap.size]? = some (.stringIter s (pos + kk)) := (Below.heap_alloc _ _ _ (by rw [hz2]; exact hIw)).trans hit3
        have hJ : ((wr.iterAt w.heap.size s (pos + kk)).alloc (.cells #[.string ⟨t.toArray⟩, .int .i64 mo] 75)).heap[wr.heap.size]? = some (.cells #[.string ⟨t.toArray⟩, .int .i64 mo] 75 (0, 0)) := by
          rw [← hz2]; exact heap_alloc_new _ _
        have HE3 := Lib.hid (HE2.out.alloc (.cells #[.string ⟨t.toArray⟩, .int .i64 mo] 75))
        have HB3 := Lib.hid (HB2.out.alloc (by rw [hz2]; exact hBwr) (.cells #[.string ⟨t.toArray⟩, .int .i64 mo] 75))
        have hz3 : B ≤ ((wr.iterAt w.heap.size s (pos + kk)).alloc (.cells #[.string ⟨t.toArray⟩, .int .i64 mo] 75)).heap.size := by simp [hz2]; omega
        have HR2 := Lib.hid hr2
        clear HN HY hAy hkk hf hr hr2
        go_wp2_with (first
          | (at_lookup; refine wpList_lookup_rmap _ rfl _ _ _ rfl Tryd.underlying49 Tryd.underlying21 zeroR (zeroRef _) mb (ents q) rfl HM2.out (ents_w q) (ents_d q) r rfl (by unfold i32; omega) ?_; rw [if_pos rfl, HF.out]; simp only [Option.getD_some, Option.isSome_some]; unfold refV))
        generalize (wr.iterAt w.heap.size s (pos + kk)).alloc (.cells #[.string ⟨t.toArray⟩, .int .i64 mo] 75) = w4 at *
        go_still_tail 7, (by kernel_rfl)
        change wpList _ _ _ _ _ w4.drew
        have HE5 : Hid (IsEmb B b (.map (some mb)) (byteCells acc) w4.drew) := HE3
        have HB5 : Hid (Below B w w4.drew) := Lib.hid HB3.out.drew
        have hit5 : w4.drew.heap[w.heap.size]? = some (.stringIter s (pos + kk)) := hit4
        have hJ5 : w4.drew.heap[wr.heap.size]? = some (.cells #[.string ⟨t.toArray⟩, .int .i64 mo] 75 (0, 0)) := hJ
        have hz5 : B ≤ w4.drew.heap.size := hz3
        clear HE3 HB3 hit4 hJ hz3
        generalize w4.drew = w5 at *
        have hex : (s.extract fr pos).size = pos - fr := by rw [ByteArray.size_extract]; omega
        have hbl : (byteCells acc).length = acc.length := byteCells_length _
        go_wp2_with fail
        refine (writeString_any B b (.map (some mb)) (byteCells acc) (s.extract fr pos) w5 HE5.out (by rw [hbl, hex]; omega) hz5).mono ?_
        rintro e w6 ⟨rfl, hE6, hb6, hk6⟩
        rw [str_cells] at hE6
        have HE6 := Lib.hid hE6
        have HB6 : Hid (Below B w w6) := Lib.hid (HB5.out.trans hb6)
        have hit6 : w6.heap[w.heap.size]? = some (.stringIter s (pos + kk)) := hk6.iter hit5 (by omega)
        have hJ6 := oK_cells hk6 hJ5 (by omega) (by decide)
        have hz6 : B ≤ w6.heap.size := Nat.le_trans hz5 hb6.size
        clear hE6 hb6 hk6 HE5 HB5 hit5 hJ5
        have hcJ : w6.cell? ⟨wr.heap.size, 0, none⟩ = some (.string ⟨t.toArray⟩) := by rw [Lib.cell_of_heap hJ6]; rfl
        go_wp2_with fail
        go_still_tail 5, (by kernel_rfl)
        change wpList _ _ _ _ _ w6.drew
        have HE7 : Hid (EmbAt B b (.map (some mb)) (.pointer (some ⟨b, 0, none⟩)) (byteCells (acc ++ (s.extract fr pos).data.toList)) w6.drew) := HE6
        have HB7 : Hid (Below B w w6.drew) := Lib.hid HB6.out.drew
        have hit7 : w6.drew.heap[w.heap.size]? = some (.stringIter s (pos + kk)) := hit6
        have hz7 : B ≤ w6.drew.heap.size := hz6
        clear HE6 HB6 hit6 hz6 hcJ hJ6
        generalize w6.drew = w7 at *
        have hbl2 : (byteCells (acc ++ (s.extract fr pos).data.toList)).length = acc.length + (pos - fr) := by rw [byteCells_length, List.length_append, size_list, hex]
        have htl : (⟨t.toArray⟩ : ByteArray).size = t.length := by show t.toArray.size = _; simp
        go_wp2_with fail
        refine (writeString_any B b (.map (some mb)) (byteCells (acc ++ (s.extract fr pos).data.toList)) ⟨t.toArray⟩ w7 (.inr HE7.out) (by rw [hbl2, htl]; omega) hz7).mono ?_
        rintro e w8 ⟨rfl, hE8, hb8, hk8⟩
        rw [str_cells] at hE8
        have HE8 : Hid (IsEmb B b (.map (some mb)) (byteCells (acc ++ (s.extract fr pos).data.toList ++ t)) w8) := Lib.hid (.inr (by simpa using hE8))
        have HB8 : Hid (Below B w w8) := Lib.hid (HB7.out.trans hb8)
        have hit8 : w8.heap[w.heap.size]? = some (.stringIter s (pos + kk)) := hk8.iter hit7 (by omega)
        clear hE8 hb8 hk8 HE7 HB7 hit7 hz7 hbl2 htl hex hbl
        have HRL : Hid (Calls Tryd.prog 57 #[.int .i32 r] w8 fun e w' => e = .returned (.int .i64 kk) ∧ w8 = w') := Lib.hid (by
          rw [HKK.out]
          rcases HR2.out with h | h
          · rw [if_neg (by omega)]; exact runeLen_one r w8 (by omega) (by omega)
          · rw [if_pos h, h]; exact runeLen_two 160 w8 (by decide) (by decide))
        go_wp2_with fail
        refine HRL.out.mono ?_
        rintro e w9 ⟨rfl, rfl⟩
        clear HRL
        go_wp2_with fail
        go_roundw
        case rel => exact ⟨pos + kk, pos + kk, _, by go_num, HA3.out, hit8, HE8.out, HB8.out⟩
        case measure => rw [iterPos_of hit8, iterPos_of hit2]; omega
    · obtain rfl : pos = s.size := by omega
      have hnx := fun ty => Lib.run_next_end_at (P := Tryd.prog) wr w.heap.size s s.size ty hit2 (by omega)
      have HF := Lib.hid HA.out.fin
      have hex : (s.extract fr s.size).size = s.size - fr := by rw [ByteArray.size_extract]; omega
      have hbl : (byteCells acc).length = acc.length := byteCells_length _
      go_wp2_with fail
      go_still_tail 6, (by kernel_rfl)
      change wpList _ _ _ _ _ wr.drew
      have HE5 : Hid (IsEmb B b (.map (some mb)) (byteCells acc) wr.drew) := HE
      have HB5 : Hid (Below B w wr.drew) := Lib.hid HBl.out.drew
      have hz5 : B ≤ wr.drew.heap.size := hBwr
      clear HE HBl hit2 hnx
      generalize wr.drew = w5 at *
      go_wp2_with fail
      refine (writeString_any B b (.map (some mb)) (byteCells acc) (s.extract fr s.size) w5 HE5.out (by rw [hbl, hex]; omega) hz5).mono ?_
      rintro e w6 ⟨rfl, hE6, hb6, _⟩
      rw [str_cells, ← HF.out] at hE6
      have HE6 := Lib.hid hE6
      have HB6 : Hid (Below B w w6) := Lib.hid (HB5.out.trans hb6)
      clear hE6 hb6 HE5 HB5
      go_wp2
      go_end0
      exact ⟨rfl, .inr HE6.out, HB6.out⟩
end Go.Proofs.YtkfaenhidjekdaaDoor.E
