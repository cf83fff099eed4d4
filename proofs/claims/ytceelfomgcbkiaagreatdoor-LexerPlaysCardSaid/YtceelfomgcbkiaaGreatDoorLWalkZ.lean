/-
  The walks of Next, its two parts, New, Left and All.
-/
import Derived.Test.YtceelfomgcbkiaaGreatDoorLPlacesZ
namespace Go.Proofs.YtceelfomgcbkiaaGreatDoor
open Go.RowKit
open Go.Proofs.YtceelfomgcbkiaaGreatDoor.A (At AttrsAt)
open Go.Proofs.YtceelfomgcbkiaaGreatDoor.R (S5 s5_heap s5_below row_of free_of W1 w1_row w1_below w1_size heap_keep MaxAt)
open Go.Proofs.YtceelfomgcbkiaaGreatDoor.C (StAt)

theorem new_any (s : ByteArray) (w : World) : Calls Tryz.prog 6 #[.string s] w fun e w' => e = .returned (.pointer (some ⟨w.heap.size, 0, none⟩)) ∧ w.alloc (.cells #[.string s] 43) = w' := by
  go_enter Tryz.func6, Tryz.ntmps6
  go_wp2
  go_ret
  exact ⟨rfl, rfl⟩
theorem left_any (T : TypeId) (B : Nat) (s : ByteArray) (w : World) (h : LB T w B s) : Calls Tryz.prog 10 #[.pointer (some ⟨B, 0, none⟩)] w fun e w' => e = .returned (.string s) ∧ w = w' := by
  have c := h.c
  clear h
  go_enter Tryz.func10, Tryz.ntmps10
  go_wp2
  go_ret
  exact ⟨rfl, rfl⟩
/-- The worlds ahead of the last store: what Next keeps; the cell of its result lies there. -/
theorem tok_fin {T : TypeId} {w wr : World} {B : Nat} {s' : ByteArray} {t : LTok} {a : Option Addr} {cap : Nat} {u0 : Int} {u1 u4 : ByteArray} {u3 : Bool} {ua : Option Addr} {un uc : Nat}
    (hB : B < w.heap.size) (hcap : t.attrs.length ≤ cap) (hA : AttrsAt wr a t.attrs) (hL : LB T wr B s') (hg : w.grownBy wr (some B))
    (hR : wr.heap[w.heap.size]? = some (.cells #[.int .i64 u0, .string u1, .slice ua un uc, .bool u3, .string u4] 34 (0, 0))) :
    ∃ wf, wf = S5 wr w.heap.size (.int .i64 t.kind) (.string t.name) (.slice a t.attrs.length cap) (.bool t.self) (.string t.data) ∧
      (wf.cell? ⟨w.heap.size, 0, none⟩ = some (.int .i64 t.kind) ∧ wf.cell? ⟨w.heap.size, 1, none⟩ = some (.string t.name) ∧ wf.cell? ⟨w.heap.size, 2, none⟩ = some (.slice a t.attrs.length cap) ∧ wf.cell? ⟨w.heap.size, 3, none⟩ = some (.bool t.self) ∧ wf.cell? ⟨w.heap.size, 4, none⟩ = some (.string t.data)) ∧
      RetNx T B (t, s') w (.returned (tkV t a cap)) wf := by
  have hb := s5_below (.int .i64 t.kind) (.string t.name) (.slice a t.attrs.length cap) (.bool t.self) (.string t.data) (Below.refl w.heap.size wr) (Nat.le_refl _)
  refine ⟨_, rfl, row_of (s5_heap _ _ _ _ _ hR), a, cap, hcap, rfl, attrs_s5 hA hR _ _ _ _ _, hL.of (hb.block B hB), ?_⟩
  exact ⟨hb.os.trans hg.os, hb.tape.trans hg.tape, hb.output.trans hg.output, Nat.le_trans hg.size hb.size, fun k hk hne => (hb.block k hk).trans (hg.block k hk hne)⟩

theorem nxD_end {f : Bool} {k : Nat} {s : ByteArray} (h : s.size = 0) : nxD f (k + 1) s = (endL, ⟨#[]⟩) := by unfold nxD; rw [if_pos h]
theorem nxD_txt {f : Bool} {k : Nat} {s : ByteArray} (h : s.size ≠ 0) (h1 : 0 < pln s.data.toList) : nxD f (k + 1) s = (txtL (C.decS false (s.extract 0 (pln s.data.toList))), s.extract (pln s.data.toList) s.size) := by
  unfold nxD; rw [if_neg h, if_pos h1]
theorem nxD_yes {f : Bool} {k : Nat} {s : ByteArray} (h : s.size ≠ 0) (h1 : ¬ 0 < pln s.data.toList) (h2 : mkO s.data.toList f = true) : nxD f (k + 1) s = (mkT s.data.toList f, s.extract (mkN s.data.toList f) s.size) := by
  unfold nxD; rw [if_neg h, if_neg h1, if_pos h2]
theorem nxD_no {f : Bool} {k : Nat} {s : ByteArray} (h : s.size ≠ 0) (h1 : ¬ 0 < pln s.data.toList) (h2 : mkO s.data.toList f = false) : nxD f (k + 1) s = nxD f k (s.extract (mkN s.data.toList f) s.size) := by
  conv => lhs; unfold nxD
  rw [if_neg h, if_neg h1, if_neg (by rw [h2]; decide)]
theorem empty_is {s : ByteArray} (h : s.size = 0) : s = ⟨#[]⟩ := by
  apply C.eq_of_list
  exact List.eq_nil_of_length_eq_zero (by rw [C.size_list]; exact h)
/-- The row of the result, ahead of its store. -/
def Zr (w wr : World) : Prop := wr.heap[w.heap.size]? = some (.cells #[.int .i64 0, .string ⟨#[]⟩, .slice none 0 0, .bool false, .string ⟨#[]⟩] 34 (0, 0))
theorem Zr.below {w w1 w2 : World} (h : Zr w w1) (hb : Below w1.heap.size w1 w2) : Zr w w2 := heap_keep hb h
theorem Zr.set {w w1 : World} (h : Zr w w1) {B : Nat} (hB : B < w.heap.size) (u : Value) : Zr w (w1.setCell ⟨B, 0, none⟩ u) := (heap_setCell_other w1 ⟨B, 0, none⟩ w.heap.size u (by show w.heap.size ≠ B; omega)).trans h
def Rn (f : Bool) (w : World) (B : Nat) (r : LTok × ByteArray) (sz g : Nat) (wr : World) : Prop :=
  ∃ s', s'.size < g ∧ s'.size ≤ sz ∧ nxD f g s' = r ∧ LB 43 wr B s' ∧ w.grownBy wr (some B) ∧ Zr w wr

set_option maxRecDepth 100000 in
set_option maxHeartbeats 6400000 in
theorem nextOfData_any (B : Nat) (s : ByteArray) (f : Bool) (w : World) (h : LB 43 w B s) (hs : s.size ≤ 10000) (hTB : ∀ w', w.grownBy w' (some B) → StAt w' ∧ MaxAt w') :
    Calls Tryz.prog 15 #[.pointer (some ⟨B, 0, none⟩), .bool f] w (RetNx 43 B (nxD f (s.size + 1) s) w) := by
  have hBl := h.lt
  have HTB := Lib.hid hTB
  have HS : Hid (Rn f w B (nxD f (s.size + 1) s) s.size (s.size + 1) (W1 w)) := Lib.hid ⟨s, Nat.lt_succ_self _, Nat.le_refl _, rfl, h.below (w1_below w), grown_of B (w1_below w), w1_row w⟩
  obtain ⟨r, hr⟩ : ∃ r, nxD f (s.size + 1) s = r := ⟨_, rfl⟩
  rw [hr] at HS ⊢
  clear hr hTB h
  go_enter Tryz.func15, Tryz.ntmps15
  go_wp2_with fail
  go_loopg [] (s.size + 1) (fun g wr => Rn f w B r s.size g wr)
  case atStart => exact HS.out
  case round =>
    obtain ⟨s', hg, hle, hh, hL, hG, hZ⟩ := hrel
    clear HS
    have HL := Lib.hid hL
    have HG := Lib.hid hG
    have HZ := Lib.hid hZ
    have c := hL.c
    clear hL hG hZ
    obtain ⟨k, rfl⟩ : ∃ k, gk = k + 1 := ⟨gk - 1, by omega⟩
    by_cases h0 : s'.size = 0
    · have hr : (endL, (⟨#[]⟩ : ByteArray)) = r := by rw [← hh, nxD_end h0]
      obtain ⟨e1, e2⟩ := C.empty_yes h0
      have he := empty_is h0
      subst he
      clear hh h0 HTB
      have hz := HZ.out
      obtain ⟨f0, f1, f2, f3, f4⟩ := free_of hz
      obtain ⟨g0, g1, g2, g3, g4⟩ := row_of hz
      clear hz
      go_wp2
      obtain ⟨wf, ewf, ⟨d0, d1, d2, d3, d4⟩, hret⟩ := tok_fin (t := endL) (a := none) (cap := 0) hBl (Nat.le_refl _) (AttrsAt.nil _ _) HL.out HG.out HZ.out
      rw [hr] at hret
      change bodyPost _ _ _ _ _ (S5 wr w.heap.size (.int .i64 0) (.string ⟨#[]⟩) (.slice none 0 0) (.bool false) (.string ⟨#[]⟩))
      change wf = S5 wr w.heap.size (.int .i64 0) (.string ⟨#[]⟩) (.slice none 0 0) (.bool false) (.string ⟨#[]⟩) at ewf
      rw [← ewf]
      clear ewf f0 f1 f2 f3 f4 g0 g1 g2 g3 g4 c
      exact bodyPost_ret (v := tkV endL none 0) (by simp [results, Tryz.results15, go_sem, tkV, endL, d0, d1, d2, d3, d4]) rfl hret
    · obtain ⟨e1, e2⟩ := C.empty_no h0
      have hs' : s'.size ≤ 10000 := by omega
      have HP := Lib.hid (fun W (hW : w.grownBy W (some B)) => plain_any s' W (HTB.out W hW).1 (HTB.out W hW).2 hs')
      have hp := pln_le s'.data.toList
      rw [C.size_list] at hp
      by_cases h1 : 0 < pln s'.data.toList
      · rw [nxD_txt h0 h1] at hh
        have HH := Lib.hid hh
        have HDc := Lib.hid (fun W (hW : w.grownBy W (some B)) => C.decode_any (s'.extract 0 (pln s'.data.toList)) false W (HTB.out W hW).1 (by rw [ByteArray.size_extract]; omega))
        have HTk := Lib.hid (fun W (hL : LB 43 W B s') => take_any 43 B s' (pln s'.data.toList) W hL hp)
        clear hh HTB h0
        generalize C.decS false (s'.extract 0 (pln s'.data.toList)) = d at *
        generalize pln s'.data.toList = n at *
        have h1i : (0 : Int) < (n : Int) := by omega
        go_wp2_with fail
        refine (HP.out _ HG.out).mono ?_
        rintro e w1 ⟨rfl, hb⟩
        have HG1 := grown_step HG hb
        have HL1 := Lib.hid (HL.out.below hb)
        have HZ1 := Lib.hid (HZ.out.below hb)
        clear hb HG HL HZ HP c
        go_wp2_with fail
        refine (HTk.out _ HL1.out).mono ?_
        rintro e w2 ⟨rfl, e2'⟩
        have HG2 : Hid (w.grownBy w2 (some B)) := Lib.hid (by rw [← e2']; exact HG1.out.trans (grown_set _ _ _))
        have HL2 : Hid (LB 43 w2 B (s'.extract n s'.size)) := Lib.hid (by rw [← e2']; exact HL1.out.set _)
        have HZ2 : Hid (Zr w w2) := Lib.hid (by rw [← e2']; exact HZ1.out.set hBl _)
        clear e2' HG1 HL1 HZ1 HTk
        go_wp2_with fail
        refine (HDc.out _ HG2.out).mono ?_
        rintro e w3 ⟨rfl, hb⟩
        have HG3 := grown_step HG2 hb
        have HL3 := Lib.hid (HL2.out.below hb)
        have HZ3 := Lib.hid (HZ2.out.below hb)
        clear hb HG2 HL2 HZ2 HDc
        go_wp2_with fail
        refine (text_any d _).mono ?_
        rintro e w4 ⟨he, hb⟩
        unfold tkV txtL at he
        subst he
        have HG4 := grown_step HG3 hb
        have HL4 := Lib.hid (HL3.out.below hb)
        have hz := HZ3.out.below hb
        clear hb HG3 HL3 HZ3
        have HZ4 := Lib.hid hz
        obtain ⟨f0, f1, f2, f3, f4⟩ := free_of hz
        obtain ⟨g0, g1, g2, g3, g4⟩ := row_of hz
        clear hz
        go_wp2
        obtain ⟨wf, ewf, ⟨d0, d1, d2, d3, d4⟩, hret⟩ := tok_fin (t := txtL d) (a := none) (cap := 0) hBl (Nat.le_refl _) (AttrsAt.nil _ _) HL4.out HG4.out HZ4.out
        rw [HH.out] at hret
        change bodyPost _ _ _ _ _ (S5 w4 w.heap.size (.int .i64 3) (.string ⟨#[]⟩) (.slice none 0 0) (.bool false) (.string d))
        change wf = S5 w4 w.heap.size (.int .i64 3) (.string ⟨#[]⟩) (.slice none 0 0) (.bool false) (.string d) at ewf
        rw [← ewf]
        clear ewf f0 f1 f2 f3 f4 g0 g1 g2 g3 g4
        exact bodyPost_ret (v := tkV (txtL d) none 0) (by simp [results, Tryz.results15, go_sem, tkV, txtL, d0, d1, d2, d3, d4]) rfl hret
      · have hp0 : pln s'.data.toList = 0 := by omega
        have hm : mk s'.data.toList = true := by
          rcases pln_zero.1 hp0 with h3 | h3
          · exact absurd (by rw [← C.size_list, h3]; rfl) h0
          · exact h3
        have hn := (mkN_pos s'.data.toList f).2 hm
        have hl := mkN_le s'.data.toList f
        rw [C.size_list] at hl
        rw [hp0] at HP
        have HMk := Lib.hid (fun W (hW : w.grownBy W (some B)) => marked_any s' f W (HTB.out W hW).1 (HTB.out W hW).2 hs')
        have HTk := Lib.hid (fun W (hL : LB 43 W B s') => take_any 43 B s' (mkN s'.data.toList f) W hL hl)
        have HY := Lib.hid (fun h2 => (nxD_yes (f := f) (k := k) h0 h1 h2).symm.trans hh)
        have HN := Lib.hid (fun h2 => (nxD_no (f := f) (k := k) h0 h1 h2).symm.trans hh)
        clear hh hp hp0 hm h1
        generalize mkN s'.data.toList f = n at *
        generalize mkO s'.data.toList f = ok at *
        generalize mkT s'.data.toList f = t at *
        obtain ⟨kind, nm, attrs, self, data⟩ := t
        go_wp2_with fail
        refine (HP.out _ HG.out).mono ?_
        rintro e w1 ⟨rfl, hb⟩
        have HG1 := grown_step HG hb
        have HL1 := Lib.hid (HL.out.below hb)
        have HZ1 := Lib.hid (HZ.out.below hb)
        clear hb HG HL HZ HP c
        have c := HL1.out.c
        go_wp2_with fail
        refine (HMk.out _ HG1.out).mono ?_
        rintro e w2 ⟨a, cap, hcap, he, hat, hb⟩
        unfold tkV at he
        subst he
        have HG2 := grown_step HG1 hb
        have HL2 := Lib.hid (HL1.out.below hb)
        have HZ2 := Lib.hid (HZ1.out.below hb)
        have HA2 : Hid (AttrsAt w2 a attrs) := Lib.hid hat
        have HC : Hid (attrs.length ≤ cap) := Lib.hid hcap
        clear hb HG1 HL1 HZ1 HMk hat hcap c
        have hb : Below w2.heap.size w2 (w2.alloc (.cells #[.int .i64 kind, .string nm, .slice a attrs.length cap, .bool self, .string data] 34)) := (Below.refl _ _).alloc (Nat.le_refl _) _
        have HG3 := grown_step HG2 hb
        have HL3 := Lib.hid (HL2.out.below hb)
        have HZ3 := Lib.hid (HZ2.out.below hb)
        have HA3 := Lib.hid (HA2.out.below hb)
        have HH3 := Lib.hid (heap_alloc_new w2 (.cells #[.int .i64 kind, .string nm, .slice a attrs.length cap, .bool self, .string data] 34))
        have hne : w2.heap.size ≠ B := by have := HG2.out.size; omega
        clear hb HG2 HL2 HZ2 HA2
        go_upto_region 6 with fail
        obtain ⟨w3, ew⟩ : ∃ w3, w3 = w2.alloc (.cells #[.int .i64 kind, .string nm, .slice a attrs.length cap, .bool self, .string data] 34) := ⟨_, rfl⟩
        rw [← ew] at HG3 HL3 HZ3 HA3 HH3 ⊢
        clear ew
        go_wp2_with fail
        refine (HTk.out _ HL3.out).mono ?_
        rintro e w4 ⟨rfl, e2'⟩
        have hgs := grown_set w3 B (.string (s'.extract n s'.size))
        have HG4 : Hid (w.grownBy w4 (some B)) := Lib.hid (by rw [← e2']; exact HG3.out.trans hgs)
        have HL4 : Hid (LB 43 w4 B (s'.extract n s'.size)) := Lib.hid (by rw [← e2']; exact HL3.out.set _)
        have HZ4 : Hid (Zr w w4) := Lib.hid (by rw [← e2']; exact HZ3.out.set hBl _)
        have HA4 : Hid (AttrsAt w4 a attrs) := Lib.hid (by rw [← e2']; exact attrs_kept HA3.out HL3.out hgs)
        have HH4 : Hid (w4.heap[w2.heap.size]? = some (.cells #[.int .i64 kind, .string nm, .slice a attrs.length cap, .bool self, .string data] 34 (0, 0))) := Lib.hid (by rw [← e2']; exact (hgs.block _ (Array.getElem?_eq_some_iff.1 HH3.out).1 (fun e => hne (by cases e; rfl))).trans HH3.out)
        clear e2' HG3 HL3 HZ3 HTk HA3 HH3 hgs
        cases ok with
        | true =>
          have HY2 : Hid (((⟨kind, nm, attrs, self, data⟩ : LTok), s'.extract n s'.size) = r) := Lib.hid (by first | exact HY.out rfl | exact HY.out trivial)
          clear HN HY
          obtain ⟨c0, c1, c2, c3, c4⟩ := row_of HH4.out
          obtain ⟨f0, f1, f2, f3, f4⟩ := free_of HZ4.out
          obtain ⟨g0, g1, g2, g3, g4⟩ := row_of HZ4.out
          go_wp2
          obtain ⟨wf, ewf, ⟨d0, d1, d2, d3, d4⟩, hret⟩ := tok_fin (t := ⟨kind, nm, attrs, self, data⟩) (a := a) (cap := cap) hBl HC.out HA4.out HL4.out HG4.out HZ4.out
          rw [HY2.out] at hret
          change bodyPost _ _ _ _ _ (S5 w4 w.heap.size (.int .i64 kind) (.string nm) (.slice a attrs.length cap) (.bool self) (.string data))
          change wf = S5 w4 w.heap.size (.int .i64 kind) (.string nm) (.slice a attrs.length cap) (.bool self) (.string data) at ewf
          rw [← ewf]
          clear ewf f0 f1 f2 f3 f4 g0 g1 g2 g3 g4 c0 c1 c2 c3 c4
          exact bodyPost_ret (v := tkV ⟨kind, nm, attrs, self, data⟩ a cap) (by simp [results, Tryz.results15, go_sem, tkV, d0, d1, d2, d3, d4]) rfl hret
        | false =>
          have HN2 : Hid (nxD f k (s'.extract n s'.size) = r) := Lib.hid (by first | exact HN.out rfl | exact HN.out trivial)
          clear HY HH4 HA4 HC HN
          go_wp2
          go_roundg k
          case rel => exact ⟨s'.extract n s'.size, by rw [ext_sz s' hl]; omega, by rw [ext_sz s' hl]; omega, HN2.out, HL4.out, HG4.out, HZ4.out⟩
          case measure => omega
end Go.Proofs.YtceelfomgcbkiaaGreatDoor
