/-
  The walks of nextOfText and of Next.
-/
import Derived.Test.YtceelfomgcbkiaaGreatDoorLWalkZ
namespace Go.Proofs.YtceelfomgcbkiaaGreatDoor
open Go.RowKit
open Go.Proofs.YtceelfomgcbkiaaGreatDoor.A (At AttrsAt)
open Go.Proofs.YtceelfomgcbkiaaGreatDoor.R (S5 s5_heap s5_below row_of free_of W1 w1_row w1_below w1_size heap_keep MaxAt)
open Go.Proofs.YtceelfomgcbkiaaGreatDoor.C (StAt)
open Go.Proofs.YtceelfomgcbkiaaGreatDoor.Q (fndR fndR_is)

theorem nxT_raw {s last : ByteArray} {st : Int} (h : 0 < fndR s last st) : nxT s last st = (txtL (if st = 1 then C.decS false (s.extract 0 (fndR s last st)) else s.extract 0 (fndR s last st)), s.extract (fndR s last st) s.size) := by
  unfold nxT; rw [if_pos h]
theorem nxT_tag {s last : ByteArray} {st : Int} (h : ¬ 0 < fndR s last st) (h2 : (T.rdT s.data.toList).ok = true) : nxT s last st = (ofT (T.rdT s.data.toList), s.extract (T.rdT s.data.toList).n s.size) := by
  unfold nxT; rw [if_neg h, if_pos h2]
theorem nxT_end {s last : ByteArray} {st : Int} (h : ¬ 0 < fndR s last st) (h2 : (T.rdT s.data.toList).ok = false) : nxT s last st = (ofT (T.rdT s.data.toList), s.extract s.size s.size) := by
  unfold nxT; rw [if_neg h, if_neg (by rw [h2]; decide), (rdT_kind s.data.toList).2 h2, ← ext_nil]

set_option maxRecDepth 100000 in
set_option maxHeartbeats 6400000 in
theorem nextOfText_any (B : Nat) (s last : ByteArray) (st : Int) (w : World) (h : LB 43 w B s) (hs : s.size ≤ 10000) (hl : last.size ≤ 10000) (hTB : ∀ w', w.grownBy w' (some B) → StAt w' ∧ MaxAt w') :
    Calls Tryz.prog 16 #[.pointer (some ⟨B, 0, none⟩), .int .i64 st, .string last] w (RetNx 43 B (nxT s last st) w) := by
  have hBl := h.lt
  have HTB := Lib.hid hTB
  have HF := Lib.hid (fun W => Q.find_any s last st W hs hl)
  have hfs := (fndR_is s last st).1
  have HG := Lib.hid (grown_of B (w1_below w))
  have HL := Lib.hid (h.below (w1_below w))
  have HZ : Hid (Zr w (W1 w)) := Lib.hid (w1_row w)
  have c := HL.out.c
  clear h hTB
  by_cases h1 : 0 < fndR s last st
  · have HH := Lib.hid (nxT_raw h1)
    have HDc := Lib.hid (fun W (hW : w.grownBy W (some B)) => C.decode_any (s.extract 0 (fndR s last st)) false W (HTB.out W hW).1 (by rw [ByteArray.size_extract]; omega))
    have HTk := Lib.hid (fun W (hL : LB 43 W B s) => take_any 43 B s (fndR s last st) W hL hfs)
    generalize C.decS false (s.extract 0 (fndR s last st)) = d at *
    generalize fndR s last st = n at *
    obtain ⟨u, hu⟩ : ∃ u, s.extract 0 n = u := ⟨_, rfl⟩
    obtain ⟨r, hr⟩ : ∃ r, nxT s last st = r := ⟨_, rfl⟩
    rw [hu] at HDc HTk HH
    rw [hr] at HH ⊢
    clear hu hr HTB
    have h1i : (0 : Int) < (n : Int) := by omega
    go_enter Tryz.func16, Tryz.ntmps16
    go_upto_region 1 with fail
    show Code.wp _ _ _ _ (W1 w)
    obtain ⟨w0, ew⟩ : ∃ w0, w0 = W1 w := ⟨_, rfl⟩
    rw [← ew] at HG HL HZ c ⊢
    clear ew
    go_wp2_with fail
    refine (HF.out w0).mono ?_
    rintro e w1 ⟨rfl, hb⟩
    have HG1 := grown_step HG hb
    have HL1 := Lib.hid (HL.out.below hb)
    have HZ1 := Lib.hid (HZ.out.below hb)
    clear hb HG HL HZ HF c
    go_wp2_with fail
    refine (HTk.out _ HL1.out).mono ?_
    rintro e w2 ⟨rfl, e2'⟩
    have HG2 : Hid (w.grownBy w2 (some B)) := Lib.hid (by rw [← e2']; exact HG1.out.trans (grown_set _ _ _))
    have HL2 : Hid (LB 43 w2 B (s.extract n s.size)) := Lib.hid (by rw [← e2']; exact HL1.out.set _)
    have HZ2 : Hid (Zr w w2) := Lib.hid (by rw [← e2']; exact HZ1.out.set hBl _)
    clear e2' HG1 HL1 HZ1 HTk
    by_cases hst : st = 1
    · have he : (st == 1) = true := by simp [hst]
      rw [if_pos hst] at HH
      clear hst
      go_wp2_with fail
      refine (HDc.out _ HG2.out).mono ?_
      rintro e w3 ⟨rfl, hb⟩
      have HG3 := grown_step HG2 hb
      have HL3 := Lib.hid (HL2.out.below hb)
      have HZ3 := Lib.hid (HZ2.out.below hb)
      clear hb HG2 HL2 HZ2 HDc
      go_wp2_with fail
      refine (text_any d _).mono ?_
      rintro e w4 ⟨he, hb⟩
      unfold tkV txtL at he
      subst he
      have HG4 := grown_step HG3 hb
      have HL4 := Lib.hid (HL3.out.below hb)
      have hz := HZ3.out.below hb
      clear hb HG3 HL3 HZ3
      have HZ4 := Lib.hid hz
      obtain ⟨f0, f1, f2, f3, f4⟩ := free_of hz
      obtain ⟨g0, g1, g2, g3, g4⟩ := row_of hz
      clear hz
      go_wp2
      obtain ⟨wf, ewf, ⟨d0, d1, d2, d3, d4⟩, hret⟩ := tok_fin (t := txtL d) (a := none) (cap := 0) hBl (Nat.le_refl _) (AttrsAt.nil _ _) HL4.out HG4.out HZ4.out
      rw [← HH.out] at hret
      change bodyPost _ _ _ _ _ (S5 w4 w.heap.size (.int .i64 3) (.string ⟨#[]⟩) (.slice none 0 0) (.bool false) (.string d))
      change wf = S5 w4 w.heap.size (.int .i64 3) (.string ⟨#[]⟩) (.slice none 0 0) (.bool false) (.string d) at ewf
      rw [← ewf]
      clear ewf f0 f1 f2 f3 f4 g0 g1 g2 g3 g4
      exact bodyPost_ret (v := tkV (txtL d) none 0) (by simp [results, Tryz.results16, go_sem, tkV, txtL, d0, d1, d2, d3, d4]) rfl hret
    · have he : (st == 1) = false := by simpa using hst
      rw [if_neg hst] at HH
      clear hst HDc
      go_wp2_with fail
      refine (text_any u _).mono ?_
      rintro e w4 ⟨he, hb⟩
      unfold tkV txtL at he
      subst he
      have HG4 := grown_step HG2 hb
      have HL4 := Lib.hid (HL2.out.below hb)
      have hz := HZ2.out.below hb
      clear hb HG2 HL2 HZ2
      have HZ4 := Lib.hid hz
      obtain ⟨f0, f1, f2, f3, f4⟩ := free_of hz
      obtain ⟨g0, g1, g2, g3, g4⟩ := row_of hz
      clear hz
      go_wp2
      obtain ⟨wf, ewf, ⟨d0, d1, d2, d3, d4⟩, hret⟩ := tok_fin (t := txtL u) (a := none) (cap := 0) hBl (Nat.le_refl _) (AttrsAt.nil _ _) HL4.out HG4.out HZ4.out
      rw [← HH.out] at hret
      change bodyPost _ _ _ _ _ (S5 w4 w.heap.size (.int .i64 3) (.string ⟨#[]⟩) (.slice none 0 0) (.bool false) (.string u))
      change wf = S5 w4 w.heap.size (.int .i64 3) (.string ⟨#[]⟩) (.slice none 0 0) (.bool false) (.string u) at ewf
      rw [← ewf]
      clear ewf f0 f1 f2 f3 f4 g0 g1 g2 g3 g4
      exact bodyPost_ret (v := tkV (txtL u) none 0) (by simp [results, Tryz.results16, go_sem, tkV, txtL, d0, d1, d2, d3, d4]) rfl hret
  · have hn0 : fndR s last st = 0 := by omega
    rw [hn0] at HF
    have HR := Lib.hid (fun W (hW : w.grownBy W (some B)) => read_mk s W (HTB.out W hW).1 hs)
    have hle := rdT_le s.data.toList
    rw [C.size_list] at hle
    have HY := Lib.hid (fun h2 => nxT_tag (s := s) (last := last) (st := st) h1 h2)
    have HN := Lib.hid (fun h2 => nxT_end (s := s) (last := last) (st := st) h1 h2)
    have HTk := Lib.hid (fun k (hk : k ≤ s.size) W (hL : LB 43 W B s) => take_any 43 B s k W hL hk)
    generalize nxT s last st = r at *
    clear h1 hn0 hfs HTB
    generalize ofT (T.rdT s.data.toList) = t at *
    generalize (T.rdT s.data.toList).n = n at *
    generalize (T.rdT s.data.toList).ok = ok at *
    obtain ⟨kind, nm, attrs, self, data⟩ := t
    go_enter Tryz.func16, Tryz.ntmps16
    go_upto_region 1 with fail
    show Code.wp _ _ _ _ (W1 w)
    obtain ⟨w0, ew⟩ : ∃ w0, w0 = W1 w := ⟨_, rfl⟩
    rw [← ew] at HG HL HZ c ⊢
    clear ew
    go_wp2_with fail
    refine (HF.out w0).mono ?_
    rintro e w1 ⟨rfl, hb⟩
    have HG1 := grown_step HG hb
    have HL1 := Lib.hid (HL.out.below hb)
    have HZ1 := Lib.hid (HZ.out.below hb)
    clear hb HG HL HZ HF c
    have c := HL1.out.c
    go_wp2_with fail
    refine (HR.out _ HG1.out).mono ?_
    rintro e w2 ⟨a, cap, hcap, he, hat, hb⟩
    unfold tkV at he
    subst he
    have HG2 := grown_step HG1 hb
    have HL2 := Lib.hid (HL1.out.below hb)
    have HZ2 := Lib.hid (HZ1.out.below hb)
    have HA2 : Hid (AttrsAt w2 a attrs) := Lib.hid hat
    have HC : Hid (attrs.length ≤ cap) := Lib.hid hcap
    clear hb HG1 HL1 HZ1 HR hat hcap c
    have hb : Below w2.heap.size w2 (w2.alloc (.cells #[.int .i64 kind, .string nm, .slice a attrs.length cap, .bool self, .string data] 34)) := (Below.refl _ _).alloc (Nat.le_refl _) _
    have HG3 := grown_step HG2 hb
    have HL3 := Lib.hid (HL2.out.below hb)
    have HZ3 := Lib.hid (HZ2.out.below hb)
    have HA3 := Lib.hid (HA2.out.below hb)
    have HH3 := Lib.hid (heap_alloc_new w2 (.cells #[.int .i64 kind, .string nm, .slice a attrs.length cap, .bool self, .string data] 34))
    have hne : w2.heap.size ≠ B := by have := HG2.out.size; omega
    clear hb HG2 HL2 HZ2 HA2
    go_upto_region 8 with fail
    obtain ⟨w3, ew⟩ : ∃ w3, w3 = w2.alloc (.cells #[.int .i64 kind, .string nm, .slice a attrs.length cap, .bool self, .string data] 34) := ⟨_, rfl⟩
    rw [← ew] at HG3 HL3 HZ3 HA3 HH3 ⊢
    clear ew
    have c := HL3.out.c
    obtain ⟨m, hm, hms, hrm⟩ : ∃ m, (m = if ok = true then n else s.size) ∧ m ≤ s.size ∧ r = (⟨kind, nm, attrs, self, data⟩, s.extract m s.size) := by
      cases ok with
      | true => exact ⟨n, rfl, hle, HY.out rfl⟩
      | false => exact ⟨s.size, rfl, Nat.le_refl _, HN.out rfl⟩
    have HM := Lib.hid hrm
    have HTk2 := Lib.hid (HTk.out m hms)
    clear HY HN hrm HTk
    have key : ∀ (Q : World → Prop), (∀ w4, w.grownBy w4 (some B) → LB 43 w4 B (s.extract m s.size) → Zr w w4 → AttrsAt w4 a attrs → w4.heap[w2.heap.size]? = some (.cells #[.int .i64 kind, .string nm, .slice a attrs.length cap, .bool self, .string data] 34 (0, 0)) → Q w4) → Q (w3.setCell ⟨B, 0, none⟩ (.string (s.extract m s.size))) := fun Q hQ => by
      have hgs := grown_set w3 B (.string (s.extract m s.size))
      exact hQ _ (HG3.out.trans hgs) (HL3.out.set _) (HZ3.out.set hBl _) (attrs_kept HA3.out HL3.out hgs) ((hgs.block _ (Array.getElem?_eq_some_iff.1 HH3.out).1 (fun e => hne (by cases e; rfl))).trans HH3.out)
    have HK := Lib.hid key
    clear key
    cases ok with
    | true =>
      obtain rfl : m = n := hm
      go_wp2_with fail
      refine (HTk2.out _ HL3.out).mono ?_
      rintro e w4 ⟨rfl, e2'⟩
      have hk4 := HK.out (fun W => W = w4 → w.grownBy w4 (some B) ∧ LB 43 w4 B (s.extract m s.size) ∧ Zr w w4 ∧ AttrsAt w4 a attrs ∧ w4.heap[w2.heap.size]? = some (.cells #[.int .i64 kind, .string nm, .slice a attrs.length cap, .bool self, .string data] 34 (0, 0))) (fun W h1 h2 h3 h4 h5 e => by subst e; exact ⟨h1, h2, h3, h4, h5⟩) e2'
      obtain ⟨hg4, hl4, hz4, ha4, hh4⟩ := hk4
      have HG4 := Lib.hid hg4
      have HL4 := Lib.hid hl4
      have HZ4 := Lib.hid hz4
      have HA4 := Lib.hid ha4
      obtain ⟨c0, c1, c2, c3, c4⟩ := row_of hh4
      obtain ⟨f0, f1, f2, f3, f4⟩ := free_of hz4
      obtain ⟨g0, g1, g2, g3, g4⟩ := row_of hz4
      clear e2' HG3 HL3 HZ3 HTk2 HA3 HH3 HK hg4 hl4 hz4 ha4 hh4 c
      go_wp2
      obtain ⟨wf, ewf, ⟨d0, d1, d2, d3, d4⟩, hret⟩ := tok_fin (t := ⟨kind, nm, attrs, self, data⟩) (a := a) (cap := cap) hBl HC.out HA4.out HL4.out HG4.out HZ4.out
      rw [← HM.out] at hret
      change bodyPost _ _ _ _ _ (S5 w4 w.heap.size (.int .i64 kind) (.string nm) (.slice a attrs.length cap) (.bool self) (.string data))
      change wf = S5 w4 w.heap.size (.int .i64 kind) (.string nm) (.slice a attrs.length cap) (.bool self) (.string data) at ewf
      rw [← ewf]
      clear ewf f0 f1 f2 f3 f4 g0 g1 g2 g3 g4 c0 c1 c2 c3 c4
      exact bodyPost_ret (v := tkV ⟨kind, nm, attrs, self, data⟩ a cap) (by simp [results, Tryz.results16, go_sem, tkV, d0, d1, d2, d3, d4]) rfl hret
    | false =>
      obtain rfl : m = s.size := hm
      go_wp2_with fail
      refine (HTk2.out _ HL3.out).mono ?_
      rintro e w4 ⟨rfl, e2'⟩
      have hk4 := HK.out (fun W => W = w4 → w.grownBy w4 (some B) ∧ LB 43 w4 B (s.extract s.size s.size) ∧ Zr w w4 ∧ AttrsAt w4 a attrs ∧ w4.heap[w2.heap.size]? = some (.cells #[.int .i64 kind, .string nm, .slice a attrs.length cap, .bool self, .string data] 34 (0, 0))) (fun W h1 h2 h3 h4 h5 e => by subst e; exact ⟨h1, h2, h3, h4, h5⟩) e2'
      obtain ⟨hg4, hl4, hz4, ha4, hh4⟩ := hk4
      have HG4 := Lib.hid hg4
      have HL4 := Lib.hid hl4
      have HZ4 := Lib.hid hz4
      have HA4 := Lib.hid ha4
      obtain ⟨c0, c1, c2, c3, c4⟩ := row_of hh4
      obtain ⟨f0, f1, f2, f3, f4⟩ := free_of hz4
      obtain ⟨g0, g1, g2, g3, g4⟩ := row_of hz4
      clear e2' HG3 HL3 HZ3 HTk2 HA3 HH3 HK hg4 hl4 hz4 ha4 hh4 c
      go_wp2
      obtain ⟨wf, ewf, ⟨d0, d1, d2, d3, d4⟩, hret⟩ := tok_fin (t := ⟨kind, nm, attrs, self, data⟩) (a := a) (cap := cap) hBl HC.out HA4.out HL4.out HG4.out HZ4.out
      rw [← HM.out] at hret
      change bodyPost _ _ _ _ _ (S5 w4 w.heap.size (.int .i64 kind) (.string nm) (.slice a attrs.length cap) (.bool self) (.string data))
      change wf = S5 w4 w.heap.size (.int .i64 kind) (.string nm) (.slice a attrs.length cap) (.bool self) (.string data) at ewf
      rw [← ewf]
      clear ewf f0 f1 f2 f3 f4 g0 g1 g2 g3 g4 c0 c1 c2 c3 c4
      exact bodyPost_ret (v := tkV ⟨kind, nm, attrs, self, data⟩ a cap) (by simp [results, Tryz.results16, go_sem, tkV, d0, d1, d2, d3, d4]) rfl hret

set_option maxHeartbeats 3200000 in
theorem next_any (B : Nat) (s last : ByteArray) (st : Int) (f : Bool) (w : World) (h : LB 43 w B s) (hs : s.size ≤ 10000) (hl : last.size ≤ 10000) (hTB : ∀ w', w.grownBy w' (some B) → StAt w' ∧ MaxAt w') :
    Calls Tryz.prog 8 #[.pointer (some ⟨B, 0, none⟩), .int .i64 st, .string last, .bool f] w (RetNx 43 B (nxL s last st f) w) := by
  have hBl := h.lt
  have HG := Lib.hid (grown_of B (w1_below w))
  have HL := Lib.hid (h.below (w1_below w))
  have HZ : Hid (Zr w (W1 w)) := Lib.hid (w1_row w)
  have hTB1 : ∀ w', (W1 w).grownBy w' (some B) → StAt w' ∧ MaxAt w' := fun w' hg => hTB w' (HG.out.trans hg)
  have hne : w.heap.size ≠ B := by omega
  by_cases h0 : st = 0
  · have HC := Lib.hid (nextOfData_any B s f (W1 w) HL.out hs hTB1)
    have e0 : (st == 0) = true := by simp [h0]
    have hr : nxL s last st f = nxD f (s.size + 1) s := by unfold nxL; rw [if_pos h0]
    rw [hr]
    obtain ⟨⟨t, s2⟩, hr2⟩ : ∃ r, nxD f (s.size + 1) s = r := ⟨_, rfl⟩
    rw [hr2] at HC ⊢
    obtain ⟨kind, nm, attrs, self, data⟩ := t
    clear hr hr2 h0 hTB hTB1 h
    go_enter Tryz.func8, Tryz.ntmps8
    go_wp2_with fail
    refine HC.out.mono ?_
    rintro e w1 ⟨a, cap, hcap, he, hat, hlb, hg⟩
    unfold tkV at he
    subst he
    have hz : Zr w w1 := (hg.block _ (by rw [w1_size]; omega) (fun e => hne (by cases e; rfl))).trans HZ.out
    have HG1 := Lib.hid (HG.out.trans hg)
    have HZ1 := Lib.hid hz
    have HL1 : Hid (LB 43 w1 B s2) := Lib.hid hlb
    have HA1 : Hid (AttrsAt w1 a attrs) := Lib.hid hat
    have HC1 : Hid (attrs.length ≤ cap) := Lib.hid hcap
    obtain ⟨f0, f1, f2, f3, f4⟩ := free_of hz
    obtain ⟨g0, g1, g2, g3, g4⟩ := row_of hz
    clear hz hg hat hcap hlb HG HL HZ HC
    go_wp2
    obtain ⟨wf, ewf, ⟨d0, d1, d2, d3, d4⟩, hret⟩ := tok_fin (t := ⟨kind, nm, attrs, self, data⟩) (a := a) (cap := cap) hBl HC1.out HA1.out HL1.out HG1.out HZ1.out
    change bodyPost _ _ _ _ _ (S5 w1 w.heap.size (.int .i64 kind) (.string nm) (.slice a attrs.length cap) (.bool self) (.string data))
    change wf = S5 w1 w.heap.size (.int .i64 kind) (.string nm) (.slice a attrs.length cap) (.bool self) (.string data) at ewf
    rw [← ewf]
    clear ewf f0 f1 f2 f3 f4 g0 g1 g2 g3 g4
    exact bodyPost_ret (v := tkV ⟨kind, nm, attrs, self, data⟩ a cap) (by simp [results, Tryz.results8, go_sem, tkV, d0, d1, d2, d3, d4]) rfl hret
  · have HC := Lib.hid (nextOfText_any B s last st (W1 w) HL.out hs hl hTB1)
    have e0 : (st == 0) = false := by simpa using h0
    have hr : nxL s last st f = nxT s last st := by unfold nxL; rw [if_neg h0]
    rw [hr]
    obtain ⟨⟨t, s2⟩, hr2⟩ : ∃ r, nxT s last st = r := ⟨_, rfl⟩
    rw [hr2] at HC ⊢
    obtain ⟨kind, nm, attrs, self, data⟩ := t
    clear hr hr2 h0 hTB hTB1 h
    go_enter Tryz.func8, Tryz.ntmps8
    go_wp2_with fail
    refine HC.out.mono ?_
    rintro e w1 ⟨a, cap, hcap, he, hat, hlb, hg⟩
    unfold tkV at he
    subst he
    have hz : Zr w w1 := (hg.block _ (by rw [w1_size]; omega) (fun e => hne (by cases e; rfl))).trans HZ.out
    have HG1 := Lib.hid (HG.out.trans hg)
    have HZ1 := Lib.hid hz
    have HL1 : Hid (LB 43 w1 B s2) := Lib.hid hlb
    have HA1 : Hid (AttrsAt w1 a attrs) := Lib.hid hat
    have HC1 : Hid (attrs.length ≤ cap) := Lib.hid hcap
    obtain ⟨f0, f1, f2, f3, f4⟩ := free_of hz
    obtain ⟨g0, g1, g2, g3, g4⟩ := row_of hz
    clear hz hg hat hcap hlb HG HL HZ HC
    go_wp2
    obtain ⟨wf, ewf, ⟨d0, d1, d2, d3, d4⟩, hret⟩ := tok_fin (t := ⟨kind, nm, attrs, self, data⟩) (a := a) (cap := cap) hBl HC1.out HA1.out HL1.out HG1.out HZ1.out
    change bodyPost _ _ _ _ _ (S5 w1 w.heap.size (.int .i64 kind) (.string nm) (.slice a attrs.length cap) (.bool self) (.string data))
    change wf = S5 w1 w.heap.size (.int .i64 kind) (.string nm) (.slice a attrs.length cap) (.bool self) (.string data) at ewf
    rw [← ewf]
    clear ewf f0 f1 f2 f3 f4 g0 g1 g2 g3 g4
    exact bodyPost_ret (v := tkV ⟨kind, nm, attrs, self, data⟩ a cap) (by simp [results, Tryz.results8, go_sem, tkV, d0, d1, d2, d3, d4]) rfl hret
end Go.Proofs.YtceelfomgcbkiaaGreatDoor
