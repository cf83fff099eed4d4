/-
  The document's mark, other and Next.
-/
import Derived.Test.YtceelfomgcbkiaaGreatDoorLNextWZ
import Derived.Test.YtceelfomgcbkiaaGreatDoorTRreadZ
import Derived.Test.YtceelfomgcbkiaaGreatDoorRRreadZ
import Derived.Test.YtceelfomgcbkiaaGreatDoorGCZ
namespace Go.Proofs.YtceelfomgcbkiaaGreatDoor
open Go.RowKit
open Go.Proofs.YtceelfomgcbkiaaGreatDoor.A (At AttrsAt)
open Go.Proofs.YtceelfomgcbkiaaGreatDoor.R (S5 s5_heap s5_below row_of free_of W1 w1_row w1_below w1_size heap_keep)
open Go.Proofs.YtceelfomgcbkiaaGreatDoor.Q (fndR fndR_is)

/-- A function that reads a token, and one that reads a remark, in one word. -/
theorem rread_mk (s : ByteArray) (W : World) (hs : s.size ≤ 10000) : Calls Tryz.prog 28 #[.string s] W (RetMk (ofT (T.rdT s.data.toList)) (T.rdT s.data.toList).n (T.rdT s.data.toList).ok W) := (T.rread_any s W hs).mono fun _ _ h => tok_mk h

set_option maxHeartbeats 3200000 in
theorem rmarked_any (s : ByteArray) (f : Bool) (w : World) (hs : s.size ≤ 10000) :
    Calls Tryz.prog 18 #[.string s, .bool f] w (RetMk (mkT s.data.toList f) (mkN s.data.toList f) (mkO s.data.toList f) w) := by
  have HR := Lib.hid (rread_mk s (W1 w) hs)
  have HB := Lib.hid (w1_below w)
  have HW := Lib.hid (w1_row w)
  cases hb : T.begins s.data.toList with
  | true =>
    obtain ⟨e1, e2, e3⟩ := mk_yes f hb
    have hn : (0 : Int) < ((T.rdT s.data.toList).n : Nat) := by have := (rdT_pos s.data.toList).2 hb; omega
    rw [e1, e2, e3]
    clear e1 e2 e3 hb
    generalize (T.rdT s.data.toList).n = n at *
    generalize (T.rdT s.data.toList).ok = ok at *
    generalize ofT (T.rdT s.data.toList) = t at *
    obtain ⟨kind, nm, attrs, self, data⟩ := t
    go_enter Tryz.func18, Tryz.ntmps18
    go_wp2_with fail
    refine HR.out.mono ?_
    rintro e w1 ⟨a, cap, hcap, he, hat, hbl⟩
    unfold tkV at he
    subst he
    have HB1 : Hid (Below w.heap.size w w1) := Lib.hid (HB.out.trans (hbl.mono HB.out.size))
    have HW1 := Lib.hid (heap_keep hbl HW.out)
    have HA1 : Hid (AttrsAt w1 a attrs) := Lib.hid hat
    have HC : Hid (attrs.length ≤ cap) := Lib.hid hcap
    clear hbl hat hcap HB HW HR
    have HB2 := Lib.hid (HB1.out.alloc HB1.out.size (.cells #[.int .i64 kind, .string nm, .slice a attrs.length cap, .bool self, .string data] 34))
    have HW2 := Lib.hid (heap_keep ((Below.refl w1.heap.size w1).alloc (Nat.le_refl _) (.cells #[.int .i64 kind, .string nm, .slice a attrs.length cap, .bool self, .string data] 34)) HW1.out)
    have HH2 := Lib.hid (heap_alloc_new w1 (.cells #[.int .i64 kind, .string nm, .slice a attrs.length cap, .bool self, .string data] 34))
    have HA2 := Lib.hid (A.AttrsAt.alloc HA1.out (.cells #[.int .i64 kind, .string nm, .slice a attrs.length cap, .bool self, .string data] 34))
    clear HB1 HW1 HA1
    go_upto_region 2 with fail
    obtain ⟨w2, ew⟩ : ∃ w2, w2 = w1.alloc (.cells #[.int .i64 kind, .string nm, .slice a attrs.length cap, .bool self, .string data] 34) := ⟨_, rfl⟩
    rw [← ew] at HB2 HW2 HH2 HA2 ⊢
    clear ew
    obtain ⟨c0, c1, c2, c3, c4⟩ := row_of HH2.out
    obtain ⟨f0, f1, f2, f3, f4⟩ := free_of HW2.out
    obtain ⟨g0, g1, g2, g3, g4⟩ := row_of HW2.out
    go_wp2
    obtain ⟨wf, ewf, ⟨d0, d1, d2, d3, d4⟩, hbf, _⟩ := fin_tok kind nm data (.slice a attrs.length cap) self HW2.out HB2.out (Nat.le_refl _)
    have haf := attrs_s5 HA2.out HW2.out (.int .i64 kind) (.string nm) (.slice a attrs.length cap) (.bool self) (.string data)
    change bodyPost _ _ _ _ _ (S5 w2 w.heap.size (.int .i64 kind) (.string nm) (.slice a attrs.length cap) (.bool self) (.string data))
    rw [← ewf] at haf ⊢
    clear ewf c0 c1 c2 c3 c4 f0 f1 f2 f3 f4
    exact bodyPost_ret (v := .tuple #[tkV ⟨kind, nm, attrs, self, data⟩ a cap, .int .i64 (n : Nat), .bool ok]) (by simp [results, Tryz.results18, go_sem, tkV, d0, d1, d2, d3, d4]) rfl ⟨a, cap, HC.out, rfl, haf, hbf⟩
  | false =>
    obtain ⟨e1, e2, e3⟩ := mk_no f hb
    rw [e1, e2, e3]
    rw [rdT_no hb] at HR
    have HRm : Hid (∀ W, Below w.heap.size w W → Calls Tryz.prog 29 #[.string s, .bool f] W (RetMk (ofR (R.rem s.data.toList f)) (R.rem s.data.toList f).n (R.rem s.data.toList f).ok W)) :=
      Lib.hid (fun W _ => (R.rread_any s f W hs).mono fun _ _ h => rem_mk h)
    clear e1 e2 e3 hb
    generalize (R.rem s.data.toList f).n = n at *
    generalize (R.rem s.data.toList f).ok = ok at *
    generalize ofR (R.rem s.data.toList f) = t at *
    obtain ⟨kind, nm, attrs, self, data⟩ := t
    go_enter Tryz.func18, Tryz.ntmps18
    go_wp2_with fail
    refine HR.out.mono ?_
    rintro e w1 ⟨a, cap, hcap, he, hat, hbl⟩
    unfold tkV ofT at he
    subst he
    have HB1 : Hid (Below w.heap.size w w1) := Lib.hid (HB.out.trans (hbl.mono HB.out.size))
    have HW1 := Lib.hid (heap_keep hbl HW.out)
    clear hbl hat hcap HB HW HR
    obtain ⟨w2, ew⟩ : ∃ w2, w2 = w1.alloc (.cells #[.int .i64 0, .string ⟨#[]⟩, .slice a 0 cap, .bool false, .string ⟨#[]⟩] 34) := ⟨_, rfl⟩
    have HB2 := Lib.hid (HB1.out.alloc HB1.out.size (.cells #[.int .i64 0, .string ⟨#[]⟩, .slice a 0 cap, .bool false, .string ⟨#[]⟩] 34))
    have HW2 := Lib.hid (heap_keep ((Below.refl w1.heap.size w1).alloc (Nat.le_refl _) (.cells #[.int .i64 0, .string ⟨#[]⟩, .slice a 0 cap, .bool false, .string ⟨#[]⟩] 34)) HW1.out)
    have HRm2 := Lib.hid (HRm.out _ HB2.out)
    clear HB1 HW1 HRm
    go_wp2_with fail
    refine HRm2.out.mono ?_
    rintro e w3 ⟨a', cap', hcap, he, hat, hbl⟩
    unfold tkV at he
    subst he
    have HB3 := A.below_step HB2 hbl
    have HW3 := Lib.hid (heap_keep hbl HW2.out)
    have HA3 : Hid (AttrsAt w3 a' attrs) := Lib.hid hat
    have HC : Hid (attrs.length ≤ cap') := Lib.hid hcap
    clear hbl hat hcap HB2 HW2 HRm2 ew
    obtain ⟨f0, f1, f2, f3, f4⟩ := free_of HW3.out
    obtain ⟨g0, g1, g2, g3, g4⟩ := row_of HW3.out
    go_wp2
    obtain ⟨wf, ewf, ⟨d0, d1, d2, d3, d4⟩, hbf, _⟩ := fin_tok kind nm data (.slice a' attrs.length cap') self HW3.out HB3.out (Nat.le_refl _)
    have haf := attrs_s5 HA3.out HW3.out (.int .i64 kind) (.string nm) (.slice a' attrs.length cap') (.bool self) (.string data)
    change bodyPost _ _ _ _ _ (S5 w3 w.heap.size (.int .i64 kind) (.string nm) (.slice a' attrs.length cap') (.bool self) (.string data))
    rw [← ewf] at haf ⊢
    clear ewf f0 f1 f2 f3 f4
    exact bodyPost_ret (v := .tuple #[tkV ⟨kind, nm, attrs, self, data⟩ a' cap', .int .i64 (n : Nat), .bool ok]) (by simp [results, Tryz.results18, go_sem, tkV, d0, d1, d2, d3, d4]) rfl ⟨a', cap', HC.out, rfl, haf, hbf⟩

set_option maxRecDepth 100000 in
set_option maxHeartbeats 6400000 in
theorem rother_any (B : Nat) (s last : ByteArray) (st : Int) (w : World) (h : LB 28 w B s) (hs : s.size ≤ 10000) (hl : last.size ≤ 10000) :
    Calls Tryz.prog 17 #[.pointer (some ⟨B, 0, none⟩), .int .i64 st, .string last] w (RetNx 28 B (nxT s last st) w) := by
  have hBl := h.lt
  have HF := Lib.hid (fun W => Q.rfind_any s last st W hs hl)
  have hfs := (fndR_is s last st).1
  have HG := Lib.hid (grown_of B (w1_below w))
  have HL := Lib.hid (h.below (w1_below w))
  have HZ : Hid (Zr w (W1 w)) := Lib.hid (w1_row w)
  have c := HL.out.c
  clear h
  by_cases h0 : s.size = 0
  · obtain ⟨e1, e2⟩ := C.empty_yes h0
    obtain rfl := empty_is h0
    have hr : nxT ⟨#[]⟩ last st = (endL, ⟨#[]⟩) := by
      have hf0 : fndR ⟨#[]⟩ last st = 0 := Nat.eq_zero_of_le_zero hfs
      unfold nxT
      rw [hf0, if_neg (Nat.lt_irrefl 0)]
      rfl
    rw [hr]
    clear HF hfs h0
    go_enter Tryz.func17, Tryz.ntmps17
    go_upto_region 1 with fail
    show Code.wp _ _ _ _ (W1 w)
    obtain ⟨w0, ew⟩ : ∃ w0, w0 = W1 w := ⟨_, rfl⟩
    rw [← ew] at HG HL HZ c ⊢
    clear ew
    have HG4 := HG
    have HL4 := HL
    have HZ4 := HZ
    have hz4 := HZ4.out
    obtain ⟨f0, f1, f2, f3, f4⟩ := free_of hz4
    obtain ⟨g0, g1, g2, g3, g4⟩ := row_of hz4
    clear hz4
    go_wp2
    obtain ⟨wf, ewf, ⟨d0, d1, d2, d3, d4⟩, hret⟩ := tok_fin (t := endL) (a := none) (cap := 0) hBl (Nat.le_refl _) (AttrsAt.nil _ _) HL4.out HG4.out HZ4.out
    change bodyPost _ _ _ _ _ (S5 w0 w.heap.size (.int .i64 0) (.string ⟨#[]⟩) (.slice none 0 0) (.bool false) (.string ⟨#[]⟩))
    change wf = S5 w0 w.heap.size (.int .i64 0) (.string ⟨#[]⟩) (.slice none 0 0) (.bool false) (.string ⟨#[]⟩) at ewf
    rw [← ewf]
    clear ewf f0 f1 f2 f3 f4 g0 g1 g2 g3 g4
    exact bodyPost_ret (v := tkV endL none 0) (by simp [results, Tryz.results17, go_sem, tkV, endL, d0, d1, d2, d3, d4]) rfl hret
  · obtain ⟨e1, e2⟩ := C.empty_no h0
    by_cases h1 : 0 < fndR s last st
    · have HH := Lib.hid (nxT_raw h1)
      have HDc := Lib.hid (fun W => C.rdecode_any (s.extract 0 (fndR s last st)) false W (by rw [ByteArray.size_extract]; omega))
      generalize C.decS false (s.extract 0 (fndR s last st)) = d at *
      generalize fndR s last st = n at *
      obtain ⟨r, hr⟩ : ∃ r, nxT s last st = r := ⟨_, rfl⟩
      rw [hr] at HH ⊢
      clear hr h0
      have h1i : (0 : Int) < (n : Int) := by omega
      have hi0 : (0 : Int) ≤ (n : Int) := by omega
      have hi1 : (n : Int) ≤ (s.size : Int) := by omega
      go_enter Tryz.func17, Tryz.ntmps17
      go_upto_region 1 with fail
      show Code.wp _ _ _ _ (W1 w)
      obtain ⟨w0, ew⟩ : ∃ w0, w0 = W1 w := ⟨_, rfl⟩
      rw [← ew] at HG HL HZ c ⊢
      clear ew
      go_wp2_with fail
      refine (HF.out w0).mono ?_
      rintro e w1 ⟨rfl, hb⟩
      have HG3 := grown_step HG hb
      have HL3 := Lib.hid (HL.out.below hb)
      have HZ3 := Lib.hid (HZ.out.below hb)
      clear hb HG HL HZ HF c
      have c := HL3.out.c
      have fz := HL3.out.fz
      have hgs := grown_set w1 B (.string (s.extract n s.size))
      have HG4 : Hid (w.grownBy (w1.setCell ⟨B, 0, none⟩ (.string (s.extract n s.size))) (some B)) := Lib.hid (HG3.out.trans hgs)
      have HL4 : Hid (LB 28 (w1.setCell ⟨B, 0, none⟩ (.string (s.extract n s.size))) B (s.extract n s.size)) := Lib.hid (HL3.out.set _)
      have HZ4 : Hid (Zr w (w1.setCell ⟨B, 0, none⟩ (.string (s.extract n s.size)))) := Lib.hid (HZ3.out.set hBl _)
      go_upto_region 7 with fail
      show Code.wp _ _ _ _ (w1.setCell ⟨B, 0, none⟩ (.string (s.extract n s.size)))
      obtain ⟨w4, ew⟩ : ∃ w4, w4 = w1.setCell ⟨B, 0, none⟩ (.string (s.extract n s.size)) := ⟨_, rfl⟩
      rw [← ew] at HG4 HL4 HZ4 ⊢
      clear ew hgs c fz HG3 HL3 HZ3
      by_cases hst1 : st = 1
      · have he : (st == 1) = true := by simp [hst1]
        rw [if_pos hst1] at HH
        clear hst1
        go_wp2_with fail
        refine (HDc.out _).mono ?_
        rintro e w5 ⟨rfl, hb⟩
        have HG5 := grown_step HG4 hb
        have HL5 := Lib.hid (HL4.out.below hb)
        have HZ5 := Lib.hid (HZ4.out.below hb)
        clear hb HG4 HL4 HZ4 HDc
        have HG4 := HG5
        have HL4 := HL5
        have HZ4 := HZ5
        have hz4 := HZ4.out
        obtain ⟨f0, f1, f2, f3, f4⟩ := free_of hz4
        obtain ⟨g0, g1, g2, g3, g4⟩ := row_of hz4
        clear hz4
        go_wp2
        obtain ⟨wf, ewf, ⟨d0, d1, d2, d3, d4⟩, hret⟩ := tok_fin (t := (txtL d)) (a := none) (cap := 0) hBl (Nat.le_refl _) (AttrsAt.nil _ _) HL4.out HG4.out HZ4.out
        rw [← HH.out] at hret
        change bodyPost _ _ _ _ _ (S5 w5 w.heap.size (.int .i64 3) (.string ⟨#[]⟩) (.slice none 0 0) (.bool false) (.string d))
        change wf = S5 w5 w.heap.size (.int .i64 3) (.string ⟨#[]⟩) (.slice none 0 0) (.bool false) (.string d) at ewf
        rw [← ewf]
        clear ewf f0 f1 f2 f3 f4 g0 g1 g2 g3 g4
        exact bodyPost_ret (v := tkV (txtL d) none 0) (by simp [results, Tryz.results17, go_sem, tkV, txtL, d0, d1, d2, d3, d4]) rfl hret
      · have he : (st == 1) = false := by simpa using hst1
        rw [if_neg hst1] at HH
        clear hst1 HDc
        have hz4 := HZ4.out
        obtain ⟨f0, f1, f2, f3, f4⟩ := free_of hz4
        obtain ⟨g0, g1, g2, g3, g4⟩ := row_of hz4
        clear hz4
        go_wp2
        obtain ⟨wf, ewf, ⟨d0, d1, d2, d3, d4⟩, hret⟩ := tok_fin (t := (txtL (s.extract 0 n))) (a := none) (cap := 0) hBl (Nat.le_refl _) (AttrsAt.nil _ _) HL4.out HG4.out HZ4.out
        rw [← HH.out] at hret
        change bodyPost _ _ _ _ _ (S5 w4 w.heap.size (.int .i64 3) (.string ⟨#[]⟩) (.slice none 0 0) (.bool false) (.string (s.extract 0 n)))
        change wf = S5 w4 w.heap.size (.int .i64 3) (.string ⟨#[]⟩) (.slice none 0 0) (.bool false) (.string (s.extract 0 n)) at ewf
        rw [← ewf]
        clear ewf f0 f1 f2 f3 f4 g0 g1 g2 g3 g4
        exact bodyPost_ret (v := tkV (txtL (s.extract 0 n)) none 0) (by simp [results, Tryz.results17, go_sem, tkV, txtL, d0, d1, d2, d3, d4]) rfl hret
    · have hn0 : fndR s last st = 0 := by omega
      rw [hn0] at HF
      have HR := Lib.hid (fun W => rread_mk s W hs)
      have hle := rdT_le s.data.toList
      rw [C.size_list] at hle
      have HY := Lib.hid (fun h2 => nxT_tag (s := s) (last := last) (st := st) h1 h2)
      have HN : Hid ((T.rdT s.data.toList).ok = false → nxT s last st = (endL, ⟨#[]⟩)) := Lib.hid (fun h2 => by unfold nxT; rw [if_neg h1, if_neg (by rw [h2]; decide)])
      generalize nxT s last st = r at *
      clear h1 hn0 hfs h0
      generalize ofT (T.rdT s.data.toList) = t at *
      generalize (T.rdT s.data.toList).n = n at *
      generalize (T.rdT s.data.toList).ok = ok at *
      obtain ⟨kind, nm, attrs, self, data⟩ := t
      have hi0 : (0 : Int) ≤ (n : Int) := by omega
      have hi1 : (n : Int) ≤ (s.size : Int) := by omega
      go_enter Tryz.func17, Tryz.ntmps17
      go_upto_region 1 with fail
      show Code.wp _ _ _ _ (W1 w)
      obtain ⟨w0, ew⟩ : ∃ w0, w0 = W1 w := ⟨_, rfl⟩
      rw [← ew] at HG HL HZ c ⊢
      clear ew
      go_wp2_with fail
      refine (HF.out w0).mono ?_
      rintro e w1 ⟨rfl, hb⟩
      have HG1 := grown_step HG hb
      have HL1 := Lib.hid (HL.out.below hb)
      have HZ1 := Lib.hid (HZ.out.below hb)
      clear hb HG HL HZ HF c
      have c := HL1.out.c
      go_wp2_with fail
      refine (HR.out _).mono ?_
      rintro e w2 ⟨a, cap, hcap, he, hat, hb⟩
      unfold tkV at he
      subst he
      have HG2 := grown_step HG1 hb
      have HL2 := Lib.hid (HL1.out.below hb)
      have HZ2 := Lib.hid (HZ1.out.below hb)
      have HA2 : Hid (AttrsAt w2 a attrs) := Lib.hid hat
      have HC : Hid (attrs.length ≤ cap) := Lib.hid hcap
      clear hb HG1 HL1 HZ1 hat hcap c
      have hb : Below w2.heap.size w2 (w2.alloc (.cells #[.int .i64 kind, .string nm, .slice a attrs.length cap, .bool self, .string data] 34)) := (Below.refl _ _).alloc (Nat.le_refl _) _
      have HG3 := grown_step HG2 hb
      have HL3 := Lib.hid (HL2.out.below hb)
      have HZ3 := Lib.hid (HZ2.out.below hb)
      have HA3 := Lib.hid (HA2.out.below hb)
      have HH3 := Lib.hid (heap_alloc_new w2 (.cells #[.int .i64 kind, .string nm, .slice a attrs.length cap, .bool self, .string data] 34))
      have hne : w2.heap.size ≠ B := by have := HG2.out.size; omega
      clear hb HG2 HL2 HZ2 HA2
      go_upto_region 11 with fail
      obtain ⟨w3, ew⟩ : ∃ w3, w3 = w2.alloc (.cells #[.int .i64 kind, .string nm, .slice a attrs.length cap, .bool self, .string data] 34) := ⟨_, rfl⟩
      rw [← ew] at HG3 HL3 HZ3 HA3 HH3 ⊢
      clear ew
      have c := HL3.out.c
      have fz := HL3.out.fz
      cases ok with
      | true =>
        have HM : Hid (r = (⟨kind, nm, attrs, self, data⟩, s.extract n s.size)) := Lib.hid (by first | exact HY.out rfl | exact HY.out trivial)
        clear HY HN
        have hgs := grown_set w3 B (.string (s.extract n s.size))
        have HG4 : Hid (w.grownBy (w3.setCell ⟨B, 0, none⟩ (.string (s.extract n s.size))) (some B)) := Lib.hid (HG3.out.trans hgs)
        have HL4 : Hid (LB 28 (w3.setCell ⟨B, 0, none⟩ (.string (s.extract n s.size))) B (s.extract n s.size)) := Lib.hid (HL3.out.set _)
        have HZ4 : Hid (Zr w (w3.setCell ⟨B, 0, none⟩ (.string (s.extract n s.size)))) := Lib.hid (HZ3.out.set hBl _)
        have HA4 : Hid (AttrsAt (w3.setCell ⟨B, 0, none⟩ (.string (s.extract n s.size))) a attrs) := Lib.hid (attrs_kept HA3.out HL3.out hgs)
        have HH4 : Hid ((w3.setCell ⟨B, 0, none⟩ (.string (s.extract n s.size))).heap[w2.heap.size]? = some (.cells #[.int .i64 kind, .string nm, .slice a attrs.length cap, .bool self, .string data] 34 (0, 0))) := Lib.hid ((hgs.block _ (Array.getElem?_eq_some_iff.1 HH3.out).1 (fun e => hne (by cases e; rfl))).trans HH3.out)
        go_upto_region 15 with fail
        show Code.wp _ _ _ _ (w3.setCell ⟨B, 0, none⟩ (.string (s.extract n s.size)))
        obtain ⟨w4, ew⟩ : ∃ w4, w4 = w3.setCell ⟨B, 0, none⟩ (.string (s.extract n s.size)) := ⟨_, rfl⟩
        rw [← ew] at HG4 HL4 HZ4 HA4 HH4 ⊢
        clear ew hgs c fz HG3 HL3 HZ3 HA3 HH3
        obtain ⟨c0, c1, c2, c3, c4⟩ := row_of HH4.out
        have hz4 := HZ4.out
        obtain ⟨f0, f1, f2, f3, f4⟩ := free_of hz4
        obtain ⟨g0, g1, g2, g3, g4⟩ := row_of hz4
        clear hz4
        go_wp2
        obtain ⟨wf, ewf, ⟨d0, d1, d2, d3, d4⟩, hret⟩ := tok_fin (t := ⟨kind, nm, attrs, self, data⟩) (a := a) (cap := cap) hBl HC.out HA4.out HL4.out HG4.out HZ4.out
        rw [← HM.out] at hret
        change bodyPost _ _ _ _ _ (S5 w4 w.heap.size (.int .i64 kind) (.string nm) (.slice a attrs.length cap) (.bool self) (.string data))
        change wf = S5 w4 w.heap.size (.int .i64 kind) (.string nm) (.slice a attrs.length cap) (.bool self) (.string data) at ewf
        rw [← ewf]
        clear ewf f0 f1 f2 f3 f4 g0 g1 g2 g3 g4
        exact bodyPost_ret (v := tkV ⟨kind, nm, attrs, self, data⟩ a cap) (by simp [results, Tryz.results17, go_sem, tkV, d0, d1, d2, d3, d4]) rfl hret
      | false =>
        have HM : Hid (r = (endL, ⟨#[]⟩)) := Lib.hid (by first | exact HN.out rfl | exact HN.out trivial)
        clear HY HN
        have hgs := grown_set w3 B (.string ⟨#[]⟩)
        have HG4 : Hid (w.grownBy (w3.setCell ⟨B, 0, none⟩ (.string ⟨#[]⟩)) (some B)) := Lib.hid (HG3.out.trans hgs)
        have HL4 : Hid (LB 28 (w3.setCell ⟨B, 0, none⟩ (.string ⟨#[]⟩)) B ⟨#[]⟩) := Lib.hid (HL3.out.set _)
        have HZ4 : Hid (Zr w (w3.setCell ⟨B, 0, none⟩ (.string ⟨#[]⟩))) := Lib.hid (HZ3.out.set hBl _)
        go_upto_region 13 with fail
        show Code.wp _ _ _ _ (w3.setCell ⟨B, 0, none⟩ (.string ⟨#[]⟩))
        obtain ⟨w4, ew⟩ : ∃ w4, w4 = w3.setCell ⟨B, 0, none⟩ (.string ⟨#[]⟩) := ⟨_, rfl⟩
        rw [← ew] at HG4 HL4 HZ4 ⊢
        clear ew hgs c fz HG3 HL3 HZ3 HA3 HH3
        have hz4 := HZ4.out
        obtain ⟨f0, f1, f2, f3, f4⟩ := free_of hz4
        obtain ⟨g0, g1, g2, g3, g4⟩ := row_of hz4
        clear hz4
        go_wp2
        obtain ⟨wf, ewf, ⟨d0, d1, d2, d3, d4⟩, hret⟩ := tok_fin (t := endL) (a := none) (cap := 0) hBl (Nat.le_refl _) (AttrsAt.nil _ _) HL4.out HG4.out HZ4.out
        rw [← HM.out] at hret
        change bodyPost _ _ _ _ _ (S5 w4 w.heap.size (.int .i64 0) (.string ⟨#[]⟩) (.slice none 0 0) (.bool false) (.string ⟨#[]⟩))
        change wf = S5 w4 w.heap.size (.int .i64 0) (.string ⟨#[]⟩) (.slice none 0 0) (.bool false) (.string ⟨#[]⟩) at ewf
        rw [← ewf]
        clear ewf f0 f1 f2 f3 f4 g0 g1 g2 g3 g4
        exact bodyPost_ret (v := tkV endL none 0) (by simp [results, Tryz.results17, go_sem, tkV, endL, d0, d1, d2, d3, d4]) rfl hret

def Rr (f : Bool) (w : World) (B : Nat) (r : LTok × ByteArray) (sz g : Nat) (wr : World) : Prop :=
  ∃ s', s'.size < g ∧ s'.size ≤ sz ∧ nxD f g s' = r ∧ LB 28 wr B s' ∧ w.grownBy wr (some B) ∧ Zr w wr
set_option maxRecDepth 100000 in
set_option maxHeartbeats 12800000 in
theorem rnextD_any (B : Nat) (s last : ByteArray) (f : Bool) (w : World) (h : LB 28 w B s) (hs : s.size ≤ 10000) :
    Calls Tryz.prog 9 #[.pointer (some ⟨B, 0, none⟩), .int .i64 0, .string last, .bool f] w (RetNx 28 B (nxD f (s.size + 1) s) w) := by
  have hBl := h.lt
  have HS : Hid (Rr f w B (nxD f (s.size + 1) s) s.size (s.size + 1) (W1 w)) := Lib.hid ⟨s, Nat.lt_succ_self _, Nat.le_refl _, rfl, h.below (w1_below w), grown_of B (w1_below w), w1_row w⟩
  obtain ⟨r, hr⟩ : ∃ r, nxD f (s.size + 1) s = r := ⟨_, rfl⟩
  rw [hr] at HS ⊢
  clear hr h
  go_enter Tryz.func9, Tryz.ntmps9
  go_wp2_with fail
  go_loopg [] (s.size + 1) (fun g wr => Rr f w B r s.size g wr)
  case atStart => exact HS.out
  case round =>
    obtain ⟨s', hg, hle, hh, hL, hG, hZ⟩ := hrel
    clear HS
    have HL := Lib.hid hL
    have HG := Lib.hid hG
    have HZ := Lib.hid hZ
    have c := hL.c
    clear hL hG hZ
    obtain ⟨k, rfl⟩ : ∃ k, gk = k + 1 := ⟨gk - 1, by omega⟩
    by_cases h0 : s'.size = 0
    · have hr : (endL, (⟨#[]⟩ : ByteArray)) = r := by rw [← hh, nxD_end h0]
      obtain ⟨e1, e2⟩ := C.empty_yes h0
      have he := empty_is h0
      subst he
      clear hh h0
      have HG4 := HG
      have HL4 := HL
      have HZ4 := HZ
      have hz4 := HZ4.out
      obtain ⟨f0, f1, f2, f3, f4⟩ := free_of hz4
      obtain ⟨g0, g1, g2, g3, g4⟩ := row_of hz4
      clear hz4
      go_wp2
      obtain ⟨wf, ewf, ⟨d0, d1, d2, d3, d4⟩, hret⟩ := tok_fin (t := endL) (a := none) (cap := 0) hBl (Nat.le_refl _) (AttrsAt.nil _ _) HL4.out HG4.out HZ4.out
      rw [hr] at hret
      change bodyPost _ _ _ _ _ (S5 wr w.heap.size (.int .i64 0) (.string ⟨#[]⟩) (.slice none 0 0) (.bool false) (.string ⟨#[]⟩))
      change wf = S5 wr w.heap.size (.int .i64 0) (.string ⟨#[]⟩) (.slice none 0 0) (.bool false) (.string ⟨#[]⟩) at ewf
      rw [← ewf]
      clear ewf f0 f1 f2 f3 f4 g0 g1 g2 g3 g4
      exact bodyPost_ret (v := tkV endL none 0) (by simp [results, Tryz.results9, go_sem, tkV, endL, d0, d1, d2, d3, d4]) rfl hret
    · obtain ⟨e1, e2⟩ := C.empty_no h0
      have hs' : s'.size ≤ 10000 := by omega
      have hp := pln_le s'.data.toList
      rw [C.size_list] at hp
      have HMk := Lib.hid (fun (i : Nat) W => rmarked_any (s'.extract i s'.size) f W (by rw [ByteArray.size_extract]; omega))
      have HMk0 := Lib.hid (fun W => rmarked_any s' f W hs')
      have hl := mkN_le s'.data.toList f
      rw [C.size_list] at hl
      have hpos := mkN_pos s'.data.toList f
      by_cases hm : mk s'.data.toList = true
      · have hp0 : ¬ 0 < pln s'.data.toList := by have := pln_zero.2 (.inr hm); omega
        have hn := hpos.2 hm
        have HY := Lib.hid (fun h2 => (nxD_yes (f := f) (k := k) h0 hp0 h2).symm.trans hh)
        have HN := Lib.hid (fun h2 => (nxD_no (f := f) (k := k) h0 hp0 h2).symm.trans hh)
        clear hh hp hp0 hm HMk hpos
        generalize mkN s'.data.toList f = n at *
        generalize mkO s'.data.toList f = ok at *
        generalize mkT s'.data.toList f = t at *
        obtain ⟨kind, nm, attrs, self, data⟩ := t
        have hi0 : (0 : Int) ≤ (n : Int) := by omega
        have hi1 : (n : Int) ≤ (s'.size : Int) := by omega
        have hi2 : (0 : Int) < (n : Int) := by omega
        go_wp2_with fail
        refine (HMk0.out _).mono ?_
        rintro e w2 ⟨a, cap, hcap, he, hat, hb⟩
        unfold tkV at he
        subst he
        have HG2 := grown_step HG hb
        have HL2 := Lib.hid (HL.out.below hb)
        have HZ2 := Lib.hid (HZ.out.below hb)
        have HA2 : Hid (AttrsAt w2 a attrs) := Lib.hid hat
        have HC : Hid (attrs.length ≤ cap) := Lib.hid hcap
        clear hb HG HL HZ hat hcap c
        have hb : Below w2.heap.size w2 (w2.alloc (.cells #[.int .i64 kind, .string nm, .slice a attrs.length cap, .bool self, .string data] 34)) := (Below.refl _ _).alloc (Nat.le_refl _) _
        have HG3 := grown_step HG2 hb
        have HL3 := Lib.hid (HL2.out.below hb)
        have HZ3 := Lib.hid (HZ2.out.below hb)
        have HA3 := Lib.hid (HA2.out.below hb)
        have HH3 := Lib.hid (heap_alloc_new w2 (.cells #[.int .i64 kind, .string nm, .slice a attrs.length cap, .bool self, .string data] 34))
        have hne : w2.heap.size ≠ B := by have := HG2.out.size; omega
        clear hb HG2 HL2 HZ2 HA2
        go_upto_region 5 with fail
        obtain ⟨w3, ew⟩ : ∃ w3, w3 = w2.alloc (.cells #[.int .i64 kind, .string nm, .slice a attrs.length cap, .bool self, .string data] 34) := ⟨_, rfl⟩
        rw [← ew] at HG3 HL3 HZ3 HA3 HH3 ⊢
        clear ew
        have c := HL3.out.c
        have fz := HL3.out.fz
        have hgs := grown_set w3 B (.string (s'.extract n s'.size))
        have HG4 : Hid (w.grownBy (w3.setCell ⟨B, 0, none⟩ (.string (s'.extract n s'.size))) (some B)) := Lib.hid (HG3.out.trans hgs)
        have HL4 : Hid (LB 28 (w3.setCell ⟨B, 0, none⟩ (.string (s'.extract n s'.size))) B (s'.extract n s'.size)) := Lib.hid (HL3.out.set _)
        have HZ4 : Hid (Zr w (w3.setCell ⟨B, 0, none⟩ (.string (s'.extract n s'.size)))) := Lib.hid (HZ3.out.set hBl _)
        have HA4 : Hid (AttrsAt (w3.setCell ⟨B, 0, none⟩ (.string (s'.extract n s'.size))) a attrs) := Lib.hid (attrs_kept HA3.out HL3.out hgs)
        have HH4 : Hid ((w3.setCell ⟨B, 0, none⟩ (.string (s'.extract n s'.size))).heap[w2.heap.size]? = some (.cells #[.int .i64 kind, .string nm, .slice a attrs.length cap, .bool self, .string data] 34 (0, 0))) := Lib.hid ((hgs.block _ (Array.getElem?_eq_some_iff.1 HH3.out).1 (fun e => hne (by cases e; rfl))).trans HH3.out)
        go_upto_region 7 with fail
        show Code.wp _ _ _ _ (w3.setCell ⟨B, 0, none⟩ (.string (s'.extract n s'.size)))
        obtain ⟨w4, ew⟩ : ∃ w4, w4 = w3.setCell ⟨B, 0, none⟩ (.string (s'.extract n s'.size)) := ⟨_, rfl⟩
        rw [← ew] at HG4 HL4 HZ4 HA4 HH4 ⊢
        clear ew hgs c fz HG3 HL3 HZ3 HA3 HH3
        cases ok with
        | true =>
          have HM : Hid ((⟨kind, nm, attrs, self, data⟩, s'.extract n s'.size) = r) := Lib.hid (by first | exact HY.out rfl | exact HY.out trivial)
          clear HY HN
          obtain ⟨c0, c1, c2, c3, c4⟩ := row_of HH4.out
          have hz4 := HZ4.out
          obtain ⟨f0, f1, f2, f3, f4⟩ := free_of hz4
          obtain ⟨g0, g1, g2, g3, g4⟩ := row_of hz4
          clear hz4
          go_wp2
          obtain ⟨wf, ewf, ⟨d0, d1, d2, d3, d4⟩, hret⟩ := tok_fin (t := ⟨kind, nm, attrs, self, data⟩) (a := a) (cap := cap) hBl HC.out HA4.out HL4.out HG4.out HZ4.out
          rw [HM.out] at hret
          change bodyPost _ _ _ _ _ (S5 w4 w.heap.size (.int .i64 kind) (.string nm) (.slice a attrs.length cap) (.bool self) (.string data))
          change wf = S5 w4 w.heap.size (.int .i64 kind) (.string nm) (.slice a attrs.length cap) (.bool self) (.string data) at ewf
          rw [← ewf]
          clear ewf f0 f1 f2 f3 f4 g0 g1 g2 g3 g4
          exact bodyPost_ret (v := tkV ⟨kind, nm, attrs, self, data⟩ a cap) (by simp [results, Tryz.results9, go_sem, tkV, d0, d1, d2, d3, d4]) rfl hret
        | false =>
          have HN2 : Hid (nxD f k (s'.extract n s'.size) = r) := Lib.hid (by first | exact HN.out rfl | exact HN.out trivial)
          clear HY HN HH4 HA4 HC
          go_wp2
          go_roundg k
          case rel => exact ⟨s'.extract n s'.size, by rw [ext_sz s' hl]; omega, by rw [ext_sz s' hl]; omega, HN2.out, HL4.out, HG4.out, HZ4.out⟩
          case measure => omega
      · have hm0 : mk s'.data.toList = false := by simpa using hm
        have hn0 : mkN s'.data.toList f = 0 := by
          rcases Nat.eq_zero_or_pos (mkN s'.data.toList f) with h | h
          · exact h
          · exact absurd (hpos.1 h) hm
        have hp1 : 0 < pln s'.data.toList := by
          rcases Nat.eq_zero_or_pos (pln s'.data.toList) with h | h
          · rcases pln_zero.1 h with h3 | h3
            · exact absurd (by rw [← C.size_list, h3]; rfl) h0
            · exact absurd h3 hm
          · exact h
        rw [nxD_txt h0 hp1] at hh
        have HH := Lib.hid hh
        have hs1 : 1 ≤ s'.size := by omega
        rw [hn0] at HMk0
        clear hh hm hn0 hl hpos
        generalize mkO s'.data.toList f = ok at *
        generalize mkT s'.data.toList f = t at *
        obtain ⟨kind, nm, attrs, self, data⟩ := t
        go_wp2_with fail
        refine (HMk0.out _).mono ?_
        rintro e w2 ⟨a, cap, hcap, he, _, hb⟩
        unfold tkV at he
        subst he
        have hb2 : Below w2.heap.size w2 (w2.alloc (.cells #[.int .i64 kind, .string nm, .slice a attrs.length cap, .bool self, .string data] 34)) := (Below.refl _ _).alloc (Nat.le_refl _) _
        have HG3 := grown_step (grown_step HG hb) hb2
        have HL3 := Lib.hid ((HL.out.below hb).below hb2)
        have HZ3 := Lib.hid ((HZ.out.below hb).below hb2)
        clear hb hb2 hcap HG HL HZ HMk0 c
        go_upto_region 10 with fail
        obtain ⟨w3, ew⟩ : ∃ w3, w3 = w2.alloc (.cells #[.int .i64 kind, .string nm, .slice a attrs.length cap, .bool self, .string data] 34) := ⟨_, rfl⟩
        rw [← ew] at HG3 HL3 HZ3 ⊢
        clear ew
        have hc0 : ∀ j, j < 1 → mk (s'.data.toList.drop j) = false := fun j hj => by
          obtain rfl : j = 0 := by omega
          exact hm0
        go_loopw [12] (fun v wq => ∃ i : Nat, v = .int .i64 (i : Nat) ∧ 1 ≤ i ∧ i ≤ s'.size ∧ (∀ j, j < i → mk (s'.data.toList.drop j) = false) ∧ w.grownBy wq (some B) ∧ LB 28 wq B s' ∧ Zr w wq) (fun v _ => s'.size - (intOf v).toNat)
        case atStart => exact ⟨1, rfl, Nat.le_refl _, hs1, hc0, HG3.out, HL3.out, HZ3.out⟩
        case round =>
          obtain ⟨i, rfl, hi1, hi2, hcov, hG, hL, hZ⟩ := hrel
          have HG := Lib.hid hG
          have HL := Lib.hid hL
          have HZ := Lib.hid hZ
          have HCv := Lib.hid hcov
          have c := hL.c
          clear hG hL hZ hcov HG3 HL3 HZ3
          have hj0 : (0 : Int) ≤ (i : Int) := by omega
          have hj1 : (i : Int) ≤ (s'.size : Int) := by omega
          by_cases hlt : i < s'.size
          · have hlt2 : (i : Int) < (s'.size : Int) := by omega
            have HM := Lib.hid (fun W => HMk.out i W)
            have hpi := mkN_pos (s'.extract i s'.size).data.toList f
            rw [C.ext_tail] at hpi HM
            generalize mkN (s'.data.toList.drop i) f = n at *
            generalize mkO (s'.data.toList.drop i) f = ok2 at *
            generalize mkT (s'.data.toList.drop i) f = t2 at *
            obtain ⟨kind2, nm2, attrs2, self2, data2⟩ := t2
            go_wp2_with fail
            refine (HM.out _).mono ?_
            rintro e w5 ⟨a5, cap5, hcap, he, _, hb⟩
            unfold tkV at he
            subst he
            have hb2 : Below w5.heap.size w5 (w5.alloc (.cells #[.int .i64 kind2, .string nm2, .slice a5 attrs2.length cap5, .bool self2, .string data2] 34)) := (Below.refl _ _).alloc (Nat.le_refl _) _
            have HG6 := grown_step (grown_step HG hb) hb2
            have HL6 := Lib.hid ((HL.out.below hb).below hb2)
            have HZ6 := Lib.hid ((HZ.out.below hb).below hb2)
            clear hb hb2 hcap HG HL HZ HM c
            go_upto_region 12 with fail
            obtain ⟨w6, ew⟩ : ∃ w6, w6 = w5.alloc (.cells #[.int .i64 kind2, .string nm2, .slice a5 attrs2.length cap5, .bool self2, .string data2] 34) := ⟨_, rfl⟩
            rw [← ew] at HG6 HL6 HZ6 ⊢
            clear ew
            have c := HL6.out.c
            have fz := HL6.out.fz
            by_cases hn : 0 < n
            · have hi5 : (0 : Int) < (n : Int) := by omega
              have hpl : pln s'.data.toList = i := pln_is _ _ (by rw [C.size_list]; exact hi2) HCv.out (.inr (hpi.1 hn))
              clear hpi
              rw [hpl] at HH
              have HDc := Lib.hid (fun W => C.rdecode_any (s'.extract 0 i) false W (by rw [ByteArray.size_extract]; omega))
              generalize C.decS false (s'.extract 0 i) = d at *
              clear hpl HCv HMk
              go_wp2_with fail
              refine (HDc.out _).mono ?_
              rintro e w7 ⟨rfl, hb⟩
              have HG3 := grown_step HG6 hb
              have HL3 := Lib.hid (HL6.out.below hb)
              have HZ3 := Lib.hid (HZ6.out.below hb)
              clear hb HG6 HL6 HZ6 HDc c fz
              have c := HL3.out.c
              have fz := HL3.out.fz
              have hgs := grown_set w7 B (.string (s'.extract i s'.size))
              have HG4 : Hid (w.grownBy (w7.setCell ⟨B, 0, none⟩ (.string (s'.extract i s'.size))) (some B)) := Lib.hid (HG3.out.trans hgs)
              have HL4 : Hid (LB 28 (w7.setCell ⟨B, 0, none⟩ (.string (s'.extract i s'.size))) B (s'.extract i s'.size)) := Lib.hid (HL3.out.set _)
              have HZ4 : Hid (Zr w (w7.setCell ⟨B, 0, none⟩ (.string (s'.extract i s'.size)))) := Lib.hid (HZ3.out.set hBl _)
              go_upto_region 16 with fail
              show Code.wp _ _ _ _ (w7.setCell ⟨B, 0, none⟩ (.string (s'.extract i s'.size)))
              obtain ⟨w4, ew⟩ : ∃ w4, w4 = w7.setCell ⟨B, 0, none⟩ (.string (s'.extract i s'.size)) := ⟨_, rfl⟩
              rw [← ew] at HG4 HL4 HZ4 ⊢
              clear ew hgs c fz HG3 HL3 HZ3
              have hz4 := HZ4.out
              obtain ⟨f0, f1, f2, f3, f4⟩ := free_of hz4
              obtain ⟨g0, g1, g2, g3, g4⟩ := row_of hz4
              clear hz4
              go_wp2
              obtain ⟨wf, ewf, ⟨d0, d1, d2, d3, d4⟩, hret⟩ := tok_fin (t := (txtL d)) (a := none) (cap := 0) hBl (Nat.le_refl _) (AttrsAt.nil _ _) HL4.out HG4.out HZ4.out
              rw [HH.out] at hret
              change bodyPost _ _ _ _ _ (S5 w4 w.heap.size (.int .i64 3) (.string ⟨#[]⟩) (.slice none 0 0) (.bool false) (.string d))
              change wf = S5 w4 w.heap.size (.int .i64 3) (.string ⟨#[]⟩) (.slice none 0 0) (.bool false) (.string d) at ewf
              rw [← ewf]
              clear ewf f0 f1 f2 f3 f4 g0 g1 g2 g3 g4
              exact bodyPost_ret (v := tkV (txtL d) none 0) (by simp [results, Tryz.results9, go_sem, tkV, txtL, d0, d1, d2, d3, d4]) rfl hret
            · have hi5 : ¬ (0 : Int) < (n : Int) := by omega
              have hmi : mk (s'.data.toList.drop i) = false := by
                cases hq : mk (s'.data.toList.drop i) with
                | false => rfl
                | true => exact absurd (hpi.2 hq) hn
              have HC2 : Hid (∀ j, j < i + 1 → mk (s'.data.toList.drop j) = false) := Lib.hid (fun j hj => by
                rcases Nat.lt_or_ge j i with h | h
                · exact HCv.out j h
                · obtain rfl : j = i := by omega
                  exact hmi)
              clear hpi hmi hn
              go_wp2
              go_roundw
              case rel => exact ⟨i + 1, by go_num, by omega, by omega, HC2.out, HG6.out, HL6.out, HZ6.out⟩
              case measure => simp [intOf]; omega
          · have hlt2 : ¬ (i : Int) < (s'.size : Int) := by omega
            have hpl : pln s'.data.toList = i := pln_is _ _ (by rw [C.size_list]; exact hi2) HCv.out (.inl (by rw [C.size_list]; omega))
            have HG6 := HG
            have HL6 := HL
            have HZ6 := HZ
            have fz := HL6.out.fz
            clear HG HL HZ
            rw [hpl] at HH
            have HDc := Lib.hid (fun W => C.rdecode_any (s'.extract 0 i) false W (by rw [ByteArray.size_extract]; omega))
            generalize C.decS false (s'.extract 0 i) = d at *
            clear hpl HCv HMk
            go_wp2_with fail
            refine (HDc.out _).mono ?_
            rintro e w7 ⟨rfl, hb⟩
            have HG3 := grown_step HG6 hb
            have HL3 := Lib.hid (HL6.out.below hb)
            have HZ3 := Lib.hid (HZ6.out.below hb)
            clear hb HG6 HL6 HZ6 HDc c fz
            have c := HL3.out.c
            have fz := HL3.out.fz
            have hgs := grown_set w7 B (.string (s'.extract i s'.size))
            have HG4 : Hid (w.grownBy (w7.setCell ⟨B, 0, none⟩ (.string (s'.extract i s'.size))) (some B)) := Lib.hid (HG3.out.trans hgs)
            have HL4 : Hid (LB 28 (w7.setCell ⟨B, 0, none⟩ (.string (s'.extract i s'.size))) B (s'.extract i s'.size)) := Lib.hid (HL3.out.set _)
            have HZ4 : Hid (Zr w (w7.setCell ⟨B, 0, none⟩ (.string (s'.extract i s'.size)))) := Lib.hid (HZ3.out.set hBl _)
            go_upto_region 16 with fail
            show Code.wp _ _ _ _ (w7.setCell ⟨B, 0, none⟩ (.string (s'.extract i s'.size)))
            obtain ⟨w4, ew⟩ : ∃ w4, w4 = w7.setCell ⟨B, 0, none⟩ (.string (s'.extract i s'.size)) := ⟨_, rfl⟩
            rw [← ew] at HG4 HL4 HZ4 ⊢
            clear ew hgs c fz HG3 HL3 HZ3
            have hz4 := HZ4.out
            obtain ⟨f0, f1, f2, f3, f4⟩ := free_of hz4
            obtain ⟨g0, g1, g2, g3, g4⟩ := row_of hz4
            clear hz4
            go_wp2
            obtain ⟨wf, ewf, ⟨d0, d1, d2, d3, d4⟩, hret⟩ := tok_fin (t := (txtL d)) (a := none) (cap := 0) hBl (Nat.le_refl _) (AttrsAt.nil _ _) HL4.out HG4.out HZ4.out
            rw [HH.out] at hret
            change bodyPost _ _ _ _ _ (S5 w4 w.heap.size (.int .i64 3) (.string ⟨#[]⟩) (.slice none 0 0) (.bool false) (.string d))
            change wf = S5 w4 w.heap.size (.int .i64 3) (.string ⟨#[]⟩) (.slice none 0 0) (.bool false) (.string d) at ewf
            rw [← ewf]
            clear ewf f0 f1 f2 f3 f4 g0 g1 g2 g3 g4
            exact bodyPost_ret (v := tkV (txtL d) none 0) (by simp [results, Tryz.results9, go_sem, tkV, txtL, d0, d1, d2, d3, d4]) rfl hret

theorem rnextT_any (B : Nat) (s last : ByteArray) (st : Int) (f : Bool) (w : World) (h : LB 28 w B s) (hst : st ≠ 0) (hs : s.size ≤ 10000) (hl : last.size ≤ 10000) :
    Calls Tryz.prog 9 #[.pointer (some ⟨B, 0, none⟩), .int .i64 st, .string last, .bool f] w (RetNx 28 B (nxT s last st) w) := by
  have hBl := h.lt
  have HG := Lib.hid (grown_of B (w1_below w))
  have HL := Lib.hid (h.below (w1_below w))
  have HZ : Hid (Zr w (W1 w)) := Lib.hid (w1_row w)
  have hne : w.heap.size ≠ B := by omega
  have HC := Lib.hid (rother_any B s last st (W1 w) HL.out hs hl)
  have e0 : (st == 0) = false := by simpa using hst
  have e1 : (st != 0) = true := by simp [hst]
  obtain ⟨⟨t, s2⟩, hr2⟩ : ∃ r, nxT s last st = r := ⟨_, rfl⟩
  rw [hr2] at HC ⊢
  obtain ⟨kind, nm, attrs, self, data⟩ := t
  clear hr2 hst h
  go_enter Tryz.func9, Tryz.ntmps9
  go_wp2_with fail
  refine HC.out.mono ?_
  rintro e w1 ⟨a, cap, hcap, he, hat, hlb, hg⟩
  unfold tkV at he
  subst he
  have hz : Zr w w1 := (hg.block _ (by rw [w1_size]; omega) (fun e => hne (by cases e; rfl))).trans HZ.out
  have HG4 := Lib.hid (HG.out.trans hg)
  have HZ4 := Lib.hid hz
  have HL4 : Hid (LB 28 w1 B s2) := Lib.hid hlb
  have HA4 : Hid (AttrsAt w1 a attrs) := Lib.hid hat
  have HC1 : Hid (attrs.length ≤ cap) := Lib.hid hcap
  clear hz hg hat hcap hlb HG HL HZ HC
  have hz4 := HZ4.out
  obtain ⟨f0, f1, f2, f3, f4⟩ := free_of hz4
  obtain ⟨g0, g1, g2, g3, g4⟩ := row_of hz4
  clear hz4
  go_wp2
  obtain ⟨wf, ewf, ⟨d0, d1, d2, d3, d4⟩, hret⟩ := tok_fin (t := ⟨kind, nm, attrs, self, data⟩) (a := a) (cap := cap) hBl HC1.out HA4.out HL4.out HG4.out HZ4.out
  change bodyPost _ _ _ _ _ (S5 w1 w.heap.size (.int .i64 kind) (.string nm) (.slice a attrs.length cap) (.bool self) (.string data))
  change wf = S5 w1 w.heap.size (.int .i64 kind) (.string nm) (.slice a attrs.length cap) (.bool self) (.string data) at ewf
  rw [← ewf]
  clear ewf f0 f1 f2 f3 f4 g0 g1 g2 g3 g4
  exact bodyPost_ret (v := tkV ⟨kind, nm, attrs, self, data⟩ a cap) (by simp [results, Tryz.results9, go_sem, tkV, d0, d1, d2, d3, d4]) rfl hret
theorem rnext_any (B : Nat) (s last : ByteArray) (st : Int) (f : Bool) (w : World) (h : LB 28 w B s) (hs : s.size ≤ 10000) (hl : last.size ≤ 10000) :
    Calls Tryz.prog 9 #[.pointer (some ⟨B, 0, none⟩), .int .i64 st, .string last, .bool f] w (RetNx 28 B (nxL s last st f) w) := by
  unfold nxL
  by_cases h0 : st = 0
  · rw [if_pos h0]; subst h0; exact rnextD_any B s last f w h hs
  · rw [if_neg h0]; exact rnextT_any B s last st f w h h0 hs hl
end Go.Proofs.YtceelfomgcbkiaaGreatDoor
