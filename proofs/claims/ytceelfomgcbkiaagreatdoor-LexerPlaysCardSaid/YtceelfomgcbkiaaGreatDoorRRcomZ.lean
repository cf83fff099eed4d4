/-
  The walks of the document's own bogus and comment.
-/
import Derived.Test.YtceelfomgcbkiaaGreatDoorRBareZ
import Derived.Deep.CutBlock
namespace Go.Proofs.YtceelfomgcbkiaaGreatDoor.R
open Go.RowKit

theorem cut_ext (s : ByteArray) (i j : Nat) : s.extract i j = cut s.data.toList i j := (cut_of s i j).symm
set_option maxHeartbeats 1600000 in
theorem rbogus_any (s : ByteArray) (k : Nat) (w : World) (hk : k ≤ s.size) (hs : s.size ≤ 10000) :
    Calls Tryz.prog 57 #[.string s, .int .i64 (k : Nat)] w (RetRem (bog s.data.toList k) w) := by
  have HU := Lib.hid (rfind_any s ⟨#[62]⟩ k (W1 w) hk (by decide) hs (by decide))
  have e62 : ((⟨#[62]⟩ : ByteArray).data.toList) = [62] := rfl
  rw [e62] at HU
  have HX : Hid (∀ e u, e = fndF [62] s.data.toList k → u = min (e + 1) s.size → (⟨4, ByteArray.empty, s.extract k e, u, true⟩ : Rem) = bog s.data.toList k) := Lib.hid (fun e u h1 h2 => by
    unfold bog
    rw [h2, h1, cut_ext, C.size_list])
  have hb := fndF_bd [62] s.data.toList k (by rw [C.size_list]; exact hk)
  rw [C.size_list] at hb
  have HR := Lib.hid (w1_row w)
  have HB := Lib.hid (w1_below w)
  have HX2 := Lib.hid (fun u => HX.out (fndF [62] s.data.toList k) u rfl)
  clear e62 HX
  generalize fndF [62] s.data.toList k = e at *
  obtain ⟨u, hu⟩ : ∃ u, u = min (e + 1) s.size := ⟨_, rfl⟩
  have HF := Lib.hid (HX2.out u hu)
  have hum : min ((e : Int) + 1) (s.size : Int) = (u : Int) := by omega
  have hi0 : (0 : Int) ≤ (k : Int) := by omega
  have hi1 : (k : Int) ≤ (e : Int) := by omega
  have hi2 : (e : Int) ≤ (s.size : Int) := by omega
  have hor : (e + 1 ≤ s.size ∧ u = e + 1) ∨ (e = s.size ∧ u = e) := by omega
  clear HX2
  rw [← HF.out]
  clear HF
  rcases hor with ⟨h1, rfl⟩ | ⟨rfl, rfl⟩
  all_goals
    clear hu hum
    go_enter Tryz.func57, Tryz.ntmps57
    go_wp2_with fail
    refine HU.out.mono ?_
    rintro e' w1 ⟨rfl, rfl⟩
    obtain ⟨c0, c1, c2, c3, c4⟩ := row_of HR.out
    obtain ⟨f0, f1, f2, f3, f4⟩ := free_of HR.out
    obtain ⟨w1, ew⟩ : ∃ w1, w1 = W1 w := ⟨_, rfl⟩
    rw [← ew] at c0 c1 c2 c3 c4 f0 f1 f2 f3 f4 HR HB ⊢
    clear ew HU
    go_wp2
  · obtain ⟨wf, ewf, ⟨d0, d1, d2, d3, d4⟩, hbf⟩ := fin_of 4 ByteArray.empty (s.extract k e) HR.out HB.out
    change bodyPost _ _ _ _ _ (S5 w1 w.heap.size (.int .i64 4) (.string ByteArray.empty) (.slice none 0 0) (.bool false) (.string (s.extract k e)))
    rw [← ewf]
    clear ewf c0 c1 c2 c3 c4 f0 f1 f2 f3 f4
    exact bodyPost_ret (v := .tuple #[remV ⟨4, ByteArray.empty, s.extract k e, e + 1, true⟩, .int .i64 ((e + 1 : Nat) : Int), .bool true]) (by simp [results, Tryz.results57, go_sem, remV, d0, d1, d2, d3, d4]; omega) rfl ⟨rfl, hbf⟩
  · obtain ⟨wf, ewf, ⟨d0, d1, d2, d3, d4⟩, hbf⟩ := fin_of 4 ByteArray.empty (s.extract k s.size) HR.out HB.out
    change bodyPost _ _ _ _ _ (S5 w1 w.heap.size (.int .i64 4) (.string ByteArray.empty) (.slice none 0 0) (.bool false) (.string (s.extract k s.size)))
    rw [← ewf]
    clear ewf c0 c1 c2 c3 c4 f0 f1 f2 f3 f4
    exact bodyPost_ret (v := .tuple #[remV ⟨4, ByteArray.empty, s.extract k s.size, s.size, true⟩, .int .i64 ((s.size : Nat) : Int), .bool true]) (by simp [results, Tryz.results57, go_sem, remV, d0, d1, d2, d3, d4]; omega) rfl ⟨rfl, hbf⟩

/-- The world in which the comment's own token has been made, too. -/
def W2 (w : World) : World := (W1 w).alloc (.cells (tokC 4 ByteArray.empty ByteArray.empty) 34)
theorem w2_row (w : World) : (W2 w).heap[w.heap.size]? = some (.cells tok0 34 (0, 0)) := by
  have h := (World.grownBy_alloc (W1 w) (.cells (tokC 4 ByteArray.empty ByteArray.empty) 34) none).block w.heap.size (by rw [w1_size]; omega) (by simp)
  exact h.trans (w1_row w)
theorem w2_own (w : World) : (W2 w).heap[w.heap.size + 1]? = some (.cells (tokC 4 ByteArray.empty ByteArray.empty) 34 (0, 0)) := by
  have h := heap_alloc_new (W1 w) (.cells (tokC 4 ByteArray.empty ByteArray.empty) 34)
  rw [w1_size] at h; exact h
theorem w2_below (w : World) : Below w.heap.size w (W2 w) := (w1_below w).alloc (by rw [w1_size]; omega) _
theorem set_other {w : World} {B R i : Nat} {o : Obj} (v : Value) (hne : R ≠ B) (h : w.heap[R]? = some o) : (w.setCell ⟨B, i, none⟩ v).heap[R]? = some o := (heap_setCell_other w ⟨B, i, none⟩ R v hne).trans h
theorem com_step {m : List UInt8} (h0 : pre [62] m = false) (h1 : pre [45, 62] m = false) : comP m = if fnd pA m = m.length ∧ fnd pB m = m.length then (C.mkB (bare m), m.length) else if fnd pA m < fnd pB m then (C.mkB (m.take (fnd pA m)), fnd pA m + 3) else (C.mkB (m.take (fnd pB m)), fnd pB m + 4) := by
  conv => lhs; unfold comP
  rw [if_neg (by rw [h0]; decide), if_neg (by rw [h1]; decide)]
theorem fnd_zero (p l : List UInt8) : fndF p l 0 = fnd p l := by unfold fndF; rw [List.drop_zero, Nat.zero_add]

set_option maxRecDepth 100000 in
set_option maxHeartbeats 6400000 in
theorem rcomment_any (s : ByteArray) (w : World) (hs : s.size ≤ 10000) :
    Calls Tryz.prog 53 #[.string s] w (RetRem (com s.data.toList) w) := by
  have HG := Lib.hid (fun W => rbegins_any s ⟨#[62]⟩ W)
  have HH := Lib.hid (fun W => rbegins_any s ⟨#[45, 62]⟩ W)
  rw [show (⟨#[62]⟩ : ByteArray).data.toList = [62] from rfl] at HG
  rw [show (⟨#[45, 62]⟩ : ByteArray).data.toList = [45, 62] from rfl] at HH
  have HFa := Lib.hid (fun W => rfind_any s ⟨#[45, 45, 62]⟩ 0 W (Nat.zero_le _) (by decide) hs (by decide))
  have HFb := Lib.hid (fun W => rfind_any s ⟨#[45, 45, 33, 62]⟩ 0 W (Nat.zero_le _) (by decide) hs (by decide))
  rw [show (⟨#[45, 45, 62]⟩ : ByteArray).data.toList = pA from rfl, fnd_zero] at HFa
  rw [show (⟨#[45, 45, 33, 62]⟩ : ByteArray).data.toList = pB from rfl, fnd_zero] at HFb
  have HBr := Lib.hid (fun W => rbare_any s W hs)
  have HR := Lib.hid (w2_row w)
  have HO := Lib.hid (w2_own w)
  have HB := Lib.hid (w2_below w)
  have la := fnd_le pA s.data.toList
  have lb := fnd_le pB s.data.toList
  rw [C.size_list] at la lb
  unfold com
  obtain ⟨cp, hcp⟩ : ∃ cp, cp = comP s.data.toList := ⟨_, rfl⟩
  rw [← hcp]
  obtain ⟨c, z⟩ := cp
  have C1 := Lib.hid (fun h => hcp.trans (com_gt (m := s.data.toList) h))
  have C2 := Lib.hid (fun h0 h => hcp.trans (com_dg (m := s.data.toList) h0 h))
  have C3 := Lib.hid (fun h0 h1 => hcp.trans (com_step (m := s.data.toList) h0 h1))
  rw [C.size_list, mk_take, mk_take] at C3
  clear hcp
  simp only
  generalize fnd pA s.data.toList = a at *
  generalize fnd pB s.data.toList = b at *
  generalize C.mkB (bare s.data.toList) = br at *
  generalize pre [62] s.data.toList = q0 at *
  generalize pre [45, 62] s.data.toList = q1 at *
  go_enter Tryz.func53, Tryz.ntmps53
  go_upto_region 2 with fail
  show Code.wp _ _ _ _ (W2 w)
  obtain ⟨w2, ew⟩ : ∃ w2, w2 = W2 w := ⟨_, rfl⟩
  rw [← ew] at HR HO HB ⊢
  clear ew
  obtain ⟨c0, c1, c2, c3, c4⟩ := row_of HR.out
  obtain ⟨f0, f1, f2, f3, f4⟩ := free_of HR.out
  obtain ⟨o0, o1, o2, o3, o4⟩ := row_of HO.out
  obtain ⟨p0, p1, p2, p3, p4⟩ := free_of HO.out
  cases q0 with
  | true =>
    have HF := Lib.hid (C1.out rfl)
    clear C1 C2 C3
    go_wp2_with (go_at_call 52; refine (HG.out _).mono ?_; rintro e w' ⟨rfl, rfl⟩)
    obtain ⟨wf, ewf, ⟨d0, d1, d2, d3, d4⟩, hbf⟩ := fin_of 4 ByteArray.empty ByteArray.empty HR.out HB.out
    change bodyPost _ _ _ _ _ (S5 w2 w.heap.size (.int .i64 4) (.string ByteArray.empty) (.slice none 0 0) (.bool false) (.string ByteArray.empty))
    rw [← ewf]
    clear ewf
    obtain ⟨rfl, rfl⟩ := Prod.mk.inj HF.out
    exact bodyPost_ret (v := .tuple #[remV ⟨4, ByteArray.empty, ByteArray.empty, 4 + 1, true⟩, .int .i64 ((4 + 1 : Nat) : Int), .bool true]) (by simp [results, Tryz.results53, go_sem, remV, d0, d1, d2, d3, d4]) rfl ⟨rfl, hbf⟩
  | false =>
    cases q1 with
    | true =>
      have HF := Lib.hid (C2.out rfl rfl)
      clear C1 C2 C3
      go_wp2_with fail
      refine (HG.out _).mono ?_
      rintro e w' ⟨rfl, rfl⟩
      go_wp2_with fail
      refine (HH.out _).mono ?_
      rintro e w' ⟨rfl, rfl⟩
      go_wp2
      obtain ⟨wf, ewf, ⟨d0, d1, d2, d3, d4⟩, hbf⟩ := fin_of 4 ByteArray.empty ByteArray.empty HR.out HB.out
      change bodyPost _ _ _ _ _ (S5 w2 w.heap.size (.int .i64 4) (.string ByteArray.empty) (.slice none 0 0) (.bool false) (.string ByteArray.empty))
      rw [← ewf]
      clear ewf
      obtain ⟨rfl, rfl⟩ := Prod.mk.inj HF.out
      exact bodyPost_ret (v := .tuple #[remV ⟨4, ByteArray.empty, ByteArray.empty, 4 + 2, true⟩, .int .i64 ((4 + 2 : Nat) : Int), .bool true]) (by simp [results, Tryz.results53, go_sem, remV, d0, d1, d2, d3, d4]) rfl ⟨rfl, hbf⟩
    | false =>
      have HF3 := Lib.hid (C3.out rfl rfl)
      clear C1 C2 C3
      by_cases hn : a = s.size ∧ b = s.size
      · have HF := Lib.hid (HF3.out.trans (if_pos hn))
        clear HF3
        obtain ⟨rfl, rfl⟩ := hn
        have HR3 := Lib.hid (set_other (i := 4) (.string br) (show w.heap.size ≠ w.heap.size + 1 by omega) HR.out)
        have HO3 := Lib.hid (heap_setCell_same w2 (w.heap.size + 1) 4 _ _ (.string br) HO.out)
        have HB3 : Hid (Below w.heap.size w (w2.setCell ⟨w.heap.size + 1, 4, none⟩ (.string br))) := Lib.hid (HB.out.setCell (p := ⟨w.heap.size + 1, 4, none⟩) (by show w.heap.size ≤ w.heap.size + 1; omega) _)
        go_wp2_with fail
        refine (HG.out _).mono ?_
        rintro e w' ⟨rfl, rfl⟩
        go_wp2_with fail
        refine (HH.out _).mono ?_
        rintro e w' ⟨rfl, rfl⟩
        go_wp2_with fail
        refine (HFa.out _).mono ?_
        rintro e w' ⟨rfl, rfl⟩
        go_wp2_with fail
        refine (HFb.out _).mono ?_
        rintro e w' ⟨rfl, rfl⟩
        go_wp2_with fail
        refine (HBr.out _).mono ?_
        rintro e w' ⟨rfl, rfl⟩
        go_upto_region 9 with fail
        clear c0 c1 c2 c3 c4 f0 f1 f2 f3 f4 o0 o1 o2 o3 o4 p0 p1 p2 p3 p4 HR HO HB
        obtain ⟨w3, ew⟩ : ∃ w3, w3 = w2.setCell ⟨w.heap.size + 1, 4, none⟩ (.string br) := ⟨_, rfl⟩
        rw [← ew] at HR3 HO3 HB3 ⊢
        clear ew
        obtain ⟨c0, c1, c2, c3, c4⟩ := row_of HR3.out
        obtain ⟨f0, f1, f2, f3, f4⟩ := free_of HR3.out
        obtain ⟨o0, o1, o2, o3, o4⟩ := row_of HO3.out
        go_wp2
        obtain ⟨wf, ewf, ⟨d0, d1, d2, d3, d4⟩, hbf⟩ := fin_of 4 ByteArray.empty br HR3.out HB3.out
        change bodyPost _ _ _ _ _ (S5 w3 w.heap.size (.int .i64 4) (.string ByteArray.empty) (.slice none 0 0) (.bool false) (.string br))
        rw [← ewf]
        clear ewf
        obtain ⟨rfl, rfl⟩ := Prod.mk.inj HF.out
        exact bodyPost_ret (v := .tuple #[remV ⟨4, ByteArray.empty, c, 4 + s.size, true⟩, .int .i64 ((4 + s.size : Nat) : Int), .bool true]) (by simp [results, Tryz.results53, go_sem, remV, d0, d1, d2, d3, d4]; omega) rfl ⟨rfl, hbf⟩
      · have HF4 := Lib.hid (HF3.out.trans (if_neg hn))
        clear HF3
        have h2 : ((a : Int) == (s.size : Int)) = false ∨ (((a : Int) == (s.size : Int)) = true ∧ ((b : Int) == (s.size : Int)) = false) := by
          simp only [beq_eq_false_iff_ne, beq_iff_eq]; omega
        have ia : (a : Int) ≤ (s.size : Int) := by omega
        have ib : (b : Int) ≤ (s.size : Int) := by omega
        have ja : (0 : Int) ≤ (a : Int) := by omega
        have jb : (0 : Int) ≤ (b : Int) := by omega
        by_cases hab : a < b
        · have HF := Lib.hid (HF4.out.trans (if_pos hab))
          have hi : (a : Int) < (b : Int) := by omega
          have ea : ((a : Int) == (s.size : Int)) = false := by rw [beq_eq_false_iff_ne]; omega
          clear HF4 hn h2
          have HR3 := Lib.hid (set_other (i := 4) (.string (s.extract 0 a)) (show w.heap.size ≠ w.heap.size + 1 by omega) HR.out)
          have HO3 := Lib.hid (heap_setCell_same w2 (w.heap.size + 1) 4 _ _ (.string (s.extract 0 a)) HO.out)
          have HB3 : Hid (Below w.heap.size w (w2.setCell ⟨w.heap.size + 1, 4, none⟩ (.string (s.extract 0 a)))) := Lib.hid (HB.out.setCell (p := ⟨w.heap.size + 1, 4, none⟩) (by show w.heap.size ≤ w.heap.size + 1; omega) _)
          have hmin : min (a : Int) (b : Int) = (a : Int) := by omega
          go_wp2_with fail
          refine (HG.out _).mono ?_
          rintro e w' ⟨rfl, rfl⟩
          go_wp2_with fail
          refine (HH.out _).mono ?_
          rintro e w' ⟨rfl, rfl⟩
          go_wp2_with fail
          refine (HFa.out _).mono ?_
          rintro e w' ⟨rfl, rfl⟩
          go_wp2_with fail
          refine (HFb.out _).mono ?_
          rintro e w' ⟨rfl, rfl⟩
          go_upto_region 11 with fail
          clear c0 c1 c2 c3 c4 f0 f1 f2 f3 f4 o0 o1 o2 o3 o4 p0 p1 p2 p3 p4 HR HO HB
          obtain ⟨w3, ew⟩ : ∃ w3, w3 = w2.setCell ⟨w.heap.size + 1, 4, none⟩ (.string (s.extract 0 a)) := ⟨_, rfl⟩
          rw [← ew] at HR3 HO3 HB3 ⊢
          clear ew
          obtain ⟨c0, c1, c2, c3, c4⟩ := row_of HR3.out
          obtain ⟨f0, f1, f2, f3, f4⟩ := free_of HR3.out
          obtain ⟨o0, o1, o2, o3, o4⟩ := row_of HO3.out
          go_wp2
          obtain ⟨wf, ewf, ⟨d0, d1, d2, d3, d4⟩, hbf⟩ := fin_of 4 ByteArray.empty (s.extract 0 a) HR3.out HB3.out
          change bodyPost _ _ _ _ _ (S5 w3 w.heap.size (.int .i64 4) (.string ByteArray.empty) (.slice none 0 0) (.bool false) (.string (s.extract 0 a)))
          rw [← ewf]
          clear ewf
          obtain ⟨rfl, rfl⟩ := Prod.mk.inj HF.out
          exact bodyPost_ret (v := .tuple #[remV ⟨4, ByteArray.empty, (s.extract 0 a), 4 + (a + 3), true⟩, .int .i64 ((4 + (a + 3) : Nat) : Int), .bool true]) (by simp [results, Tryz.results53, go_sem, remV, d0, d1, d2, d3, d4]; omega) rfl ⟨rfl, hbf⟩
        · have HF := Lib.hid (HF4.out.trans (if_neg hab))
          have hi : ¬ (a : Int) < (b : Int) := by omega
          have hi2 : (b : Int) ≤ (a : Int) := by omega
          clear HF4 hn
          rcases h2 with ea | ⟨ea, eb⟩
          all_goals
            have HR3 := Lib.hid (set_other (i := 4) (.string (s.extract 0 b)) (show w.heap.size ≠ w.heap.size + 1 by omega) HR.out)
            have HO3 := Lib.hid (heap_setCell_same w2 (w.heap.size + 1) 4 _ _ (.string (s.extract 0 b)) HO.out)
            have HB3 : Hid (Below w.heap.size w (w2.setCell ⟨w.heap.size + 1, 4, none⟩ (.string (s.extract 0 b)))) := Lib.hid (HB.out.setCell (p := ⟨w.heap.size + 1, 4, none⟩) (by show w.heap.size ≤ w.heap.size + 1; omega) _)
            have hmin : min (a : Int) (b : Int) = (b : Int) := by omega
            go_wp2_with fail
            refine (HG.out _).mono ?_
            rintro e w' ⟨rfl, rfl⟩
            go_wp2_with fail
            refine (HH.out _).mono ?_
            rintro e w' ⟨rfl, rfl⟩
            go_wp2_with fail
            refine (HFa.out _).mono ?_
            rintro e w' ⟨rfl, rfl⟩
            go_wp2_with fail
            refine (HFb.out _).mono ?_
            rintro e w' ⟨rfl, rfl⟩
            go_upto_region 11 with fail
            clear c0 c1 c2 c3 c4 f0 f1 f2 f3 f4 o0 o1 o2 o3 o4 p0 p1 p2 p3 p4 HR HO HB
            obtain ⟨w3, ew⟩ : ∃ w3, w3 = w2.setCell ⟨w.heap.size + 1, 4, none⟩ (.string (s.extract 0 b)) := ⟨_, rfl⟩
            rw [← ew] at HR3 HO3 HB3 ⊢
            clear ew
            obtain ⟨c0, c1, c2, c3, c4⟩ := row_of HR3.out
            obtain ⟨f0, f1, f2, f3, f4⟩ := free_of HR3.out
            obtain ⟨o0, o1, o2, o3, o4⟩ := row_of HO3.out
            go_wp2
            obtain ⟨wf, ewf, ⟨d0, d1, d2, d3, d4⟩, hbf⟩ := fin_of 4 ByteArray.empty (s.extract 0 b) HR3.out HB3.out
            change bodyPost _ _ _ _ _ (S5 w3 w.heap.size (.int .i64 4) (.string ByteArray.empty) (.slice none 0 0) (.bool false) (.string (s.extract 0 b)))
            rw [← ewf]
            clear ewf
            obtain ⟨rfl, rfl⟩ := Prod.mk.inj HF.out
            exact bodyPost_ret (v := .tuple #[remV ⟨4, ByteArray.empty, (s.extract 0 b), 4 + (b + 4), true⟩, .int .i64 ((4 + (b + 4) : Nat) : Int), .bool true]) (by simp [results, Tryz.results53, go_sem, remV, d0, d1, d2, d3, d4]; omega) rfl ⟨rfl, hbf⟩
end Go.Proofs.YtceelfomgcbkiaaGreatDoor.R
