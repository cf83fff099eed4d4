/-
  The walk of Read.
-/
import Derived.Test.YtceelfomgcbkiaaGreatDoorRReadZ
import Derived.Deep.Onto
import Derived.Deep.CutBlock
import Derived.Deep.DeepCutAuto
namespace Go.Proofs.YtceelfomgcbkiaaGreatDoor.R
open Go.RowKit
open Go.Proofs.YtceelfomgcbkiaaGreatDoor.I (leI lowL foldB foldB_eq fold_any letter_any)

theorem rem_1 {l : List UInt8} {f : Bool} (h : pre [60, 33, 45, 45] l = true) : rem l f = com (l.drop 4) := by unfold rem; rw [if_pos h]
theorem rem_n1 {l : List UInt8} {f : Bool} (h : pre [60, 33, 45, 45] l = false) : rem l f = if dtB l = true then dty l else if (f && pre pCd l) = true then sec l else if pre [60, 33] l = true then bog l 2
  else if pre [60, 63] l = true then bog l 1 else if pre [60, 47, 62] l = true then rem0 3 else if (pre [60, 47] l && ntL l) = true then bog l 2 else rem0 0 := by unfold rem; rw [if_neg (by rw [h]; decide)]
theorem no_if {α : Type} {b : Bool} {x y : α} (h : b = false) : (if b = true then x else y) = y := if_neg (by rw [h]; decide)
theorem dt_fold {s : ByteArray} (h : 9 ≤ s.size) : foldB (s.extract 0 9) ⟨#[60, 33, 100, 111, 99, 116, 121, 112, 101]⟩ = dtB s.data.toList := by
  rw [foldB_eq, C.ext_list, List.drop_zero, show lowL (⟨#[60, 33, 100, 111, 99, 116, 121, 112, 101]⟩ : ByteArray).data.toList = pDoc by decide]
  unfold dtB
  rw [C.size_list, decide_eq_true h, Bool.true_and]
theorem dt_short {s : ByteArray} (h : ¬ 9 ≤ s.size) : dtB s.data.toList = false := by
  unfold dtB
  rw [C.size_list, decide_eq_false h]; rfl
theorem nt_at {s : ByteArray} (h : 2 < s.size) : ntL s.data.toList = !leI (s[2].toNat : Int) := by
  unfold ntL
  rw [C.get_at s 2 h]
theorem nt_short {s : ByteArray} (h : ¬ 2 < s.size) : ntL s.data.toList = false := by
  unfold ntL
  rw [List.getElem?_eq_none (by rw [C.size_list]; omega)]
theorem lst_size {p : List UInt8} {s : ByteArray} (h : pre p s.data.toList = true) : p.length ≤ s.size := by
  have := pre_len h
  rw [C.size_list] at this; exact this

set_option maxRecDepth 100000 in
set_option maxHeartbeats 6400000 in
theorem read_any (s : ByteArray) (f : Bool) (w : World) (hM : MaxAt w) (hs : s.size ≤ 10000) : Calls Tryz.prog 37 #[.string s, .bool f] w (RetRem (rem s.data.toList f) w) := by
  have HM := Lib.hid (w1_max hM)
  have HM0 := Lib.hid hM
  have P1 : Hid (∀ W, Calls Tryz.prog 63 #[.string s, .string ⟨#[60, 33, 45, 45]⟩] W fun e w' => e = .returned (.bool (pre [60, 33, 45, 45] s.data.toList)) ∧ W = w') := Lib.hid (fun W => (Tryz.strings_HasPrefix s ⟨#[60, 33, 45, 45]⟩ W).mono fun _ _ h => ⟨h.1, h.2.symm⟩)
  have P2 : Hid (∀ W, Calls Tryz.prog 63 #[.string s, .string ⟨#[60, 33, 91, 67, 68, 65, 84, 65, 91]⟩] W fun e w' => e = .returned (.bool (pre pCd s.data.toList)) ∧ W = w') := Lib.hid (fun W => (Tryz.strings_HasPrefix s ⟨#[60, 33, 91, 67, 68, 65, 84, 65, 91]⟩ W).mono fun _ _ h => ⟨h.1, h.2.symm⟩)
  have P3 : Hid (∀ W, Calls Tryz.prog 63 #[.string s, .string ⟨#[60, 33]⟩] W fun e w' => e = .returned (.bool (pre [60, 33] s.data.toList)) ∧ W = w') := Lib.hid (fun W => (Tryz.strings_HasPrefix s ⟨#[60, 33]⟩ W).mono fun _ _ h => ⟨h.1, h.2.symm⟩)
  have P4 : Hid (∀ W, Calls Tryz.prog 63 #[.string s, .string ⟨#[60, 63]⟩] W fun e w' => e = .returned (.bool (pre [60, 63] s.data.toList)) ∧ W = w') := Lib.hid (fun W => (Tryz.strings_HasPrefix s ⟨#[60, 63]⟩ W).mono fun _ _ h => ⟨h.1, h.2.symm⟩)
  have P5 : Hid (∀ W, Calls Tryz.prog 63 #[.string s, .string ⟨#[60, 47, 62]⟩] W fun e w' => e = .returned (.bool (pre [60, 47, 62] s.data.toList)) ∧ W = w') := Lib.hid (fun W => (Tryz.strings_HasPrefix s ⟨#[60, 47, 62]⟩ W).mono fun _ _ h => ⟨h.1, h.2.symm⟩)
  have P6 : Hid (∀ W, Calls Tryz.prog 63 #[.string s, .string ⟨#[60, 47]⟩] W fun e w' => e = .returned (.bool (pre [60, 47] s.data.toList)) ∧ W = w') := Lib.hid (fun W => (Tryz.strings_HasPrefix s ⟨#[60, 47]⟩ W).mono fun _ _ h => ⟨h.1, h.2.symm⟩)
  have HR1 := Lib.hid (w1_row w)
  have HB1 := Lib.hid (w1_below w)
  clear hM
  cases q1 : pre [60, 33, 45, 45] s.data.toList with
  | true =>
    have HF := Lib.hid (rem_1 (f := f) q1)
    have h4 : 4 ≤ s.size := lst_size q1
    rw [q1] at P1
    clear q1 P2 P3 P4 P5 P6
    go_enter Tryz.func37, Tryz.ntmps37
    go_wp2_with (go_at_call 63; refine (P1.out _).mono ?_; rintro e w' ⟨rfl, rfl⟩)
    change Calls _ _ _ (W1 w) _
    have HM1 := HM
    obtain ⟨w1, ew⟩ : ∃ w1, w1 = W1 w := ⟨_, rfl⟩
    rw [← ew] at HM1 HR1 HB1 ⊢
    clear ew HM
    have HJ := Lib.hid (readDashes_any s w1 HM1.out h4 hs)
    rw [← HF.out] at HJ
    clear HF
    generalize rem s.data.toList f = t at *
    obtain ⟨kd, nm, d, n, ok⟩ := t
    refine HJ.out.mono ?_
    rintro e w5 ⟨rfl, hbl⟩
    have HR5 := Lib.hid (heap_keep hbl HR1.out)
    have HB5 := below_step HB1 hbl
    clear hbl HR1 HB1 HJ
    unfold remV
    obtain ⟨c0, c1, c2, c3, c4⟩ := row_of HR5.out
    obtain ⟨f0, f1, f2, f3, f4⟩ := free_of HR5.out
    go_wp2
    obtain ⟨wf, ewf, ⟨d0, d1, d2, d3, d4⟩, hbf⟩ := fin_of kd nm d HR5.out HB5.out
    change bodyPost _ _ _ _ _ (S5 w5 w.heap.size (.int .i64 kd) (.string nm) (.slice none 0 0) (.bool false) (.string d))
    rw [← ewf]
    clear ewf c0 c1 c2 c3 c4 f0 f1 f2 f3 f4
    exact bodyPost_ret (v := .tuple #[remV ⟨kd, nm, d, n, ok⟩, .int .i64 (n : Nat), .bool ok]) (by simp [results, Tryz.results37, go_sem, remV, d0, d1, d2, d3, d4]) rfl ⟨rfl, hbf⟩
  | false =>
    have HF1 := Lib.hid (rem_n1 (f := f) q1)
    rw [q1] at P1
    clear q1
    obtain ⟨dt, hdt⟩ : ∃ dt, dt = dtB s.data.toList := ⟨_, rfl⟩
    rw [← hdt] at HF1
    have HDt := Lib.hid hdt
    clear hdt
    go_enter Tryz.func37, Tryz.ntmps37
    go_upto_region 3 with (go_at_call 63; refine (P1.out _).mono ?_; rintro e w' ⟨rfl, rfl⟩)
    go_cut [15] (fun v w' => v = .bool dt ∧ w'.heap[w.heap.size]? = some (.cells tok0 34 (0, 0)) ∧ Below w.heap.size w w')
    case first =>
      by_cases h9 : 9 ≤ s.size
      · have HFo := Lib.hid (fun W => fold_any (s.extract 0 9) ⟨#[60, 33, 100, 111, 99, 116, 121, 112, 101]⟩ W (by rw [ByteArray.size_extract]; unfold maxLen; omega))
        rw [dt_fold h9, ← HDt.out] at HFo
        have h9i : (9 : Int) ≤ (s.size : Int) := by omega
        have hd : decide ((9 : Int) ≤ (s.size : Int)) = true := by simpa using h9i
        clear h9
        go_wp2_with fail
        refine (HFo.out _).mono ?_
        rintro e w2 ⟨rfl, hbl⟩
        have HR2 := Lib.hid (heap_keep (w := W1 w) hbl HR1.out)
        have HB2 := below_step HB1 (w1 := W1 w) hbl
        clear hbl
        go_wp2
        go_meet
        exact ⟨rfl, HR2.out, HB2.out⟩
      · have HE : Hid (false = dt) := Lib.hid (by rw [HDt.out, dt_short h9])
        have h9i : ¬ (9 : Int) ≤ (s.size : Int) := by omega
        have hd : decide ((9 : Int) ≤ (s.size : Int)) = false := by simpa using h9i
        clear h9
        go_wp2
        go_meet
        exact ⟨congrArg Value.bool HE.out, HR1.out, HB1.out⟩
    case rest =>
      obtain ⟨rfl, hr1, hb1⟩ := hcut
      obtain ⟨w1, ew⟩ : ∃ w1, w1 = wc := ⟨_, rfl⟩
      subst ew
      have HM1 : Hid (MaxAt w1) := Lib.hid (by exact HM0.out.below hb1)
      clear HR1 HB1
      have HR1 := Lib.hid hr1
      have HB1 : Hid (Below w.heap.size w w1) := Lib.hid hb1
      clear hr1 hb1 HM
      cases dt with
      | true =>
        have HF := Lib.hid (HF1.out.trans (if_pos rfl))
        have h9 : 9 ≤ s.size := by
          rcases Nat.lt_or_ge s.size 9 with h | h
          · have h2 := HDt.out; rw [dt_short (by omega)] at h2; cases h2
          · exact h
        clear HF1 HDt P1 P2 P3 P4 P5 P6
        have HJ := Lib.hid (readDoctype_any s w1 HM1.out h9 hs)
        rw [← HF.out] at HJ
        clear HF
        generalize rem s.data.toList f = t at *
        obtain ⟨kd, nm, d, n, ok⟩ := t
        go_wp2_with fail
        refine HJ.out.mono ?_
        rintro e w5 ⟨rfl, hbl⟩
        have HR5 := Lib.hid (heap_keep hbl HR1.out)
        have HB5 := below_step HB1 hbl
        clear hbl HR1 HB1 HJ
        unfold remV
        obtain ⟨c0, c1, c2, c3, c4⟩ := row_of HR5.out
        obtain ⟨f0, f1, f2, f3, f4⟩ := free_of HR5.out
        go_wp2
        obtain ⟨wf, ewf, ⟨d0, d1, d2, d3, d4⟩, hbf⟩ := fin_of kd nm d HR5.out HB5.out
        change bodyPost _ _ _ _ _ (S5 w5 w.heap.size (.int .i64 kd) (.string nm) (.slice none 0 0) (.bool false) (.string d))
        rw [← ewf]
        clear ewf c0 c1 c2 c3 c4 f0 f1 f2 f3 f4
        exact bodyPost_ret (v := .tuple #[remV ⟨kd, nm, d, n, ok⟩, .int .i64 (n : Nat), .bool ok]) (by simp [results, Tryz.results37, go_sem, remV, d0, d1, d2, d3, d4]) rfl ⟨rfl, hbf⟩
      | false =>
        have HF2 := Lib.hid (HF1.out.trans (no_if rfl))
        clear HF1 HDt
        obtain ⟨cd, hcd⟩ : ∃ cd, cd = (f && pre pCd s.data.toList) := ⟨_, rfl⟩
        rw [← hcd] at HF2
        have HCd := Lib.hid hcd
        clear hcd
        go_upto_region 5 with fail
        go_cut [29] (fun v w' => v = .bool cd ∧ w1 = w')
        case first =>
          cases f with
          | true =>
            have HE : Hid (pre pCd s.data.toList = cd) := Lib.hid (by rw [HCd.out]; rfl)
            go_wp2_with (go_at_call 63; refine (P2.out _).mono ?_; rintro e w' ⟨rfl, rfl⟩)
            go_meet
            exact ⟨congrArg Value.bool HE.out, rfl⟩
          | false =>
            have HE : Hid (false = cd) := Lib.hid (by rw [HCd.out]; rfl)
            go_wp2
            go_meet
            exact ⟨congrArg Value.bool HE.out, rfl⟩
        case rest =>
          obtain ⟨rfl, rfl⟩ := hcut
          cases cd with
          | true =>
            have HF := Lib.hid (HF2.out.trans (if_pos rfl))
            have h9 : 9 ≤ s.size := by
              have h2 := HCd.out
              have h3 : pre pCd s.data.toList = true := by
                cases f
                · cases h2
                · exact h2.symm
              exact lst_size h3
            clear HF2 HCd P1 P2 P3 P4 P5 P6
            have HJ := Lib.hid (readSection_any s w1 HM1.out h9 hs)
            rw [← HF.out] at HJ
            clear HF
            generalize rem s.data.toList f = t at *
            obtain ⟨kd, nm, d, n, ok⟩ := t
            go_wp2_with fail
            refine HJ.out.mono ?_
            rintro e w5 ⟨rfl, hbl⟩
            have HR5 := Lib.hid (heap_keep hbl HR1.out)
            have HB5 := below_step HB1 hbl
            clear hbl HR1 HB1 HJ
            unfold remV
            obtain ⟨c0, c1, c2, c3, c4⟩ := row_of HR5.out
            obtain ⟨f0, f1, f2, f3, f4⟩ := free_of HR5.out
            go_wp2
            obtain ⟨wf, ewf, ⟨d0, d1, d2, d3, d4⟩, hbf⟩ := fin_of kd nm d HR5.out HB5.out
            change bodyPost _ _ _ _ _ (S5 w5 w.heap.size (.int .i64 kd) (.string nm) (.slice none 0 0) (.bool false) (.string d))
            rw [← ewf]
            clear ewf c0 c1 c2 c3 c4 f0 f1 f2 f3 f4
            exact bodyPost_ret (v := .tuple #[remV ⟨kd, nm, d, n, ok⟩, .int .i64 (n : Nat), .bool ok]) (by simp [results, Tryz.results37, go_sem, remV, d0, d1, d2, d3, d4]) rfl ⟨rfl, hbf⟩
          | false =>
            have HF3 := Lib.hid (HF2.out.trans (no_if rfl))
            clear HF2 HCd P2
            cases q : pre [60, 33] s.data.toList with
            | true =>
              have HF := Lib.hid (HF3.out.trans (if_pos q))
              have hl := lst_size q
              have h2 : 2 ≤ s.size := hl
              rw [q] at P3
              clear q hl HF3 P4 P5 P6
              have HJ := Lib.hid (readOdd_any s 2 w1 HM1.out h2 hs)
              rw [← HF.out] at HJ
              clear HF
              generalize rem s.data.toList f = t at *
              obtain ⟨kd, nm, d, n, ok⟩ := t
              go_wp2_with (first | fail | (go_at_call 63; refine (P3.out _).mono ?_; rintro e w' ⟨rfl, rfl⟩))
              refine HJ.out.mono ?_
              rintro e w5 ⟨rfl, hbl⟩
              have HR5 := Lib.hid (heap_keep hbl HR1.out)
              have HB5 := below_step HB1 hbl
              clear hbl HR1 HB1 HJ
              unfold remV
              obtain ⟨c0, c1, c2, c3, c4⟩ := row_of HR5.out
              obtain ⟨f0, f1, f2, f3, f4⟩ := free_of HR5.out
              go_wp2
              obtain ⟨wf, ewf, ⟨d0, d1, d2, d3, d4⟩, hbf⟩ := fin_of kd nm d HR5.out HB5.out
              change bodyPost _ _ _ _ _ (S5 w5 w.heap.size (.int .i64 kd) (.string nm) (.slice none 0 0) (.bool false) (.string d))
              rw [← ewf]
              clear ewf c0 c1 c2 c3 c4 f0 f1 f2 f3 f4
              exact bodyPost_ret (v := .tuple #[remV ⟨kd, nm, d, n, ok⟩, .int .i64 (n : Nat), .bool ok]) (by simp [results, Tryz.results37, go_sem, remV, d0, d1, d2, d3, d4]) rfl ⟨rfl, hbf⟩
            | false =>
              have HF4 := Lib.hid (HF3.out.trans (no_if q))
              rw [q] at P3
              clear q HF3
              cases q : pre [60, 63] s.data.toList with
              | true =>
                have HF := Lib.hid (HF4.out.trans (if_pos q))
                have hl := lst_size q
                have h2 : 2 ≤ s.size := hl
                rw [q] at P4
                clear q hl HF4 P5 P6
                have HJ := Lib.hid (readOdd_any s 1 w1 HM1.out (by omega) hs)
                rw [← HF.out] at HJ
                clear HF
                generalize rem s.data.toList f = t at *
                obtain ⟨kd, nm, d, n, ok⟩ := t
                go_wp2_with (first | fail | (go_at_call 63; refine (P3.out _).mono ?_; rintro e w' ⟨rfl, rfl⟩) | (go_at_call 63; refine (P4.out _).mono ?_; rintro e w' ⟨rfl, rfl⟩))
                refine HJ.out.mono ?_
                rintro e w5 ⟨rfl, hbl⟩
                have HR5 := Lib.hid (heap_keep hbl HR1.out)
                have HB5 := below_step HB1 hbl
                clear hbl HR1 HB1 HJ
                unfold remV
                obtain ⟨c0, c1, c2, c3, c4⟩ := row_of HR5.out
                obtain ⟨f0, f1, f2, f3, f4⟩ := free_of HR5.out
                go_wp2
                obtain ⟨wf, ewf, ⟨d0, d1, d2, d3, d4⟩, hbf⟩ := fin_of kd nm d HR5.out HB5.out
                change bodyPost _ _ _ _ _ (S5 w5 w.heap.size (.int .i64 kd) (.string nm) (.slice none 0 0) (.bool false) (.string d))
                rw [← ewf]
                clear ewf c0 c1 c2 c3 c4 f0 f1 f2 f3 f4
                exact bodyPost_ret (v := .tuple #[remV ⟨kd, nm, d, n, ok⟩, .int .i64 (n : Nat), .bool ok]) (by simp [results, Tryz.results37, go_sem, remV, d0, d1, d2, d3, d4]) rfl ⟨rfl, hbf⟩
              | false =>
                have HF5 := Lib.hid (HF4.out.trans (no_if q))
                rw [q] at P4
                clear q HF4
                cases q : pre [60, 47, 62] s.data.toList with
                | true =>
                  have HF := Lib.hid (HF5.out.trans (if_pos q))
                  have hl := lst_size q
                  have h2 : 3 ≤ s.size := hl
                  rw [q] at P5
                  clear q hl HF5 P6
                  obtain ⟨c0, c1, c2, c3, c4⟩ := row_of HR1.out
                  obtain ⟨f0, f1, f2, f3, f4⟩ := free_of HR1.out
                  go_wp2_with (first | fail | (go_at_call 63; refine (P3.out _).mono ?_; rintro e w' ⟨rfl, rfl⟩) | (go_at_call 63; refine (P4.out _).mono ?_; rintro e w' ⟨rfl, rfl⟩) | (go_at_call 63; refine (P5.out _).mono ?_; rintro e w' ⟨rfl, rfl⟩))
                  obtain ⟨wf, ewf, ⟨d0, d1, d2, d3, d4⟩, hbf⟩ := fin_of 0 ByteArray.empty ByteArray.empty HR1.out HB1.out
                  change bodyPost _ _ _ _ _ (S5 w1 w.heap.size (.int .i64 0) (.string ByteArray.empty) (.slice none 0 0) (.bool false) (.string ByteArray.empty))
                  rw [← ewf]
                  clear ewf c0 c1 c2 c3 c4 f0 f1 f2 f3 f4
                  exact bodyPost_ret (v := .tuple #[remV (rem0 3), .int .i64 ((rem0 3).n : Nat), .bool false]) (by simp [results, Tryz.results37, go_sem, remV, rem0, d0, d1, d2, d3, d4]) rfl ⟨by rw [HF.out]; rfl, hbf⟩
                | false =>
                  have HF6 := Lib.hid (HF5.out.trans (no_if q))
                  rw [q] at P5
                  clear q HF5
                  obtain ⟨nt, hnt⟩ : ∃ nt, nt = (pre [60, 47] s.data.toList && ntL s.data.toList) := ⟨_, rfl⟩
                  rw [← hnt] at HF6
                  have HNt := Lib.hid hnt
                  clear hnt
                  go_upto_region 13 with (first | fail | (go_at_call 63; refine (P3.out _).mono ?_; rintro e w' ⟨rfl, rfl⟩) | (go_at_call 63; refine (P4.out _).mono ?_; rintro e w' ⟨rfl, rfl⟩) | (go_at_call 63; refine (P5.out _).mono ?_; rintro e w' ⟨rfl, rfl⟩))
                  go_cut [60] (fun v w' => v = .bool nt ∧ w1 = w')
                  case first =>
                    cases q : pre [60, 47] s.data.toList with
                    | true =>
                      rw [q] at P6
                      by_cases h2 : 2 < s.size
                      · have HE : Hid ((!leI (s[2].toNat : Int)) = nt) := Lib.hid (by rw [HNt.out, q, nt_at h2]; rfl)
                        have hc := s[2].toNat_lt
                        have HL := Lib.hid (fun W => letter_any (s[2].toNat : Int) W (by omega) (by omega))
                        generalize leI (s[2].toNat : Int) = le at *
                        clear q
                        go_wp2_with (first | (go_at_call 63; refine (P6.out _).mono ?_; rintro e w' ⟨rfl, rfl⟩) | (go_at_call 72; refine (HL.out _).mono ?_; rintro e w' ⟨rfl, rfl⟩))
                        go_meet
                        exact ⟨congrArg Value.bool HE.out, rfl⟩
                      · have HE : Hid (false = nt) := Lib.hid (by rw [HNt.out, nt_short h2, Bool.and_false])
                        have h2i : ¬ (2 : Int) < (s.size : Int) := by omega
                        have hd : decide ((2 : Int) < (s.size : Int)) = false := by simpa using h2i
                        clear q
                        go_wp2_with (first | (go_at_call 63; refine (P6.out _).mono ?_; rintro e w' ⟨rfl, rfl⟩))
                        go_meet
                        exact ⟨congrArg Value.bool HE.out, rfl⟩
                    | false =>
                      rw [q] at P6
                      have HE : Hid (false = nt) := Lib.hid (by rw [HNt.out, q, Bool.false_and])
                      clear q
                      go_wp2_with (first | (go_at_call 63; refine (P6.out _).mono ?_; rintro e w' ⟨rfl, rfl⟩))
                      go_meet
                      exact ⟨congrArg Value.bool HE.out, rfl⟩
                  case rest =>
                    obtain ⟨rfl, rfl⟩ := hcut
                    cases nt with
                    | true =>
                      have HF := Lib.hid (HF6.out.trans (if_pos rfl))
                      have h2 : 2 ≤ s.size := by
                        have h3 := HNt.out
                        cases h4 : pre [60, 47] s.data.toList with
                        | true => exact lst_size h4
                        | false => rw [h4] at h3; cases h3
                      clear HF6 HNt P1 P3 P4 P5 P6
                      have HJ := Lib.hid (readOdd_any s 2 w1 HM1.out h2 hs)
                      rw [← HF.out] at HJ
                      clear HF
                      generalize rem s.data.toList f = t at *
                      obtain ⟨kd, nm, d, n, ok⟩ := t
                      go_wp2_with fail
                      refine HJ.out.mono ?_
                      rintro e w5 ⟨rfl, hbl⟩
                      have HR5 := Lib.hid (heap_keep hbl HR1.out)
                      have HB5 := below_step HB1 hbl
                      clear hbl HR1 HB1 HJ
                      unfold remV
                      obtain ⟨c0, c1, c2, c3, c4⟩ := row_of HR5.out
                      obtain ⟨f0, f1, f2, f3, f4⟩ := free_of HR5.out
                      go_wp2
                      obtain ⟨wf, ewf, ⟨d0, d1, d2, d3, d4⟩, hbf⟩ := fin_of kd nm d HR5.out HB5.out
                      change bodyPost _ _ _ _ _ (S5 w5 w.heap.size (.int .i64 kd) (.string nm) (.slice none 0 0) (.bool false) (.string d))
                      rw [← ewf]
                      clear ewf c0 c1 c2 c3 c4 f0 f1 f2 f3 f4
                      exact bodyPost_ret (v := .tuple #[remV ⟨kd, nm, d, n, ok⟩, .int .i64 (n : Nat), .bool ok]) (by simp [results, Tryz.results37, go_sem, remV, d0, d1, d2, d3, d4]) rfl ⟨rfl, hbf⟩
                    | false =>
                      have HF := Lib.hid (HF6.out.trans (no_if rfl))
                      clear HF6 HNt P1 P3 P4 P5 P6
                      obtain ⟨c0, c1, c2, c3, c4⟩ := row_of HR1.out
                      obtain ⟨f0, f1, f2, f3, f4⟩ := free_of HR1.out
                      go_wp2
                      obtain ⟨wf, ewf, ⟨d0, d1, d2, d3, d4⟩, hbf⟩ := fin_of 0 ByteArray.empty ByteArray.empty HR1.out HB1.out
                      change bodyPost _ _ _ _ _ (S5 w1 w.heap.size (.int .i64 0) (.string ByteArray.empty) (.slice none 0 0) (.bool false) (.string ByteArray.empty))
                      rw [← ewf]
                      clear ewf c0 c1 c2 c3 c4 f0 f1 f2 f3 f4
                      exact bodyPost_ret (v := .tuple #[remV (rem0 0), .int .i64 ((rem0 0).n : Nat), .bool false]) (by simp [results, Tryz.results37, go_sem, remV, rem0, d0, d1, d2, d3, d4]) rfl ⟨by rw [HF.out]; rfl, hbf⟩
end Go.Proofs.YtceelfomgcbkiaaGreatDoor.R
