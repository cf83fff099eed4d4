/-
  The walk of the document's own Read.
-/
import Derived.Test.YtceelfomgcbkiaaGreatDoorRRdocZ
import Derived.Test.YtceelfomgcbkiaaGreatDoorRRead2Z
import Derived.Deep.Onto
import Derived.Deep.CutBlock
import Derived.Deep.DeepCutAuto
namespace Go.Proofs.YtceelfomgcbkiaaGreatDoor.R
open Go.RowKit
open Go.Proofs.YtceelfomgcbkiaaGreatDoor.I (leI lowL lowB foldB foldB_eq rfold_any rletter_any)

theorem lowB_33 {c : UInt8} (h : lowB c = 33) : c = 33 := by
  have h1 := I.lowB_nat c
  rw [h] at h1
  have h2 : ((33 : UInt8).toNat : Int) = 33 := rfl
  unfold I.smI at h1
  have hc := c.toNat_lt
  apply I.byte_inj
  rw [h2] at h1 ⊢
  split at h1 <;> omega
theorem lowB_60 {c : UInt8} (h : lowB c = 60) : c = 60 := by
  have h1 := I.lowB_nat c
  rw [h] at h1
  have h2 : ((60 : UInt8).toNat : Int) = 60 := rfl
  unfold I.smI at h1
  have hc := c.toNat_lt
  apply I.byte_inj
  rw [h2] at h1 ⊢
  split at h1 <;> omega
theorem dt_ref {s : ByteArray} (h : 9 ≤ s.size) : dtB s.data.toList = (((s.extract 0 2).toList == [60, 33]) && foldB (s.extract 2 9) ⟨#[100, 111, 99, 116, 121, 112, 101]⟩) := by
  have e : s.data.toList = s[0] :: s[1] :: s.data.toList.drop 2 := by
    have h0 := C.drop_at s 0 (by omega)
    have h1 := C.drop_at s 1 (by omega)
    rw [Nat.zero_add, h1, List.drop_zero] at h0
    exact h0
  unfold dtB
  rw [C.size_list, decide_eq_true h, Bool.true_and, foldB_eq, ByteArray.toList_eq, C.ext_list, C.ext_list, e]
  generalize s.data.toList.drop 2 = l
  generalize s[0] = a
  generalize s[1] = b
  have e1 : (a :: b :: l).take 9 = a :: b :: l.take 7 := rfl
  have e2 : ((a :: b :: l).take 2).drop 0 = [a, b] := rfl
  have e3 : ((a :: b :: l).take 9).drop 2 = l.take 7 := rfl
  have e4 : lowL (a :: b :: l.take 7) = lowB a :: lowB b :: lowL (l.take 7) := rfl
  have e5 : pDoc = 60 :: 33 :: lowL (⟨#[100, 111, 99, 116, 121, 112, 101]⟩ : ByteArray).data.toList := by decide
  rw [e3, e2, e1, e4, e5, Bool.eq_iff_iff]
  simp only [beq_iff_eq, List.cons.injEq, Bool.and_eq_true]
  constructor
  · rintro ⟨h1, h2, h3⟩
    exact ⟨⟨lowB_60 h1, lowB_33 h2, trivial⟩, h3⟩
  · rintro ⟨⟨rfl, rfl, _⟩, h3⟩
    exact ⟨by decide, by decide, h3⟩

set_option maxRecDepth 100000 in
set_option maxHeartbeats 6400000 in
theorem rread_any (s : ByteArray) (f : Bool) (w : World) (hs : s.size ≤ 10000) : Calls Tryz.prog 29 #[.string s, .bool f] w (RetRem (rem s.data.toList f) w) := by
  have P1 : Hid (∀ W, Calls Tryz.prog 52 #[.string s, .string ⟨#[60, 33, 45, 45]⟩] W fun e w' => e = .returned (.bool (pre [60, 33, 45, 45] s.data.toList)) ∧ W = w') := Lib.hid (fun W => rbegins_any s ⟨#[60, 33, 45, 45]⟩ W)
  have P2 : Hid (∀ W, Calls Tryz.prog 52 #[.string s, .string ⟨#[60, 33, 91, 67, 68, 65, 84, 65, 91]⟩] W fun e w' => e = .returned (.bool (pre pCd s.data.toList)) ∧ W = w') := Lib.hid (fun W => rbegins_any s ⟨#[60, 33, 91, 67, 68, 65, 84, 65, 91]⟩ W)
  have P3 : Hid (∀ W, Calls Tryz.prog 52 #[.string s, .string ⟨#[60, 33]⟩] W fun e w' => e = .returned (.bool (pre [60, 33] s.data.toList)) ∧ W = w') := Lib.hid (fun W => rbegins_any s ⟨#[60, 33]⟩ W)
  have P4 : Hid (∀ W, Calls Tryz.prog 52 #[.string s, .string ⟨#[60, 63]⟩] W fun e w' => e = .returned (.bool (pre [60, 63] s.data.toList)) ∧ W = w') := Lib.hid (fun W => rbegins_any s ⟨#[60, 63]⟩ W)
  have P5 : Hid (∀ W, Calls Tryz.prog 52 #[.string s, .string ⟨#[60, 47, 62]⟩] W fun e w' => e = .returned (.bool (pre [60, 47, 62] s.data.toList)) ∧ W = w') := Lib.hid (fun W => rbegins_any s ⟨#[60, 47, 62]⟩ W)
  have P6 : Hid (∀ W, Calls Tryz.prog 52 #[.string s, .string ⟨#[60, 47]⟩] W fun e w' => e = .returned (.bool (pre [60, 47] s.data.toList)) ∧ W = w') := Lib.hid (fun W => rbegins_any s ⟨#[60, 47]⟩ W)
  have HR1 := Lib.hid (w1_row w)
  have HB1 := Lib.hid (w1_below w)
  cases q1 : pre [60, 33, 45, 45] s.data.toList with
  | true =>
    have HF := Lib.hid (rem_1 (f := f) q1)
    have h4 : 4 ≤ s.size := lst_size q1
    have h4i : (4 : Int) ≤ (s.size : Int) := by omega
    rw [q1] at P1
    clear q1 P2 P3 P4 P5 P6
    go_enter Tryz.func29, Tryz.ntmps29
    go_upto_region 1 with fail
    show Code.wp _ _ _ _ (W1 w)
    obtain ⟨w1, ew⟩ : ∃ w1, w1 = W1 w := ⟨_, rfl⟩
    rw [← ew] at HR1 HB1 ⊢
    clear ew
    go_wp2_with fail
    refine (P1.out _).mono ?_
    rintro e w' ⟨rfl, rfl⟩
    have HJ := Lib.hid ((str_tail s 4) ▸ rcomment_any (s.extract 4 s.size) w1 (by rw [ByteArray.size_extract]; omega))
    rw [← HF.out] at HJ
    clear HF
    generalize rem s.data.toList f = t at *
    obtain ⟨kd, nm, d, n, ok⟩ := t
    go_wp2_with fail
    refine HJ.out.mono ?_
    rintro e w5 ⟨rfl, hbl⟩
    have HR5 := Lib.hid (heap_keep hbl HR1.out)
    have HB5 := below_step HB1 hbl
    clear hbl HR1 HB1 HJ
    unfold remV
    obtain ⟨c0, c1, c2, c3, c4⟩ := row_of HR5.out
    obtain ⟨f0, f1, f2, f3, f4⟩ := free_of HR5.out
    go_wp2
    obtain ⟨wf, ewf, ⟨d0, d1, d2, d3, d4⟩, hbf⟩ := fin_of kd nm d HR5.out HB5.out
    change bodyPost _ _ _ _ _ (S5 w5 w.heap.size (.int .i64 kd) (.string nm) (.slice none 0 0) (.bool false) (.string d))
    rw [← ewf]
    clear ewf c0 c1 c2 c3 c4 f0 f1 f2 f3 f4
    exact bodyPost_ret (v := .tuple #[remV ⟨kd, nm, d, n, ok⟩, .int .i64 (n : Nat), .bool ok]) (by simp [results, Tryz.results29, go_sem, remV, d0, d1, d2, d3, d4]) rfl ⟨rfl, hbf⟩
  | false =>
    have HF1 := Lib.hid (rem_n1 (f := f) q1)
    rw [q1] at P1
    clear q1
    obtain ⟨dt, hdt⟩ : ∃ dt, dt = dtB s.data.toList := ⟨_, rfl⟩
    rw [← hdt] at HF1
    have HDt := Lib.hid hdt
    clear hdt
    go_enter Tryz.func29, Tryz.ntmps29
    go_upto_region 1 with fail
    show Code.wp _ _ _ _ (W1 w)
    obtain ⟨w0, ew⟩ : ∃ w1, w1 = W1 w := ⟨_, rfl⟩
    rw [← ew] at HR1 HB1 ⊢
    clear ew
    go_wp2_with fail
    refine (P1.out _).mono ?_
    rintro e w' ⟨rfl, rfl⟩
    go_upto_region 3 with fail
    go_cut [28] (fun v w' => v = .bool dt ∧ w'.heap[w.heap.size]? = some (.cells tok0 34 (0, 0)) ∧ Below w.heap.size w w')
    case first =>
      by_cases h9 : 9 ≤ s.size
      · have h9i : (9 : Int) ≤ (s.size : Int) := by omega
        have h2i : (2 : Int) ≤ (s.size : Int) := by omega
        have hd : decide ((9 : Int) ≤ (s.size : Int)) = true := by simpa using h9i
        have HFo := Lib.hid (fun W => rfold_any (s.extract 2 9) ⟨#[100, 111, 99, 116, 121, 112, 101]⟩ W (by rw [ByteArray.size_extract]; unfold maxLen; omega) (by unfold maxLen; decide))
        have HD2 : Hid (dt = (((s.extract 0 2).toList == [60, 33]) && foldB (s.extract 2 9) ⟨#[100, 111, 99, 116, 121, 112, 101]⟩)) := Lib.hid (by rw [HDt.out, dt_ref h9])
        generalize foldB (s.extract 2 9) ⟨#[100, 111, 99, 116, 121, 112, 101]⟩ = fo at *
        clear h9
        cases hq : ((s.extract 0 2).toList == [60, 33]) with
        | true =>
          have HE : Hid (fo = dt) := Lib.hid (by rw [HD2.out, hq]; rfl)
          clear HD2
          go_wp2_with fail
          refine (HFo.out _).mono ?_
          rintro e w2 ⟨rfl, hbl⟩
          have HR2 := Lib.hid (heap_keep hbl HR1.out)
          have HB2 := below_step HB1 hbl
          clear hbl
          go_wp2
          go_meet
          exact ⟨congrArg Value.bool HE.out, HR2.out, HB2.out⟩
        | false =>
          have HE : Hid (false = dt) := Lib.hid (by rw [HD2.out, hq]; rfl)
          clear HD2
          go_wp2
          go_meet
          exact ⟨congrArg Value.bool HE.out, HR1.out, HB1.out⟩
      · have HE : Hid (false = dt) := Lib.hid (by rw [HDt.out, dt_short h9])
        have h9i : ¬ (9 : Int) ≤ (s.size : Int) := by omega
        have hd : decide ((9 : Int) ≤ (s.size : Int)) = false := by simpa using h9i
        clear h9
        go_wp2
        go_meet
        exact ⟨congrArg Value.bool HE.out, HR1.out, HB1.out⟩
    case rest =>
      obtain ⟨rfl, hr1, hb1⟩ := hcut
      obtain ⟨w1, ew⟩ : ∃ w1, w1 = wc := ⟨_, rfl⟩
      subst ew
      clear HR1 HB1
      have HR1 := Lib.hid hr1
      have HB1 : Hid (Below w.heap.size w w1) := Lib.hid hb1
      clear hr1 hb1
      cases dt with
      | true =>
        have HF := Lib.hid (HF1.out.trans (if_pos rfl))
        have h9 : 9 ≤ s.size := by
          rcases Nat.lt_or_ge s.size 9 with h | h
          · have h2 := HDt.out; rw [dt_short (by omega)] at h2; cases h2
          · exact h
        clear HF1 HDt P1 P2 P3 P4 P5 P6
        have HJ := Lib.hid (rdoctype_any s w1 h9 hs)
        rw [← HF.out] at HJ
        clear HF
        generalize rem s.data.toList f = t at *
        obtain ⟨kd, nm, d, n, ok⟩ := t
        go_wp2_with fail
        refine HJ.out.mono ?_
        rintro e w5 ⟨rfl, hbl⟩
        have HR5 := Lib.hid (heap_keep hbl HR1.out)
        have HB5 := below_step HB1 hbl
        clear hbl HR1 HB1 HJ
        unfold remV
        obtain ⟨c0, c1, c2, c3, c4⟩ := row_of HR5.out
        obtain ⟨f0, f1, f2, f3, f4⟩ := free_of HR5.out
        go_wp2
        obtain ⟨wf, ewf, ⟨d0, d1, d2, d3, d4⟩, hbf⟩ := fin_of kd nm d HR5.out HB5.out
        change bodyPost _ _ _ _ _ (S5 w5 w.heap.size (.int .i64 kd) (.string nm) (.slice none 0 0) (.bool false) (.string d))
        rw [← ewf]
        clear ewf c0 c1 c2 c3 c4 f0 f1 f2 f3 f4
        exact bodyPost_ret (v := .tuple #[remV ⟨kd, nm, d, n, ok⟩, .int .i64 (n : Nat), .bool ok]) (by simp [results, Tryz.results29, go_sem, remV, d0, d1, d2, d3, d4]) rfl ⟨rfl, hbf⟩
      | false =>
        have HF2 := Lib.hid (HF1.out.trans (no_if rfl))
        clear HF1 HDt
        obtain ⟨cd, hcd⟩ : ∃ cd, cd = (f && pre pCd s.data.toList) := ⟨_, rfl⟩
        rw [← hcd] at HF2
        have HCd := Lib.hid hcd
        clear hcd
        go_upto_region 5 with fail
        go_cut [38] (fun v w' => v = .bool cd ∧ w1 = w')
        case first =>
          cases f with
          | true =>
            have HE : Hid (pre pCd s.data.toList = cd) := Lib.hid (by rw [HCd.out]; rfl)
            go_wp2_with fail
            refine (P2.out _).mono ?_
            rintro e w' ⟨rfl, rfl⟩
            go_wp2
            go_meet
            exact ⟨congrArg Value.bool HE.out, rfl⟩
          | false =>
            have HE : Hid (false = cd) := Lib.hid (by rw [HCd.out]; rfl)
            go_wp2
            go_meet
            exact ⟨congrArg Value.bool HE.out, rfl⟩
        case rest =>
          obtain ⟨rfl, rfl⟩ := hcut
          cases cd with
          | true =>
            have HF := Lib.hid (HF2.out.trans (if_pos rfl))
            have h9 : 9 ≤ s.size := by
              have h2 := HCd.out
              have h3 : pre pCd s.data.toList = true := by
                cases f
                · cases h2
                · exact h2.symm
              exact lst_size h3
            clear HF2 HCd P1 P2 P3 P4 P5 P6
            have HU := Lib.hid (rfind_any s ⟨#[93, 93, 62]⟩ 9 w1 h9 (by decide) hs (by decide))
            rw [show ((⟨#[93, 93, 62]⟩ : ByteArray).data.toList) = pS from rfl] at HU
            have hb := fndF_bd pS s.data.toList 9 (by rw [C.size_list]; exact h9)
            rw [C.size_list] at hb
            have HSc : Hid (sec s.data.toList = if fndF pS s.data.toList 9 = 9 then rem0 (min 12 s.size) else ⟨3, ByteArray.empty, s.extract 9 (fndF pS s.data.toList 9), min (fndF pS s.data.toList 9 + 3) s.size, true⟩) := Lib.hid (by
              unfold sec
              rw [C.size_list, cut_ext])
            generalize fndF pS s.data.toList 9 = e at *
            have hi1 : (9 : Int) ≤ (e : Int) := by omega
            have hi2 : (e : Int) ≤ (s.size : Int) := by omega
            by_cases he : e = 9
            · have HF9 : Hid (rem s.data.toList f = rem0 (min 12 s.size)) := Lib.hid (by rw [HF.out, HSc.out, if_pos he])
              have ee : ((e : Int) == 9) = true := by rw [beq_iff_eq]; omega
              obtain ⟨u, hu⟩ : ∃ u, u = min 12 s.size := ⟨_, rfl⟩
              have hum : min (12 : Int) (s.size : Int) = (u : Int) := by omega
              rw [← hu] at HF9
              clear HF HSc he hu
              go_wp2_with fail
              refine HU.out.mono ?_
              rintro e2 w' ⟨rfl, rfl⟩
              obtain ⟨c0, c1, c2, c3, c4⟩ := row_of HR1.out
              obtain ⟨f0, f1, f2, f3, f4⟩ := free_of HR1.out
              go_wp2
              obtain ⟨wf, ewf, ⟨d0, d1, d2, d3, d4⟩, hbf⟩ := fin_of 0 ByteArray.empty ByteArray.empty HR1.out HB1.out
              change bodyPost _ _ _ _ _ (S5 w1 w.heap.size (.int .i64 0) (.string ByteArray.empty) (.slice none 0 0) (.bool false) (.string ByteArray.empty))
              rw [← ewf]
              clear ewf c0 c1 c2 c3 c4 f0 f1 f2 f3 f4
              exact bodyPost_ret (v := .tuple #[remV (rem0 u), .int .i64 (u : Nat), .bool false]) (by simp [results, Tryz.results29, go_sem, remV, rem0, d0, d1, d2, d3, d4] <;> omega) rfl ⟨by rw [HF9.out]; rfl, hbf⟩
            · have HF9 : Hid (rem s.data.toList f = ⟨3, ByteArray.empty, s.extract 9 e, min (e + 3) s.size, true⟩) := Lib.hid (by rw [HF.out, HSc.out, if_neg he])
              have ee : ((e : Int) == 9) = false := by rw [beq_eq_false_iff_ne]; omega
              obtain ⟨u, hu⟩ : ∃ u, u = min (e + 3) s.size := ⟨_, rfl⟩
              have hum : min ((e : Int) + 3) (s.size : Int) = (u : Int) := by omega
              rw [← hu] at HF9
              clear HF HSc he hu
              go_wp2_with fail
              refine HU.out.mono ?_
              rintro e2 w' ⟨rfl, rfl⟩
              obtain ⟨c0, c1, c2, c3, c4⟩ := row_of HR1.out
              obtain ⟨f0, f1, f2, f3, f4⟩ := free_of HR1.out
              go_wp2
              obtain ⟨wf, ewf, ⟨d0, d1, d2, d3, d4⟩, hbf⟩ := fin_of 3 ByteArray.empty (s.extract 9 e) HR1.out HB1.out
              change bodyPost _ _ _ _ _ (S5 w1 w.heap.size (.int .i64 3) (.string ByteArray.empty) (.slice none 0 0) (.bool false) (.string (s.extract 9 e)))
              rw [← ewf]
              clear ewf c0 c1 c2 c3 c4 f0 f1 f2 f3 f4
              exact bodyPost_ret (v := .tuple #[remV ⟨3, ByteArray.empty, (s.extract 9 e), u, true⟩, .int .i64 (u : Nat), .bool true]) (by simp [results, Tryz.results29, go_sem, remV, d0, d1, d2, d3, d4] <;> omega) rfl ⟨by rw [HF9.out], hbf⟩
          | false =>
            have HF3 := Lib.hid (HF2.out.trans (no_if rfl))
            clear HF2 HCd P2
            cases q : pre [60, 33] s.data.toList with
            | true =>
              have HF := Lib.hid (HF3.out.trans (if_pos q))
              have hl := lst_size q
              have h2 : 2 ≤ s.size := hl
              rw [q] at P3
              clear q hl HF3 P4 P5 P6
              go_wp2_with fail
              refine (P3.out _).mono ?_
              rintro e w' ⟨rfl, rfl⟩
              have HJ := Lib.hid (rbogus_any s 2 w1 h2 hs)
              rw [← HF.out] at HJ
              clear HF
              generalize rem s.data.toList f = t at *
              obtain ⟨kd, nm, d, n, ok⟩ := t
              go_wp2_with fail
              refine HJ.out.mono ?_
              rintro e w5 ⟨rfl, hbl⟩
              have HR5 := Lib.hid (heap_keep hbl HR1.out)
              have HB5 := below_step HB1 hbl
              clear hbl HR1 HB1 HJ
              unfold remV
              obtain ⟨c0, c1, c2, c3, c4⟩ := row_of HR5.out
              obtain ⟨f0, f1, f2, f3, f4⟩ := free_of HR5.out
              go_wp2
              obtain ⟨wf, ewf, ⟨d0, d1, d2, d3, d4⟩, hbf⟩ := fin_of kd nm d HR5.out HB5.out
              change bodyPost _ _ _ _ _ (S5 w5 w.heap.size (.int .i64 kd) (.string nm) (.slice none 0 0) (.bool false) (.string d))
              rw [← ewf]
              clear ewf c0 c1 c2 c3 c4 f0 f1 f2 f3 f4
              exact bodyPost_ret (v := .tuple #[remV ⟨kd, nm, d, n, ok⟩, .int .i64 (n : Nat), .bool ok]) (by simp [results, Tryz.results29, go_sem, remV, d0, d1, d2, d3, d4]) rfl ⟨rfl, hbf⟩
            | false =>
              have HF4 := Lib.hid (HF3.out.trans (no_if q))
              rw [q] at P3
              clear q HF3
              cases q : pre [60, 63] s.data.toList with
              | true =>
                have HF := Lib.hid (HF4.out.trans (if_pos q))
                have hl := lst_size q
                have h2 : 2 ≤ s.size := hl
                rw [q] at P4
                clear q hl HF4 P5 P6
                go_wp2_with fail
                refine (P3.out _).mono ?_
                rintro e w' ⟨rfl, rfl⟩
                go_wp2_with fail
                refine (P4.out _).mono ?_
                rintro e w' ⟨rfl, rfl⟩
                have HJ := Lib.hid (rbogus_any s 1 w1 (by omega) hs)
                rw [← HF.out] at HJ
                clear HF
                generalize rem s.data.toList f = t at *
                obtain ⟨kd, nm, d, n, ok⟩ := t
                go_wp2_with fail
                refine HJ.out.mono ?_
                rintro e w5 ⟨rfl, hbl⟩
                have HR5 := Lib.hid (heap_keep hbl HR1.out)
                have HB5 := below_step HB1 hbl
                clear hbl HR1 HB1 HJ
                unfold remV
                obtain ⟨c0, c1, c2, c3, c4⟩ := row_of HR5.out
                obtain ⟨f0, f1, f2, f3, f4⟩ := free_of HR5.out
                go_wp2
                obtain ⟨wf, ewf, ⟨d0, d1, d2, d3, d4⟩, hbf⟩ := fin_of kd nm d HR5.out HB5.out
                change bodyPost _ _ _ _ _ (S5 w5 w.heap.size (.int .i64 kd) (.string nm) (.slice none 0 0) (.bool false) (.string d))
                rw [← ewf]
                clear ewf c0 c1 c2 c3 c4 f0 f1 f2 f3 f4
                exact bodyPost_ret (v := .tuple #[remV ⟨kd, nm, d, n, ok⟩, .int .i64 (n : Nat), .bool ok]) (by simp [results, Tryz.results29, go_sem, remV, d0, d1, d2, d3, d4]) rfl ⟨rfl, hbf⟩
              | false =>
                have HF5 := Lib.hid (HF4.out.trans (no_if q))
                rw [q] at P4
                clear q HF4
                cases q : pre [60, 47, 62] s.data.toList with
                | true =>
                  have HF := Lib.hid (HF5.out.trans (if_pos q))
                  have hl := lst_size q
                  have h2 : 3 ≤ s.size := hl
                  rw [q] at P5
                  clear q hl HF5 P6
                  go_wp2_with fail
                  refine (P3.out _).mono ?_
                  rintro e w' ⟨rfl, rfl⟩
                  go_wp2_with fail
                  refine (P4.out _).mono ?_
                  rintro e w' ⟨rfl, rfl⟩
                  go_wp2_with fail
                  refine (P5.out _).mono ?_
                  rintro e w' ⟨rfl, rfl⟩
                  obtain ⟨c0, c1, c2, c3, c4⟩ := row_of HR1.out
                  obtain ⟨f0, f1, f2, f3, f4⟩ := free_of HR1.out
                  go_wp2
                  obtain ⟨wf, ewf, ⟨d0, d1, d2, d3, d4⟩, hbf⟩ := fin_of 0 ByteArray.empty ByteArray.empty HR1.out HB1.out
                  change bodyPost _ _ _ _ _ (S5 w1 w.heap.size (.int .i64 0) (.string ByteArray.empty) (.slice none 0 0) (.bool false) (.string ByteArray.empty))
                  rw [← ewf]
                  clear ewf c0 c1 c2 c3 c4 f0 f1 f2 f3 f4
                  exact bodyPost_ret (v := .tuple #[remV (rem0 3), .int .i64 ((rem0 3).n : Nat), .bool false]) (by simp [results, Tryz.results29, go_sem, remV, rem0, d0, d1, d2, d3, d4]) rfl ⟨by rw [HF.out]; rfl, hbf⟩
                | false =>
                  have HF6 := Lib.hid (HF5.out.trans (no_if q))
                  rw [q] at P5
                  clear q HF5
                  obtain ⟨nt, hnt⟩ : ∃ nt, nt = (pre [60, 47] s.data.toList && ntL s.data.toList) := ⟨_, rfl⟩
                  rw [← hnt] at HF6
                  have HNt := Lib.hid hnt
                  clear hnt
                  go_wp2_with fail
                  refine (P3.out _).mono ?_
                  rintro e w' ⟨rfl, rfl⟩
                  go_wp2_with fail
                  refine (P4.out _).mono ?_
                  rintro e w' ⟨rfl, rfl⟩
                  go_wp2_with fail
                  refine (P5.out _).mono ?_
                  rintro e w' ⟨rfl, rfl⟩
                  go_upto_region 16 with fail
                  go_cut [85] (fun v w' => v = .bool nt ∧ w1 = w')
                  case first =>
                    by_cases h2 : 2 < s.size
                    · have h2i : (2 : Int) < (s.size : Int) := by omega
                      have hd : decide ((2 : Int) < (s.size : Int)) = true := by simpa using h2i
                      cases q : pre [60, 47] s.data.toList with
                      | true =>
                        rw [q] at P6
                        have HE : Hid ((!leI (s[2].toNat : Int)) = nt) := Lib.hid (by rw [HNt.out, q, nt_at h2]; rfl)
                        have hc := s[2].toNat_lt
                        have HL := Lib.hid (fun W => rletter_any (s[2].toNat : Int) W (by omega) (by omega))
                        generalize leI (s[2].toNat : Int) = le at *
                        clear q
                        go_wp2_with fail
                        refine (P6.out _).mono ?_
                        rintro e w' ⟨rfl, rfl⟩
                        go_wp2_with fail
                        refine (HL.out _).mono ?_
                        rintro e w' ⟨rfl, rfl⟩
                        go_wp2
                        go_meet
                        exact ⟨congrArg Value.bool HE.out, rfl⟩
                      | false =>
                        rw [q] at P6
                        have HE : Hid (false = nt) := Lib.hid (by rw [HNt.out, q, Bool.false_and])
                        clear q
                        go_wp2_with fail
                        refine (P6.out _).mono ?_
                        rintro e w' ⟨rfl, rfl⟩
                        go_wp2
                        go_meet
                        exact ⟨congrArg Value.bool HE.out, rfl⟩
                    · have HE : Hid (false = nt) := Lib.hid (by rw [HNt.out, nt_short h2, Bool.and_false])
                      have h2i : ¬ (2 : Int) < (s.size : Int) := by omega
                      have hd : decide ((2 : Int) < (s.size : Int)) = false := by simpa using h2i
                      go_wp2
                      go_meet
                      exact ⟨congrArg Value.bool HE.out, rfl⟩
                  case rest =>
                    obtain ⟨rfl, rfl⟩ := hcut
                    cases nt with
                    | true =>
                      have HF := Lib.hid (HF6.out.trans (if_pos rfl))
                      have h2 : 2 ≤ s.size := by
                        have h3 := HNt.out
                        cases h4 : pre [60, 47] s.data.toList with
                        | true => exact lst_size h4
                        | false => rw [h4] at h3; cases h3
                      clear HF6 HNt P1 P3 P4 P5 P6
                      have HJ := Lib.hid (rbogus_any s 2 w1 h2 hs)
                      rw [← HF.out] at HJ
                      clear HF
                      generalize rem s.data.toList f = t at *
                      obtain ⟨kd, nm, d, n, ok⟩ := t
                      go_wp2_with fail
                      refine HJ.out.mono ?_
                      rintro e w5 ⟨rfl, hbl⟩
                      have HR5 := Lib.hid (heap_keep hbl HR1.out)
                      have HB5 := below_step HB1 hbl
                      clear hbl HR1 HB1 HJ
                      unfold remV
                      obtain ⟨c0, c1, c2, c3, c4⟩ := row_of HR5.out
                      obtain ⟨f0, f1, f2, f3, f4⟩ := free_of HR5.out
                      go_wp2
                      obtain ⟨wf, ewf, ⟨d0, d1, d2, d3, d4⟩, hbf⟩ := fin_of kd nm d HR5.out HB5.out
                      change bodyPost _ _ _ _ _ (S5 w5 w.heap.size (.int .i64 kd) (.string nm) (.slice none 0 0) (.bool false) (.string d))
                      rw [← ewf]
                      clear ewf c0 c1 c2 c3 c4 f0 f1 f2 f3 f4
                      exact bodyPost_ret (v := .tuple #[remV ⟨kd, nm, d, n, ok⟩, .int .i64 (n : Nat), .bool ok]) (by simp [results, Tryz.results29, go_sem, remV, d0, d1, d2, d3, d4]) rfl ⟨rfl, hbf⟩
                    | false =>
                      have HF := Lib.hid (HF6.out.trans (no_if rfl))
                      clear HF6 HNt P1 P3 P4 P5 P6
                      obtain ⟨c0, c1, c2, c3, c4⟩ := row_of HR1.out
                      obtain ⟨f0, f1, f2, f3, f4⟩ := free_of HR1.out
                      go_wp2
                      obtain ⟨wf, ewf, ⟨d0, d1, d2, d3, d4⟩, hbf⟩ := fin_of 0 ByteArray.empty ByteArray.empty HR1.out HB1.out
                      change bodyPost _ _ _ _ _ (S5 w1 w.heap.size (.int .i64 0) (.string ByteArray.empty) (.slice none 0 0) (.bool false) (.string ByteArray.empty))
                      rw [← ewf]
                      clear ewf c0 c1 c2 c3 c4 f0 f1 f2 f3 f4
                      exact bodyPost_ret (v := .tuple #[remV (rem0 0), .int .i64 ((rem0 0).n : Nat), .bool false]) (by simp [results, Tryz.results29, go_sem, remV, rem0, d0, d1, d2, d3, d4]) rfl ⟨by rw [HF.out]; rfl, hbf⟩
end Go.Proofs.YtceelfomgcbkiaaGreatDoor.R
