/-
  The walk of the document's own doctype.
-/
import Derived.Test.YtceelfomgcbkiaaGreatDoorRRcomZ
import Derived.Test.YtceelfomgcbkiaaGreatDoorGR1Z
namespace Go.Proofs.YtceelfomgcbkiaaGreatDoor.R
open Go.RowKit
open Go.Proofs.YtceelfomgcbkiaaGreatDoor.I (spI spC lowS rspace_any rlower_any)

def textOf : Value → ByteArray | .string s => s | _ => ByteArray.empty
theorem dw_step {t : ByteArray} (h0 : 0 < t.size) (h : spC t[0] = true) : (t.extract 1 t.size).data.toList.dropWhile spC = t.data.toList.dropWhile spC := by
  have e : t.data.toList = t[0] :: t.data.toList.drop 1 := by
    have := C.drop_at t 0 h0
    simpa using this
  rw [str_tail]
  conv => rhs; rw [e]
  rw [List.dropWhile_cons_of_pos h]
theorem dw_stop {t : ByteArray} (h : ∀ h : 0 < t.size, spC t[0] = false) : t.data.toList.dropWhile spC = t.data.toList := by
  by_cases h0 : 0 < t.size
  · have e : t.data.toList = t[0] :: t.data.toList.drop 1 := by
      have := C.drop_at t 0 h0
      simpa using this
    rw [e, List.dropWhile_cons_of_neg (by rw [h h0]; decide)]
  · rw [List.eq_nil_of_length_eq_zero (l := t.data.toList) (by rw [C.size_list]; omega)]; rfl

set_option maxRecDepth 100000 in
set_option maxHeartbeats 3200000 in
theorem rdoctype_any (s : ByteArray) (w : World) (hk : 9 ≤ s.size) (hs : s.size ≤ 10000) :
    Calls Tryz.prog 55 #[.string s] w (RetRem (dty s.data.toList) w) := by
  have HU := Lib.hid (rfind_any s ⟨#[62]⟩ 9 (W1 w) hk (by decide) hs (by decide))
  rw [show ((⟨#[62]⟩ : ByteArray).data.toList) = [62] from rfl] at HU
  have hb := fndF_bd [62] s.data.toList 9 (by rw [C.size_list]; exact hk)
  rw [C.size_list] at hb
  have HX : Hid (∀ u, u = min (fndF [62] s.data.toList 9 + 1) s.size → (⟨5, lowS (C.mkB (wrd (s.extract 9 (fndF [62] s.data.toList 9)).data.toList)), ByteArray.empty, u, true⟩ : Rem) = dty s.data.toList) := Lib.hid (fun u hu => by
    rw [← dty_eq, cut_ext, hu]
    unfold upN
    rw [C.size_list]; rfl)
  have HR := Lib.hid (w1_row w)
  have HB := Lib.hid (w1_below w)
  generalize fndF [62] s.data.toList 9 = e at *
  obtain ⟨u, hu⟩ : ∃ u, u = min (e + 1) s.size := ⟨_, rfl⟩
  have HF := Lib.hid (HX.out u hu)
  clear HX
  rw [← HF.out]
  clear HF
  obtain ⟨d, hd⟩ : ∃ d, d = s.extract 9 e := ⟨_, rfl⟩
  have hdz : d.size ≤ 10000 := by rw [hd, ByteArray.size_extract]; omega
  have HD := Lib.hid hd.symm
  rw [HD.out]
  obtain ⟨fw, hfw⟩ : ∃ fw, fw = C.mkB (wrd d.data.toList) := ⟨_, rfl⟩
  have HFw := Lib.hid hfw
  rw [← hfw]
  have HLo := Lib.hid (fun W => rlower_any fw W (by
    have := wrd_len d.data.toList
    rw [C.size_list] at this
    rw [hfw, C.mkB_size]; unfold maxLen; omega))
  generalize lowS fw = nm at *
  have HSy : Hid (∀ (n : Int) W, 0 ≤ n → n ≤ 255 → spI n = true → Calls Tryz.prog 47 #[.int .u8 n] W fun e w' => e = .returned (.bool true) ∧ W = w') := Lib.hid (fun n W h0 h1 h => by
    have := rspace_any n W h0 h1
    rw [h] at this; exact this)
  have HSn : Hid (∀ (n : Int) W, 0 ≤ n → n ≤ 255 → spI n = false → Calls Tryz.prog 47 #[.int .u8 n] W fun e w' => e = .returned (.bool false) ∧ W = w') := Lib.hid (fun n W h0 h1 h => by
    have := rspace_any n W h0 h1
    rw [h] at this; exact this)
  have hi1 : (9 : Int) ≤ (e : Int) := by omega
  have hi2 : (e : Int) ≤ (s.size : Int) := by omega
  have hum : min ((e : Int) + 1) (s.size : Int) = (u : Int) := by omega
  clear hfw hd hu
  go_enter Tryz.func55, Tryz.ntmps55
  go_wp2_with fail
  refine HU.out.mono ?_
  rintro e' w1 ⟨rfl, rfl⟩
  obtain ⟨w1, ew⟩ : ∃ w1, w1 = W1 w := ⟨_, rfl⟩
  rw [← ew] at HR HB ⊢
  clear ew HU
  have eD : s.extract 9 e = d := HD.out
  go_wp2
  clear eD
  go_loop [6] (fun v => ∃ t : ByteArray, t.size ≤ d.size ∧ v = .string t ∧ t.data.toList.dropWhile spC = d.data.toList.dropWhile spC) (fun v => (textOf v).size)
  case atStart => exact ⟨d, Nat.le_refl _, rfl, rfl⟩
  case round =>
    obtain ⟨t, htz, rfl, hdw⟩ := hrel
    have HDw := Lib.hid hdw
    clear hdw
    by_cases hgo : ∃ h : 0 < t.size, spC t[0] = true
    · obtain ⟨h0, hq⟩ := hgo
      have HN : Hid ((t.extract 1 t.size).data.toList.dropWhile spC = d.data.toList.dropWhile spC) := Lib.hid ((dw_step h0 hq).trans HDw.out)
      have hn1 : (t.extract 1 t.size).size = t.size - 1 := by rw [ByteArray.size_extract]; omega
      have hc := t[0].toNat_lt
      have hs1 : spI (t[0].toNat : Int) = true := hq
      have h0i : (0 : Int) < (t.size : Int) := by omega
      have h1i : (1 : Int) ≤ (t.size : Int) := by omega
      have HSp := Lib.hid (fun W => HSy.out (t[0].toNat : Int) W (by omega) (by omega) hs1)
      clear hq hs1
      go_wp2_with (go_at_call 47; refine (HSp.out _).mono ?_; rintro e w' ⟨rfl, rfl⟩)
      go_round
      case rel => exact ⟨t.extract 1 t.size, by omega, rfl, HN.out⟩
      case measure => show (t.extract 1 t.size).size < t.size; omega
    · have HSt : Hid (t.data.toList = d.data.toList.dropWhile spC) := Lib.hid (by
        rw [← HDw.out, dw_stop]
        intro h
        cases hx : spC t[0] with
        | false => rfl
        | true => exact absurd ⟨h, hx⟩ hgo)
      have hend : t.size = 0 ∨ (∃ h : 0 < t.size, spI (t[0].toNat : Int) = false) := by
        rcases Nat.eq_zero_or_pos t.size with h | h
        · exact .inl h
        · refine .inr ⟨h, ?_⟩
          cases hx : spI (t[0].toNat : Int) with
          | false => rfl
          | true => exact absurd ⟨h, hx⟩ hgo
      have HIs := Lib.hid (fun k hk h1 h2 => tw_is (p := nsp) (t := t) (k := k) hk h1 h2)
      have HWh := Lib.hid (fun h => tw_whole (p := nsp) (t := t) h)
      have HFe : Hid (fw = C.mkB (t.data.toList.takeWhile nsp)) := Lib.hid (by rw [HFw.out, HSt.out, wrd_eq])
      clear hgo
      have key : ∀ (k : Nat), k ≤ t.size → (∀ j (h : j < t.size), j < k → nsp t[j] = true) → (∀ h : k < t.size, nsp t[k] = false) → t.extract 0 k = fw := by
        intro k hk hall hno
        rw [HFe.out]
        apply C.eq_of_list
        rw [C.mkB_list, C.ext_list, List.drop_zero]
        rcases Nat.lt_or_eq_of_le hk with h | h
        · exact (HIs.out k h hall (hno h)).symm
        · rw [HWh.out (fun j h2 => hall j h2 (by omega)), h, ← C.size_list, List.take_length]
      have HKey := Lib.hid key
      clear key HDw HSt
      rcases hend with h0 | ⟨h0, hsp⟩
      all_goals
        have h0i : (0 : Int) ≤ (t.size : Int) := by omega
        try have h0j : (0 : Int) < (t.size : Int) := by omega
        try have hc0 := (t[0]'h0).toNat_lt
        go_wp2_with (go_at_call 47; refine (HSn.out _ _ (by omega) (by omega) (by assumption)).mono ?_; rintro e w' ⟨rfl, rfl⟩)
        try clear hsp hc0 h0j
        try clear h0
        go_loop [7] (fun v => ∃ k : Nat, k ≤ t.size ∧ v = .int .i64 k ∧ (∀ j (h : j < t.size), j < k → nsp t[j] = true)) (fun v => t.size - (intOf v).toNat)
        case atStart => exact ⟨0, Nat.zero_le _, rfl, fun j _ h => absurd h (Nat.not_lt_zero _)⟩
        case round =>
          obtain ⟨k, hk, rfl, hall⟩ := hrel
          have HAl := Lib.hid hall
          clear hall
          by_cases hgo : ∃ h : k < t.size, nsp t[k] = true
          · obtain ⟨hlt, hq⟩ := hgo
            have HN : Hid (∀ j (h : j < t.size), j < k + 1 → nsp t[j] = true) := Lib.hid (fun j h hj => by
              rcases Nat.lt_or_eq_of_le (Nat.le_of_lt_succ hj) with h1 | h1
              · exact HAl.out j h h1
              · subst h1; exact hq)
            have hc := t[k].toNat_lt
            have hs1 : spI (t[k].toNat : Int) = false := by
              unfold nsp at hq
              cases hx : spC t[k] with
              | false => exact hx
              | true => rw [hx] at hq; cases hq
            have HSp := Lib.hid (fun W => HSn.out (t[k].toNat : Int) W (by omega) (by omega) hs1)
            clear hq hs1
            go_wp2_with (go_at_call 47; refine (HSp.out _).mono ?_; rintro e w' ⟨rfl, rfl⟩)
            go_round
            case rel => exact ⟨k + 1, by omega, by go_num, HN.out⟩
            case measure => simp [intOf]; omega
          · have eK : t.extract 0 k = fw := HKey.out k hk HAl.out (fun h => by
              cases hx : nsp t[k] with
              | false => rfl
              | true => exact absurd ⟨h, hx⟩ hgo)
            have hki : (k : Int) ≤ (t.size : Int) := by omega
            have hk0 : (0 : Int) ≤ (k : Int) := by omega
            have hend2 : (¬ k < t.size) ∨ (∃ h : k < t.size, spI (t[k].toNat : Int) = true) := by
              by_cases h : k < t.size
              · refine .inr ⟨h, ?_⟩
                have h2 : nsp t[k] = false := by
                  cases hx : nsp t[k] with
                  | false => rfl
                  | true => exact absurd ⟨h, hx⟩ hgo
                unfold nsp at h2
                cases hx : spC t[k] with
                | true => exact hx
                | false => rw [hx] at h2; cases h2
              · exact .inl h
            clear hgo
            obtain ⟨w1, ew⟩ : ∃ w3, w3 = w1 := ⟨_, rfl⟩
            subst ew
            rcases hend2 with hlt | ⟨hlt, hsp2⟩
            all_goals
              try have hc := (t[k]'hlt).toNat_lt
              go_wp2_with (first | (go_at_call 47; refine (HSy.out _ _ (by omega) (by omega) (by assumption)).mono ?_; rintro e w' ⟨rfl, rfl⟩) | fail)
              refine (HLo.out _).mono ?_
              rintro e3 w4 ⟨rfl, hbl⟩
              have HR4 := Lib.hid (heap_keep hbl HR.out)
              have HB4 := below_step HB hbl
              clear hbl eK
              obtain ⟨c0, c1, c2, c3, c4⟩ := row_of HR4.out
              obtain ⟨f0, f1, f2, f3, f4⟩ := free_of HR4.out
              go_wp2
              obtain ⟨wf, ewf, ⟨d0, d1, d2, d3, d4⟩, hbf⟩ := fin_of 5 nm ByteArray.empty HR4.out HB4.out
              change bodyPost _ _ _ _ _ (S5 w4 w.heap.size (.int .i64 5) (.string nm) (.slice none 0 0) (.bool false) (.string ByteArray.empty))
              rw [← ewf]
              clear ewf c0 c1 c2 c3 c4 f0 f1 f2 f3 f4
              exact bodyPost_ret (v := .tuple #[remV ⟨5, nm, ByteArray.empty, u, true⟩, .int .i64 (u : Nat), .bool true]) (by simp [results, Tryz.results55, go_sem, remV, d0, d1, d2, d3, d4] <;> omega) rfl ⟨rfl, hbf⟩
end Go.Proofs.YtceelfomgcbkiaaGreatDoor.R
