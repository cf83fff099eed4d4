/-
  The walks of first, readDoctype and readSection.
-/
import Derived.Test.YtdljjfeojccidaaRTok
import Derived.Test.YtdljjfeojccidaaILower
namespace Go.Proofs.Ytdljjfeojccidaa.R
open Go.RowKit
open Go.Proofs.Ytdljjfeojccidaa.I (spI spC lowS trL trS trS_size trim_any space_any lower_any dw_suffix)

def nsp (c : UInt8) : Bool := !spC c
theorem wrd_eq (l : List UInt8) : wrd l = (l.dropWhile spC).takeWhile nsp := rfl
theorem tw_app {p : UInt8 → Bool} : ∀ (m b : List UInt8), (∀ c, b.head? = some c → p c = false) → (m ++ b).takeWhile p = m.takeWhile p
  | [], b, h => by
    cases b with
    | nil => rfl
    | cons c b => rw [List.nil_append, List.takeWhile_cons, if_neg (by rw [h c rfl]; decide)]; rfl
  | x :: m, b, h => by
    rw [List.cons_append, List.takeWhile_cons, List.takeWhile_cons, tw_app m b h]
theorem wrd_tr (l : List UInt8) : (trL l).takeWhile nsp = wrd l := by
  rw [wrd_eq]
  obtain ⟨b, hb, hb'⟩ := dw_suffix (p := spC) (l.dropWhile spC).reverse
  have e : l.dropWhile spC = trL l ++ b.reverse := by
    have := congrArg List.reverse hb
    rw [List.reverse_reverse, List.reverse_append] at this
    exact this
  rw [e, tw_app]
  intro c hc
  have : c ∈ b := by
    have := List.mem_of_mem_head? (a := c) (l := b.reverse) (by rw [hc]; rfl)
    simpa using this
  unfold nsp
  rw [hb' c this]; rfl
theorem tw_all {p : UInt8 → Bool} : ∀ l : List UInt8, (∀ c ∈ l, p c = true) → l.takeWhile p = l
  | [], _ => rfl
  | x :: l, h => by
    rw [List.takeWhile_cons, if_pos (h x (by simp)), tw_all l (fun c hc => h c (by simp [hc]))]
theorem tw_is {p : UInt8 → Bool} {t : ByteArray} {k : Nat} (hk : k < t.size) (hall : ∀ j (h : j < t.size), j < k → p t[j] = true) (hno : p t[k] = false) : t.data.toList.takeWhile p = t.data.toList.take k := by
  have e : t.data.toList = t.data.toList.take k ++ t.data.toList.drop k := (List.take_append_drop _ _).symm
  have h1 : ∀ c ∈ t.data.toList.take k, p c = true := by
    intro c hc
    obtain ⟨j, hj, rfl⟩ := List.mem_iff_getElem.1 hc
    rw [List.length_take] at hj
    rw [List.getElem_take]
    exact hall j (by rw [C.size_list] at hj; omega) (by omega)
  have h2 : ∀ c, (t.data.toList.drop k).head? = some c → p c = false := by
    intro c hc
    rw [C.drop_at t k hk] at hc
    injection hc with hc
    rw [← hc]; exact hno
  conv => lhs; rw [e]
  rw [tw_app _ _ h2, tw_all _ h1]
theorem tw_whole {p : UInt8 → Bool} {t : ByteArray} (hall : ∀ j (h : j < t.size), p t[j] = true) : t.data.toList.takeWhile p = t.data.toList := by
  refine tw_all _ fun c hc => ?_
  obtain ⟨j, hj, rfl⟩ := List.mem_iff_getElem.1 hc
  exact hall j (by simpa using hj)

set_option maxHeartbeats 1600000 in
theorem first_any (s : ByteArray) (w : World) (hs : s.size ≤ 10000) :
    Calls Try.prog 42 #[.string s] w fun e w' => e = .returned (.string (C.mkB (wrd s.data.toList))) ∧ w = w' := by
  have HT := Lib.hid (trim_any s w (by unfold maxLen; omega))
  have hz := trS_size s
  obtain ⟨R, hR⟩ : ∃ R, R = C.mkB (wrd s.data.toList) := ⟨_, rfl⟩
  have HW : Hid (R = C.mkB ((trS s).data.toList.takeWhile nsp)) := Lib.hid (by
    rw [hR, ← wrd_tr]
    congr 2)
  rw [← hR]
  clear hR
  generalize trS s = t at *
  have HIs := Lib.hid (fun k hk h1 h2 => tw_is (p := nsp) (t := t) (k := k) hk h1 h2)
  have HWh := Lib.hid (fun h => tw_whole (p := nsp) (t := t) h)
  go_enter Try.func42, Try.ntmps42
  go_wp2_with (go_at_call 53; refine HT.out.mono ?_; rintro e w' ⟨rfl, rfl⟩)
  go_loop [8] (fun i => ∃ k : Nat, k ≤ t.size ∧ i = .int .i64 k ∧ (∀ j (h : j < t.size), j < k → nsp t[j] = true)) (fun i => t.size - (intOf i).toNat)
  case atStart => exact ⟨0, Nat.zero_le _, rfl, fun _ _ h => absurd h (Nat.not_lt_zero _)⟩
  case round =>
    obtain ⟨k, hk, rfl, hall⟩ := hrel
    have HA := Lib.hid hall
    clear hall
    by_cases hlt : k < t.size
    · have hi0 : (0 : Int) ≤ (k : Int) := by omega
      have hi1 : (k : Int) < (t.size : Int) := by omega
      have hi2 : (k : Int) ≤ (t.size : Int) := by omega
      have hc := t[k].toNat_lt
      have HSp := Lib.hid (fun W => space_any (t[k].toNat : Int) W (by omega) (by omega))
      cases hq : spC t[k] with
      | true =>
        have HF : Hid (t.extract 0 k = R) := Lib.hid (by
          rw [HW.out, HIs.out k hlt HA.out (by unfold nsp; rw [hq]; rfl)]
          apply C.eq_of_list
          rw [C.mkB_list, C.ext_list, List.drop_zero])
        have e1 : spI (t[k].toNat : Int) = true := hq
        rw [e1] at HSp
        clear hq e1
        go_wp2_with (go_at_call 54; refine (HSp.out _).mono ?_; rintro e w' ⟨rfl, rfl⟩)
        go_ret
        exact ⟨ret_str HF.out, rfl⟩
      | false =>
        have HN : Hid (∀ j (h : j < t.size), j < k + 1 → nsp t[j] = true) := Lib.hid (fun j h hj => by
          rcases Nat.lt_or_eq_of_le (Nat.le_of_lt_succ hj) with h1 | h1
          · exact HA.out j h h1
          · subst h1; unfold nsp; rw [hq]; rfl)
        have e1 : spI (t[k].toNat : Int) = false := hq
        rw [e1] at HSp
        clear hq e1
        go_wp2_with (go_at_call 54; refine (HSp.out _).mono ?_; rintro e w' ⟨rfl, rfl⟩)
        go_round
        case rel => exact ⟨k + 1, by omega, by go_num, HN.out⟩
        case measure => simp [intOf]; omega
    · have HF : Hid (t = R) := Lib.hid (by rw [HW.out, HWh.out (fun j h => HA.out j h (by omega)), C.mkB_of])
      go_wp2
      go_ret
      exact ⟨ret_str HF.out, rfl⟩

theorem wrd_len (l : List UInt8) : (wrd l).length ≤ l.length := by
  rw [← wrd_tr]
  exact Nat.le_trans (List.takeWhile_prefix nsp).length_le (I.trL_len l)
theorem cut_size (l : List UInt8) (i j : Nat) : (cut l i j).size ≤ l.length := by
  unfold cut
  rw [C.mkB_size, List.length_drop, List.length_take]; omega
theorem dty_eq (l : List UInt8) : (⟨5, lowS (C.mkB (wrd (cut l 9 (fndF [62] l 9)).data.toList)), ByteArray.empty, upN [62] l 9, true⟩ : Rem) = dty l := by
  unfold dty cut
  rw [C.mkB_list]; rfl

set_option maxHeartbeats 1600000 in
theorem readDoctype_any (s : ByteArray) (w : World) (hM : MaxAt w) (hk : 9 ≤ s.size) (hs : s.size ≤ 10000) :
    Calls Try.prog 20 #[.string s] w (RetRem (dty s.data.toList) w) := by
  have HU := Lib.hid (upTo_any s ⟨#[62]⟩ 9 (W1 w) (w1_max hM) hk (by decide) hs (by decide))
  have e62 : ((⟨#[62]⟩ : ByteArray).data.toList) = [62] := rfl
  rw [e62] at HU
  rw [← dty_eq]
  have HR := Lib.hid (w1_row w)
  have HB := Lib.hid (w1_below w)
  have hdz := cut_size s.data.toList 9 (fndF [62] s.data.toList 9)
  rw [C.size_list] at hdz
  clear e62 hM
  generalize cut s.data.toList 9 (fndF [62] s.data.toList 9) = d at *
  generalize upN [62] s.data.toList 9 = u at *
  have HFi := Lib.hid (fun W => first_any d W (by omega))
  have HLo := Lib.hid (fun W => lower_any (C.mkB (wrd d.data.toList)) W (by
    have := wrd_len d.data.toList
    rw [C.size_list] at this
    rw [C.mkB_size]; unfold maxLen; omega))
  generalize C.mkB (wrd d.data.toList) = f at *
  generalize lowS f = nm at *
  go_enter Try.func20, Try.ntmps20
  go_wp2_with fail
  refine HU.out.mono ?_
  rintro e w1 ⟨rfl, hbl⟩
  have HR1 := Lib.hid (heap_keep hbl HR.out)
  have HB1 : Hid (Below w.heap.size w w1) := Lib.hid (HB.out.trans (hbl.mono HB.out.size))
  clear hbl HR HB
  go_wp2_with (go_at_call 42; refine (HFi.out _).mono ?_; rintro e w' ⟨rfl, rfl⟩)
  refine (HLo.out _).mono ?_
  rintro e w2 ⟨rfl, hbl⟩
  have HR2 := Lib.hid (heap_keep hbl HR1.out)
  have HB2 := below_step HB1 hbl
  clear hbl HR1 HB1
  obtain ⟨c0, c1, c2, c3, c4⟩ := row_of HR2.out
  obtain ⟨f0, f1, f2, f3, f4⟩ := free_of HR2.out
  go_wp2
  obtain ⟨wf, ewf, ⟨d0, d1, d2, d3, d4⟩, hbf⟩ := fin_of 5 nm ByteArray.empty HR2.out HB2.out
  change bodyPost _ _ _ _ _ (S5 w2 w.heap.size (.int .i64 5) (.string nm) (.slice none 0 0) (.bool false) (.string ByteArray.empty))
  rw [← ewf]
  clear ewf c0 c1 c2 c3 c4 f0 f1 f2 f3 f4
  exact bodyPost_ret (v := .tuple #[remV ⟨5, nm, ByteArray.empty, u, true⟩, .int .i64 (u : Nat), .bool true]) (by simp [results, Try.results20, go_sem, remV, d0, d1, d2, d3, d4]) rfl ⟨rfl, hbf⟩

set_option maxHeartbeats 1600000 in
theorem readSection_any (s : ByteArray) (w : World) (hM : MaxAt w) (hk : 9 ≤ s.size) (hs : s.size ≤ 10000) :
    Calls Try.prog 21 #[.string s] w (RetRem (sec s.data.toList) w) := by
  have HU := Lib.hid (upTo_any s ⟨#[93, 93, 62]⟩ 9 (W1 w) (w1_max hM) hk (by decide) hs (by decide))
  have e62 : ((⟨#[93, 93, 62]⟩ : ByteArray).data.toList) = pS := rfl
  rw [e62] at HU
  have HR := Lib.hid (w1_row w)
  have HB := Lib.hid (w1_below w)
  have hb := fndF_bd pS s.data.toList 9 (by rw [C.size_list]; exact hk)
  have hdz : (cut s.data.toList 9 (fndF pS s.data.toList 9)).size = fndF pS s.data.toList 9 - 9 := by
    unfold cut
    rw [C.mkB_size, List.length_drop, List.length_take]; omega
  clear e62 hM
  by_cases h9 : fndF pS s.data.toList 9 = 9
  · have hX : rem0 (upN pS s.data.toList 9) = sec s.data.toList := by
      unfold sec
      rw [if_pos h9]
      unfold upN
      rw [h9]; rfl
    rw [← hX]
    have h0 : (cut s.data.toList 9 (fndF pS s.data.toList 9)).size = 0 := by omega
    clear hX hb hdz h9
    generalize cut s.data.toList 9 (fndF pS s.data.toList 9) = d at *
    generalize upN pS s.data.toList 9 = u at *
    obtain ⟨e1, e2⟩ : d.toList = [] ∧ d.toList.isEmpty = true := by
      have : d.toList = [] := by rw [ByteArray.toList_eq]; exact List.eq_nil_of_length_eq_zero (by simpa using h0)
      exact ⟨this, by rw [this]; rfl⟩
    clear h0
    go_enter Try.func21, Try.ntmps21
    go_wp2_with fail
    refine HU.out.mono ?_
    rintro e w1 ⟨rfl, hbl⟩
    have HR1 := Lib.hid (heap_keep hbl HR.out)
    have HB1 : Hid (Below w.heap.size w w1) := Lib.hid (HB.out.trans (hbl.mono HB.out.size))
    clear hbl HR HB
    obtain ⟨c0, c1, c2, c3, c4⟩ := row_of HR1.out
    obtain ⟨f0, f1, f2, f3, f4⟩ := free_of HR1.out
    go_wp2
    obtain ⟨wf, ewf, ⟨d0, d1, d2, d3, d4⟩, hbf⟩ := fin_of 0 ByteArray.empty ByteArray.empty HR1.out HB1.out
    change bodyPost _ _ _ _ _ (S5 w1 w.heap.size (.int .i64 0) (.string ByteArray.empty) (.slice none 0 0) (.bool false) (.string ByteArray.empty))
    rw [← ewf]
    clear ewf c0 c1 c2 c3 c4 f0 f1 f2 f3 f4
    exact bodyPost_ret (v := .tuple #[remV (rem0 u), .int .i64 (u : Nat), .bool false]) (by simp [results, Try.results21, go_sem, remV, rem0, d0, d1, d2, d3, d4]) rfl ⟨rfl, hbf⟩
  · have hX : (⟨3, ByteArray.empty, cut s.data.toList 9 (fndF pS s.data.toList 9), upN pS s.data.toList 9, true⟩ : Rem) = sec s.data.toList := by
      unfold sec
      rw [if_neg h9]; rfl
    rw [← hX]
    have h0 : (cut s.data.toList 9 (fndF pS s.data.toList 9)).size ≠ 0 := by omega
    clear hX hb hdz h9
    generalize cut s.data.toList 9 (fndF pS s.data.toList 9) = d at *
    generalize upN pS s.data.toList 9 = u at *
    obtain ⟨e1, e2⟩ : d.toList ≠ [] ∧ d.toList.isEmpty = false := by
      have : d.toList ≠ [] := by
        intro e; apply h0
        have h1 : d.data.toList = [] := by rw [← ByteArray.toList_eq]; exact e
        rw [← C.size_list, h1]; rfl
      exact ⟨this, by cases hx : d.toList with
        | nil => exact absurd hx this
        | cons c r => rfl⟩
    clear h0
    go_enter Try.func21, Try.ntmps21
    go_wp2_with fail
    refine HU.out.mono ?_
    rintro e w1 ⟨rfl, hbl⟩
    have HR1 := Lib.hid (heap_keep hbl HR.out)
    have HB1 : Hid (Below w.heap.size w w1) := Lib.hid (HB.out.trans (hbl.mono HB.out.size))
    clear hbl HR HB
    obtain ⟨c0, c1, c2, c3, c4⟩ := row_of HR1.out
    obtain ⟨f0, f1, f2, f3, f4⟩ := free_of HR1.out
    go_wp2
    obtain ⟨wf, ewf, ⟨d0, d1, d2, d3, d4⟩, hbf⟩ := fin_of 3 ByteArray.empty d HR1.out HB1.out
    change bodyPost _ _ _ _ _ (S5 w1 w.heap.size (.int .i64 3) (.string ByteArray.empty) (.slice none 0 0) (.bool false) (.string d))
    rw [← ewf]
    clear ewf c0 c1 c2 c3 c4 f0 f1 f2 f3 f4
    exact bodyPost_ret (v := .tuple #[remV ⟨3, ByteArray.empty, d, u, true⟩, .int .i64 (u : Nat), .bool true]) (by simp [results, Try.results21, go_sem, remV, d0, d1, d2, d3, d4]) rfl ⟨rfl, hbf⟩
end Go.Proofs.Ytdljjfeojccidaa.R
