/-
  The walks of quoted and value.
-/
import Derived.Test.YtkfaenhidjekdaaDoorTUp
namespace Go.Proofs.YtkfaenhidjekdaaDoor.T
open Go.RowKit
open Go.Proofs.YtkfaenhidjekdaaDoor.I (spC)
open Go.Proofs.YtkfaenhidjekdaaDoor.A (ret_bool ret_int)

theorem ix_run (q : UInt8) : ∀ l : List UInt8, Lib.indexByte l q = if (l.takeWhile (· != q)).length < l.length then ((l.takeWhile (· != q)).length : Int) else -1
  | [] => rfl
  | c :: l => by
    have ih := ix_run q l
    unfold Lib.indexByte
    rw [List.takeWhile_cons]
    by_cases e : c = q
    · subst e
      simp
    · have e1 : (c == q) = false := by simpa using e
      have e2 : (c != q) = true := by simp [e]
      rw [e1, e2, ih]
      have := tw_len (· != q) l
      by_cases h : (l.takeWhile (· != q)).length < l.length
      · have hne : ((((l.takeWhile (· != q)).length : Nat) : Int) == -1) = false := by simp
        rw [if_pos h, hne]
        simp [h]
      · rw [if_neg h]
        simp [h]
theorem ix_drop (q : UInt8) (l : List UInt8) (k : Nat) (hk : k ≤ l.length) : Lib.indexByte (l.drop k) q = if run (· != q) l k < l.length then ((run (· != q) l k - k : Nat) : Int) else -1 := by
  rw [ix_run, List.length_drop]
  have h1 : run (· != q) l k = k + ((l.drop k).takeWhile (· != q)).length := rfl
  rw [h1]
  by_cases h : k + ((l.drop k).takeWhile (· != q)).length < l.length
  · rw [if_pos h, if_pos (by omega)]; congr 1; omega
  · rw [if_neg h, if_neg (by omega)]

section
variable {R : Nat} {s : ByteArray} {k : Nat} {self : Bool} {v m : Value}
set_option maxHeartbeats 800000 in
theorem quoted_hit (q : UInt8) (w : World) (h : RB w R s k self v m) (hk : k ≤ s.size) (hs : s.size ≤ 1000000) (hq : run (· != q) s.data.toList k < s.size) :
    Calls Tryd.prog 60 #[.pointer (some ⟨R, 0, none⟩), .int .u8 (q.toNat : Int)] w fun e w' => e = .returned (.string (cut s.data.toList k (run (· != q) s.data.toList k))) ∧ Mv w w' R s (run (· != q) s.data.toList k + 1) self v m := by
  have H := Lib.hid h
  have h0 := h.c0
  have h1 := h.c1
  have hf := h.fz 1
  clear h
  have HIx := Lib.hid (fun W => Tryd.strings_IndexByte (s.extract k s.size) (q.toNat : Int) W)
  have hg := run_ge (· != q) s.data.toList k
  have hx := ix_drop q s.data.toList k (by rw [C.size_list]; exact hk)
  rw [if_pos (by rw [C.size_list]; exact hq)] at hx
  rw [byte_back, C.ext_tail, hx] at HIx
  rw [cut_of]
  generalize run (· != q) s.data.toList k = j at *
  have hj : ((j - k : Nat) : Int) = (j : Int) - (k : Int) := by omega
  rw [hj] at HIx
  clear hx hj
  have hk0 : (0 : Int) ≤ (k : Int) := by omega
  have hk1 : (k : Int) ≤ (s.size : Int) := by omega
  have hj0 : (k : Int) ≤ (j : Int) := by omega
  have hj1 : (j : Int) < (s.size : Int) := by omega
  go_enter Tryd.func60, Tryd.ntmps60
  go_wp2_with (go_at_call 35; refine (HIx.out _).mono ?_; rintro e w' ⟨rfl, rfl⟩)
  go_ret
  refine ⟨ret_str (by rw [show k + (j - k) = j by omega]), ?_⟩
  rw [show (k : Int) + ((j : Int) - (k : Int)) + 1 = ((j + 1 : Nat) : Int) by omega]
  exact (Mv.start H.out).at_ (j + 1)
set_option maxHeartbeats 800000 in
theorem quoted_miss (q : UInt8) (w : World) (h : RB w R s k self v m) (hk : k ≤ s.size) (_hs : s.size ≤ 1000000) (hq : ¬ run (· != q) s.data.toList k < s.size) :
    Calls Tryd.prog 60 #[.pointer (some ⟨R, 0, none⟩), .int .u8 (q.toNat : Int)] w fun e w' => e = .returned (.string (s.extract k s.size)) ∧ Mv w w' R s s.size self v m := by
  have H := Lib.hid h
  have h0 := h.c0
  have h1 := h.c1
  have hf := h.fz 1
  clear h
  have HIx := Lib.hid (fun W => Tryd.strings_IndexByte (s.extract k s.size) (q.toNat : Int) W)
  have hx := ix_drop q s.data.toList k (by rw [C.size_list]; exact hk)
  rw [if_neg (by rw [C.size_list]; exact hq)] at hx
  rw [byte_back, C.ext_tail, hx] at HIx
  clear hx hq
  have hk0 : (0 : Int) ≤ (k : Int) := by omega
  have hk1 : (k : Int) ≤ (s.size : Int) := by omega
  go_enter Tryd.func60, Tryd.ntmps60
  go_wp2_with (go_at_call 35; refine (HIx.out _).mono ?_; rintro e w' ⟨rfl, rfl⟩)
  go_ret
  exact ⟨rfl, (Mv.start H.out).at_ s.size⟩

/-- What value hands back, and where it goes to, from behind an attribute's name. -/
def ValOf (s : ByteArray) (k : Nat) (t : ByteArray) (n : Nat) : Prop :=
  if s.data.toList[skp s.data.toList k]? = some 61 then (match valG s.data.toList (skp s.data.toList (skp s.data.toList k + 1)) with | some r => t = r.1 ∧ n = r.2 | none => n = s.size ∧ t.size ≤ s.size)
  else t = ByteArray.empty ∧ n = skp s.data.toList k
def RetValue (w : World) (R : Nat) (s : ByteArray) (k : Nat) (self : Bool) (v m : Value) (e : Ending) (w' : World) : Prop :=
  ∃ t n, e = .returned (.string t) ∧ ValOf s k t n ∧ Mv w w' R s n self v m
theorem valG_quote {l : List UInt8} {i : Nat} {q : UInt8} (h : l[i]? = some q) (hq : q = 34 ∨ q = 39) : valG l i = if run (· != q) l (i + 1) < l.length then some (cut l (i + 1) (run (· != q) l (i + 1)), run (· != q) l (i + 1) + 1) else none := by
  obtain ⟨hi, e⟩ := List.getElem?_eq_some_iff.1 h
  unfold valG
  rw [dif_pos hi, if_pos (by rw [e]; exact hq), e]
theorem valG_bare {l : List UInt8} {i : Nat} (hi : i < l.length) (h1 : l[i]? ≠ some 34) (h2 : l[i]? ≠ some 39) : valG l i = some (cut l i (run stopV l i), run stopV l i) := by
  unfold valG
  rw [List.getElem?_eq_getElem hi] at h1 h2
  rw [dif_pos hi, if_neg (fun h => by rcases h with h | h <;> rw [h] at h1 h2 <;> simp at h1 h2)]
theorem valG_over {l : List UInt8} {i : Nat} (hi : ¬ i < l.length) : valG l i = none := by unfold valG; rw [dif_neg hi]
theorem hitB_iff {s : ByteArray} {k : Nat} {c : UInt8} : hitB s k c = true ↔ s.data.toList[k]? = some c := by unfold hitB; rw [beq_iff_eq]
theorem hitB_no {s : ByteArray} {k : Nat} {c : UInt8} : hitB s k c = false ↔ s.data.toList[k]? ≠ some c := by rw [← Bool.not_eq_true, hitB_iff]
theorem hit_lt {s : ByteArray} {k : Nat} {c : UInt8} (h : hitB s k c = true) : k < s.size := by
  have := (List.getElem?_eq_some_iff.1 (hitB_iff.1 h)).1
  rw [C.size_list] at this; exact this
theorem up_gt : upP [62] = stopV := by
  funext c
  unfold upP stopV
  congr 1
  unfold Lib.indexByte Lib.indexByte
  by_cases h : c = 62
  · subst h; rfl
  · have h1 : ((62 : UInt8) == c) = false := by simpa using (fun e => h e.symm)
    have h2 : (c != 62) = true := by simpa using h
    rw [h1, h2]; rfl

set_option maxHeartbeats 1600000 in
theorem value_any (w : World) (h : RB w R s k self v m) (hk : k ≤ s.size) (hs : s.size ≤ 1000000) : Calls Tryd.prog 51 #[.pointer (some ⟨R, 0, none⟩)] w (RetValue w R s k self v m) := by
  have HS := Lib.hid (spaces_any w h hk hs)
  clear h
  have hk2 := run_le spC s.data.toList k (by rw [C.size_list]; exact hk)
  rw [C.size_list] at hk2
  obtain ⟨k2, e2⟩ : ∃ k2, k2 = skp s.data.toList k := ⟨_, rfl⟩
  rw [← e2] at HS
  have hk2' : k2 ≤ s.size := by rw [e2]; exact hk2
  have HV : Hid (∀ t n, (if s.data.toList[k2]? = some 61 then (match valG s.data.toList (skp s.data.toList (k2 + 1)) with | some r => t = r.1 ∧ n = r.2 | none => n = s.size ∧ t.size ≤ s.size) else t = ByteArray.empty ∧ n = k2) → ValOf s k t n) := Lib.hid (fun t n h => by unfold ValOf; rw [← e2]; exact h)
  clear e2 hk2
  go_enter Tryd.func51, Tryd.ntmps51
  go_wp2_with fail
  refine HS.out.mono ?_
  rintro e w1 ⟨rfl, hm⟩
  have HM := Lib.hid hm
  have HP := Lib.hid (pass_any 61 w1 hm.1 hk2' hs)
  clear hm
  by_cases hq : hitB s k2 61 = true
  · have hlt := hit_lt hq
    rw [if_pos hq, hq] at HP
    have HQ := Lib.hid (hitB_iff.1 hq)
    clear hq
    go_wp2_with fail
    refine HP.out.mono ?_
    rintro e w2 ⟨rfl, hm⟩
    have HS2 := Lib.hid (spaces_any w2 hm.1 (by omega) hs)
    have HM2 := Lib.hid (HM.out.then hm)
    clear hm
    have hk3 := run_le spC s.data.toList (k2 + 1) (by rw [C.size_list]; omega)
    rw [C.size_list] at hk3
    obtain ⟨k3, e3⟩ : ∃ k3, k3 = skp s.data.toList (k2 + 1) := ⟨_, rfl⟩
    rw [← e3] at HS2
    have hk3' : k3 ≤ s.size := by rw [e3]; exact hk3
    have HV2 : Hid (∀ t n, (match valG s.data.toList k3 with | some r => t = r.1 ∧ n = r.2 | none => n = s.size ∧ t.size ≤ s.size) → ValOf s k t n) := Lib.hid (fun t n h => HV.out t n (by rw [if_pos HQ.out, ← e3]; exact h))
    clear e3 hk3
    go_wp2_with fail
    refine HS2.out.mono ?_
    rintro e w3 ⟨rfl, hm⟩
    have HP3 := Lib.hid (pass_any 34 w3 hm.1 hk3' hs)
    have HM3 := Lib.hid (HM2.out.then hm)
    clear hm
    by_cases hq1 : hitB s k3 34 = true
    · rw [if_pos hq1, hq1] at HP3
      have hlt3 := hit_lt hq1
      have HValQ := Lib.hid (valG_quote (hitB_iff.1 hq1) (.inl rfl))
      clear hq1
      go_wp2_with fail
      refine HP3.out.mono ?_
      rintro e w4 ⟨rfl, hm⟩
      have HMb := Lib.hid (HM3.out.then hm)
      by_cases hr : run (· != 34) s.data.toList (k3 + 1) < s.size
      · have HQt := Lib.hid (quoted_hit 34 w4 hm.1 (by omega) hs hr)
        have HF := Lib.hid (HV2.out (cut s.data.toList (k3 + 1) (run (· != 34) s.data.toList (k3 + 1))) (run (· != 34) s.data.toList (k3 + 1) + 1) (by rw [HValQ.out, if_pos (by rw [C.size_list]; exact hr)]; exact ⟨rfl, rfl⟩))
        clear hm hr
        go_wp2_with fail
        refine HQt.out.mono ?_
        rintro e w5 ⟨rfl, hm⟩
        have HMc := Lib.hid (HMb.out.then hm)
        clear hm
        go_wp2
        go_ret
        exact ⟨_, _, rfl, HF.out, HMc.out⟩
      · have HQt := Lib.hid (quoted_miss 34 w4 hm.1 (by omega) hs hr)
        have HF := Lib.hid (HV2.out (s.extract (k3 + 1) s.size) s.size (by rw [HValQ.out, if_neg (by rw [C.size_list]; exact hr)]; exact ⟨rfl, by rw [ByteArray.size_extract]; omega⟩))
        clear hm hr
        go_wp2_with fail
        refine HQt.out.mono ?_
        rintro e w5 ⟨rfl, hm⟩
        have HMc := Lib.hid (HMb.out.then hm)
        clear hm
        go_wp2
        go_ret
        exact ⟨_, _, rfl, HF.out, HMc.out⟩
    · have hq2 : hitB s k3 34 = false := by simpa using hq1
      rw [if_neg hq1, hq2] at HP3
      have HN1 := Lib.hid (hitB_no.1 hq2)
      clear hq1 hq2
      go_wp2_with fail
      refine HP3.out.mono ?_
      rintro e w4 ⟨rfl, hm⟩
      have HP4 := Lib.hid (pass_any 39 w4 hm.1 hk3' hs)
      have HM4 := Lib.hid (HM3.out.then hm)
      clear hm
      by_cases hq3 : hitB s k3 39 = true
      · rw [if_pos hq3, hq3] at HP4
        have hlt3 := hit_lt hq3
        have HValQ := Lib.hid (valG_quote (hitB_iff.1 hq3) (.inr rfl))
        clear hq3
        go_wp2_with fail
        refine HP4.out.mono ?_
        rintro e w5 ⟨rfl, hm⟩
        have HMb := Lib.hid (HM4.out.then hm)
        by_cases hr : run (· != 39) s.data.toList (k3 + 1) < s.size
        · have HQt := Lib.hid (quoted_hit 39 w5 hm.1 (by omega) hs hr)
          have HF := Lib.hid (HV2.out (cut s.data.toList (k3 + 1) (run (· != 39) s.data.toList (k3 + 1))) (run (· != 39) s.data.toList (k3 + 1) + 1) (by rw [HValQ.out, if_pos (by rw [C.size_list]; exact hr)]; exact ⟨rfl, rfl⟩))
          clear hm hr
          go_wp2_with fail
          refine HQt.out.mono ?_
          rintro e w6 ⟨rfl, hm⟩
          have HMc := Lib.hid (HMb.out.then hm)
          clear hm
          go_wp2
          go_ret
          exact ⟨_, _, rfl, HF.out, HMc.out⟩
        · have HQt := Lib.hid (quoted_miss 39 w5 hm.1 (by omega) hs hr)
          have HF := Lib.hid (HV2.out (s.extract (k3 + 1) s.size) s.size (by rw [HValQ.out, if_neg (by rw [C.size_list]; exact hr)]; exact ⟨rfl, by rw [ByteArray.size_extract]; omega⟩))
          clear hm hr
          go_wp2_with fail
          refine HQt.out.mono ?_
          rintro e w6 ⟨rfl, hm⟩
          have HMc := Lib.hid (HMb.out.then hm)
          clear hm
          go_wp2
          go_ret
          exact ⟨_, _, rfl, HF.out, HMc.out⟩
      · have hq4 : hitB s k3 39 = false := by simpa using hq3
        rw [if_neg hq3, hq4] at HP4
        have HN2 := Lib.hid (hitB_no.1 hq4)
        clear hq3 hq4
        go_wp2_with fail
        refine HP4.out.mono ?_
        rintro e w5 ⟨rfl, hm⟩
        have HM5 := Lib.hid (HM4.out.then hm)
        have HU := Lib.hid (upTo_any ⟨#[62]⟩ w5 hm.1 hk3' hs)
        have e62 : ((⟨#[62]⟩ : ByteArray).data.toList) = [62] := rfl
        rw [e62, up_gt] at HU
        have HF : Hid (ValOf s k (cut s.data.toList k3 (run stopV s.data.toList k3)) (run stopV s.data.toList k3)) := Lib.hid (HV2.out _ _ (by
          by_cases hl : k3 < s.data.toList.length
          · rw [valG_bare hl HN1.out HN2.out]; exact ⟨rfl, rfl⟩
          · rw [valG_over hl]
            have e1 := run_end stopV s.data.toList k3 (by omega)
            rw [C.size_list] at hl
            rw [e1, cut_of]
            exact ⟨by omega, by rw [ByteArray.size_extract]; omega⟩))
        clear hm e62
        go_wp2_with fail
        refine HU.out.mono ?_
        rintro e w6 ⟨rfl, hm⟩
        have HM6 := Lib.hid (HM5.out.then hm)
        clear hm
        go_wp2
        go_ret
        exact ⟨_, _, rfl, HF.out, HM6.out⟩
  · have hq2 : hitB s k2 61 = false := by simpa using hq
    rw [if_neg hq, hq2] at HP
    have HF := Lib.hid (HV.out ByteArray.empty k2 (by rw [if_neg (hitB_no.1 hq2)]; exact ⟨rfl, rfl⟩))
    clear hq hq2
    go_wp2_with fail
    refine HP.out.mono ?_
    rintro e w2 ⟨rfl, hm⟩
    have HM2 := Lib.hid (HM.out.then hm)
    clear hm
    go_wp2
    go_ret
    exact ⟨_, _, rfl, HF.out, HM2.out⟩
end
end Go.Proofs.YtkfaenhidjekdaaDoor.T
