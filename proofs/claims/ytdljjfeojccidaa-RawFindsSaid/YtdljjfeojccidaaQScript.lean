/-
  The walk of script: a script is gone through by goto, between three labels.
-/
import Derived.Test.YtdljjfeojccidaaQText
import Derived.Test.YtdljjfeojccidaaQJumps
namespace Go.Proofs.Ytdljjfeojccidaa.Q
open Go.RowKit
open Go.Proofs.Ytdljjfeojccidaa.I (below_step)
open Go.Proofs.Ytdljjfeojccidaa.T (clB closes_any)

theorem scr_0 (s name : ByteArray) (f k : Nat) : scr s name (f + 1) 0 k = if ovB (tl s k) name = true then k else if preB (tl s k) pBeg = true then scr s name f 1 (k + 2) else scr s name f 0 (k + 1) := rfl
theorem scr_1 (s name : ByteArray) (f k : Nat) : scr s name (f + 1) 1 k = if ovB (tl s k) name = true then k else if preB (tl s k) pEnd = true then scr s name f 0 (k + 1) else if opB (tl s k) = true then scr s name f 2 (k + 1) else scr s name f 1 (k + 1) := rfl
theorem scr_2 (s name : ByteArray) (f k : Nat) : scr s name (f + 1) 2 k = if (tl s k).size = 0 then k else if preB (tl s k) pEnd = true then scr s name f 0 (k + 1) else if clB (tl s k) pScr = true then scr s name f 1 (k + 1) else scr s name f 2 (k + 1) := rfl
/-- What holds at a jump. -/
def JS (w : World) (s name : ByteArray) (R : Nat) (g l : Nat) (a : Act) (w' : World) : Prop :=
  ∃ k : Nat, (∃ u2 u3 u4 u6 u7 u8 u9 u10 u11 u12 u13 u14 u15 u16 u17 u18 u19 u20 u21 u22 u23 u24 u25 u26 u27 u28 u29 u30 u31 u32 u33 u34 u35 u36 u37 u38 u39 u40 u41 u42 u43 u44 u45 u46 u47 u48 u49 u50 u51 u52 u53 u54 u55 u56 u57 u58 u59 u60 u61 u62 u63 u64 u65 u66 : Value, a = { tmps := #[.string s, .string name, u2, u3, u4, .int .i64 (k : Nat), u6, u7, u8, u9, u10, u11, u12, u13, u14, u15, u16, u17, u18, u19, u20, u21, u22, u23, u24, u25, u26, u27, u28, u29, u30, u31, u32, u33, u34, u35, u36, u37, u38, u39, u40, u41, u42, u43, u44, u45, u46, u47, u48, u49, u50, u51, u52, u53, u54, u55, u56, u57, u58, u59, u60, u61, u62, u63, u64, u65, u66], defers := [] }) ∧
    k ≤ s.size ∧ s.size - k < g ∧ Below w.heap.size w w' ∧ ((l = 1 ∧ R = scr s name g 0 k) ∨ (l = 0 ∧ R = scr s name g 1 k) ∨ (l = 2 ∧ R = scr s name g 2 k))

set_option maxRecDepth 100000 in
set_option maxHeartbeats 6400000 in
theorem script_any (s name : ByteArray) (w : World) (hs : s.size ≤ 10000) (hn : name.size ≤ 10000) :
    Calls Try.prog 35 #[.string s, .string name] w fun e w' => e = .returned (.int .i64 (scr s name (s.size + 1) 0 0 : Nat)) ∧ Below w.heap.size w w' := by
  obtain ⟨R, hR⟩ : ∃ R, R = scr s name (s.size + 1) 0 0 := ⟨_, rfl⟩
  rw [← hR]
  have HR := Lib.hid hR
  clear hR
  go_enter Try.func35, Try.ntmps35
  go_wp2
  refine wp_scope_many (JS w s name R) ?_ ?_
  · obtain ⟨f, k, hf, hk, hT, hz⟩ : ∃ f k : Nat, s.size - k < f + 1 ∧ k ≤ s.size ∧ R = scr s name (f + 1) 0 k ∧ (0 : Int) = (k : Int) := ⟨s.size, 0, by omega, Nat.zero_le _, HR.out, rfl⟩
    have HB := Lib.hid (Below.refl w.heap.size w)
    have HT := Lib.hid hT
    rw [hz]
    clear hT HR hz
    go_wp2
    refine wp_label ?_
    have hi0 : (0 : Int) ≤ (k : Int) := by omega
    have hi1 : (k : Int) ≤ (s.size : Int) := by omega
    have HO := Lib.hid (fun W => over_any (s.extract k s.size) name W (tl_le hs) hn)
    cases hq : ovB (s.extract k s.size) name with
    | true =>
      have HF : Hid (R = k) := Lib.hid (by rw [HT.out, scr_0, if_pos hq])
      rw [hq] at HO
      clear hq
      go_wp2_with fail
      refine (HO.out _).mono ?_
      rintro e w1 ⟨rfl, hbl⟩
      have HB1 := below_step HB hbl
      clear hbl
      go_wp2
      simp only [Exit.jumps]
      go_ret
      exact ⟨ret_int (by rw [HF.out]), HB1.out⟩
    | false =>
      have hlt : k < s.size := by
        rcases Nat.lt_or_ge k s.size with h2 | h2
        · exact h2
        · rw [ov_end h2] at hq; cases hq
      have HT2 := Lib.hid (HT.out.trans ((scr_0 s name f k).trans (if_neg (by rw [hq]; decide))))
      rw [hq] at HO
      clear hq
      go_wp2_with fail
      refine (HO.out _).mono ?_
      rintro e w1 ⟨rfl, hbl⟩
      have HB1 := below_step HB hbl
      clear hbl
      have HP := Lib.hid (fun W => Try.strings_HasPrefix (s.extract k s.size) ⟨#[60, 33, 45, 45]⟩ W)
      cases hq : preB (s.extract k s.size) pBeg with
      | true =>
        have hr := beg_room hq
        have HF := Lib.hid (HT2.out.trans (if_pos hq))
        rw [preB_has, show preB (s.extract k s.size) ⟨#[60, 33, 45, 45]⟩ = true from hq] at HP
        clear hq
        go_wp2_with (go_at_call 12; refine (HP.out _).mono ?_; rintro e w' ⟨rfl, rfl⟩)
        go_step3
        exact ⟨f, k + 2, ⟨_, _, _, _, _, _, _, _, _, _, _, _, _, _, _, _, _, _, _, _, _, _, _, _, _, _, _, _, _, _, _, _, _, _, _, _, _, _, _, _, _, _, _, _, _, _, _, _, _, _, _, _, _, _, _, _, _, _, _, _, _, _, _, _, rfl⟩, by omega, by omega, HB1.out, .inr (.inl ⟨rfl, HF.out⟩)⟩
      | false =>
        have HF := Lib.hid (HT2.out.trans (if_neg (by rw [hq]; decide)))
        rw [preB_has, show preB (s.extract k s.size) ⟨#[60, 33, 45, 45]⟩ = false from hq] at HP
        clear hq
        go_wp2_with (go_at_call 12; refine (HP.out _).mono ?_; rintro e w' ⟨rfl, rfl⟩)
        go_step3
        exact ⟨f, k + 1, ⟨_, _, _, _, _, _, _, _, _, _, _, _, _, _, _, _, _, _, _, _, _, _, _, _, _, _, _, _, _, _, _, _, _, _, _, _, _, _, _, _, _, _, _, _, _, _, _, _, _, _, _, _, _, _, _, _, _, _, _, _, _, _, _, _, rfl⟩, by omega, by omega, HB1.out, .inl ⟨rfl, HF.out⟩⟩
  · intro g l a w0 hJ
    obtain ⟨k, ⟨u2, u3, u4, u6, u7, u8, u9, u10, u11, u12, u13, u14, u15, u16, u17, u18, u19, u20, u21, u22, u23, u24, u25, u26, u27, u28, u29, u30, u31, u32, u33, u34, u35, u36, u37, u38, u39, u40, u41, u42, u43, u44, u45, u46, u47, u48, u49, u50, u51, u52, u53, u54, u55, u56, u57, u58, u59, u60, u61, u62, u63, u64, u65, u66, rfl⟩, hk, hf, hbel, hc⟩ := hJ
    have HB := Lib.hid hbel
    clear hbel HR
    obtain ⟨f, rfl⟩ : ∃ f, g = f + 1 := ⟨g - 1, by omega⟩
    rcases hc with ⟨rfl, hT⟩ | ⟨rfl, hT⟩ | ⟨rfl, hT⟩
    · refine ⟨_, rfl, ?_⟩
      have HT := Lib.hid hT
      clear hT
      have hi0 : (0 : Int) ≤ (k : Int) := by omega
      have hi1 : (k : Int) ≤ (s.size : Int) := by omega
      have HO := Lib.hid (fun W => over_any (s.extract k s.size) name W (tl_le hs) hn)
      cases hq : ovB (s.extract k s.size) name with
      | true =>
        have HF : Hid (R = k) := Lib.hid (by rw [HT.out, scr_0, if_pos hq])
        rw [hq] at HO
        clear hq
        go_wp2_with fail
        refine (HO.out _).mono ?_
        rintro e w1 ⟨rfl, hbl⟩
        have HB1 := below_step HB hbl
        clear hbl
        go_wp2
        simp only [Exit.jumps]
        go_ret
        exact ⟨ret_int (by rw [HF.out]), HB1.out⟩
      | false =>
        have hlt : k < s.size := by
          rcases Nat.lt_or_ge k s.size with h2 | h2
          · exact h2
          · rw [ov_end h2] at hq; cases hq
        have HT2 := Lib.hid (HT.out.trans ((scr_0 s name f k).trans (if_neg (by rw [hq]; decide))))
        rw [hq] at HO
        clear hq
        go_wp2_with fail
        refine (HO.out _).mono ?_
        rintro e w1 ⟨rfl, hbl⟩
        have HB1 := below_step HB hbl
        clear hbl
        have HP := Lib.hid (fun W => Try.strings_HasPrefix (s.extract k s.size) ⟨#[60, 33, 45, 45]⟩ W)
        cases hq : preB (s.extract k s.size) pBeg with
        | true =>
          have hr := beg_room hq
          have HF := Lib.hid (HT2.out.trans (if_pos hq))
          rw [preB_has, show preB (s.extract k s.size) ⟨#[60, 33, 45, 45]⟩ = true from hq] at HP
          clear hq
          go_wp2_with (go_at_call 12; refine (HP.out _).mono ?_; rintro e w' ⟨rfl, rfl⟩)
          go_step3
          exact ⟨f, by omega, k + 2, ⟨_, _, _, _, _, _, _, _, _, _, _, _, _, _, _, _, _, _, _, _, _, _, _, _, _, _, _, _, _, _, _, _, _, _, _, _, _, _, _, _, _, _, _, _, _, _, _, _, _, _, _, _, _, _, _, _, _, _, _, _, _, _, _, _, rfl⟩, by omega, by omega, HB1.out, .inr (.inl ⟨rfl, HF.out⟩)⟩
        | false =>
          have HF := Lib.hid (HT2.out.trans (if_neg (by rw [hq]; decide)))
          rw [preB_has, show preB (s.extract k s.size) ⟨#[60, 33, 45, 45]⟩ = false from hq] at HP
          clear hq
          go_wp2_with (go_at_call 12; refine (HP.out _).mono ?_; rintro e w' ⟨rfl, rfl⟩)
          go_step3
          exact ⟨f, by omega, k + 1, ⟨_, _, _, _, _, _, _, _, _, _, _, _, _, _, _, _, _, _, _, _, _, _, _, _, _, _, _, _, _, _, _, _, _, _, _, _, _, _, _, _, _, _, _, _, _, _, _, _, _, _, _, _, _, _, _, _, _, _, _, _, _, _, _, _, rfl⟩, by omega, by omega, HB1.out, .inl ⟨rfl, HF.out⟩⟩
    · refine ⟨_, rfl, ?_⟩
      have HT := Lib.hid hT
      clear hT
      have hi0 : (0 : Int) ≤ (k : Int) := by omega
      have hi1 : (k : Int) ≤ (s.size : Int) := by omega
      have HO := Lib.hid (fun W => over_any (s.extract k s.size) name W (tl_le hs) hn)
      cases hq : ovB (s.extract k s.size) name with
      | true =>
        have HF : Hid (R = k) := Lib.hid (by rw [HT.out, scr_1, if_pos hq])
        rw [hq] at HO
        clear hq
        go_wp2_with fail
        refine (HO.out _).mono ?_
        rintro e w1 ⟨rfl, hbl⟩
        have HB1 := below_step HB hbl
        clear hbl
        go_wp2
        simp only [Exit.jumps]
        go_ret
        exact ⟨ret_int (by rw [HF.out]), HB1.out⟩
      | false =>
        have hlt : k < s.size := by
          rcases Nat.lt_or_ge k s.size with h2 | h2
          · exact h2
          · rw [ov_end h2] at hq; cases hq
        have HT2 := Lib.hid (HT.out.trans ((scr_1 s name f k).trans (if_neg (by rw [hq]; decide))))
        rw [hq] at HO
        clear hq
        go_wp2_with fail
        refine (HO.out _).mono ?_
        rintro e w1 ⟨rfl, hbl⟩
        have HB1 := below_step HB hbl
        clear hbl
        have HP := Lib.hid (fun W => Try.strings_HasPrefix (s.extract k s.size) ⟨#[45, 45, 62]⟩ W)
        cases hq : preB (s.extract k s.size) pEnd with
        | true =>
          have HF := Lib.hid (HT2.out.trans (if_pos hq))
          rw [preB_has, show preB (s.extract k s.size) ⟨#[45, 45, 62]⟩ = true from hq] at HP
          clear hq
          go_wp2_with (go_at_call 12; refine (HP.out _).mono ?_; rintro e w' ⟨rfl, rfl⟩)
          go_step3
          exact ⟨f, by omega, k + 1, ⟨_, _, _, _, _, _, _, _, _, _, _, _, _, _, _, _, _, _, _, _, _, _, _, _, _, _, _, _, _, _, _, _, _, _, _, _, _, _, _, _, _, _, _, _, _, _, _, _, _, _, _, _, _, _, _, _, _, _, _, _, _, _, _, _, rfl⟩, by omega, by omega, HB1.out, .inl ⟨rfl, HF.out⟩⟩
        | false =>
          have HT3 := Lib.hid (HT2.out.trans (if_neg (by rw [hq]; decide)))
          rw [preB_has, show preB (s.extract k s.size) ⟨#[45, 45, 62]⟩ = false from hq] at HP
          clear hq
          have HX := Lib.hid (fun W => opens_any (s.extract k s.size) W (tl_le hs))
          cases hq : opB (s.extract k s.size) with
          | true =>
            have HF := Lib.hid (HT3.out.trans (if_pos hq))
            rw [hq] at HX
            clear hq
            go_wp2_with (go_at_call 12; refine (HP.out _).mono ?_; rintro e w' ⟨rfl, rfl⟩)
            refine (HX.out _).mono ?_
            rintro e w2 ⟨rfl, hbl⟩
            have HB2 := below_step HB1 hbl
            clear hbl
            go_wp2
            go_step3
            exact ⟨f, by omega, k + 1, ⟨_, _, _, _, _, _, _, _, _, _, _, _, _, _, _, _, _, _, _, _, _, _, _, _, _, _, _, _, _, _, _, _, _, _, _, _, _, _, _, _, _, _, _, _, _, _, _, _, _, _, _, _, _, _, _, _, _, _, _, _, _, _, _, _, rfl⟩, by omega, by omega, HB2.out, .inr (.inr ⟨rfl, HF.out⟩)⟩
          | false =>
            have HF := Lib.hid (HT3.out.trans (if_neg (by rw [hq]; decide)))
            rw [hq] at HX
            clear hq
            go_wp2_with (go_at_call 12; refine (HP.out _).mono ?_; rintro e w' ⟨rfl, rfl⟩)
            refine (HX.out _).mono ?_
            rintro e w2 ⟨rfl, hbl⟩
            have HB2 := below_step HB1 hbl
            clear hbl
            go_wp2
            go_step3
            exact ⟨f, by omega, k + 1, ⟨_, _, _, _, _, _, _, _, _, _, _, _, _, _, _, _, _, _, _, _, _, _, _, _, _, _, _, _, _, _, _, _, _, _, _, _, _, _, _, _, _, _, _, _, _, _, _, _, _, _, _, _, _, _, _, _, _, _, _, _, _, _, _, _, rfl⟩, by omega, by omega, HB2.out, .inr (.inl ⟨rfl, HF.out⟩)⟩
    · refine ⟨_, rfl, ?_⟩
      have HT := Lib.hid hT
      clear hT
      have hi0 : (0 : Int) ≤ (k : Int) := by omega
      have hi1 : (k : Int) ≤ (s.size : Int) := by omega
      by_cases h0 : (s.extract k s.size).size = 0
      · have HF := Lib.hid (HT.out.trans ((scr_2 s name f k).trans (if_pos h0)))
        obtain ⟨e1, e2⟩ := C.empty_yes h0
        clear h0
        go_wp2
        simp only [Exit.jumps]
        go_ret
        exact ⟨ret_int (by rw [HF.out]), HB.out⟩
      · have HT2 := Lib.hid (HT.out.trans ((scr_2 s name f k).trans (if_neg h0)))
        have hlt : k < s.size := by rw [ByteArray.size_extract] at h0; omega
        obtain ⟨e1, e2⟩ := C.empty_no h0
        clear h0
        have HP := Lib.hid (fun W => Try.strings_HasPrefix (s.extract k s.size) ⟨#[45, 45, 62]⟩ W)
        cases hq : preB (s.extract k s.size) pEnd with
        | true =>
          have HF := Lib.hid (HT2.out.trans (if_pos hq))
          rw [preB_has, show preB (s.extract k s.size) ⟨#[45, 45, 62]⟩ = true from hq] at HP
          clear hq
          go_wp2_with (go_at_call 12; refine (HP.out _).mono ?_; rintro e w' ⟨rfl, rfl⟩)
          go_step3
          exact ⟨f, by omega, k + 1, ⟨_, _, _, _, _, _, _, _, _, _, _, _, _, _, _, _, _, _, _, _, _, _, _, _, _, _, _, _, _, _, _, _, _, _, _, _, _, _, _, _, _, _, _, _, _, _, _, _, _, _, _, _, _, _, _, _, _, _, _, _, _, _, _, _, rfl⟩, by omega, by omega, HB.out, .inl ⟨rfl, HF.out⟩⟩
        | false =>
          have HT3 := Lib.hid (HT2.out.trans (if_neg (by rw [hq]; decide)))
          rw [preB_has, show preB (s.extract k s.size) ⟨#[45, 45, 62]⟩ = false from hq] at HP
          clear hq
          have HX := Lib.hid (fun W => closes_any (s.extract k s.size) ⟨#[115, 99, 114, 105, 112, 116]⟩ W (tl_le hs) (by decide))
          cases hq : clB (s.extract k s.size) pScr with
          | true =>
            have HF := Lib.hid (HT3.out.trans (if_pos hq))
            rw [show clB (s.extract k s.size) ⟨#[115, 99, 114, 105, 112, 116]⟩ = true from hq] at HX
            clear hq
            go_wp2_with (go_at_call 12; refine (HP.out _).mono ?_; rintro e w' ⟨rfl, rfl⟩)
            refine (HX.out _).mono ?_
            rintro e w2 ⟨rfl, hbl⟩
            have HB2 := below_step HB hbl
            clear hbl
            go_wp2
            go_step3
            exact ⟨f, by omega, k + 1, ⟨_, _, _, _, _, _, _, _, _, _, _, _, _, _, _, _, _, _, _, _, _, _, _, _, _, _, _, _, _, _, _, _, _, _, _, _, _, _, _, _, _, _, _, _, _, _, _, _, _, _, _, _, _, _, _, _, _, _, _, _, _, _, _, _, rfl⟩, by omega, by omega, HB2.out, .inr (.inl ⟨rfl, HF.out⟩)⟩
          | false =>
            have HF := Lib.hid (HT3.out.trans (if_neg (by rw [hq]; decide)))
            rw [show clB (s.extract k s.size) ⟨#[115, 99, 114, 105, 112, 116]⟩ = false from hq] at HX
            clear hq
            go_wp2_with (go_at_call 12; refine (HP.out _).mono ?_; rintro e w' ⟨rfl, rfl⟩)
            refine (HX.out _).mono ?_
            rintro e w2 ⟨rfl, hbl⟩
            have HB2 := below_step HB hbl
            clear hbl
            go_wp2
            go_step3
            exact ⟨f, by omega, k + 1, ⟨_, _, _, _, _, _, _, _, _, _, _, _, _, _, _, _, _, _, _, _, _, _, _, _, _, _, _, _, _, _, _, _, _, _, _, _, _, _, _, _, _, _, _, _, _, _, _, _, _, _, _, _, _, _, _, _, _, _, _, _, _, _, _, _, rfl⟩, by omega, by omega, HB2.out, .inr (.inr ⟨rfl, HF.out⟩)⟩
end Go.Proofs.Ytdljjfeojccidaa.Q
