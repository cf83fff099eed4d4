/-
  The walks of unended, comment and readDashes.
-/
import Derived.Test.YtdljjfeojccidaaRTok
import Derived.LoopTactic
namespace Go.Proofs.Ytdljjfeojccidaa.R
open Go.RowKit

theorem bare_3 {m : List UInt8} (h : Lib.hasSuffix m [45, 45, 33] = true) : bare m = Lib.trimSuffix m [45, 45, 33] := by
  unfold bare Lib.trimSuffix; rw [if_pos h, if_pos h]; rfl
theorem bare_2 {m : List UInt8} (h3 : Lib.hasSuffix m [45, 45, 33] = false) (h : Lib.hasSuffix m [45, 45] = true) : bare m = Lib.trimSuffix m [45, 45] := by
  unfold bare Lib.trimSuffix; rw [if_neg (by rw [h3]; decide), if_pos h, if_pos h]; rfl
theorem bare_1 {m : List UInt8} (h3 : Lib.hasSuffix m [45, 45, 33] = false) (h2 : Lib.hasSuffix m [45, 45] = false) (h : Lib.hasSuffix m [45] = true) : bare m = Lib.trimSuffix m [45] := by
  unfold bare Lib.trimSuffix; rw [if_neg (by rw [h3]; decide), if_neg (by rw [h2]; decide), if_pos h, if_pos h]; rfl
theorem bare_0 {m : List UInt8} (h3 : Lib.hasSuffix m [45, 45, 33] = false) (h2 : Lib.hasSuffix m [45, 45] = false) (h : Lib.hasSuffix m [45] = false) : bare m = m := by
  unfold bare; rw [if_neg (by rw [h3]; decide), if_neg (by rw [h2]; decide), if_neg (by rw [h]; decide)]

set_option maxHeartbeats 1600000 in
theorem unended_any (s : ByteArray) (w : World) (hs : s.size ≤ 10000) :
    Calls Try.prog 51 #[.string s] w fun e w' => e = .returned (.string (C.mkB (bare s.data.toList))) ∧ w = w' := by
  have H3 := Lib.hid (fun W => Try.strings_CutSuffix s ⟨#[45, 45, 33]⟩ W (by omega))
  have H2 := Lib.hid (fun W => Try.strings_CutSuffix s ⟨#[45, 45]⟩ W (by omega))
  have H1 := Lib.hid (fun W => Try.strings_CutSuffix s ⟨#[45]⟩ W (by omega))
  have e3 : ((⟨#[45, 45, 33]⟩ : ByteArray).data.toList) = [45, 45, 33] := rfl
  have e2 : ((⟨#[45, 45]⟩ : ByteArray).data.toList) = [45, 45] := rfl
  have e1 : ((⟨#[45]⟩ : ByteArray).data.toList) = [45] := rfl
  rw [e3] at H3
  rw [e2] at H2
  rw [e1] at H1
  have B3 := Lib.hid (bare_3 (m := s.data.toList))
  have B2 := Lib.hid (bare_2 (m := s.data.toList))
  have B1 := Lib.hid (bare_1 (m := s.data.toList))
  have B0 := Lib.hid (bare_0 (m := s.data.toList))
  clear e1 e2 e3
  generalize bare s.data.toList = b at *
  generalize Lib.trimSuffix s.data.toList [45, 45, 33] = t3 at *
  generalize Lib.trimSuffix s.data.toList [45, 45] = t2 at *
  generalize Lib.trimSuffix s.data.toList [45] = t1 at *
  generalize Lib.hasSuffix s.data.toList [45, 45, 33] = q3 at *
  generalize Lib.hasSuffix s.data.toList [45, 45] = q2 at *
  generalize Lib.hasSuffix s.data.toList [45] = q1 at *
  have i0 : ∀ w, (Instr.index 56 (.agg #[.string ⟨#[45, 45, 33]⟩, .string ⟨#[45, 45]⟩, .string ⟨#[45]⟩]) (.int .i64 0)).run Try.prog w = .ok (.string ⟨#[45, 45, 33]⟩) w := fun _ => by kernel_rfl
  have i1 : ∀ w, (Instr.index 56 (.agg #[.string ⟨#[45, 45, 33]⟩, .string ⟨#[45, 45]⟩, .string ⟨#[45]⟩]) (.int .i64 1)).run Try.prog w = .ok (.string ⟨#[45, 45]⟩) w := fun _ => by kernel_rfl
  have i2 : ∀ w, (Instr.index 56 (.agg #[.string ⟨#[45, 45, 33]⟩, .string ⟨#[45, 45]⟩, .string ⟨#[45]⟩]) (.int .i64 2)).run Try.prog w = .ok (.string ⟨#[45]⟩) w := fun _ => by kernel_rfl
  go_enter Try.func51, Try.ntmps51
  go_wp2
  go_loop [8] (fun i => i = .int .i64 0 ∨ (i = .int .i64 1 ∧ q3 = false) ∨ (i = .int .i64 2 ∧ q3 = false ∧ q2 = false) ∨ (i = .int .i64 3 ∧ q3 = false ∧ q2 = false ∧ q1 = false)) (fun i => 3 - (intOf i).toNat)
  case atStart => exact .inl rfl
  case round =>
    rcases hrel with rfl | ⟨rfl, h3⟩ | ⟨rfl, h3, h2⟩ | ⟨rfl, h3, h2, h1⟩
    · cases q3 with
      | true =>
        have HF : Hid (⟨t3.toArray⟩ = C.mkB b) := Lib.hid (by rw [B3.out rfl]; rfl)
        clear B3 B2 B1 B0
        go_wp2_with (go_at_call 60; refine (H3.out _).mono ?_; rintro e w' ⟨rfl, rfl⟩)
        go_ret
        exact ⟨ret_str HF.out, rfl⟩
      | false =>
        go_wp2_with (go_at_call 60; refine (H3.out _).mono ?_; rintro e w' ⟨rfl, rfl⟩)
        go_round
        case rel => exact .inr (.inl ⟨rfl, trivial⟩)
        case measure => simp [intOf]
    · subst h3
      cases q2 with
      | true =>
        have HF : Hid (⟨t2.toArray⟩ = C.mkB b) := Lib.hid (by rw [B2.out rfl rfl]; rfl)
        clear B3 B2 B1 B0
        go_wp2_with (go_at_call 60; refine (H2.out _).mono ?_; rintro e w' ⟨rfl, rfl⟩)
        go_ret
        exact ⟨ret_str HF.out, rfl⟩
      | false =>
        go_wp2_with (go_at_call 60; refine (H2.out _).mono ?_; rintro e w' ⟨rfl, rfl⟩)
        go_round
        case rel => exact .inr (.inr (.inl ⟨rfl, trivial, trivial⟩))
        case measure => simp [intOf]
    · subst h3
      subst h2
      cases q1 with
      | true =>
        have HF : Hid (⟨t1.toArray⟩ = C.mkB b) := Lib.hid (by rw [B1.out rfl rfl rfl]; rfl)
        clear B3 B2 B1 B0
        go_wp2_with (go_at_call 60; refine (H1.out _).mono ?_; rintro e w' ⟨rfl, rfl⟩)
        go_ret
        exact ⟨ret_str HF.out, rfl⟩
      | false =>
        go_wp2_with (go_at_call 60; refine (H1.out _).mono ?_; rintro e w' ⟨rfl, rfl⟩)
        go_round
        case rel => exact .inr (.inr (.inr ⟨rfl, trivial, trivial, trivial⟩))
        case measure => simp [intOf]
    · have HF : Hid (s = C.mkB b) := Lib.hid (by rw [B0.out h3 h2 h1, C.mkB_of])
      clear B3 B2 B1 B0
      go_wp2
      go_ret
      exact ⟨ret_str HF.out, rfl⟩

/-! ### comments: what they are, place by place -/
def pD : List UInt8 := [45, 45]
theorem pre_dd {p l : List UInt8} (hp : pre pD p = true) (h : pre p l = true) : pre pD l = true :=
  List.isPrefixOf_iff_prefix.2 ((List.isPrefixOf_iff_prefix.1 hp).trans (List.isPrefixOf_iff_prefix.1 h))
theorem no_dd {p l : List UInt8} (hp : pre pD p = true) (h : pre pD l = false) : pre p l = false := by
  cases hq : pre p l with
  | false => rfl
  | true => rw [pre_dd hp hq] at h; cases h
theorem ab_not {l : List UInt8} (h : pre pA l = true) : pre pB l = false := by
  cases hq : pre pB l with
  | false => rfl
  | true =>
    obtain ⟨x, hx⟩ := List.isPrefixOf_iff_prefix.1 h
    obtain ⟨y, hy⟩ := List.isPrefixOf_iff_prefix.1 hq
    rw [← hx] at hy
    simp [pA, pB] at hy
/-- Up to place k neither end begins. -/
def noAB (m : List UInt8) (k : Nat) : Prop := ∀ j, j < k → pre pA (m.drop j) = false ∧ pre pB (m.drop j) = false
theorem noAB_to {m : List UInt8} {k : Nat} (h : noAB m k) {q : Nat} (hq : q ≤ k + fnd pD (m.drop k)) : noAB m q := by
  intro j hj
  rcases Nat.lt_or_ge j k with h1 | h1
  · exact h j h1
  · have := fnd_no pD (m.drop k) (j - k) (by omega)
    rw [List.drop_drop, show k + (j - k) = j by omega] at this
    exact ⟨no_dd (by decide) this, no_dd (by decide) this⟩
theorem com_gt {m : List UInt8} (h : pre [62] m = true) : comP m = (ByteArray.empty, 1) := by unfold comP; rw [if_pos h]
theorem com_dg {m : List UInt8} (h0 : pre [62] m = false) (h : pre [45, 62] m = true) : comP m = (ByteArray.empty, 2) := by unfold comP; rw [if_neg (by rw [h0]; decide), if_pos h]
theorem com_none {m : List UInt8} (h0 : pre [62] m = false) (h1 : pre [45, 62] m = false) (h : noAB m m.length) : comP m = (C.mkB (bare m), m.length) := by
  have hA : fnd pA m = m.length := fnd_is _ _ _ (Nat.le_refl _) (fun j hj => (h j hj).1) (.inl rfl)
  have hB : fnd pB m = m.length := fnd_is _ _ _ (Nat.le_refl _) (fun j hj => (h j hj).2) (.inl rfl)
  unfold comP
  rw [if_neg (by rw [h0]; decide), if_neg (by rw [h1]; decide), if_pos ⟨hA, hB⟩]
theorem com_A {m : List UInt8} {k : Nat} (h0 : pre [62] m = false) (h1 : pre [45, 62] m = false) (h : noAB m k) (hk : pre pA (m.drop k) = true) : comP m = (C.mkB (m.take k), k + 3) := by
  have hl := pre_len hk
  rw [List.length_drop] at hl
  have e3 : pA.length = 3 := rfl
  have hA : fnd pA m = k := fnd_is _ _ _ (by omega) (fun j hj => (h j hj).1) (.inr hk)
  have hB : k < fnd pB m := by
    rcases Nat.lt_or_ge k (fnd pB m) with h2 | h2
    · exact h2
    · exfalso
      have h3 := fnd_at pB m (by omega)
      rcases Nat.lt_or_eq_of_le h2 with h4 | h4
      · rw [(h _ h4).2] at h3; cases h3
      · rw [h4, ab_not hk] at h3; cases h3
  unfold comP
  rw [if_neg (by rw [h0]; decide), if_neg (by rw [h1]; decide), if_neg (by rw [hA]; omega), hA, if_pos hB]
theorem com_B {m : List UInt8} {k : Nat} (h0 : pre [62] m = false) (h1 : pre [45, 62] m = false) (h : noAB m k) (hk : pre pB (m.drop k) = true) : comP m = (C.mkB (m.take k), k + 4) := by
  have hl := pre_len hk
  rw [List.length_drop] at hl
  have e3 : pB.length = 4 := rfl
  have hB : fnd pB m = k := fnd_is _ _ _ (by omega) (fun j hj => (h j hj).2) (.inr hk)
  have hA : ¬ fnd pA m < k := by
    intro h2
    have h3 := fnd_at pA m (by omega)
    rw [(h _ h2).1] at h3; cases h3
  unfold comP
  rw [if_neg (by rw [h0]; decide), if_neg (by rw [h1]; decide), if_neg (by rw [hB]; omega), hB, if_neg hA]
theorem mk_take (s : ByteArray) (k : Nat) : C.mkB (s.data.toList.take k) = s.extract 0 k := by
  apply C.eq_of_list
  rw [C.mkB_list, C.ext_list, List.drop_zero]

set_option maxRecDepth 100000 in
set_option maxHeartbeats 3200000 in
theorem comment_any (s : ByteArray) (w : World) (hM : MaxAt w) (hs : s.size ≤ 10000) :
    Calls Try.prog 38 #[.string s] w fun e w' => e = .returned (.tuple #[.string (comP s.data.toList).1, .int .i64 ((comP s.data.toList).2 : Nat)]) ∧ w = w' := by
  obtain ⟨mx, hm⟩ := hM
  have HG := Lib.hid (fun W => Try.strings_HasPrefix s ⟨#[62]⟩ W)
  have HH := Lib.hid (fun W => Try.strings_HasPrefix s ⟨#[45, 62]⟩ W)
  rw [show Lib.hasPrefix s.data.toList (⟨#[62]⟩ : ByteArray).data.toList = pre [62] s.data.toList from rfl] at HG
  rw [show Lib.hasPrefix s.data.toList (⟨#[45, 62]⟩ : ByteArray).data.toList = pre [45, 62] s.data.toList from rfl] at HH
  obtain ⟨cp, hcp⟩ : ∃ cp, cp = comP s.data.toList := ⟨_, rfl⟩
  rw [← hcp]
  have C1 := Lib.hid (fun h => hcp.trans (com_gt (m := s.data.toList) h))
  have C2 := Lib.hid (fun h0 h => hcp.trans (com_dg (m := s.data.toList) h0 h))
  have C3 := Lib.hid (fun h0 h1 h => hcp.trans (com_none (m := s.data.toList) h0 h1 h))
  have C4 := Lib.hid (fun k h0 h1 h hk => hcp.trans (com_A (m := s.data.toList) (k := k) h0 h1 h hk))
  have C5 := Lib.hid (fun k h0 h1 h hk => hcp.trans (com_B (m := s.data.toList) (k := k) h0 h1 h hk))
  have HUn := Lib.hid (fun W => unended_any s W hs)
  have HIx : Hid (∀ k, Calls Try.prog 33 #[.string (s.extract k s.size), .string ⟨#[45, 45]⟩] w fun e w' => e = .returned (.int .i64 (if fnd pD (s.data.toList.drop k) < (s.data.toList.drop k).length then (fnd pD (s.data.toList.drop k) : Int) else -1)) ∧ w' = w) := Lib.hid (fun k => by
    have h := Try.strings_Index (s.extract k s.size) ⟨#[45, 45]⟩ mx w (by rw [ByteArray.size_extract]; omega) hm
    rw [str_tail, show (⟨#[45, 45]⟩ : ByteArray).data.toList = pD from rfl, fnd_index _ _ (by decide)] at h
    exact h)
  have HPA : Hid (∀ k W, Calls Try.prog 12 #[.string (s.extract k s.size), .string ⟨#[45, 45, 62]⟩] W fun e w' => e = .returned (.bool (pre pA (s.data.toList.drop k))) ∧ w' = W) := Lib.hid (fun k W => by
    have h := Try.strings_HasPrefix (s.extract k s.size) ⟨#[45, 45, 62]⟩ W
    rw [str_tail] at h
    exact h)
  have HPB : Hid (∀ k W, Calls Try.prog 12 #[.string (s.extract k s.size), .string ⟨#[45, 45, 33, 62]⟩] W fun e w' => e = .returned (.bool (pre pB (s.data.toList.drop k))) ∧ w' = W) := Lib.hid (fun k W => by
    have h := Try.strings_HasPrefix (s.extract k s.size) ⟨#[45, 45, 33, 62]⟩ W
    rw [str_tail] at h
    exact h)
  have i0 : ∀ w, (Instr.index 47 (.agg #[.string ⟨#[62]⟩, .string ⟨#[45, 62]⟩]) (.int .i64 0)).run Try.prog w = .ok (.string ⟨#[62]⟩) w := fun _ => by kernel_rfl
  have i1 : ∀ w, (Instr.index 47 (.agg #[.string ⟨#[62]⟩, .string ⟨#[45, 62]⟩]) (.int .i64 1)).run Try.prog w = .ok (.string ⟨#[45, 62]⟩) w := fun _ => by kernel_rfl
  have j0 : ∀ w, (Instr.index 47 (.agg #[.string ⟨#[45, 45, 62]⟩, .string ⟨#[45, 45, 33, 62]⟩]) (.int .i64 0)).run Try.prog w = .ok (.string ⟨#[45, 45, 62]⟩) w := fun _ => by kernel_rfl
  have j1 : ∀ w, (Instr.index 47 (.agg #[.string ⟨#[45, 45, 62]⟩, .string ⟨#[45, 45, 33, 62]⟩]) (.int .i64 1)).run Try.prog w = .ok (.string ⟨#[45, 45, 33, 62]⟩) w := fun _ => by kernel_rfl
  clear hm hcp
  have hz : s.size ≤ 10000 := hs
  obtain ⟨c1, c2⟩ := cp
  simp only
  go_enter Try.func38, Try.ntmps38
  go_wp2
  go_loop [11] (fun i => i = .int .i64 0 ∨ (i = .int .i64 1 ∧ pre [62] s.data.toList = false) ∨ (i = .int .i64 2 ∧ pre [62] s.data.toList = false ∧ pre [45, 62] s.data.toList = false)) (fun i => 2 - (intOf i).toNat)
  case atStart => exact .inl rfl
  case round =>
    rcases hrel with rfl | ⟨rfl, h0⟩ | ⟨rfl, h0, h1⟩
    · cases q : pre [62] s.data.toList with
      | true =>
        have HF := Lib.hid (C1.out q)
        rw [q] at HG
        clear q C1 C2 C3 C4 C5
        go_wp2_with (go_at_call 12; refine (HG.out _).mono ?_; rintro e w' ⟨rfl, rfl⟩)
        go_ret2
        exact ⟨by injection HF.out with h1 h2; exact ret_si h1.symm (by rw [h2]; rfl), rfl⟩
      | false =>
        rw [q] at HG
        go_wp2_with (go_at_call 12; refine (HG.out _).mono ?_; rintro e w' ⟨rfl, rfl⟩)
        go_round
        case rel => exact .inr (.inl ⟨rfl, trivial⟩)
        case measure => simp [intOf]
    · cases q : pre [45, 62] s.data.toList with
      | true =>
        have HF := Lib.hid (C2.out h0 q)
        rw [q] at HH
        clear h0 q C1 C2 C3 C4 C5
        go_wp2_with (go_at_call 12; refine (HH.out _).mono ?_; rintro e w' ⟨rfl, rfl⟩)
        go_ret2
        exact ⟨by injection HF.out with h1 h2; exact ret_si h1.symm (by rw [h2]; rfl), rfl⟩
      | false =>
        rw [q] at HH
        go_wp2_with (go_at_call 12; refine (HH.out _).mono ?_; rintro e w' ⟨rfl, rfl⟩)
        go_round
        case rel => exact .inr (.inr ⟨rfl, h0, trivial⟩)
        case measure => simp [intOf]
    · have D3 := Lib.hid (C3.out h0 h1)
      have D4 := Lib.hid (fun k => C4.out k h0 h1)
      have D5 := Lib.hid (fun k => C5.out k h0 h1)
      clear C1 C2 C3 C4 C5 HG HH h0 h1 i0 i1
      go_wp2
      go_loop [6] (fun i => ∃ k : Nat, k ≤ s.size ∧ i = .int .i64 k ∧ noAB s.data.toList k) (fun i => s.size - (intOf i).toNat)
      case atStart => exact ⟨0, Nat.zero_le _, rfl, fun j hj => absurd hj (Nat.not_lt_zero _)⟩
      case round =>
        obtain ⟨k, hk, rfl, hno⟩ := hrel
        have hi0 : (0 : Int) ≤ (k : Int) := by omega
        have hi1 : (k : Int) ≤ (s.size : Int) := by omega
        have hkl : k ≤ s.data.toList.length := by rw [C.size_list]; exact hk
        have HIk := Lib.hid (HIx.out k)
        have hle := fnd_le pD (s.data.toList.drop k)
        have hno2 := fun q hq => noAB_to hno (q := q) hq
        have hro := fnd_room pD (s.data.toList.drop k)
        have epd : pD.length = 2 := rfl
        rw [List.length_drop, C.size_list] at hle hro
        by_cases hlt : fnd pD (s.data.toList.drop k) < (s.data.toList.drop k).length
        · rw [if_pos hlt] at HIk
          rw [List.length_drop, C.size_list] at hlt
          have hr2 := hro hlt
          obtain ⟨q, hq⟩ : ∃ q, q = k + fnd pD (s.data.toList.drop k) := ⟨_, rfl⟩
          have HNo := Lib.hid (hno2 q (by omega))
          generalize fnd pD (s.data.toList.drop k) = n at *
          have eQ : (k : Int) + (n : Int) = (q : Int) := by omega
          have hq0 : (0 : Int) ≤ (q : Int) := by omega
          have hq1 : (q : Int) ≤ (s.size : Int) := by omega
          have hq2 : q + 2 ≤ s.size := by omega
          have hnn : ¬ (n : Int) < 0 := by omega
          have HA := Lib.hid (HPA.out q)
          have HB := Lib.hid (HPB.out q)
          have D4q := Lib.hid (D4.out q HNo.out)
          have D5q := Lib.hid (D5.out q HNo.out)
          have eM : C.mkB (s.data.toList.take q) = s.extract 0 q := mk_take s q
          rw [eM] at D4q D5q
          have HKq : Hid (k ≤ q) := Lib.hid (by omega)
          clear hno hno2 hle hro hr2 hlt hq epd hkl eM D3 D4 D5 HPA HPB HIx
          go_wp2_with (go_at_call 33; refine HIk.out.mono ?_; rintro e w' ⟨rfl, rfl⟩)
          go_loop [36] (fun i => i = .int .i64 0 ∨ (i = .int .i64 1 ∧ pre pA (s.data.toList.drop q) = false) ∨ (i = .int .i64 2 ∧ pre pA (s.data.toList.drop q) = false ∧ pre pB (s.data.toList.drop q) = false)) (fun i => 2 - (intOf i).toNat)
          case atStart => exact .inl rfl
          case round =>
            rcases hrel with rfl | ⟨rfl, h0⟩ | ⟨rfl, h0, h1⟩
            · cases qq : pre pA (s.data.toList.drop q) with
              | true =>
                have HF := Lib.hid (D4q.out qq)
                rw [qq] at HA
                clear qq D4q D5q
                go_wp2_with (go_at_call 12; refine (HA.out _).mono ?_; rintro e w' ⟨rfl, rfl⟩)
                go_ret2
                exact ⟨by injection HF.out with h1 h2; exact ret_si h1.symm (by rw [h2]; rfl), rfl⟩
              | false =>
                rw [qq] at HA
                go_wp2_with (go_at_call 12; refine (HA.out _).mono ?_; rintro e w' ⟨rfl, rfl⟩)
                go_round
                case rel => exact .inr (.inl ⟨rfl, trivial⟩)
                case measure => simp [intOf]
            · cases qq : pre pB (s.data.toList.drop q) with
              | true =>
                have HF := Lib.hid (D5q.out qq)
                rw [qq] at HB
                clear qq h0 D4q D5q
                go_wp2_with (go_at_call 12; refine (HB.out _).mono ?_; rintro e w' ⟨rfl, rfl⟩)
                go_ret2
                exact ⟨by injection HF.out with h1 h2; exact ret_si h1.symm (by rw [h2]; rfl), rfl⟩
              | false =>
                rw [qq] at HB
                go_wp2_with (go_at_call 12; refine (HB.out _).mono ?_; rintro e w' ⟨rfl, rfl⟩)
                go_round
                case rel => exact .inr (.inr ⟨rfl, h0, trivial⟩)
                case measure => simp [intOf]
            · have HN : Hid (noAB s.data.toList (q + 1)) := Lib.hid (fun j hj => by
                rcases Nat.lt_or_eq_of_le (Nat.le_of_lt_succ hj) with h2 | h2
                · exact HNo.out j h2
                · rw [h2]; exact ⟨h0, h1⟩)
              clear h0 h1
              go_wp2
              go_round
              case rel => exact ⟨q + 1, by omega, by go_num, HN.out⟩
              case measure => have := HKq.out; simp [intOf]; omega
        · rw [if_neg hlt] at HIk
          rw [List.length_drop, C.size_list] at hlt
          have HF := Lib.hid (D3.out (by rw [C.size_list]; exact hno2 _ (by omega)))
          clear hno hno2 hle hro hlt epd hkl D3 D4 D5 HPA HPB HIx
          go_wp2_with (first | (go_at_call 33; refine HIk.out.mono ?_; rintro e w' ⟨rfl, rfl⟩) | (go_at_call 51; refine (HUn.out _).mono ?_; rintro e w' ⟨rfl, rfl⟩))
          go_ret2
          exact ⟨by injection HF.out with h1 h2; exact ret_si h1.symm (by rw [h2, C.size_list]), rfl⟩
end Go.Proofs.Ytdljjfeojccidaa.R
