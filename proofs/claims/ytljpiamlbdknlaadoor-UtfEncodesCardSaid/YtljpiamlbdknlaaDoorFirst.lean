/-
  The walk of 'first': the first character of a text, and how many bytes it takes.
-/
import Derived.Test.YtljpiamlbdknlaaDoorBroken
namespace Go.Proofs.YtljpiamlbdknlaaDoor
open Go.RowKit Go.Lib

theorem decodeGo_list (s : ByteArray) (h : 0 < s.size) : Lib.decodeGo s = decodeL s.data.toList := by
  unfold Lib.decodeGo
  rw [if_neg (by omega)]
  have := decodeL_drop s 0
  simpa using this.symm
theorem list_ne (s : ByteArray) (h : 0 < s.size) : s.data.toList ≠ [] := by
  intro e; have := size_list s; rw [e] at this; simp at this; omega
theorem head_at0 {l : List UInt8} (hne : l ≠ []) (x : UInt8) : l.head? = some x ↔ at0 l 0 = x.toNat := by
  cases l with
  | nil => exact absurd rfl hne
  | cons c r => simp [at0, UInt8.toNat_inj]
/-- The number of a character below 128 is its one byte. -/
theorem decode_small (l : List UInt8) : ((decodeL l).1 < 128 ↔ at0 l 0 < 128) ∧ (at0 l 0 < 128 → decodeL l = (at0 l 0, 1)) := by
  rw [decodeL_N]
  have e : (l.getD 0 0).toNat = at0 l 0 := rfl
  rw [e]
  rcases decodeN_shape l.length (at0 l 0) (l.getD 1 0).toNat (l.getD 2 0).toNat (l.getD 3 0).toNat with ⟨c, h⟩ | ⟨c1, c2, c3, cv, h⟩ | ⟨c1, c2, c3, c4, cv, cs, h⟩ | ⟨c1, c2, c3, c4, c5, cv, cw, h⟩ | h
  · rw [h]; exact ⟨Iff.rfl, fun _ => rfl⟩
  · rw [h]; exact ⟨⟨fun q => by (dsimp only at q; omega), fun q => by (exfalso; omega)⟩, fun _ => by omega⟩
  · rw [h]; exact ⟨⟨fun q => by (dsimp only at q; omega), fun q => by (exfalso; omega)⟩, fun _ => by omega⟩
  · rw [h]; exact ⟨⟨fun q => by (dsimp only at q; omega), fun q => by (exfalso; omega)⟩, fun _ => by omega⟩
  · have hlow : ¬ at0 l 0 < 128 := by
      intro hc
      unfold decodeN at h
      rw [if_pos hc] at h
      have := congrArg Prod.fst h
      simp at this; omega
    rw [h]; exact ⟨by simp; omega, fun hc => absurd hc hlow⟩
theorem hasPrefix_line (s : ByteArray) (h : 1 ≤ s.size) : Lib.hasPrefix (s.extract 1 s.size).data.toList [10] = decide (s.data.toList[1]? = some 10) := by
  have e : (s.extract 1 s.size).data.toList = s.data.toList.drop 1 := by
    rw [ByteArray.data_extract, Array.toList_extract, List.extract_eq_take_drop]
    rw [List.take_of_length_le (by simp)]
  rw [e]
  cases hl : s.data.toList with
  | nil => have := size_list s; rw [hl] at this; simp at this; omega
  | cons c r =>
    cases r with
    | nil => simp [Lib.hasPrefix]
    | cons d r => simp [Lib.hasPrefix, List.isPrefixOf]; try exact Bool.beq_comm

def FirstPost (s : ByteArray) (w : World) (e : Ending) (w' : World) : Prop :=
  e = .returned (.tuple #[.int .i32 (runeOf s.data.toList), .int .i64 ((stepL s.data.toList).2 : Nat)]) ∧ Below w.heap.size w w'

set_option maxHeartbeats 2000000 in
theorem first_any (s : ByteArray) (w : World) (hT : Tabs w) (h0 : 0 < s.size) (hs : s.size ≤ maxLen) :
    Calls Tryd.prog 18 #[.string s] w (FirstPost s w) := by
  have hne := list_ne s h0
  have hD := Tryd.utf8_DecodeRuneInString s w hT
  rw [decodeGo_list s h0] at hD
  have hsh := oneL_shape s.data.toList hne
  obtain ⟨sm1, sm2⟩ := decode_small s.data.toList
  have hrl := decodeL_rune s.data.toList
  have hwl := decodeL_le s.data.toList hne
  have hw1 := decodeL_width s.data.toList
  rw [size_list] at hwl
  have hz : s.size ≤ 9223372036854775807 := by unfold maxLen at hs; omega
  rcases hsh with ⟨hgood, hnb⟩ | ⟨hbad, hdec⟩
  · by_cases hc0 : at0 s.data.toList 0 = 0
    · have hd := sm2 (by omega)
      rw [hd, hc0] at hD
      have HR : Hid (runeOf s.data.toList = 65533 ∧ (stepL s.data.toList).2 = 1) := by
        have h1 : s.data.toList.head? = some 0 := (head_at0 hne 0).2 hc0
        rw [hd] at hgood
        unfold runeOf stepL
        rw [if_pos (.inr h1), if_pos (.inr h1), hgood]
        exact ⟨rfl, rfl⟩
      clear hgood hnb hd hc0 sm1 sm2 hrl hwl hw1
      unfold FirstPost
      rw [HR.out.1, HR.out.2]
      clear HR hne
      go_enter Tryd.func18, Tryd.ntmps18
      go_wp2_with (go_at_call 25; refine hD.mono ?_; rintro e w1 ⟨rfl, hb⟩; have HB := Lib.hid hb; clear hb)
      go_ret2
      exact ⟨rfl, HB.out⟩
    · by_cases hc13 : at0 s.data.toList 0 = 13
      · have hd := sm2 (by omega)
        rw [hd, hc13] at hD
        have n1 : s.data.toList.head? ≠ some 0 := fun e => hc0 ((head_at0 hne 0).1 e)
        have n2 : s.data.toList.head? = some 13 := (head_at0 hne 13).2 hc13
        have n3 : ¬ ((oneL s.data.toList).2 = false ∨ s.data.toList.head? = some 0) := by rw [hgood]; simp; simpa using n1
        by_cases hl : s.data.toList[1]? = some 10
        · have HR : Hid (runeOf s.data.toList = 10 ∧ (stepL s.data.toList).2 = 2) := by
            unfold runeOf stepL
            rw [if_neg n3, if_neg n3, if_pos n2, if_pos n2, if_pos hl]
            exact ⟨rfl, rfl⟩
          have hP := Tryd.strings_HasPrefix (s.extract 1 s.size) ⟨#[10]⟩
          have hpe : Lib.hasPrefix (s.extract 1 s.size).data.toList (ByteArray.mk #[10]).data.toList = true := (hasPrefix_line s h0).trans (decide_eq_true hl)
          rw [hpe] at hP
          have HP := Lib.hid hP
          clear hgood hnb hd hc0 hc13 sm1 sm2 hrl hwl hw1 n1 n2 n3 hl hP hpe
          unfold FirstPost
          rw [HR.out.1, HR.out.2]
          clear HR hne
          go_enter Tryd.func18, Tryd.ntmps18
          go_wp2_with (first | (go_at_call 25; refine hD.mono ?_; rintro e w1 ⟨rfl, hb⟩; have HB := Lib.hid hb; clear hb) | (go_at_call 32; refine (HP.out _).mono ?_; rintro e w2 ⟨rfl, rfl⟩))
          go_ret2
          exact ⟨rfl, HB.out⟩
        · have HR : Hid (runeOf s.data.toList = 10 ∧ (stepL s.data.toList).2 = 1) := by
            rw [hd] at hgood
            unfold runeOf stepL
            rw [if_neg n3, if_neg n3, if_pos n2, if_pos n2, if_neg hl, hgood]
            exact ⟨rfl, rfl⟩
          have hP := Tryd.strings_HasPrefix (s.extract 1 s.size) ⟨#[10]⟩
          have hpe : Lib.hasPrefix (s.extract 1 s.size).data.toList (ByteArray.mk #[10]).data.toList = false := (hasPrefix_line s h0).trans (decide_eq_false hl)
          rw [hpe] at hP
          have HP := Lib.hid hP
          clear hgood hnb hd hc0 hc13 sm1 sm2 hrl hwl hw1 n1 n2 n3 hl hP hpe
          unfold FirstPost
          rw [HR.out.1, HR.out.2]
          clear HR hne
          go_enter Tryd.func18, Tryd.ntmps18
          go_wp2_with (first | (go_at_call 25; refine hD.mono ?_; rintro e w1 ⟨rfl, hb⟩; have HB := Lib.hid hb; clear hb) | (go_at_call 32; refine (HP.out _).mono ?_; rintro e w2 ⟨rfl, rfl⟩))
          go_ret2
          exact ⟨rfl, HB.out⟩
      · have n1 : s.data.toList.head? ≠ some 0 := fun e => hc0 ((head_at0 hne 0).1 e)
        have n2 : s.data.toList.head? ≠ some 13 := fun e => hc13 ((head_at0 hne 13).1 e)
        have n3 : ¬ ((oneL s.data.toList).2 = false ∨ s.data.toList.head? = some 0) := by rw [hgood]; simp; simpa using n1
        have HR : Hid (runeOf s.data.toList = ((decodeL s.data.toList).1 : Nat) ∧ (stepL s.data.toList).2 = (decodeL s.data.toList).2) := by
          unfold runeOf stepL
          rw [if_neg n3, if_neg n3, if_neg n2, if_neg n2, hgood]
          exact ⟨rfl, rfl⟩
        have r0 : (decodeL s.data.toList).1 ≠ 0 := fun e => by
          have := sm1.1 (by omega)
          have := congrArg Prod.fst (sm2 this)
          simp only at this; omega
        have r13 : (decodeL s.data.toList).1 ≠ 13 := fun e => by
          have := sm1.1 (by omega)
          have := congrArg Prod.fst (sm2 this)
          simp only at this; omega
        clear hgood hc0 hc13 sm1 sm2 n1 n2 n3
        unfold FirstPost
        rw [HR.out.1, HR.out.2]
        clear HR hne
        generalize (decodeL s.data.toList).1 = R at *
        generalize (decodeL s.data.toList).2 = K at *
        have q0 : (((R : Nat) : Int) == 0) = false := by simp; omega
        have q13 : (((R : Nat) : Int) == 13) = false := by simp; omega
        clear r0 r13
        by_cases hR : R = 65533
        · have qK : (((K : Nat) : Int) == 1) = false := by simp; omega
          have qR : (((R : Nat) : Int) == 65533) = true := by simp; omega
          clear hR hnb
          go_enter Tryd.func18, Tryd.ntmps18
          go_wp2_with (go_at_call 25; refine hD.mono ?_; rintro e w1 ⟨rfl, hb⟩; have HB := Lib.hid hb; clear hb)
          go_ret2
          exact ⟨rfl, HB.out⟩
        · have qR : (((R : Nat) : Int) == 65533) = false := by simp; omega
          clear hR hnb
          go_enter Tryd.func18, Tryd.ntmps18
          go_wp2_with (go_at_call 25; refine hD.mono ?_; rintro e w1 ⟨rfl, hb⟩; have HB := Lib.hid hb; clear hb)
          go_ret2
          exact ⟨rfl, HB.out⟩
  · have HK := Lib.hid (fun (W : World) (hW : Tabs W) => broken_any s W hW h0 hs hbad)
    have HR : Hid (runeOf s.data.toList = 65533 ∧ (stepL s.data.toList).2 = (oneL s.data.toList).1) := by
      unfold runeOf stepL
      rw [if_pos (.inl hbad), if_pos (.inl hbad)]
      exact ⟨rfl, rfl⟩
    rw [hdec] at hD
    unfold FirstPost
    rw [HR.out.1, HR.out.2]
    have HT := Lib.hid hT
    clear HR hne hdec hbad sm1 sm2 hrl hwl hw1 hT
    generalize (oneL s.data.toList).1 = J at *
    go_enter Tryd.func18, Tryd.ntmps18
    go_wp2_with (first | (go_at_call 25; refine hD.mono ?_; rintro e w1 ⟨rfl, hb⟩; have HB := Lib.hid hb; clear hb) | (go_at_call 33; refine (HK.out _ (tabs_below HT.out HB.out (tabs_size HT.out))).mono ?_; rintro e w2 ⟨rfl, hb⟩; replace HB := Lib.hid (HB.out.trans (hb.mono HB.out.size)); clear hb))
    go_ret2
    exact ⟨rfl, HB.out⟩
end Go.Proofs.YtljpiamlbdknlaaDoor
