/-
  What layer 11 (lexer) answers, in plain functions: a token, and what is left; each token but the end takes something, none of text is empty.
-/
import Derived.Test.YtceelfomgcbkiaaGreatDoorLPlainZ
import Derived.Test.YtceelfomgcbkiaaGreatDoorGQZ
import Derived.Test.YtceelfomgcbkiaaGreatDoorGCZ
namespace Go.Proofs.YtceelfomgcbkiaaGreatDoor
open Go.RowKit T
open Go.Proofs.YtceelfomgcbkiaaGreatDoor.A (At)
open Go.Proofs.YtceelfomgcbkiaaGreatDoor.Q (fndR fndR_is)

/-- A token. -/
structure LTok where
  kind : Int
  name : ByteArray
  attrs : List At
  self : Bool
  data : ByteArray
def endL : LTok := ⟨0, ⟨#[]⟩, [], false, ⟨#[]⟩⟩
def txtL (d : ByteArray) : LTok := ⟨3, ⟨#[]⟩, [], false, d⟩
def ofT (t : Tok) : LTok := ⟨t.kind, t.name, t.attrs, t.self, ⟨#[]⟩⟩
def ofR (t : R.Rem) : LTok := ⟨t.kind, t.name, [], false, t.data⟩
/-- The tag or the remark that begins here. -/
def mkT (l : List UInt8) (f : Bool) : LTok := if begins l = true then ofT (rdT l) else ofR (R.rem l f)
def mkN (l : List UInt8) (f : Bool) : Nat := if begins l = true then (rdT l).n else (R.rem l f).n
def mkO (l : List UInt8) (f : Bool) : Bool := if begins l = true then (rdT l).ok else (R.rem l f).ok
theorem mkN_pos (l : List UInt8) (f : Bool) : 0 < mkN l f ↔ mk l = true := by
  unfold mkN mk
  by_cases h : begins l = true
  · rw [if_pos h, h]; exact ⟨fun _ => rfl, fun _ => (rdT_pos l).2 h⟩
  · rw [if_neg h, show begins l = false by simpa using h, Bool.false_or]; exact rem_pos l f
theorem rdT_le (l : List UInt8) : (rdT l).n ≤ l.length := by
  unfold rdT
  by_cases hb : begins l = true
  · rw [if_pos hb]
    have hne : nmE l ≤ l.length := run_le _ _ _ (by
      unfold begins at hb
      unfold fromB at hb ⊢
      simp only [Bool.and_eq_true, decide_eq_true_eq] at hb
      split at hb
      · rename_i c hc
        exact Nat.le_of_lt (List.getElem?_eq_some_iff.1 hc).1
      · simp at hb)
    split
    · exact Nat.le_refl _
    · rename_i as0 sf n e
      have := (tg_bd hne e).2
      split <;> exact this
  · rw [if_neg hb]; exact Nat.zero_le _
theorem rdT_kind (l : List UInt8) : ((rdT l).ok = true → (rdT l).kind = 1 ∨ (rdT l).kind = 2) ∧ ((rdT l).ok = false → ofT (rdT l) = endL) := by
  unfold rdT
  split
  · split
    · exact ⟨fun h => (by cases h), fun _ => rfl⟩
    · split
      · exact ⟨fun _ => .inr rfl, fun h => (by cases h)⟩
      · exact ⟨fun _ => .inl rfl, fun h => (by cases h)⟩
  · exact ⟨fun h => (by cases h), fun _ => rfl⟩
theorem rdT_ok_pos {l : List UInt8} (h : (rdT l).ok = true) : 0 < (rdT l).n := by
  rw [rdT_pos]
  unfold rdT at h
  split at h
  · assumption
  · cases h
theorem mkN_le (l : List UInt8) (f : Bool) : mkN l f ≤ l.length := by
  unfold mkN
  split
  · exact rdT_le l
  · exact R.rem_le l f
theorem rem_kind {l : List UInt8} {f : Bool} (h : (R.rem l f).ok = true) : (R.rem l f).kind ≠ 0 ∧ ((R.rem l f).kind = 3 → (R.rem l f).data.size ≠ 0) := by
  have no : ∀ {k : Int} {d : ByteArray}, (k = 4 ∨ k = 5) → k ≠ 0 ∧ (k = 3 → d.size ≠ 0) := fun hk => ⟨by omega, fun h3 => by omega⟩
  unfold R.rem at h ⊢
  split
  · exact no (.inl rfl)
  · rename_i h1; rw [if_neg h1] at h
    split
    · exact no (.inr rfl)
    · rename_i h2; rw [if_neg h2] at h
      split
      · rename_i h3; rw [if_pos h3] at h
        have h4 : R.pre R.pCd l = true := by rw [Bool.and_eq_true] at h3; exact h3.2
        have h5 : 9 ≤ l.length := R.pre_len h4
        have hb := R.fndF_bd R.pS l 9 h5
        unfold R.sec at h ⊢
        split
        · rename_i h6; rw [if_pos h6] at h; cases h
        · rename_i h6
          refine ⟨show (3 : Int) ≠ 0 by decide, fun _ => ?_⟩
          show (R.cut l 9 (R.fndF R.pS l 9)).size ≠ 0
          unfold R.cut
          rw [C.mkB_size, List.length_drop, List.length_take]
          omega
      · rename_i h3; rw [if_neg h3] at h
        split
        · exact no (.inl rfl)
        · rename_i h4; rw [if_neg h4] at h
          split
          · exact no (.inl rfl)
          · rename_i h5; rw [if_neg h5] at h
            split
            · rename_i h6; rw [if_pos h6] at h; cases h
            · rename_i h6; rw [if_neg h6] at h
              split
              · exact no (.inl rfl)
              · rename_i h7; rw [if_neg h7] at h; cases h
theorem mk_kind {l : List UInt8} {f : Bool} (h : mkO l f = true) : (mkT l f).kind ≠ 0 ∧ ((mkT l f).kind = 3 → (mkT l f).data.size ≠ 0) := by
  unfold mkO at h
  unfold mkT
  split
  · rename_i hb; rw [if_pos hb] at h
    have hk := (rdT_kind l).1 h
    refine ⟨?_, fun h3 => ?_⟩
    · show (rdT l).kind ≠ 0; omega
    · have : (rdT l).kind = 3 := h3
      omega
  · rename_i hb; rw [if_neg hb] at h
    exact rem_kind h
theorem encS_pos (n : Int) : 0 < (C.encS n).size := by
  unfold C.encS
  split
  · unfold Utf8.encode
    dsimp only
    repeat' split
    all_goals simp [ByteArray.size]
  · decide
theorem numB_some {base : Int} {f : Nat} {l : List UInt8} (h : (C.rdNumB base f l).2 ≠ 0) : 0 < (C.rdNumB base f l).1.size := by
  unfold C.rdNumB at h ⊢
  dsimp only at h ⊢
  split
  · rename_i h0; rw [if_pos h0] at h; exact absurd rfl h
  · exact encS_pos _
theorem rdN_some (l : List UInt8) (value : Bool) : ∀ e, (C.rdN l value e).2 ≠ 0 → 0 < (C.rdN l value e).1.size
  | 0, h => absurd rfl h
  | 1, h => absurd rfl h
  | e + 2, h => by
    unfold C.rdN at h ⊢
    split
    · rename_i h0; rw [if_pos h0] at h; exact rdN_some l value (e + 1) h
    · rename_i h0; rw [if_neg h0] at h
      split
      · rename_i h1; rw [if_pos h1] at h; exact absurd rfl h
      · exact encS_pos _
theorem rd_some {l : List UInt8} {value : Bool} (h : (C.rd l value).2 ≠ 0) : 0 < (C.rd l value).1.size := by
  unfold C.rd at h ⊢
  split
  · rename_i h0; rw [if_pos h0] at h
    split
    · rename_i h1; rw [if_pos h1] at h
      unfold C.rdNum at h ⊢
      split
      · rename_i h2; rw [if_pos h2] at h; exact numB_some h
      · rename_i h2; rw [if_neg h2] at h; exact numB_some h
    · rename_i h1; rw [if_neg h1] at h; exact rdN_some _ _ _ h
  · rename_i h0; rw [if_neg h0] at h; exact absurd rfl h
/-- Characters with references replaced are not nothing. -/
theorem dec_ne (value : Bool) {l : List UInt8} (h : l ≠ []) : C.dec value l ≠ [] := by
  cases l with
  | nil => exact absurd rfl h
  | cons c l =>
    by_cases h0 : (C.rd (c :: l) value).2 = 0
    · rw [C.dec_keep value c l h0]; exact fun e => by cases e
    · rw [C.dec_ref value _ h0]
      intro e
      have e1 := (List.append_eq_nil_iff.1 e).1
      have hs : 0 < (C.rd (c :: l) value).1.size := rd_some h0
      rw [← C.size_list, e1] at hs
      exact absurd hs (by decide)
theorem decS_ne (value : Bool) {s : ByteArray} (h : s.size ≠ 0) : (C.decS value s).size ≠ 0 := by
  unfold C.decS
  rw [C.mkB_size]
  intro e
  refine dec_ne value (l := s.data.toList) (fun e2 => h ?_) (List.eq_nil_of_length_eq_zero e)
  rw [← C.size_list, e2]; rfl
/-- Next in the state Data. -/
def nxD (f : Bool) : Nat → ByteArray → LTok × ByteArray
  | 0, _ => (endL, ⟨#[]⟩)
  | k + 1, s =>
    if s.size = 0 then (endL, ⟨#[]⟩)
    else if 0 < pln s.data.toList then (txtL (C.decS false (s.extract 0 (pln s.data.toList))), s.extract (pln s.data.toList) s.size)
    else if mkO s.data.toList f = true then (mkT s.data.toList f, s.extract (mkN s.data.toList f) s.size)
    else nxD f k (s.extract (mkN s.data.toList f) s.size)
/-- Next in another state. -/
def nxT (s last : ByteArray) (st : Int) : LTok × ByteArray :=
  if 0 < fndR s last st then (txtL (if st = 1 then C.decS false (s.extract 0 (fndR s last st)) else s.extract 0 (fndR s last st)), s.extract (fndR s last st) s.size)
  else if (rdT s.data.toList).ok = true then (ofT (rdT s.data.toList), s.extract (rdT s.data.toList).n s.size)
  else (endL, ⟨#[]⟩)
def nxL (s last : ByteArray) (st : Int) (f : Bool) : LTok × ByteArray := if st = 0 then nxD f (s.size + 1) s else nxT s last st
/-- What was said of a token and of what is left. -/
def Whole (s : ByteArray) (r : LTok × ByteArray) : Prop :=
  (∃ k, k ≤ s.size ∧ r.2 = s.extract k s.size) ∧ (r.1.kind = 3 → r.1.data.size ≠ 0) ∧ (r.1.kind = 0 → r.1 = endL ∧ r.2.size = 0) ∧ (r.1.kind ≠ 0 → r.2.size < s.size)
theorem ext_ext (s : ByteArray) {k j : Nat} : (s.extract k s.size).extract j (s.extract k s.size).size = s.extract (k + j) s.size := by
  apply C.eq_of_list
  rw [C.ext_tail, C.ext_tail, C.ext_tail, List.drop_drop]
theorem ext_nil (s : ByteArray) : (⟨#[]⟩ : ByteArray) = s.extract s.size s.size := by
  apply C.eq_of_list
  rw [C.ext_tail, List.drop_eq_nil_of_le (by rw [C.size_list]; exact Nat.le_refl _)]
theorem ext_sz (s : ByteArray) {k : Nat} (hk : k ≤ s.size) : (s.extract k s.size).size = s.size - k := by rw [ByteArray.size_extract]; omega
theorem whole_end (s : ByteArray) : Whole s (endL, ⟨#[]⟩) :=
  ⟨⟨s.size, Nat.le_refl _, ext_nil s⟩, fun h => (by cases h), fun _ => ⟨rfl, rfl⟩, fun h => absurd rfl h⟩
theorem pre_sz (s : ByteArray) {n : Nat} (h0 : 0 < n) (h : n ≤ s.size) : (s.extract 0 n).size ≠ 0 := by rw [ByteArray.size_extract]; omega
theorem whole_txt (s : ByteArray) {n : Nat} {d : ByteArray} (h0 : 0 < n) (h : n ≤ s.size) (hd : d.size ≠ 0) : Whole s (txtL d, s.extract n s.size) :=
  ⟨⟨n, h, rfl⟩, fun _ => hd, fun h2 => absurd h2 (show (3 : Int) ≠ 0 by decide), fun _ => by rw [ext_sz s h]; omega⟩
theorem whole_D (f : Bool) : ∀ (k : Nat) (s : ByteArray), s.size < k → Whole s (nxD f k s)
  | 0, _, h => absurd h (Nat.not_lt_zero _)
  | k + 1, s, h => by
    unfold nxD
    split
    · exact whole_end s
    · rename_i h0
      have hp := pln_le s.data.toList
      rw [C.size_list] at hp
      split
      · rename_i h1
        exact whole_txt s h1 hp (decS_ne false (pre_sz s h1 hp))
      · rename_i h1
        have hm : mk s.data.toList = true := by
          have h2 : pln s.data.toList = 0 := by omega
          rcases pln_zero.1 h2 with h3 | h3
          · exact absurd (by rw [← C.size_list, h3]; rfl) h0
          · exact h3
        have hn := (mkN_pos s.data.toList f).2 hm
        have hl := mkN_le s.data.toList f
        rw [C.size_list] at hl
        split
        · rename_i h2
          obtain ⟨k1, k2⟩ := mk_kind h2
          exact ⟨⟨_, hl, rfl⟩, k2, fun h3 => absurd h3 k1, fun _ => by show (s.extract _ _).size < _; rw [ext_sz s hl]; omega⟩
        · have ih := whole_D f k (s.extract (mkN s.data.toList f) s.size) (by rw [ext_sz s hl]; omega)
          obtain ⟨⟨j, hj, e⟩, h3, h4, h5⟩ := ih
          have hj2 := hj
          rw [ext_sz s hl] at hj2
          exact ⟨⟨mkN s.data.toList f + j, by omega, by rw [e, ext_ext s]⟩, h3, h4, fun h6 => by have := h5 h6; rw [ext_sz s hl] at this; omega⟩
theorem whole_T (s last : ByteArray) (st : Int) : Whole s (nxT s last st) := by
  have hf := (fndR_is s last st).1
  unfold nxT
  split
  · rename_i h
    refine whole_txt s h hf ?_
    split
    · exact decS_ne false (pre_sz s h hf)
    · exact pre_sz s h hf
  · split
    · rename_i h2
      have hk := (rdT_kind s.data.toList).1 h2
      have hp := rdT_ok_pos h2
      have hl := rdT_le s.data.toList
      rw [C.size_list] at hl
      exact ⟨⟨_, hl, rfl⟩, fun h3 => by have h4 : (rdT s.data.toList).kind = 3 := h3; omega, fun h3 => by have h4 : (rdT s.data.toList).kind = 0 := h3; omega, fun _ => by show (s.extract _ _).size < _; rw [ext_sz s hl]; omega⟩
    · exact whole_end s
theorem whole_L (s last : ByteArray) (st : Int) (f : Bool) : Whole s (nxL s last st f) := by
  unfold nxL
  split
  · exact whole_D f _ s (by omega)
  · exact whole_T s last st
end Go.Proofs.YtceelfomgcbkiaaGreatDoor
