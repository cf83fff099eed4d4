/-
  Layer 11 (lexer) in plain functions on lists of bytes: where a tag or a remark begins; three bytes tell it.
-/
import Derived.Test.YtceelfomgcbkiaaGreatDoorTPlainZ
import Derived.Test.YtceelfomgcbkiaaGreatDoorGR1Z
namespace Go.Proofs.YtceelfomgcbkiaaGreatDoor
open Go.RowKit T

/-- Does a remark begin here? -/
def rb (l : List UInt8) : Bool := decide (l[0]? = some 60) && (decide (l[1]? = some 33) || decide (l[1]? = some 63) || (decide (l[1]? = some 47) && (decide (l[2]? = some 62) || R.ntL l)))
/-- Does a tag or a remark begin here? -/
def mk (l : List UInt8) : Bool := begins l || rb l
theorem mk_three (l : List UInt8) : mk (l.take 3) = mk l := by
  have h0 : (l.take 3)[0]? = l[0]? := by rw [List.getElem?_take]; rfl
  have h1 : (l.take 3)[1]? = l[1]? := by rw [List.getElem?_take]; rfl
  have h2 : (l.take 3)[2]? = l[2]? := by rw [List.getElem?_take]; rfl
  have hf : fromB (l.take 3) = fromB l := by unfold fromB; rw [h1]
  have hb : begins (l.take 3) = begins l := by
    have hg : (l.take 3)[fromB l]? = l[fromB l]? := by
      unfold fromB
      split
      · exact h2
      · exact h1
    unfold begins
    rw [h0, hf, hg]
  have hn : R.ntL (l.take 3) = R.ntL l := by unfold R.ntL; rw [h2]
  unfold mk rb
  rw [hb, hn, h0, h1, h2]
theorem rdT_pos (l : List UInt8) : 0 < (rdT l).n ↔ begins l = true := by
  unfold rdT
  by_cases hb : begins l = true
  · rw [if_pos hb]
    have hl : l ≠ [] := fun e => by subst e; simp [begins] at hb
    have hlen : 0 < l.length := List.length_pos_iff.2 hl
    have hne : nmE l ≤ l.length := run_le _ _ _ (by
      unfold begins at hb
      unfold fromB at hb ⊢
      simp only [Bool.and_eq_true, decide_eq_true_eq] at hb
      split at hb
      · rename_i c hc
        exact Nat.le_of_lt (List.getElem?_eq_some_iff.1 hc).1
      · simp at hb)
    constructor
    · intro _; exact hb
    · intro _
      split
      · exact hlen
      · rename_i as0 sf n e
        have := (tg_bd hne e).1
        split <;> (show 0 < n; omega)
  · rw [if_neg hb]
    simp [hb]
/-- The first place, from k on, at which one begins; the end without one. -/
def pln : List UInt8 → Nat
  | [] => 0
  | a :: r => if mk (a :: r) = true then 0 else 1 + pln r
theorem pln_le : ∀ l, pln l ≤ l.length
  | [] => Nat.le_refl _
  | a :: r => by
    unfold pln
    split
    · exact Nat.zero_le _
    · have := pln_le r; simp; omega
theorem mk_head {l : List UInt8} (h : mk l = true) : l[0]? = some 60 := by
  unfold mk begins rb at h
  simp only [Bool.or_eq_true, Bool.and_eq_true, decide_eq_true_eq] at h
  rcases h with h | h
  · exact h.1
  · exact h.1
theorem pln_zero {l : List UInt8} : pln l = 0 ↔ l = [] ∨ mk l = true := by
  cases l with
  | nil => simp [pln]
  | cons a r =>
    unfold pln
    split
    · rename_i h; simp [h]
    · rename_i h; simp [h]
theorem pre2 (a b : UInt8) (l : List UInt8) : R.pre [a, b] l = (decide (l[0]? = some a) && decide (l[1]? = some b)) := by
  rw [Bool.eq_iff_iff]
  match l with
  | [] => simp
  | [x] => simp [List.isPrefixOf]
  | x :: y :: r =>
    simp only [List.isPrefixOf, Bool.and_eq_true, beq_iff_eq, decide_eq_true_eq, List.getElem?_cons_zero, List.getElem?_cons_succ, Option.some.injEq, and_true]
    exact ⟨fun h => ⟨h.1.symm, h.2.symm⟩, fun h => ⟨h.1.symm, h.2.symm⟩⟩
theorem pre3 (a b c : UInt8) (l : List UInt8) : R.pre [a, b, c] l = (decide (l[0]? = some a) && decide (l[1]? = some b) && decide (l[2]? = some c)) := by
  rw [Bool.eq_iff_iff]
  match l with
  | [] => simp
  | [x] => simp [List.isPrefixOf]
  | [x, y] => simp [List.isPrefixOf]
  | x :: y :: z :: r =>
    simp only [List.isPrefixOf, Bool.and_eq_true, beq_iff_eq, decide_eq_true_eq, List.getElem?_cons_zero, List.getElem?_cons_succ, Option.some.injEq, and_true]
    exact ⟨fun h => ⟨⟨h.1.symm, h.2.1.symm⟩, h.2.2.symm⟩, fun h => ⟨h.1.1.symm, h.1.2.symm, h.2.symm⟩⟩
theorem pre_more {a b : UInt8} {p l : List UInt8} (h : R.pre (a :: b :: p) l = true) : l[0]? = some a ∧ l[1]? = some b := by
  match l with
  | [] => simp [R.pre] at h
  | [x] => simp [R.pre] at h
  | x :: y :: r => simp [R.pre] at h; simp [h.1, h.2.1]
theorem low_is {c : UInt8} {n : UInt8} (hn : n.toNat < 65) (h : I.lowB c = n) : c = n := by
  unfold I.lowB at h
  split at h
  · rename_i hc
    exfalso
    have h2 := congrArg UInt8.toNat h
    have h3 : (c + 32).toNat = c.toNat + 32 := by rw [UInt8.toNat_add]; show (c.toNat + 32) % 256 = _; omega
    omega
  · exact h
theorem dt_head {l : List UInt8} (h : R.dtB l = true) : l[0]? = some 60 ∧ l[1]? = some 33 := by
  unfold R.dtB at h
  rw [Bool.and_eq_true] at h
  have h2 := h.2
  match l with
  | [] => simp [I.lowL, R.pDoc] at h2
  | [x] => simp [I.lowL, R.pDoc] at h2
  | x :: y :: r =>
    simp [I.lowL, R.pDoc] at h2
    simp [low_is (n := 60) (by decide) h2.1, low_is (n := 33) (by decide) h2.2.1]
theorem rem_pos (l : List UInt8) (f : Bool) : 0 < (R.rem l f).n ↔ rb l = true := by
  have hb33 : l[0]? = some 60 ∧ l[1]? = some 33 → rb l = true ∧ 0 < l.length := fun h => ⟨by simp [rb, h.1, h.2], (List.getElem?_eq_some_iff.1 h.1).1⟩
  unfold R.rem
  split
  · rename_i h
    exact ⟨fun _ => (hb33 (pre_more h)).1, fun _ => by show 0 < 4 + _; omega⟩
  · split
    · rename_i h
      have h2 := hb33 (dt_head h)
      exact ⟨fun _ => h2.1, fun _ => by show 0 < min _ _; omega⟩
    · split
      · rename_i h
        rw [Bool.and_eq_true] at h
        have h2 := hb33 (pre_more h.2)
        refine ⟨fun _ => h2.1, fun _ => ?_⟩
        unfold R.sec
        split
        · show 0 < min _ _; omega
        · show 0 < min _ _; omega
      · split
        · rename_i h
          have h2 := hb33 (pre_more h)
          exact ⟨fun _ => h2.1, fun _ => by show 0 < min _ _; omega⟩
        · rename_i h33
          rw [pre2] at h33
          split
          · rename_i h
            have h2 := pre_more h
            have h3 := (List.getElem?_eq_some_iff.1 h2.1).1
            exact ⟨fun _ => by simp [rb, h2.1, h2.2], fun _ => by show 0 < min _ _; omega⟩
          · rename_i h63
            rw [pre2] at h63
            split
            · rename_i h
              rw [pre3] at h
              simp only [Bool.and_eq_true, decide_eq_true_eq] at h
              exact ⟨fun _ => by simp [rb, h.1.1, h.1.2, h.2], fun _ => by show 0 < 3; omega⟩
            · rename_i h62
              rw [pre3] at h62
              split
              · rename_i h
                rw [Bool.and_eq_true] at h
                have h2 := pre_more h.1
                have h3 := (List.getElem?_eq_some_iff.1 h2.1).1
                exact ⟨fun _ => by simp [rb, h2.1, h2.2, h.2], fun _ => by show 0 < min _ _; omega⟩
              · rename_i h47
                rw [pre2] at h47
                constructor
                · intro h; exact absurd h (Nat.lt_irrefl 0)
                · intro h
                  exfalso
                  unfold rb at h
                  simp only [Bool.and_eq_true, Bool.or_eq_true, decide_eq_true_eq] at h h33 h63 h62 h47
                  obtain ⟨h0, (h1 | h1) | ⟨h1, h2 | h2⟩⟩ := h
                  · exact h33 ⟨h0, h1⟩
                  · exact h63 ⟨h0, h1⟩
                  · exact h62 ⟨⟨h0, h1⟩, h2⟩
                  · exact h47 ⟨⟨h0, h1⟩, h2⟩
end Go.Proofs.YtceelfomgcbkiaaGreatDoor
