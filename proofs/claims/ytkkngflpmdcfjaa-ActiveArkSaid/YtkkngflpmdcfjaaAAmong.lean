/-
  The walks of the document's own Alike.
-/
import Derived.Test.YtkkngflpmdcfjaaASame
namespace Go.Proofs.Ytkkngflpmdcfjaa.A
open Go.RowKit

theorem isIn_drop (m : List At) (x : At) (k : Nat) (h : k < m.length) : isIn (m.drop k) x = (eqA x m[k] || isIn (m.drop (k + 1)) x) := by
  unfold isIn
  rw [List.drop_eq_getElem_cons h, List.any_cons]
theorem amongB_drop (l m : List At) (k : Nat) (h : k < l.length) : amongB (l.drop k) m = (isIn m l[k] && amongB (l.drop (k + 1)) m) := by
  unfold amongB
  rw [List.drop_eq_getElem_cons h, List.all_cons]
theorem drewB {b : Nat} {w wr : World} (h : Below b w wr) (n : Nat) : Below b w (wr.drewN n) := ⟨h.os, h.tape, h.output, h.size, h.block⟩

set_option maxHeartbeats 3200000 in
theorem among_any (a a' : Option Addr) (cap cap' : Nat) (l m : List At) (w : World) (_hl : l.length ≤ 1000000) (_hm : m.length ≤ 1000000) (hA : AttrsAt w a l) (hM : AttrsAt w a' m) :
    Calls Try.prog 169 #[.slice a l.length cap, .slice a' m.length cap'] w fun e w' => e = .returned (.bool (amongB l m)) ∧ Below w.heap.size w w' := by
  have HA := Lib.hid hA
  have HM := Lib.hid hM
  clear hA hM
  go_enter Try.func169, Try.ntmps169
  go_wp2
  go_loopw [5] (fun i wr => ∃ k : Nat, k ≤ l.length ∧ i = .int .i64 k ∧ amongB l m = amongB (l.drop k) m ∧ Below w.heap.size w wr) (fun i _ => l.length - (intOf i).toNat)
  case atStart => exact ⟨0, Nat.zero_le _, rfl, rfl, Below.refl _ _⟩
  case round =>
    obtain ⟨k, hk, rfl, hh, hbel⟩ := hrel
    have HH := Lib.hid hh
    have HB := Lib.hid hbel
    clear hh hbel
    obtain ⟨wo, rfl⟩ : ∃ wo : World, wo = wr := ⟨_, rfl⟩
    by_cases hlt : k < l.length
    · obtain ⟨b, off, rfl, hbk, hcl⟩ := HA.out (fun e => by rw [e] at hlt; simp at hlt)
      have HC1 := Lib.hid (hcl k hlt).1
      have HC2 := Lib.hid (hcl k hlt).2
      have HD := Lib.hid (amongB_drop l m k hlt)
      clear hcl
      generalize l[k] = x at *
      go_wp2
      go_loopw [6, 7] (fun o i wr => ∃ (j : Nat) (ok : Bool), j ≤ m.length ∧ i = .int .i64 j ∧ o = .bool ok ∧ isIn m x = (ok || isIn (m.drop j) x) ∧ Below w.heap.size w wr) (fun _ i _ => m.length - (intOf i).toNat)
      case atStart => exact ⟨0, false, Nat.zero_le _, rfl, rfl, rfl, HB.out⟩
      case round =>
        obtain ⟨j, ok, hj, rfl, rfl, hh, hbel⟩ := hrel
        have HI := Lib.hid hh
        have HB2 := Lib.hid hbel
        clear hh hbel
        by_cases hjt : j < m.length
        · obtain ⟨b', off', rfl, hbk', hcl'⟩ := HM.out (fun e => by rw [e] at hjt; simp at hjt)
          have HE := Lib.hid (isIn_drop m x j hjt)
          have hck1 : wr.cell? ⟨b, off + k * 2, none⟩ = some (.string x.1) := (HB2.out.cell (p := ⟨b, off + k * 2, none⟩) hbk).trans HC1.out
          have hck2 : wr.cell? ⟨b, off + k * 2 + 1, none⟩ = some (.string x.2) := (HB2.out.cell (p := ⟨b, off + k * 2 + 1, none⟩) hbk).trans HC2.out
          have hck3 : wr.cell? ⟨b', off' + j * 2, none⟩ = some (.string m[j].1) := (HB2.out.cell (p := ⟨b', off' + j * 2, none⟩) hbk').trans (hcl' j hjt).1
          have hck4 : wr.cell? ⟨b', off' + j * 2 + 1, none⟩ = some (.string m[j].2) := (HB2.out.cell (p := ⟨b', off' + j * 2 + 1, none⟩) hbk').trans (hcl' j hjt).2
          clear hcl'
          generalize m[j] = y at *
          have hi1 : (0 : Int) ≤ (k : Int) := by omega
          have hi2 : (k : Int) < (l.length : Int) := by omega
          have hi3 : (0 : Int) ≤ (j : Int) := by omega
          have hi4 : (j : Int) < (m.length : Int) := by omega
          have hrun := fun w' => run_eqA x y w'
          unfold atV at hrun
          have hg := guardA
          cases ok with
          | true =>
            have HF : Hid (isIn m x = (true || isIn (m.drop (j + 1)) x)) := Lib.hid (by rw [HI.out, Bool.true_or, Bool.true_or])
            go_wp2
            go_quiet (fail)
            go_wp2
            go_roundw
            case rel => exact ⟨j + 1, true, by omega, by go_num, rfl, HF.out, drewB HB2.out _⟩
            case measure => simp [intOf]; omega
          | false =>
            have HF : Hid (isIn m x = (eqA x y || isIn (m.drop (j + 1)) x)) := Lib.hid (by rw [HI.out, Bool.false_or, HE.out])
            generalize eqA x y = q at *
            go_wp2
            go_quiet (fail)
            go_wp2
            go_roundw
            case rel => exact ⟨j + 1, q, by omega, by go_num, rfl, HF.out, drewB HB2.out _⟩
            case measure => simp [intOf]; omega
        · have HF : Hid (ok = isIn m x) := Lib.hid (by rw [HI.out, List.drop_eq_nil_of_le (by omega)]; simp [isIn])
          cases ok with
          | true =>
            have HG : Hid (amongB l m = amongB (l.drop (k + 1)) m) := Lib.hid (by rw [HH.out, HD.out, ← HF.out, Bool.true_and])
            go_wp2
            go_roundw
            case rel => exact ⟨k + 1, by omega, by go_num, HG.out, HB2.out⟩
            case measure => simp [intOf]; omega
          | false =>
            have HG : Hid (false = amongB l m) := Lib.hid (by rw [HH.out, HD.out, ← HF.out, Bool.false_and])
            go_wp2
            go_ret
            exact ⟨ret_bool HG.out, HB2.out⟩
    · have HF : Hid (true = amongB l m) := Lib.hid (by rw [HH.out, List.drop_eq_nil_of_le (by omega)]; rfl)
      go_wp2
      go_ret
      exact ⟨ret_bool HF.out, HB.out⟩

theorem alikeB_len {l m : List At} (h : l.length ≠ m.length) : alikeB l m = false := by unfold alikeB; rw [decide_eq_false h]; rfl
theorem alikeB_eq {l m : List At} (h : l.length = m.length) : alikeB l m = (amongB l m && amongB m l) := by unfold alikeB; rw [decide_eq_true h, Bool.true_and]
set_option maxHeartbeats 800000 in
theorem ralike_any (a a' : Option Addr) (cap cap' : Nat) (l m : List At) (w : World) (hl : l.length ≤ 1000000) (hm : m.length ≤ 1000000) (hA : AttrsAt w a l) (hM : AttrsAt w a' m) :
    Calls Try.prog 154 #[.slice a l.length cap, .slice a' m.length cap'] w fun e w' => e = .returned (.bool (alikeB l m)) ∧ Below w.heap.size w w' := by
  have H1 := Lib.hid (among_any a a' cap cap' l m w hl hm hA hM)
  have H2 : Hid (∀ W, Below w.heap.size w W → Calls Try.prog 169 #[.slice a' m.length cap', .slice a l.length cap] W fun e w' => e = .returned (.bool (amongB m l)) ∧ Below W.heap.size W w') := Lib.hid (fun W hW => among_any a' a cap' cap m l W hm hl (hM.below hW) (hA.below hW))
  clear hA hM
  by_cases hne : l.length = m.length
  · have HF := Lib.hid (alikeB_eq hne)
    have h1 : ((l.length : Int) == (m.length : Int)) = true := by simp [hne]
    generalize amongB l m = p at *
    generalize amongB m l = q at *
    cases p with
    | true =>
      have HG : Hid (q = alikeB l m) := Lib.hid (by rw [HF.out, Bool.true_and])
      clear hne
      go_enter Try.func154, Try.ntmps154
      go_wp2_with fail
      refine H1.out.mono ?_
      rintro e w1 ⟨rfl, hb⟩
      have HB := Lib.hid hb
      clear hb
      go_wp2_with fail
      refine (H2.out _ HB.out).mono ?_
      rintro e w2 ⟨rfl, hb⟩
      have HB2 := below_step HB hb
      clear hb
      go_wp2
      go_ret
      exact ⟨ret_bool HG.out, HB2.out⟩
    | false =>
      have HG : Hid (false = alikeB l m) := Lib.hid (by rw [HF.out, Bool.false_and])
      clear hne
      go_enter Try.func154, Try.ntmps154
      go_wp2_with fail
      refine H1.out.mono ?_
      rintro e w1 ⟨rfl, hb⟩
      have HB := Lib.hid hb
      clear hb
      go_wp2
      go_ret
      exact ⟨ret_bool HG.out, HB.out⟩
  · have HF : Hid (false = alikeB l m) := Lib.hid (alikeB_len hne).symm
    have h1 : ((l.length : Int) == (m.length : Int)) = false := by simp; omega
    clear hne
    go_enter Try.func154, Try.ntmps154
    go_wp2
    go_ret
    exact ⟨ret_bool HF.out, Below.refl _ _⟩
end Go.Proofs.Ytkkngflpmdcfjaa.A
