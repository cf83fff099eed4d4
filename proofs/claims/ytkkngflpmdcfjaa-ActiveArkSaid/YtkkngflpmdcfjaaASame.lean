/-
  The walks of Same (with slices.Equal), of the document's own, and of what statements ask of a list of attributes.
-/
import Derived.Test.YtkkngflpmdcfjaaAMem
import Derived.Deep.QuietTactic
import Derived.BigQuiet
namespace Go.Proofs.Ytkkngflpmdcfjaa.A
open Go.RowKit

/-- The model's == of two attributes. -/
theorem run_eqA (x y : At) (w : World) : (binOp .eql 115 (atV x) (atV y)).run Try.prog w = .ok (.bool (eqA x y)) w := by
  have u9 := Try.underlying9
  have hS : Try.prog.underlying 115 = some (.struct (Try.prog.fieldsOf 115)) := by kernel_rfl
  have hp : Try.prog.stoodInHeld 115 = false := by kernel_rfl
  unfold atV eqA eqS
  rw [run_eql_struct, show (10000 : Nat) = 9999 + 1 from rfl, run_equalIn_agg w 9999 115 _ _ hS hp]
  simp only [Program.fieldsOf, Try.underlying115]
  go_simp
  by_cases h1 : x.1.toList = y.1.toList <;> by_cases h2 : x.2.toList = y.2.toList <;> simp [h1, h2]
theorem run_neA (x y : At) (w : World) : (binOp .neq 115 (atV x) (atV y)).run Try.prog w = .ok (.bool (!eqA x y)) w := by
  have u9 := Try.underlying9
  have hS : Try.prog.underlying 115 = some (.struct (Try.prog.fieldsOf 115)) := by kernel_rfl
  have hp : Try.prog.stoodInHeld 115 = false := by kernel_rfl
  unfold atV eqA eqS
  rw [run_neq_struct, show (10000 : Nat) = 9999 + 1 from rfl, run_equalIn_agg w 9999 115 _ _ hS hp]
  simp only [Program.fieldsOf, Try.underlying115]
  go_simp
  by_cases h1 : x.1.toList = y.1.toList <;> by_cases h2 : x.2.toList = y.2.toList <;> simp [h1, h2]
theorem guardA : Try.prog.eqGuardType Try.prog.depth 115 = false := by kernel_rfl

set_option maxHeartbeats 1600000 in
theorem rsame_any (a a' : Option Addr) (cap cap' : Nat) (l m : List At) (w : World) (_hl : l.length ≤ 1000000) (_hm : m.length ≤ 1000000) (hA : AttrsAt w a l) (hM : AttrsAt w a' m) :
    Calls Try.prog 140 #[.slice a l.length cap, .slice a' m.length cap'] w fun e w' => e = .returned (.bool (sameB l m)) ∧ Below w.heap.size w w' := by
  have HA := Lib.hid hA
  have HM := Lib.hid hM
  clear hA hM
  by_cases hne : l.length = m.length
  · have HL := Lib.hid hne
    have h1 : ((l.length : Int) == (m.length : Int)) = true := by simp [hne]
    have h2 : ((l.length : Int) != (m.length : Int)) = false := by simp [hne]
    clear hne
    go_enter Try.func140, Try.ntmps140
    go_wp2
    go_loopw [5] (fun i wr => ∃ k : Nat, k ≤ l.length ∧ i = .int .i64 k ∧ sameB l m = sameB (l.drop k) (m.drop k) ∧ Below w.heap.size w wr) (fun i _ => l.length - (intOf i).toNat)
    case atStart => exact ⟨0, Nat.zero_le _, rfl, rfl, Below.refl _ _⟩
    case round =>
      obtain ⟨k, hk, rfl, hh, hbel⟩ := hrel
      have HH := Lib.hid hh
      have HB := Lib.hid hbel
      clear hh hbel
      by_cases hlt : k < l.length
      · have hlt' : k < m.length := by have := HL.out; omega
        obtain ⟨b, off, rfl, hbk, hcl⟩ := HA.out (fun e => by rw [e] at hlt; simp at hlt)
        obtain ⟨b', off', rfl, hbk', hcl'⟩ := HM.out (fun e => by rw [e] at hlt'; simp at hlt')
        have hck1 : wr.cell? ⟨b, off + k * 2, none⟩ = some (.string l[k].1) := (HB.out.cell (p := ⟨b, off + k * 2, none⟩) hbk).trans (hcl k hlt).1
        have hck2 : wr.cell? ⟨b, off + k * 2 + 1, none⟩ = some (.string l[k].2) := (HB.out.cell (p := ⟨b, off + k * 2 + 1, none⟩) hbk).trans (hcl k hlt).2
        have hck3 : wr.cell? ⟨b', off' + k * 2, none⟩ = some (.string m[k].1) := (HB.out.cell (p := ⟨b', off' + k * 2, none⟩) hbk').trans (hcl' k hlt').1
        have hck4 : wr.cell? ⟨b', off' + k * 2 + 1, none⟩ = some (.string m[k].2) := (HB.out.cell (p := ⟨b', off' + k * 2 + 1, none⟩) hbk').trans (hcl' k hlt').2
        have HD := Lib.hid (sameB_drop l m k hlt hlt')
        clear hcl hcl'
        have hi1 : (0 : Int) ≤ (k : Int) := by omega
        have hi2 : (k : Int) < (l.length : Int) := by omega
        have hi3 : (k : Int) < (m.length : Int) := by omega
        generalize l[k] = x at *
        generalize m[k] = y at *
        have hrun := fun w' => run_neA x y w'
        unfold atV at hrun
        have hg := guardA
        by_cases hq : eqA x y = true
        · have HF : Hid (sameB l m = sameB (l.drop (k + 1)) (m.drop (k + 1))) := Lib.hid (by rw [HH.out, HD.out, hq, Bool.true_and])
          rw [hq] at hrun
          clear hq
          go_wp2
          go_quiet (fail)
          go_wp2
          go_roundw
          case rel => exact ⟨k + 1, by omega, by go_num, HF.out, by first | exact HB.out | exact ⟨HB.out.os, HB.out.tape, HB.out.output, HB.out.size, HB.out.block⟩⟩
          case measure => simp [intOf]; omega
        · have hq2 : eqA x y = false := by simpa using hq
          have HF : Hid (false = sameB l m) := Lib.hid (by rw [HH.out, HD.out, hq2, Bool.false_and])
          rw [hq2] at hrun
          clear hq hq2
          go_wp2
          go_quiet (fail)
          go_wp2
          go_ret
          exact ⟨ret_bool HF.out, by first | exact HB.out | exact ⟨HB.out.os, HB.out.tape, HB.out.output, HB.out.size, HB.out.block⟩⟩
      · have HF : Hid (true = sameB l m) := Lib.hid (by
          have := HL.out
          rw [HH.out, List.drop_eq_nil_of_le (by omega), List.drop_eq_nil_of_le (by omega)]; rfl)
        go_wp2
        go_ret
        exact ⟨ret_bool HF.out, HB.out⟩
  · have HF : Hid (false = sameB l m) := Lib.hid (sameB_len hne).symm
    have h1 : ((l.length : Int) == (m.length : Int)) = false := by simp; omega
    have h2 : ((l.length : Int) != (m.length : Int)) = true := by simp; omega
    clear hne
    go_enter Try.func140, Try.ntmps140
    go_wp2
    go_ret
    exact ⟨ret_bool HF.out, Below.refl _ _⟩
set_option maxHeartbeats 1600000 in
theorem equal_any (a a' : Option Addr) (cap cap' : Nat) (l m : List At) (w : World) (_hl : l.length ≤ 1000000) (_hm : m.length ≤ 1000000) (hA : AttrsAt w a l) (hM : AttrsAt w a' m) :
    Calls Try.prog 139 #[.slice a l.length cap, .slice a' m.length cap'] w fun e w' => e = .returned (.bool (sameB l m)) ∧ Below w.heap.size w w' := by
  have HA := Lib.hid hA
  have HM := Lib.hid hM
  clear hA hM
  by_cases hne : l.length = m.length
  · have HL := Lib.hid hne
    have h1 : ((l.length : Int) == (m.length : Int)) = true := by simp [hne]
    have h2 : ((l.length : Int) != (m.length : Int)) = false := by simp [hne]
    clear hne
    go_enter Try.func139, Try.ntmps139
    go_wp2
    go_loopw [13] (fun i wr => ∃ k : Nat, k ≤ l.length ∧ i = .int .i64 k ∧ sameB l m = sameB (l.drop k) (m.drop k) ∧ Below w.heap.size w wr) (fun i _ => l.length - (intOf i).toNat)
    case atStart => exact ⟨0, Nat.zero_le _, rfl, rfl, Below.refl _ _⟩
    case round =>
      obtain ⟨k, hk, rfl, hh, hbel⟩ := hrel
      have HH := Lib.hid hh
      have HB := Lib.hid hbel
      clear hh hbel
      by_cases hlt : k < l.length
      · have hlt' : k < m.length := by have := HL.out; omega
        obtain ⟨b, off, rfl, hbk, hcl⟩ := HA.out (fun e => by rw [e] at hlt; simp at hlt)
        obtain ⟨b', off', rfl, hbk', hcl'⟩ := HM.out (fun e => by rw [e] at hlt'; simp at hlt')
        have hck1 : wr.cell? ⟨b, off + k * 2, none⟩ = some (.string l[k].1) := (HB.out.cell (p := ⟨b, off + k * 2, none⟩) hbk).trans (hcl k hlt).1
        have hck2 : wr.cell? ⟨b, off + k * 2 + 1, none⟩ = some (.string l[k].2) := (HB.out.cell (p := ⟨b, off + k * 2 + 1, none⟩) hbk).trans (hcl k hlt).2
        have hck3 : wr.cell? ⟨b', off' + k * 2, none⟩ = some (.string m[k].1) := (HB.out.cell (p := ⟨b', off' + k * 2, none⟩) hbk').trans (hcl' k hlt').1
        have hck4 : wr.cell? ⟨b', off' + k * 2 + 1, none⟩ = some (.string m[k].2) := (HB.out.cell (p := ⟨b', off' + k * 2 + 1, none⟩) hbk').trans (hcl' k hlt').2
        have HD := Lib.hid (sameB_drop l m k hlt hlt')
        clear hcl hcl'
        have hi1 : (0 : Int) ≤ (k : Int) := by omega
        have hi2 : (k : Int) < (l.length : Int) := by omega
        have hi3 : (k : Int) < (m.length : Int) := by omega
        generalize l[k] = x at *
        generalize m[k] = y at *
        have hrun := fun w' => run_neA x y w'
        unfold atV at hrun
        have hg := guardA
        by_cases hq : eqA x y = true
        · have HF : Hid (sameB l m = sameB (l.drop (k + 1)) (m.drop (k + 1))) := Lib.hid (by rw [HH.out, HD.out, hq, Bool.true_and])
          rw [hq] at hrun
          clear hq
          go_wp2
          go_quiet (fail)
          go_wp2
          go_roundw
          case rel => exact ⟨k + 1, by omega, by go_num, HF.out, by first | exact HB.out | exact ⟨HB.out.os, HB.out.tape, HB.out.output, HB.out.size, HB.out.block⟩⟩
          case measure => simp [intOf]; omega
        · have hq2 : eqA x y = false := by simpa using hq
          have HF : Hid (false = sameB l m) := Lib.hid (by rw [HH.out, HD.out, hq2, Bool.false_and])
          rw [hq2] at hrun
          clear hq hq2
          go_wp2
          go_quiet (fail)
          go_wp2
          go_ret
          exact ⟨ret_bool HF.out, by first | exact HB.out | exact ⟨HB.out.os, HB.out.tape, HB.out.output, HB.out.size, HB.out.block⟩⟩
      · have HF : Hid (true = sameB l m) := Lib.hid (by
          have := HL.out
          rw [HH.out, List.drop_eq_nil_of_le (by omega), List.drop_eq_nil_of_le (by omega)]; rfl)
        go_wp2
        go_ret
        exact ⟨ret_bool HF.out, HB.out⟩
  · have HF : Hid (false = sameB l m) := Lib.hid (sameB_len hne).symm
    have h1 : ((l.length : Int) == (m.length : Int)) = false := by simp; omega
    have h2 : ((l.length : Int) != (m.length : Int)) = true := by simp; omega
    clear hne
    go_enter Try.func139, Try.ntmps139
    go_wp2
    go_ret
    exact ⟨ret_bool HF.out, Below.refl _ _⟩

theorem fewA_few {l : List At} (h : l.length ≤ 14) : fewA l = restA l 0 := by
  unfold fewA restA; rw [decide_eq_true h, Bool.true_and, List.drop_zero]
set_option maxHeartbeats 1600000 in
theorem few_any (a : Option Addr) (cap : Nat) (l : List At) (w : World) (_hl : l.length ≤ 9223372036854775807) (hA : AttrsAt w a l) :
    Calls Try.prog 128 #[.slice a l.length cap] w fun e w' => e = .returned (.bool (fewA l)) ∧ Below w.heap.size w w' := by
  have HA := Lib.hid hA
  clear hA
  by_cases hgt : 14 < l.length
  · have HF : Hid (false = fewA l) := Lib.hid (by unfold fewA; rw [decide_eq_false (by omega)]; rfl)
    go_enter Try.func128, Try.ntmps128
    go_wp2
    go_ret
    exact ⟨ret_bool HF.out, Below.refl _ _⟩
  · have HF0 : Hid (fewA l = restA l 0) := Lib.hid (fewA_few (by omega))
    go_enter Try.func128, Try.ntmps128
    go_wp2
    go_loopw [10] (fun i wr => ∃ k : Nat, k ≤ l.length ∧ i = .int .i64 k ∧ fewA l = restA l k ∧ Below w.heap.size w wr) (fun i _ => l.length - (intOf i).toNat)
    case atStart => exact ⟨0, Nat.zero_le _, rfl, HF0.out, Below.refl _ _⟩
    case round =>
      obtain ⟨k, hk, rfl, hh, hbel⟩ := hrel
      have HH := Lib.hid hh
      have HB := Lib.hid hbel
      clear hh hbel
      by_cases hlt : k < l.length
      · obtain ⟨b, off, rfl, hbk, hcl⟩ := HA.out (fun e => by rw [e] at hlt; simp at hlt)
        have hck1 : wr.cell? ⟨b, off + k * 2, none⟩ = some (.string l[k].1) := (HB.out.cell (p := ⟨b, off + k * 2, none⟩) hbk).trans (hcl k hlt).1
        have hck2 : wr.cell? ⟨b, off + k * 2 + 1, none⟩ = some (.string l[k].2) := (HB.out.cell (p := ⟨b, off + k * 2 + 1, none⟩) hbk).trans (hcl k hlt).2
        have HD := Lib.hid (restA_at l k hlt)
        clear hcl
        generalize l[k] = x at *
        by_cases hq : 40 < x.1.size
        · have HF : Hid (false = fewA l) := Lib.hid (by rw [HH.out, HD.out, decide_eq_false (by omega)]; rfl)
          go_wp2
          go_ret
          exact ⟨ret_bool HF.out, HB.out.alloc HB.out.size _⟩
        · by_cases hv : 150 < x.2.size
          · have HF : Hid (false = fewA l) := Lib.hid (by rw [HH.out, HD.out, decide_eq_true (by omega), decide_eq_false (by omega)]; rfl)
            go_wp2
            go_ret
            exact ⟨ret_bool HF.out, HB.out.alloc HB.out.size _⟩
          · have HF : Hid (fewA l = restA l (k + 1)) := Lib.hid (by rw [HH.out, HD.out, decide_eq_true (by omega), decide_eq_true (by omega)]; simp)
            go_wp2
            go_roundw
            case rel => exact ⟨k + 1, by omega, by go_num, HF.out, HB.out.alloc HB.out.size _⟩
            case measure => simp [intOf]; omega
      · have HF : Hid (true = fewA l) := Lib.hid (by rw [HH.out, restA_end l k (by omega)])
        go_wp2
        go_ret
        exact ⟨ret_bool HF.out, HB.out⟩
end Go.Proofs.Ytkkngflpmdcfjaa.A
