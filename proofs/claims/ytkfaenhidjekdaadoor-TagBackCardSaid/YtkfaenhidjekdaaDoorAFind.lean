/-
  The walks of find (with slices.IndexFunc and its closure), of Get, and of the document's own.
-/
import Derived.Test.YtkfaenhidjekdaaDoorAMem
import Derived.Deep.QuietTactic
import Derived.BigQuiet
namespace Go.Proofs.YtkfaenhidjekdaaDoor.A
open Go.RowKit

theorem posI_hit {n : ByteArray} {l : List At} (h : getB n l = true) : posI n l = (pos n l : Int) ∧ pos n l < l.length := by
  have := getB_iff.1 h
  exact ⟨by unfold posI; rw [if_pos this], this⟩
theorem posI_miss {n : ByteArray} {l : List At} (h : getB n l = false) : posI n l = -1 := by
  have : ¬ pos n l < l.length := fun e => by rw [getB_iff.2 e] at h; cases h
  unfold posI; rw [if_neg this]

set_option maxHeartbeats 1600000 in
theorem rget_any (a : Option Addr) (cap : Nat) (l : List At) (n : ByteArray) (w : World) (_hl : l.length ≤ 9223372036854775807) (hA : AttrsAt w a l) :
    Calls Tryd.prog 41 #[.slice a l.length cap, .string n] w fun e w' => e = .returned (.tuple #[.string (getV n l), .bool (getB n l)]) ∧ w = w' := by
  have HA := Lib.hid hA
  clear hA
  go_enter Tryd.func41, Tryd.ntmps41
  go_wp2
  go_loop [6] (fun i => ∃ k : Nat, k ≤ l.length ∧ i = .int .i64 k ∧ ∀ j (h : j < l.length), j < k → l[j].1 ≠ n) (fun i => l.length - (intOf i).toNat)
  case atStart => exact ⟨0, Nat.zero_le _, rfl, fun j _ h => absurd h (by omega)⟩
  case round =>
    obtain ⟨k, hk, rfl, hh⟩ := hrel
    have HH := Lib.hid hh
    clear hh
    by_cases hlt : k < l.length
    · obtain ⟨b, off, rfl, hbk, hcl⟩ := HA.out (fun e => by rw [e] at hlt; simp at hlt)
      obtain ⟨hck1, hck2⟩ := hcl k hlt
      clear hcl
      by_cases hq : l[k].1 = n
      · have hp : pos n l = k := pos_is hlt hq (fun j hj => HH.out j (by omega) hj)
        have HV : Hid (l[k].2 = getV n l) := Lib.hid (by rw [getV_hit (by omega)]; simp only [hp])
        have HG : Hid (true = getB n l) := Lib.hid (getB_iff.2 (by omega)).symm
        have hs : (l[k].1.toList == n.toList) = true := eqS_iff.2 hq
        clear hq hp
        generalize l[k] = x at *
        go_wp2
        go_ret2
        exact ⟨ret_two HV.out HG.out, rfl⟩
      · have HF : Hid (∀ j (h : j < l.length), j < k + 1 → l[j].1 ≠ n) := Lib.hid (fun j h hj => by
          by_cases e : j = k
          · subst e; exact hq
          · exact HH.out j h (by omega))
        have hs : (l[k].1.toList == n.toList) = false := eqS_no.2 hq
        clear hq
        generalize l[k] = x at *
        go_wp2
        go_round
        case rel => exact ⟨k + 1, by omega, by go_num, HF.out⟩
        case measure => simp [intOf]; omega
    · have HG : Hid (false = getB n l) := Lib.hid (getB_no.2 (fun a ha => by
        obtain ⟨j, hj, rfl⟩ := List.mem_iff_getElem.1 ha
        exact HH.out j hj (by omega))).symm
      have HV : Hid (ByteArray.empty = getV n l) := Lib.hid (getV_miss (fun e => by have := HG.out; rw [getB_iff.2 e] at this; cases this)).symm
      go_wp2
      go_ret2
      exact ⟨ret_two HV.out HG.out, rfl⟩
end Go.Proofs.YtkfaenhidjekdaaDoor.A
