/-
  The walks of find (with slices.IndexFunc and its closure), of Get, and of the document's own.
-/
import Derived.Test.YtkfaenhidjekdaaMem
import Derived.Deep.QuietTactic
import Derived.BigQuiet
namespace Go.Proofs.Ytkfaenhidjekdaa
open Go.RowKit

/-- What the closure tells of an attribute. -/
theorem clos_any (x : At) (B : Nat) (n : ByteArray) (w : World) (hc : w.cell? ⟨B, 0, none⟩ = some (.string n)) :
    Calls Try.prog 25 #[atV x, .pointer (some ⟨B, 0, none⟩)] w fun e w' => e = .returned (.bool (eqS x.1 n)) ∧ Below w.heap.size w w' := by
  obtain ⟨x1, x2⟩ := x
  unfold eqS atV
  dsimp only
  have hB : B < w.heap.size := World.block_lt_of_cell? w _ hc
  have hne : (w.alloc (.cells #[.string x1, .string x2] 24)).cell? ⟨B, 0, none⟩ = some (.string n) := (World.cell?_alloc_lt w _ _ hB).trans hc
  go_enter Try.func25, Try.ntmps25
  go_wp2
  go_ret
  exact ⟨rfl, (Below.refl _ _).alloc (Nat.le_refl _) _⟩

set_option maxHeartbeats 1600000 in
theorem index_any (a : Option Addr) (cap : Nat) (l : List At) (B : Nat) (n : ByteArray) (w : World) (_hl : l.length ≤ 9223372036854775807) (hA : AttrsAt w a l) (hc : w.cell? ⟨B, 0, none⟩ = some (.string n)) :
    Calls Try.prog 24 #[.slice a l.length cap, .func (.func 25) #[] #[.pointer (some ⟨B, 0, none⟩)]] w fun e w' => e = .returned (.int .i64 (posI n l)) ∧ Below w.heap.size w w' := by
  have HA := Lib.hid hA
  have hB : B < w.heap.size := World.block_lt_of_cell? w _ hc
  have HC := Lib.hid hc
  clear hA hc
  go_enter Try.func24, Try.ntmps24
  go_wp2
  go_loopw [8] (fun i wr => ∃ k : Nat, k ≤ l.length ∧ i = .int .i64 k ∧ posI n l = restI n l k ∧ Below w.heap.size w wr) (fun i _ => l.length - (intOf i).toNat)
  case atStart => exact ⟨0, Nat.zero_le _, rfl, (restI_zero n l).symm, Below.refl _ _⟩
  case round =>
    obtain ⟨k, hk, rfl, hh, hbel⟩ := hrel
    have HH := Lib.hid hh
    have HB := Lib.hid hbel
    clear hh hbel
    by_cases hlt : k < l.length
    · obtain ⟨b, off, rfl, hbk, hcl⟩ := HA.out (fun e => by rw [e] at hlt; simp at hlt)
      have hck1 : wr.cell? ⟨b, off + k * 2, none⟩ = some (.string l[k].1) := (HB.out.cell (p := ⟨b, off + k * 2, none⟩) hbk).trans (hcl k hlt).1
      have hck2 : wr.cell? ⟨b, off + k * 2 + 1, none⟩ = some (.string l[k].2) := (HB.out.cell (p := ⟨b, off + k * 2 + 1, none⟩) hbk).trans (hcl k hlt).2
      have HQ := Lib.hid (clos_any l[k] B n wr ((HB.out.cell (p := ⟨B, 0, none⟩) hB).trans HC.out))
      have HY := Lib.hid (restI_hit n l k hlt)
      have HN := Lib.hid (restI_miss n l k hlt)
      clear hcl
      generalize l[k] = x at *
      unfold atV at HQ
      by_cases hq : eqS x.1 n = true
      · rw [hq] at HQ
        have HF : Hid ((k : Int) = posI n l) := Lib.hid (by rw [HH.out, HY.out hq])
        clear hq
        go_wp2_with fail
        refine HQ.out.mono ?_
        rintro e w2 ⟨rfl, hb⟩
        have HB2 := below_step HB hb
        clear hb
        go_wp2
        go_ret
        exact ⟨ret_int HF.out, HB2.out⟩
      · have hq2 : eqS x.1 n = false := by simpa using hq
        rw [hq2] at HQ
        have HF : Hid (posI n l = restI n l (k + 1)) := Lib.hid (by rw [HH.out, HN.out hq2])
        clear hq hq2
        go_wp2_with fail
        refine HQ.out.mono ?_
        rintro e w2 ⟨rfl, hb⟩
        have HB2 := below_step HB hb
        clear hb
        go_wp2
        go_roundw
        case rel => exact ⟨k + 1, by omega, by go_num, HF.out, HB2.out⟩
        case measure => simp [intOf]; omega
    · have HF : Hid (-1 = posI n l) := Lib.hid (by rw [HH.out, restI_end n l k (by omega)])
      go_wp2
      go_ret
      exact ⟨ret_int HF.out, HB.out⟩

set_option maxHeartbeats 800000 in
theorem find_any (a : Option Addr) (cap : Nat) (l : List At) (n : ByteArray) (w : World) (hl : l.length ≤ 9223372036854775807) (hA : AttrsAt w a l) :
    Calls Try.prog 19 #[.slice a l.length cap, .string n] w fun e w' => e = .returned (.int .i64 (posI n l)) ∧ Below w.heap.size w w' := by
  have HI := Lib.hid (index_any a cap l w.heap.size n (w.alloc (.cells #[.string n] 9)) hl (hA.alloc _) (by simp))
  have HB := Lib.hid ((Below.refl w.heap.size w).alloc (Nat.le_refl _) (.cells #[.string n] 9))
  clear hA
  go_enter Try.func19, Try.ntmps19
  go_wp2_with fail
  refine HI.out.mono ?_
  rintro e w2 ⟨rfl, hb⟩
  have HB2 : Hid (Below w.heap.size w w2) := Lib.hid (HB.out.trans (hb.mono (by simp)))
  clear hb
  go_wp2
  go_ret
  exact ⟨rfl, HB2.out⟩
theorem posI_hit {n : ByteArray} {l : List At} (h : getB n l = true) : posI n l = (pos n l : Int) ∧ pos n l < l.length := by
  have := getB_iff.1 h
  exact ⟨by unfold posI; rw [if_pos this], this⟩
theorem posI_miss {n : ByteArray} {l : List At} (h : getB n l = false) : posI n l = -1 := by
  have : ¬ pos n l < l.length := fun e => by rw [getB_iff.2 e] at h; cases h
  unfold posI; rw [if_neg this]

set_option maxHeartbeats 800000 in
theorem get_any (a : Option Addr) (cap : Nat) (l : List At) (n : ByteArray) (w : World) (hl : l.length ≤ 9223372036854775807) (hA : AttrsAt w a l) :
    Calls Try.prog 7 #[.slice a l.length cap, .string n] w fun e w' => e = .returned (.tuple #[.string (getV n l), .bool (getB n l)]) ∧ Below w.heap.size w w' := by
  have HF := Lib.hid (find_any a cap l n w hl hA)
  have HA := Lib.hid hA
  clear hA
  by_cases hg : getB n l = true
  · obtain ⟨hp, hlt⟩ := posI_hit hg
    have HV := Lib.hid (getV_hit hlt)
    rw [hg]
    rw [hp] at HF
    obtain ⟨b, off, rfl, hbk, hcl⟩ := HA.out (fun e => by rw [e] at hlt; simp at hlt)
    have HC := Lib.hid (hcl _ hlt).2
    clear hg hp hcl
    generalize l[pos n l].2 = v at *
    generalize pos n l = p at *
    generalize getV n l = u at *
    go_enter Try.func7, Try.ntmps7
    go_wp2_with fail
    refine HF.out.mono ?_
    rintro e w2 ⟨rfl, hb⟩
    have hck : w2.cell? ⟨b, off + p * 2 + 1, none⟩ = some (.string v) := (hb.cell (p := ⟨b, off + p * 2 + 1, none⟩) hbk).trans HC.out
    have HB := Lib.hid hb
    clear hb
    go_wp2
    go_ret2
    exact ⟨ret_two HV.out.symm rfl, HB.out⟩
  · have hg2 : getB n l = false := by simpa using hg
    have HV : Hid (ByteArray.empty = getV n l) := Lib.hid (getV_miss (fun e => hg (getB_iff.2 e))).symm
    have hp := posI_miss hg2
    rw [hg2]
    rw [hp] at HF
    clear hg hg2 hp
    generalize getV n l = u at *
    go_enter Try.func7, Try.ntmps7
    go_wp2_with fail
    refine HF.out.mono ?_
    rintro e w2 ⟨rfl, hb⟩
    have HB := Lib.hid hb
    clear hb
    go_wp2
    go_ret2
    exact ⟨ret_two HV.out rfl, HB.out⟩

set_option maxHeartbeats 1600000 in
theorem rget_any (a : Option Addr) (cap : Nat) (l : List At) (n : ByteArray) (w : World) (_hl : l.length ≤ 9223372036854775807) (hA : AttrsAt w a l) :
    Calls Try.prog 8 #[.slice a l.length cap, .string n] w fun e w' => e = .returned (.tuple #[.string (getV n l), .bool (getB n l)]) ∧ w = w' := by
  have HA := Lib.hid hA
  clear hA
  go_enter Try.func8, Try.ntmps8
  go_wp2
  go_loop [6] (fun i => ∃ k : Nat, k ≤ l.length ∧ i = .int .i64 k ∧ ∀ j (h : j < l.length), j < k → l[j].1 ≠ n) (fun i => l.length - (intOf i).toNat)
  case atStart => exact ⟨0, Nat.zero_le _, rfl, fun j _ h => absurd h (by omega)⟩
  case round =>
    obtain ⟨k, hk, rfl, hh⟩ := hrel
    have HH := Lib.hid hh
    clear hh
    by_cases hlt : k < l.length
    · obtain ⟨b, off, rfl, hbk, hcl⟩ := HA.out (fun e => by rw [e] at hlt; simp at hlt)
      obtain ⟨hck1, hck2⟩ := hcl k hlt
      clear hcl
      by_cases hq : l[k].1 = n
      · have hp : pos n l = k := pos_is hlt hq (fun j hj => HH.out j (by omega) hj)
        have HV : Hid (l[k].2 = getV n l) := Lib.hid (by rw [getV_hit (by omega)]; simp only [hp])
        have HG : Hid (true = getB n l) := Lib.hid (getB_iff.2 (by omega)).symm
        have hs : (l[k].1.toList == n.toList) = true := eqS_iff.2 hq
        clear hq hp
        generalize l[k] = x at *
        go_wp2
        go_ret2
        exact ⟨ret_two HV.out HG.out, rfl⟩
      · have HF : Hid (∀ j (h : j < l.length), j < k + 1 → l[j].1 ≠ n) := Lib.hid (fun j h hj => by
          by_cases e : j = k
          · subst e; exact hq
          · exact HH.out j h (by omega))
        have hs : (l[k].1.toList == n.toList) = false := eqS_no.2 hq
        clear hq
        generalize l[k] = x at *
        go_wp2
        go_round
        case rel => exact ⟨k + 1, by omega, by go_num, HF.out⟩
        case measure => simp [intOf]; omega
    · have HG : Hid (false = getB n l) := Lib.hid (getB_no.2 (fun a ha => by
        obtain ⟨j, hj, rfl⟩ := List.mem_iff_getElem.1 ha
        exact HH.out j hj (by omega))).symm
      have HV : Hid (ByteArray.empty = getV n l) := Lib.hid (getV_miss (fun e => by have := HG.out; rw [getB_iff.2 e] at this; cases this)).symm
      go_wp2
      go_ret2
      exact ⟨ret_two HV.out HG.out, rfl⟩
end Go.Proofs.Ytkfaenhidjekdaa
