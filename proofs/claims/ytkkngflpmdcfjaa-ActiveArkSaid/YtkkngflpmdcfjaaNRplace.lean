/-
  The walk of the document's own Place; may one come into the other.
-/
import Derived.Test.YtkkngflpmdcfjaaNPlace
namespace Go.Proofs.Ytkkngflpmdcfjaa
open Go.RowKit

set_option maxRecDepth 100000 in
set_option maxHeartbeats 1600000 in
theorem may_any (v : Value) (l : List Nd) (one other : Int) (p : Nat) (w : World) (hN : NR w v l) (hp : w.cell? ⟨p, 0, none⟩ = some v) :
    Calls Try.prog 134 #[.pointer (some ⟨p, 0, none⟩), .int .i64 one, .int .i64 other] w fun e w' => e = .returned (.bool (mayP l one other)) ∧ Below w.heap.size w w' := by
  obtain ⟨a, cap, rfl, hm, hle⟩ := hN.slice
  have HN := Lib.hid hN
  have HP := Lib.hid hp
  have hpl : p < w.heap.size := World.block_lt_of_cell? w _ hp
  have HW : Hid (∀ k W, Calls Try.prog 157 #[.agg #[.slice a l.length cap], .int .i64 k] W fun e w' => e = .returned (.bool (inN l.length k)) ∧ Below W.heap.size W w') := Lib.hid (fun k W => within_any _ _ _ k W)
  clear hN
  have H1 := Lib.hid (HW.out one w)
  by_cases h1 : inN l.length one = true
  · rw [h1] at H1
    have H2 : Hid (∀ W, Calls Try.prog 157 #[.agg #[.slice a l.length cap], .int .i64 other] W fun e w' => e = .returned (.bool (inN l.length other)) ∧ Below W.heap.size W w') := Lib.hid (fun W => HW.out other W)
    by_cases h2 : inN l.length other = true
    · have HF : Hid (mayP l one other = !holdsP l one other) := Lib.hid (by unfold mayP; rw [h1, h2]; rfl)
      rw [h2] at H2
      have H3 : Hid (∀ W, Below w.heap.size w W → Calls Try.prog 158 #[.agg #[.slice a l.length cap], .int .i64 one, .int .i64 other] W fun e w' => e = .returned (.bool (holdsP l one other)) ∧ Below W.heap.size W w') := Lib.hid (fun W hW => holds_any _ l one other W (HN.out.kept fun q hq => hW.block q (by
        obtain ⟨c, fz, h⟩ := HN.out.kind hq
        exact (Array.getElem?_eq_some_iff.1 h).1)))
      clear h1 h2 HW
      generalize holdsP l one other = hb at *
      go_enter Try.func134, Try.ntmps134
      go_wp2_with fail
      refine H1.out.mono ?_
      rintro e w1 ⟨rfl, hb1⟩
      have hp1 := cell_keep hb1 hp
      have HB1 := Lib.hid hb1
      clear hb1 hp
      go_wp2_with fail
      refine (H2.out w1).mono ?_
      rintro e w2 ⟨rfl, hb2⟩
      have hp2 := cell_keep hb2 hp1
      have HB2 := below_step HB1 hb2
      clear hb2 hp1
      go_wp2_with fail
      refine (H3.out w2 HB2.out).mono ?_
      rintro e w3 ⟨rfl, hb3⟩
      have HB3 := below_step HB2 hb3
      clear hb3 hp2
      go_wp2
      go_ret
      exact ⟨ret_bool HF.out.symm, HB3.out⟩
    · have h2' : inN l.length other = false := by simpa using h2
      have HF : Hid (false = mayP l one other) := Lib.hid (by unfold mayP; rw [h2', Bool.and_false, Bool.false_and])
      rw [h2'] at H2
      clear h1 h2 h2' HW
      go_enter Try.func134, Try.ntmps134
      go_wp2_with fail
      refine H1.out.mono ?_
      rintro e w1 ⟨rfl, hb1⟩
      have hp1 := cell_keep hb1 hp
      have HB1 := Lib.hid hb1
      clear hb1 hp
      go_wp2_with fail
      refine (H2.out w1).mono ?_
      rintro e w2 ⟨rfl, hb2⟩
      have HB2 := below_step HB1 hb2
      clear hb2 hp1
      go_wp2
      go_ret
      exact ⟨ret_bool HF.out, HB2.out⟩
  · have h1' : inN l.length one = false := by simpa using h1
    have HF : Hid (false = mayP l one other) := Lib.hid (by unfold mayP; rw [h1', Bool.false_and, Bool.false_and])
    rw [h1'] at H1
    clear h1 h1' HW
    go_enter Try.func134, Try.ntmps134
    go_wp2_with fail
    refine H1.out.mono ?_
    rintro e w1 ⟨rfl, hb1⟩
    have HB1 := Lib.hid hb1
    clear hb1 hp
    go_wp2
    go_ret
    exact ⟨ret_bool HF.out, HB1.out⟩
end Go.Proofs.Ytkkngflpmdcfjaa
