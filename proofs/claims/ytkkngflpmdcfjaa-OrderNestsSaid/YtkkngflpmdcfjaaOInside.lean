/-
  The walk of Inside.
-/
import Derived.Test.YtkkngflpmdcfjaaOMarks
namespace Go.Proofs.Ytkkngflpmdcfjaa
open Go.RowKit

theorem cmp_le (a b : Int) : ((some (cmpI a b) == some Ordering.lt) || (some (cmpI a b) == some Ordering.eq)) = decide (a ≤ b) := by
  unfold cmpI
  by_cases h1 : a < b
  · rw [if_pos h1]; simp; omega
  · rw [if_neg h1]
    by_cases h2 : a = b
    · rw [if_pos h2]; simp; omega
    · rw [if_neg h2]; simp; omega
theorem cmp_lt (a b : Int) : (some (cmpI a b) == some Ordering.lt) = decide (a < b) := by
  unfold cmpI
  by_cases h1 : a < b
  · rw [if_pos h1]; simp; omega
  · rw [if_neg h1]
    by_cases h2 : a = b
    · rw [if_pos h2]; simp; omega
    · rw [if_neg h2]; simp; omega
def insB (p q : Int × Int) : Bool := decide (0 ≤ q.1) && decide (q.1 < p.1) && decide (p.2 < q.2)

set_option maxRecDepth 100000 in
set_option maxHeartbeats 4000000 in
theorem inside_any (p q : Int × Int) (hp1 : -1 ≤ p.1 ∧ p.1 < 65) (hp2 : -1 ≤ p.2 ∧ p.2 < 65) (hq1 : -1 ≤ q.1 ∧ q.1 < 65) (hq2 : -1 ≤ q.2 ∧ q.2 < 65) (w : World) :
    Calls Try.prog 24 #[cx p, cx q] w fun e w' => e = .returned (.bool (insB p q)) ∧ w = w' := by
  have e1 : ((FloatKind.f64.format.order 0 (fb q.1) == some .lt) || (FloatKind.f64.format.order 0 (fb q.1) == some .eq)) = decide (0 ≤ q.1) := by
    have h := fb_order (a := 0) (b := q.1) (by omega) (by omega) hq1.1 hq1.2
    rw [fb_0] at h
    rw [h]; exact cmp_le _ _
  have e2 : (FloatKind.f64.format.order (fb q.1) (fb p.1) == some .lt) = decide (q.1 < p.1) := by
    rw [fb_order hq1.1 hq1.2 hp1.1 hp1.2]; exact cmp_lt _ _
  have e3 : (FloatKind.f64.format.order (fb p.2) (fb q.2) == some .lt) = decide (p.2 < q.2) := by
    rw [fb_order hp2.1 hp2.2 hq2.1 hq2.2]; exact cmp_lt _ _
  unfold cx insB
  clear hp1 hp2 hq1 hq2
  generalize decide (0 ≤ q.1) = t1 at *
  generalize decide (q.1 < p.1) = t2 at *
  generalize decide (p.2 < q.2) = t3 at *
  generalize fb p.1 = x1 at *
  generalize fb p.2 = x2 at *
  generalize fb q.1 = y1 at *
  generalize fb q.2 = y2 at *
  cases t1
  · go_enter Try.func24, Try.ntmps24
    go_wp2
    go_ret
    exact ⟨rfl, rfl⟩
  · cases t2
    · go_enter Try.func24, Try.ntmps24
      go_wp2
      go_ret
      exact ⟨rfl, rfl⟩
    · cases t3
      all_goals
        go_enter Try.func24, Try.ntmps24
        go_wp2
        go_ret
        exact ⟨rfl, rfl⟩
end Go.Proofs.Ytkkngflpmdcfjaa
