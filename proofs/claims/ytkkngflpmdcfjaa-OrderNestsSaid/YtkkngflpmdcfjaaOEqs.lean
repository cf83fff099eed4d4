/-
  slices.Equal at numbers, and at marks that are the same.
-/
import Derived.Test.YtkkngflpmdcfjaaShelf
import Derived.Test.YtkkngflpmdcfjaaOInside
import Derived.Deep.LoopGhost
namespace Go.Proofs.Ytkkngflpmdcfjaa
open Go.RowKit
attribute [local go_sem] run_store_float run_store_complex

theorem getD_ati {l : List Int} {j : Nat} (h : j < l.length) : l.getD j 0 = l[j] := by simp [h]
theorem below_drewN' (w : World) : ∀ q, Below w.heap.size w (w.drewN q) := fun q => by
  have h : ∀ (q : Nat) (w : World), (w.drewN q).heap = w.heap ∧ (w.drewN q).os = w.os ∧ (w.drewN q).tape = w.tape ∧ (w.drewN q).output = w.output := by
    intro q
    induction q with
    | zero => intro w; exact ⟨rfl, rfl, rfl, rfl⟩
    | succ q ih => intro w; exact ih w
  obtain ⟨h1, h2, h3, h4⟩ := h q w
  exact ⟨h2, h3, h4, by rw [h1]; exact Nat.le_refl _, fun k _ => by rw [h1]⟩
theorem equal_ints (a1 a2 : Option Addr) (c1 c2 : Nat) (xs ys : List Int) (w : World) (hx : xs.length ≤ 1000000) (hy : ys.length ≤ 1000000) (h1 : IntsAt w a1 xs) (h2 : IntsAt w a2 ys) :
    Calls Try.prog 19 #[.slice a1 xs.length c1, .slice a2 ys.length c2] w fun e w' => e = .returned (.bool (decide (xs = ys))) ∧ Below w.heap.size w w' := by
  by_cases hl : xs.length = ys.length
  · by_cases hne : xs = []
    · subst hne
      have : ys = [] := List.eq_nil_of_length_eq_zero hl.symm
      subst this
      refine (Try.slices_Equal_int_empty a1 a2 c1 0 c2 w (by omega)).mono ?_
      rintro e w' ⟨rfl, rfl⟩
      exact ⟨rfl, Below.refl _ _⟩
    · have hne2 : ys ≠ [] := fun e => hne (List.eq_nil_of_length_eq_zero (by rw [hl, e]; rfl))
      obtain ⟨b1, o1, rfl, _, hc1⟩ := h1 hne
      obtain ⟨b2, o2, rfl, _, hc2⟩ := h2 hne2
      refine (Try.slices_Equal_int b1 o1 xs.length c1 b2 o2 ys.length c2 xs ys w (Nat.le_refl _) (Nat.le_refl _) (by omega) (by omega) (fun j hj => by rw [getD_ati hj]; exact hc1 j hj) (fun j hj => by rw [getD_ati hj]; exact hc2 j hj)).mono ?_
      rintro e w' ⟨rfl, q, rfl⟩
      refine ⟨?_, below_drewN' w q⟩
      rw [List.take_length, List.take_length]
      congr 2
      rw [Bool.eq_iff_iff]; simp
  · refine (Try.slices_Equal_int_lens a1 a2 xs.length c1 ys.length c2 w hl).mono ?_
    rintro e w' ⟨rfl, rfl⟩
    have : decide (xs = ys) = false := decide_eq_false fun e => hl (by rw [e])
    exact ⟨by rw [this], Below.refl _ _⟩
theorem fb_self {a : Int} (h1 : -1 ≤ a) (h2 : a < 65) : (FloatKind.f64.format.order (fb a) (fb a) == some .eq) = true := by
  rw [fb_order h1 h2 h1 h2]
  unfold cmpI
  rw [if_neg (by omega), if_pos rfl]; rfl
/-- A row of marks in whatever block. -/
def MC (w : World) (b n : Nat) (m : Nat → Int × Int) : Prop := b < w.heap.size ∧ ∀ j, j < n → w.cell? ⟨b, j, none⟩ = some (cx (m j))
theorem MC.below {w w' : World} {b n : Nat} {m : Nat → Int × Int} (h : MC w b n m) (hb : Below w.heap.size w w') : MC w' b n m := ⟨Nat.lt_of_lt_of_le h.1 hb.size, fun j hj => (hb.cell (p := ⟨b, j, none⟩) h.1).trans (h.2 j hj)⟩
theorem MR.mc {w : World} {b n : Nat} {m : Nat → Int × Int} (h : MR w b n m) : MC w b n m := ⟨h.lt, fun _ hj => (h.at hj).1⟩

set_option maxRecDepth 100000 in
set_option maxHeartbeats 2000000 in
theorem equal_marks (b1 b2 n c1 c2 : Nat) (m : Nat → Int × Int) (w : World) (hn : n ≤ 30) (h1 : MC w b1 n m) (h2 : MC w b2 n m) (hm : ∀ j, j < n → (-1 ≤ (m j).1 ∧ (m j).1 < 65) ∧ -1 ≤ (m j).2 ∧ (m j).2 < 65) :
    Calls Try.prog 78 #[.slice (some ⟨b1, 0, none⟩) n c1, .slice (some ⟨b2, 0, none⟩) n c2] w fun e w' => e = .returned (.bool true) ∧ Below w.heap.size w w' := by
  have H1 := Lib.hid h1.2
  have H2 := Lib.hid h2.2
  have HM := Lib.hid hm
  clear h1 h2 hm
  go_enter Try.func78, Try.ntmps78
  go_wp2
  go_loopg [13] n (fun g s13 wr => ∃ k q : Nat, k ≤ n ∧ n - k ≤ g ∧ s13 = .int .i64 k ∧ wr = w.drewN q)
  case atStart => exact ⟨0, 0, Nat.zero_le _, by omega, rfl, rfl⟩
  case round =>
    obtain ⟨k, q, hk, hg, rfl, rfl⟩ := hrel
    by_cases hlt : k < n
    · have g1 := H1.out k hlt
      have g2 := H2.out k hlt
      obtain ⟨⟨m1, m2⟩, m3, m4⟩ := HM.out k hlt
      have e1 := fb_self m1 m2
      have e2 := fb_self m3 m4
      unfold cx at g1 g2
      clear m1 m2 m3 m4
      generalize fb (m k).1 = x at *
      generalize fb (m k).2 = y at *
      have hi0 : (0 : Int) ≤ (k : Int) := by omega
      have hi1 : (k : Int) < (n : Int) := by omega
      go_wp2_with fail
      go_region
      go_wp2
      go_roundg (n - (k + 1))
      case measure => omega
      case rel => exact ⟨k + 1, q + 1, by omega, by omega, by go_num, rfl⟩
    · have : k = n := by omega
      subst this
      go_wp2
      go_ret
      exact ⟨rfl, below_drewN' w q⟩
end Go.Proofs.Ytkkngflpmdcfjaa
