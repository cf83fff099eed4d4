/-
  The walks of the document's Same on two lists of tokens that say the same, and of LexerAll.
-/
import Derived.Test.YtceelfomgcbkiaaGreatDoorLAwakeZ
import Derived.Test.YtceelfomgcbkiaaGreatDoorLRallZ
import Derived.Test.YtceelfomgcbkiaaGreatDoorLSameZ
import Derived.Test.YtceelfomgcbkiaaGreatDoorLBoundZ
import Derived.StillTailTactics
namespace Go.Proofs.YtceelfomgcbkiaaGreatDoor
open Go.RowKit
open Go.Proofs.YtceelfomgcbkiaaGreatDoor.A (At AttrsAt)
open Go.Proofs.YtceelfomgcbkiaaGreatDoor.R (row_of free_of heap_keep MaxAt)
open Go.Proofs.YtceelfomgcbkiaaGreatDoor.C (StAt)

theorem clT_at : ∀ (l : List TA) (j : Nat) (h : j < l.length), (clT l)[j * 5]? = some (.int .i64 l[j].1.kind) ∧ (clT l)[j * 5 + 1]? = some (.string l[j].1.name) ∧ (clT l)[j * 5 + 2]? = some (.slice l[j].2.1 l[j].1.attrs.length l[j].2.2) ∧ (clT l)[j * 5 + 3]? = some (.bool l[j].1.self) ∧ (clT l)[j * 5 + 4]? = some (.string l[j].1.data)
  | [], j, h => by simp at h
  | a :: l, 0, _ => ⟨rfl, rfl, rfl, rfl, rfl⟩
  | a :: l, j + 1, h => by
    have ih := clT_at l j (by simpa using h)
    have e : clT (a :: l) = tkL a ++ clT l := rfl
    have g : ∀ i, (clT (a :: l))[(j + 1) * 5 + i]? = (clT l)[j * 5 + i]? := fun i => by
      rw [e, List.getElem?_append_right (by show 5 ≤ _; omega)]
      congr 1
      show (j + 1) * 5 + i - 5 = _
      omega
    exact ⟨(g 0).trans ih.1, (g 1).trans ih.2.1, (g 2).trans ih.2.2.1, (g 3).trans ih.2.2.2.1, (g 4).trans ih.2.2.2.2⟩
/-- The cells of a token of a list. -/
theorem TR.at5 {w : World} {a : Option Addr} {c : Nat} {l : List TA} (h : TR w (.slice a l.length c) l) (j : Nat) (hj : j < l.length) : ∃ g, a = some ⟨g, 0, none⟩ ∧ g < w.heap.size ∧
    w.cell? ⟨g, 0 + j * 5, none⟩ = some (.int .i64 l[j].1.kind) ∧ w.cell? ⟨g, 0 + j * 5 + 1, none⟩ = some (.string l[j].1.name) ∧ w.cell? ⟨g, 0 + j * 5 + 2, none⟩ = some (.slice l[j].2.1 l[j].1.attrs.length l[j].2.2) ∧ w.cell? ⟨g, 0 + j * 5 + 3, none⟩ = some (.bool l[j].1.self) ∧ w.cell? ⟨g, 0 + j * 5 + 4, none⟩ = some (.string l[j].1.data) := by
  obtain ⟨g, e, hg, hc⟩ := h.at (fun e => by rw [e] at hj; simp at hj)
  obtain ⟨h0, h1, h2, h3, h4⟩ := clT_at l j hj
  simp only [Nat.zero_add]
  exact ⟨g, e, hg, hc _ _ h0, hc _ _ h1, hc _ _ h2, hc _ _ h3, hc _ _ h4⟩

set_option maxRecDepth 100000 in
set_option maxHeartbeats 6400000 in
theorem sameAll_any (a a' : Option Addr) (c c' : Nat) (l m : List TA) (w : World) (hc : l.length ≤ c) (hc' : m.length ≤ c') (hlm : l.map (·.1) = m.map (·.1)) (hl : l.length ≤ 1000000) (hz : ∀ x ∈ l, x.1.attrs.length ≤ 1000000)
    (hL : TR w (.slice a l.length c) l) (hM : TR w (.slice a' m.length c') m) (hAL : AtsT w l) (hAM : AtsT w m) :
    Calls Tryz.prog 11 #[.slice a l.length c, .slice a' m.length c'] w fun e w' => e = .returned (.bool true) ∧ Below w.heap.size w w' := by
  have hlen : m.length = l.length := by have := congrArg List.length hlm; simpa using this.symm
  have HLn := Lib.hid hlen
  have HT : Hid (∀ j (h : j < l.length) (h2 : j < m.length), m[j].1 = l[j].1) := Lib.hid (fun j h h2 => by
    have : (l.map (·.1))[j]? = (m.map (·.1))[j]? := by rw [hlm]
    rw [List.getElem?_map, List.getElem?_map, List.getElem?_eq_getElem h, List.getElem?_eq_getElem h2] at this
    simpa using this.symm)
  rw [hlen] at hM hc' ⊢
  have HL := Lib.hid hL
  have HM : Hid (TR w (.slice a' m.length c') m) := Lib.hid (by rw [hlen]; exact hM)
  have HAL := Lib.hid hAL
  have HAM := Lib.hid hAM
  have HZ := Lib.hid hz
  have e1 : ((l.length : Int) != (l.length : Int)) = false := by simp
  clear hL hM hAL hAM hlen hlm hz
  go_enter Tryz.func11, Tryz.ntmps11
  go_wp2_with fail
  go_loopw [5] (fun v wr => ∃ k : Nat, k ≤ l.length ∧ v = .int .i64 (k : Nat) ∧ Below w.heap.size w wr) (fun v _ => l.length - (intOf v).toNat)
  case atStart => exact ⟨0, Nat.zero_le _, rfl, Below.refl _ _⟩
  case round =>
    obtain ⟨k, hk, rfl, hB⟩ := hrel
    have HB := Lib.hid hB
    clear hB
    by_cases hlt : k < l.length
    · have hlt2 : k < m.length := by rw [HLn.out]; exact hlt
      obtain ⟨g, rfl, hg, x0, x1, x2, x3, x4⟩ := HL.out.at5 k hlt
      obtain ⟨g2, rfl, hg2, y0, y1, y2, y3, y4⟩ := HM.out.at5 k hlt2
      have hA1 := (HAL.out _ (List.getElem_mem hlt)).1.below HB.out
      have hA2 := (HAM.out _ (List.getElem_mem hlt2)).1.below HB.out
      have hzk := HZ.out _ (List.getElem_mem hlt)
      rw [HT.out k hlt hlt2] at y0 y1 y2 y3 y4 hA2
      generalize m[k].2 = q2 at *
      generalize l[k].2 = q1 at *
      generalize l[k].1 = t at *
      obtain ⟨a1, c1⟩ := q1
      obtain ⟨a2, c2⟩ := q2
      obtain ⟨kind, nm, attrs, self, data⟩ := t
      dsimp only at x0 x1 x2 x3 x4 y0 y1 y2 y3 y4 hA1 hA2 hzk
      have HS := Lib.hid (fun W (hW : Below wr.heap.size wr W) => lsame_any ⟨kind, nm, attrs, self, data⟩ a1 a2 c1 c2 W hzk (hA1.below hW) (hA2.below hW))
      unfold tkV at HS
      have hi0 : (0 : Int) ≤ (k : Int) := by omega
      have hi1 : (k : Int) < (l.length : Int) := by omega
      have hi2 : (k : Int) ≤ (c : Int) := by omega
      have hi3 : (k : Int) ≤ (c' : Int) := by omega
      replace x0 := (HB.out.cell (p := ⟨g, 0 + k * 5, none⟩) hg).trans x0
      replace x1 := (HB.out.cell (p := ⟨g, 0 + k * 5 + 1, none⟩) hg).trans x1
      replace x2 := (HB.out.cell (p := ⟨g, 0 + k * 5 + 2, none⟩) hg).trans x2
      replace x3 := (HB.out.cell (p := ⟨g, 0 + k * 5 + 3, none⟩) hg).trans x3
      replace x4 := (HB.out.cell (p := ⟨g, 0 + k * 5 + 4, none⟩) hg).trans x4
      replace y0 := (HB.out.cell (p := ⟨g2, 0 + k * 5, none⟩) hg2).trans y0
      replace y1 := (HB.out.cell (p := ⟨g2, 0 + k * 5 + 1, none⟩) hg2).trans y1
      replace y2 := (HB.out.cell (p := ⟨g2, 0 + k * 5 + 2, none⟩) hg2).trans y2
      replace y3 := (HB.out.cell (p := ⟨g2, 0 + k * 5 + 3, none⟩) hg2).trans y3
      replace y4 := (HB.out.cell (p := ⟨g2, 0 + k * 5 + 4, none⟩) hg2).trans y4
      simp only [Nat.zero_add] at x0 x1 x2 x3 x4 y0 y1 y2 y3 y4
      clear hA1 hA2 hzk
      go_wp2_with fail
      go_still_tail 8, (by kernel_rfl)
      change wpList _ _ _ _ _ wr.drew
      have HB4 : Hid (Below w.heap.size w wr.drew) := Lib.hid HB.out.drew
      have HS4 := Lib.hid (HS.out wr.drew (Below.refl _ wr).drew)
      clear HS x0 x1 x2 x3 x4 y0 y1 y2 y3 y4 HB
      generalize wr.drew = w4 at *
      go_wp2_with fail
      refine HS4.out.mono ?_
      rintro e w5 ⟨rfl, hb⟩
      have HB5 := A.below_step HB4 hb
      clear hb
      go_wp2
      go_roundw
      case rel => exact ⟨k + 1, by omega, by go_num, HB5.out⟩
      case measure => simp [intOf]; omega
    · have hi1 : ¬ (k : Int) < (l.length : Int) := by omega
      go_wp2
      go_ret
      exact ⟨rfl, HB.out⟩

set_option maxRecDepth 100000 in
set_option maxHeartbeats 3200000 in
theorem lall_walk (s : ByteArray) (w : World) (hT : StAt w) (hM : MaxAt w) (ws : s.size ≤ maxLen) :
    Calls Tryz.prog 4 #[.string s] w fun e w' => e = .returned (.bool true) ∧ Below w.heap.size w w' := by
  unfold maxLen at ws
  have HTM : Hid (∀ W, Below w.heap.size w W → StAt W ∧ MaxAt W) := Lib.hid (fun W h => ⟨hT.below h, hM.below h⟩)
  by_cases h400 : 400 < s.size
  · have h4 : (400 : Int) < s.size := by omega
    have HA := Lib.hid (awake_any w hT hM)
    clear h400 hT hM
    go_enter Tryz.func4, Tryz.ntmps4
    go_wp2_with fail
    refine HA.out.mono ?_
    rintro e w1 ⟨rfl, hb⟩
    have HB := Lib.hid hb
    clear hb
    go_wp2
    go_ret
    exact ⟨rfl, HB.out⟩
  · have h4 : ¬ (400 : Int) < s.size := by omega
    have HA := Lib.hid (all_any s w hT hM (by omega))
    have HR := Lib.hid (fun W => rall_any s W (by omega))
    have HLn := Lib.hid (allD_len (s.size + 1) s)
    have HLz := Lib.hid (allD_attrs (s.size + 1) s (by omega))
    have hs := h400
    generalize allD (s.size + 1) s = r at *
    clear h400 hT hM
    go_enter Tryz.func4, Tryz.ntmps4
    go_wp2_with fail
    refine HA.out.mono ?_
    rintro e w1 ⟨a1, c1, l1, h1, rfl, hc1, ht1, ha1, hb1⟩
    have HB1 : Hid (Below w.heap.size w w1) := Lib.hid hb1
    clear hb1
    go_wp2_with fail
    refine (HR.out _).mono ?_
    rintro e w2 ⟨a2, c2, l2, h2, rfl, hc2, ht2, ha2, hb2⟩
    have HB2 := A.below_step HB1 hb2
    have HS := Lib.hid (sameAll_any a1 a2 c1 c2 l1 l2 w2 hc1 hc2 (h1.symm.trans h2) (by have := HLn.out; rw [h1, List.length_map] at this; omega)
      (fun x hx => HLz.out x.1 (by rw [h1]; exact List.mem_map_of_mem hx)) (ht1.below hb2) ht2 (fun x hx => ⟨(ha1 x hx).1.below hb2, (ha1 x hx).2⟩) ha2)
    clear h1 h2 ht1 ht2 ha1 ha2 hb2 HB1 HR HA
    go_wp2_with fail
    refine HS.out.mono ?_
    rintro e w3 ⟨rfl, hb⟩
    have HB3 := A.below_step HB2 hb
    have HT3 := Lib.hid (HTM.out _ HB3.out)
    clear hb HB2
    go_wp2_with fail
    refine (awake_any _ HT3.out.1 HT3.out.2).mono ?_
    rintro e w4 ⟨rfl, hb⟩
    have HB4 := A.below_step HB3 hb
    clear hb
    go_wp2
    go_ret
    exact ⟨rfl, HB4.out⟩
end Go.Proofs.YtceelfomgcbkiaaGreatDoor
