/-
  The walk of LexerTexts.
-/
import Derived.Test.YtceelfomgcbkiaaDoorLAwakeZ
import Derived.Test.YtceelfomgcbkiaaDoorLSameZ
import Derived.Test.YtceelfomgcbkiaaDoorGE3Z
namespace Go.Proofs.YtceelfomgcbkiaaDoor
open Go.RowKit
open Go.Proofs.YtceelfomgcbkiaaDoor.A (At AttrsAt)
open Go.Proofs.YtceelfomgcbkiaaDoor.R (row_of free_of heap_keep MaxAt)
open Go.Proofs.YtceelfomgcbkiaaDoor.C (StAt)

set_option maxRecDepth 100000 in
theorem all_nil : allD ((⟨#[]⟩ : ByteArray).size + 1) ⟨#[]⟩ = [endL] := by kernel_rfl
theorem all_nil1 (k : Nat) : allD (k + 1) ⟨#[]⟩ = [endL] := allD_end (t := endL) (s2 := ⟨#[]⟩) rfl rfl
theorem pln_none : ∀ l : List UInt8, (60 : UInt8) ∉ l → pln l = l.length
  | [], _ => rfl
  | a :: r, h => by
    unfold pln
    rw [if_neg, pln_none r (fun h2 => h (List.mem_cons_of_mem _ h2)), List.length_cons]
    · omega
    · intro hm
      have := mk_head hm
      simp at this
      exact h (by rw [this]; exact List.mem_cons_self)
theorem esc_ne {s : ByteArray} (h : s.size ≠ 0) : (E.escS false s).size ≠ 0 := fun e => h (by
  have h1 := E.dec_esc false false s.data.toList
  have h2 : E.esc false s.data.toList = [] := List.eq_nil_of_length_eq_zero (by rw [← E.escS_size]; exact e)
  rw [h2] at h1
  rw [← C.size_list, ← h1]; rfl)
theorem all_text {s : ByteArray} (h : s.size ≠ 0) : allD ((E.escS false s).size + 1) (E.escS false s) = [txtL s, endL] := by
  obtain ⟨u, hu⟩ : ∃ u, E.escS false s = u := ⟨_, rfl⟩
  have hu0 : u.size ≠ 0 := hu ▸ esc_ne h
  have hp : pln u.data.toList = u.size := by
    rw [← C.size_list, ← hu, E.escS_list]
    exact pln_none _ (E.esc_none false 60 (.inl rfl) _)
  have hd : C.decS false u = s := by
    apply C.eq_of_list
    unfold C.decS
    rw [C.mkB_list, ← hu, E.escS_list, E.dec_esc]
  have e1 : u.extract 0 u.size = u := by
    apply C.eq_of_list
    rw [C.ext_tail]; rfl
  have hn : nxL u ⟨#[]⟩ 0 false = (txtL s, ⟨#[]⟩) := by
    unfold nxL
    rw [if_pos rfl, nxD_txt hu0 (by omega), hp, e1, hd, ← ext_nil]
  rw [hu, allD_more hn (show (3 : Int) ≠ 0 by decide)]
  obtain ⟨k, hk⟩ : ∃ k, u.size = k + 1 := ⟨u.size - 1, by omega⟩
  rw [hk, all_nil1]
theorem two_of {acc : List TA} {a b : LTok} (h : [a, b] = acc.map (·.1)) : ∃ x y, acc = [(a, x), (b, y)] := by
  match acc, h with
  | [p, q], h =>
    simp at h
    obtain ⟨rfl, rfl⟩ := h
    exact ⟨p.2, q.2, rfl⟩
theorem one_of {acc : List TA} {a : LTok} (h : [a] = acc.map (·.1)) : ∃ x, acc = [(a, x)] := by
  match acc, h with
  | [p], h =>
    simp at h
    subst h
    exact ⟨p.2, rfl⟩

set_option maxRecDepth 100000 in
set_option maxHeartbeats 3200000 in
theorem texts_walk (s : ByteArray) (w : World) (hT : StAt w) (hM : MaxAt w) (ws : s.size ≤ maxLen) :
    Calls Tryd.prog 4 #[.string s] w fun e w' => e = .returned (.bool true) ∧ Below w.heap.size w w' := by
  unfold maxLen at ws
  have HTM : Hid (∀ W, Below w.heap.size w W → StAt W ∧ MaxAt W) := Lib.hid (fun W h => ⟨hT.below h, hM.below h⟩)
  have HNil := Lib.hid (all_any ⟨#[]⟩ w hT hM (by decide))
  rw [all_nil] at HNil
  clear hT hM
  have first : ∀ (h : (300 : Int) < s.size ∨ (¬ (300 : Int) < s.size ∧ s.toList = [] ∧ s.toList.isEmpty = true)), Calls Tryd.prog 4 #[.string s] w fun e w' => e = .returned (.bool true) ∧ Below w.heap.size w w' := fun h => by
    rcases h with h4 | ⟨h4, e1, e2⟩
    all_goals
      go_enter Tryd.func4, Tryd.ntmps4
      go_wp2_with fail
      refine HNil.out.mono ?_
      rintro e w1 ⟨a, c, acc, hacc, rfl, hc, htr, _, hb1⟩
      obtain ⟨x, rfl⟩ := one_of hacc
      have HB1 := Lib.hid hb1
      have HT1 := Lib.hid (HTM.out _ hb1)
      clear hacc htr hb1
      go_wp2_with fail
      refine (awake_any _ HT1.out.1 HT1.out.2).mono ?_
      rintro e w2 ⟨rfl, hb⟩
      have HB2 := A.below_step HB1 hb
      clear hb
      go_wp2
      go_ret
      exact ⟨rfl, HB2.out⟩
  by_cases h300 : 300 < s.size
  · exact first (.inl (by omega))
  · by_cases h0 : s.size = 0
    · exact first (.inr ⟨by omega, C.empty_yes h0⟩)
    · clear first HNil
      obtain ⟨e1, e2⟩ := C.empty_no h0
      have h4 : ¬ (300 : Int) < s.size := by omega
      have HE := Lib.hid (E.text_any s w (by omega))
      have hle := E.escS_le false s
      have HA : Hid (∀ W, Below w.heap.size w W → Calls Tryd.prog 10 #[.string (E.escS false s)] W (RetAll [txtL s, endL] W)) := Lib.hid (fun W hW => by
        have := all_any (E.escS false s) W (HTM.out W hW).1 (HTM.out W hW).2 (by omega)
        rw [all_text h0] at this; exact this)
      clear h300 h0 hle
      generalize E.escS false s = u at *
      go_enter Tryd.func4, Tryd.ntmps4
      go_wp2_with fail
      refine HE.out.mono ?_
      rintro e w1 ⟨rfl, hb⟩
      have HB1 : Hid (Below w.heap.size w w1) := Lib.hid hb
      clear hb HE
      go_wp2_with fail
      refine (HA.out _ HB1.out).mono ?_
      rintro e w2 ⟨a, c, acc, hacc, rfl, hc, htr, _, hb⟩
      have HB2 := A.below_step HB1 hb
      obtain ⟨⟨a0, c0⟩, x1, rfl⟩ := two_of hacc
      obtain ⟨g, rfl, hg, hcl⟩ := htr.at (by simp)
      have y0 := hcl 0 _ rfl
      have y1 := hcl 1 _ rfl
      have y2 := hcl 2 _ rfl
      have y3 := hcl 3 _ rfl
      have y4 := hcl 4 _ rfl
      have HY5 := Lib.hid (hcl 5 _ rfl)
      have HG := Lib.hid hg
      dsimp only [txtL, List.length_nil] at y0 y1 y2 y3 y4
      have HS := Lib.hid (lsame_any (txtL s) a0 none c0 0 w2 (Nat.zero_le _) (AttrsAt.nil _ _) (AttrsAt.nil _ _))
      unfold tkV txtL at HS
      clear hacc htr hb hcl hg HA HB1
      go_wp2_with fail
      refine HS.out.mono ?_
      rintro e w3 ⟨rfl, hb⟩
      have HB3 := A.below_step HB2 hb
      have y5 := (hb.cell (p := ⟨g, 5, none⟩) HG.out).trans HY5.out
      dsimp only [endL] at y5
      have HT3 := Lib.hid (HTM.out _ HB3.out)
      clear hb HB2 y0 y1 y2 y3 y4 HY5 HS
      go_wp2_with fail
      refine (awake_any _ HT3.out.1 HT3.out.2).mono ?_
      rintro e w4 ⟨rfl, hb⟩
      have HB4 := A.below_step HB3 hb
      clear hb
      go_wp2
      go_ret
      exact ⟨rfl, HB4.out⟩
end Go.Proofs.YtceelfomgcbkiaaDoor
