/-
  The walk of All.
-/
import Derived.Test.YtceelfomgcbkiaaGreatDoorLRowZ
import Derived.Deep.RegionLaw
namespace Go.Proofs.YtceelfomgcbkiaaGreatDoor
open Go.RowKit
open Go.Proofs.YtceelfomgcbkiaaGreatDoor.A (At AttrsAt)
open Go.Proofs.YtceelfomgcbkiaaGreatDoor.R (row_of free_of heap_keep MaxAt)
open Go.Proofs.YtceelfomgcbkiaaGreatDoor.C (StAt)

def Ra (w : World) (n : Nat) (r : List LTok) (g : Nat) (v : Value) (wr : World) : Prop :=
  ∃ s' acc a c, v = .slice a (acc : List TA).length c ∧ acc.length ≤ c ∧ s'.size < g ∧ acc.length + g ≤ n + 1 ∧ r = acc.map (·.1) ++ allD g s' ∧ LB 43 wr w.heap.size s' ∧ TR wr (.slice a acc.length c) acc ∧ AtsT wr acc ∧ (∀ k, (Value.slice a acc.length c).ownBlock = some k → w.heap.size < k) ∧ Below w.heap.size w wr
theorem all_step {w w3 w4 : World} {v v4 : Value} {acc : List TA} {x : TA} {s2 : ByteArray} (hTR : TR w3 v acc) (hAt : AtsT w3 acc) (hA : AttrsAt w3 x.2.1 x.1.attrs) (hC : x.1.attrs.length ≤ x.2.2) (hB : Below w.heap.size w w3) (hL : LB 43 w3 w.heap.size s2)
    (hown : ∀ k, v.ownBlock = some k → w.heap.size < k) (hg : w3.grownBy w4 v.ownBlock) (hat : v4.ownBlock = v.ownBlock ∨ v4.ownBlock = some w3.heap.size) :
    AtsT w4 (acc ++ [x]) ∧ Below w.heap.size w w4 ∧ LB 43 w4 w.heap.size s2 ∧ ∀ k, v4.ownBlock = some k → w.heap.size < k := by
  refine ⟨fun y hy => ?_, hB.grown hg hB.size (fun k e => Nat.le_of_lt (hown k e)), hL.of (hg.block _ hL.lt (fun e => hTR.ne hL e.symm)), fun k e => ?_⟩
  · rcases List.mem_append.1 hy with h | h
    · exact ⟨attrs_row hTR (hAt y h).1 hg, (hAt y h).2⟩
    · obtain rfl := List.mem_singleton.1 h
      exact ⟨attrs_row hTR hA hg, hC⟩
  · rcases hat with h | h
    · exact hown k (h ▸ e)
    · rw [h] at e; cases e; exact hL.lt
set_option maxRecDepth 100000 in
set_option maxHeartbeats 6400000 in
theorem all_any (s : ByteArray) (w : World) (hT : StAt w) (hM : MaxAt w) (hs : s.size ≤ 10000) :
    Calls Tryz.prog 12 #[.string s] w (RetAll (allD (s.size + 1) s) w) := by
  have HTB : Hid (∀ W, Below w.heap.size w W → ∀ w', W.grownBy w' (some w.heap.size) → StAt w' ∧ MaxAt w') := Lib.hid (fun W hW w' hg => by
    have hb : Below w.heap.size w w' := grown_below hW hg (Nat.le_refl _) (Nat.le_refl _)
    exact ⟨hT.below hb, hM.below hb⟩)
  have hb0 : Below w.heap.size w (w.alloc (.cells #[.string s] 43)) := (Below.refl _ _).alloc (Nat.le_refl _) _
  have HS : Hid (Ra w s.size (allD (s.size + 1) s) (s.size + 1) (.slice none 0 0) (w.alloc (.cells #[.string s] 43))) :=
    Lib.hid ⟨s, [], none, 0, rfl, Nat.le_refl _, Nat.lt_succ_self _, by simp, by simp, heap_alloc_new w _, TR.nil _, fun _ h => (by cases h), fun k h => (by cases h), hb0⟩
  obtain ⟨r, hr⟩ : ∃ r, allD (s.size + 1) s = r := ⟨_, rfl⟩
  rw [hr] at HS ⊢
  clear hr hT hM hb0
  go_enter Tryz.func12, Tryz.ntmps12
  go_wp2_with fail
  refine (new_any s w).mono ?_
  rintro e w0 ⟨rfl, rfl⟩
  go_wp2_with fail
  go_loopg [4] (s.size + 1) (fun g v wr => Ra w s.size r g v wr)
  case atStart => exact HS.out
  case round =>
    obtain ⟨s', acc, a, c, rfl, hc, hsg, hag, hh, hL, hTR, hAt, hown, hB⟩ := hrel
    clear HS
    obtain ⟨k, rfl⟩ : ∃ k, gk = k + 1 := ⟨gk - 1, by omega⟩
    have HN := Lib.hid (next_any w.heap.size s' ⟨#[]⟩ 0 false wr hL (by omega) (by decide) (HTB.out _ hB))
    have hW := (whole_L s' ⟨#[]⟩ 0 false).2.2.2
    obtain ⟨⟨t, s2⟩, hr2⟩ : ∃ r, nxL s' ⟨#[]⟩ 0 false = r := ⟨_, rfl⟩
    have HE := Lib.hid (fun h0 => allD_end (k := k) hr2 h0)
    have HMo := Lib.hid (fun h0 => allD_more (k := k) hr2 h0)
    rw [hr2] at HN hW
    have HW := Lib.hid hW
    have HH := Lib.hid hh
    have HL := Lib.hid hL
    have HTR := Lib.hid hTR
    have HAt := Lib.hid hAt
    have HOw := Lib.hid hown
    have HB := Lib.hid hB
    have HCc := Lib.hid hc
    clear hh hL hTR hAt hown hB hW hr2 hc
    obtain ⟨kind, nm, attrs, self, data⟩ := t
    go_wp2_with fail
    refine HN.out.mono ?_
    rintro e w1 ⟨ta, cap, hcap, he, hat, hlb, hg⟩
    unfold tkV at he
    subst he
    have HL1 : Hid (LB 43 w1 w.heap.size s2) := Lib.hid hlb
    have HTR1 := Lib.hid (HTR.out.grown HL.out hg)
    have HAt1 : Hid (AtsT w1 acc) := Lib.hid (fun x hx => ⟨attrs_kept (HAt.out x hx).1 HL.out hg, (HAt.out x hx).2⟩)
    have HB1 : Hid (Below w.heap.size w w1) := Lib.hid (grown_below HB.out hg (Nat.le_refl _) (Nat.le_refl _))
    have HA1 : Hid (AttrsAt w1 ta attrs) := Lib.hid hat
    have HC1 : Hid (attrs.length ≤ cap) := Lib.hid hcap
    have hb : Below w1.heap.size w1 (w1.alloc (.cells #[.int .i64 kind, .string nm, .slice ta attrs.length cap, .bool self, .string data] 34)) := (Below.refl _ _).alloc (Nat.le_refl _) _
    have HL2 := Lib.hid (HL1.out.below hb)
    have HTR2 := Lib.hid (HTR1.out.below hb)
    have HAt2 : Hid (AtsT _ acc) := Lib.hid (fun x hx => ⟨(HAt1.out x hx).1.below hb, (HAt1.out x hx).2⟩)
    have HB2 : Hid (Below w.heap.size w _) := Lib.hid (HB1.out.trans (hb.mono HB1.out.size))
    have HA2 := Lib.hid (HA1.out.below hb)
    have HH2 := Lib.hid (heap_alloc_new w1 (.cells #[.int .i64 kind, .string nm, .slice ta attrs.length cap, .bool self, .string data] 34))
    have HO3 : Hid (∀ k', (Value.slice a acc.length c).ownBlock = some k' → k' ≠ w1.heap.size) := Lib.hid (fun k' hk e => by have := HTR1.out.lt hk; omega)
    clear hg hat hcap hlb HL HTR HAt HB HN HL1 HTR1 HAt1 HB1 HA1 hb
    go_upto_region 4 with fail
    obtain ⟨w2, ew⟩ : ∃ w2, w2 = w1.alloc (.cells #[.int .i64 kind, .string nm, .slice ta attrs.length cap, .bool self, .string data] 34) := ⟨_, rfl⟩
    rw [← ew] at HL2 HTR2 HAt2 HB2 HA2 HH2 ⊢
    clear ew
    obtain ⟨c0, c1, c2, c3, c4⟩ := row_of HH2.out
    have hb : Below w2.heap.size w2 (w2.alloc (.cells #[.int .i64 kind, .string nm, .slice ta attrs.length cap, .bool self, .string data] 34)) := (Below.refl _ _).alloc (Nat.le_refl _) _
    have HTR3 := Lib.hid (HTR2.out.below hb)
    have HH3 := Lib.hid (heap_keep hb HH2.out)
    have HL3 := Lib.hid (HL2.out.below hb)
    have HAt3 : Hid (AtsT _ acc) := Lib.hid (fun x hx => ⟨(HAt2.out x hx).1.below hb, (HAt2.out x hx).2⟩)
    have HA3 := Lib.hid (HA2.out.below hb)
    have HB3 : Hid (Below w.heap.size w _) := Lib.hid (HB2.out.trans (hb.mono HB2.out.size))
    have hB23 : w2.heap.size ≤ (w2.alloc (.cells #[.int .i64 kind, .string nm, .slice ta attrs.length cap, .bool self, .string data] 34)).heap.size := hb.size
    clear hb HL2 HTR2 HAt2 HA2 hB23
    have hacc : acc.length ≤ 1000000 := by omega
    by_cases h0 : kind = 0
    · have e0 : (kind == 0) = true := by simp [h0]
      have H0 := Lib.hid h0
      clear h0
      go_wp2_with (at_builtin; refine wpList_append_tok _ rfl _ _ rfl _ acc rfl HTR3.out w2.heap.size (⟨kind, nm, attrs, self, data⟩, ta, cap) rfl (heap_alloc_new w2 _) hacc ?_; intro v4 w4 htr4 hg4 hat4; obtain ⟨a4, c4', rfl, hc4⟩ := htr4.slice; have x0 : w4.cell? ⟨w1.heap.size, 0, none⟩ = some (.int .i64 kind) := cell_of_row w4 w1.heap.size 0 _ _ (0, 0) ((hg4.block _ (Array.getElem?_eq_some_iff.1 HH3.out).1 (fun e => HO3.out _ e.symm rfl)).trans HH3.out))
      obtain ⟨h1, h2, _, _⟩ := all_step (x := (⟨kind, nm, attrs, self, data⟩, ta, cap)) HTR3.out HAt3.out HA3.out HC1.out HB3.out HL3.out HOw.out hg4 hat4
      have hl : (acc ++ [((⟨kind, nm, attrs, self, data⟩ : LTok), ta, cap)]).length = acc.length + 1 := by simp
      go_ret
      exact ⟨a4, c4', acc ++ [(⟨kind, nm, attrs, self, data⟩, ta, cap)], by rw [HH.out, HE.out H0.out]; simp, by rw [hl]; rfl, hc4, htr4, h1, h2⟩
    · have e0 : (kind == 0) = false := by simpa using h0
      have H0 := Lib.hid h0
      clear h0
      go_wp2_with (at_builtin; refine wpList_append_tok _ rfl _ _ rfl _ acc rfl HTR3.out w2.heap.size (⟨kind, nm, attrs, self, data⟩, ta, cap) rfl (heap_alloc_new w2 _) hacc ?_; intro v4 w4 htr4 hg4 hat4; obtain ⟨a4, c4', rfl, hc4⟩ := htr4.slice; have x0 : w4.cell? ⟨w1.heap.size, 0, none⟩ = some (.int .i64 kind) := cell_of_row w4 w1.heap.size 0 _ _ (0, 0) ((hg4.block _ (Array.getElem?_eq_some_iff.1 HH3.out).1 (fun e => HO3.out _ e.symm rfl)).trans HH3.out))
      obtain ⟨h1, h2, h3, h4⟩ := all_step (x := (⟨kind, nm, attrs, self, data⟩, ta, cap)) HTR3.out HAt3.out HA3.out HC1.out HB3.out HL3.out HOw.out hg4 hat4
      have hl : (acc ++ [((⟨kind, nm, attrs, self, data⟩ : LTok), ta, cap)]).length = acc.length + 1 := by simp
      have hw : s2.size < s'.size := HW.out H0.out
      go_roundg k
      case rel => exact ⟨s2, acc ++ [(⟨kind, nm, attrs, self, data⟩, ta, cap)], a4, c4', by rw [hl], hc4, by omega, by rw [hl]; omega, by rw [HH.out, HMo.out H0.out]; simp, h3, htr4, h1, h4, h2⟩
      case measure => omega
end Go.Proofs.YtceelfomgcbkiaaGreatDoor
