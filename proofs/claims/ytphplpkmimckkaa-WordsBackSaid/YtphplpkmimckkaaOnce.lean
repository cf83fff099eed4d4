/-
  The walks of Once, and of the document's own.
-/
import Derived.Test.YtphplpkmimckkaaJoin
import Derived.Maps.OwnSet
import Derived.Maps.AppendAt
namespace Go.Proofs.Ytphplpkmimckkaa
open Go.RowKit Go.Maps Go.WideMaps

theorem law9 : Keyed Try.prog 9 := string_keyed Try.underlying9
theorem zeroU (w : World) : (zeroValue 38).run Try.prog w = .ok (.agg #[]) w := by kernel_rfl
def keyS (x : ByteArray) : Lit := .string x.data.toList
/-- The set that holds just these words. -/
def Sd {H : Type} (acc : List ByteArray) : DataW H := setOf (.agg []) (acc.map keyS)
theorem Sd_nil {H : Type} : Sd (H := H) [] = .map [] := by simp [Sd, setOf]
theorem Sd_snoc {H : Type} (acc : List ByteArray) (x : ByteArray) : Sd (H := H) (acc ++ [x]) = (Sd acc).put (keyS x) (.agg []) := by
  unfold Sd; rw [List.map_append, List.map_singleton, setOf_snoc]
theorem has_Sd {H : Type} (acc : List ByteArray) (x : ByteArray) : Maps.has (Sd (H := H) acc) (keyS x) = hasW acc x := by
  unfold Sd
  rw [has_setOf _ _ _ (fun y hy => by obtain ⟨_, _, rfl⟩ := List.mem_map.1 hy; trivial), List.any_map]
  unfold hasW
  rw [Bool.eq_iff_iff, List.any_eq_true, decide_eq_true_iff, List.mem_map]
  constructor
  · rintro ⟨y, hy, h⟩
    exact ⟨y, hy, by simpa [keyS, Lit.sameKey] using h⟩
  · rintro ⟨y, hy, h⟩
    exact ⟨y, hy, by simpa [keyS, Lit.sameKey] using h⟩
/-- A row of the call's own, from 'base' on, is no block below 'base'. -/
theorem row_ne {w : World} {base : Nat} {e : TypeId} {size : Nat} {v : Value} {n : Nat} {xs : List Value} (h : w.ownsRow base e size v n xs) {b : Nat} (hb : b < base) : some b ≠ v.ownBlock := fun e1 => by
  have := (h.lt b e1.symm).1
  omega
theorem onc_drop (l : List ByteArray) (k : Nat) (h : k < l.length) (acc : List ByteArray) : oncG acc (l.drop k) = if hasW acc l[k] = true then oncG acc (l.drop (k + 1)) else oncG (acc ++ [l[k]]) (l.drop (k + 1)) := by
  rw [List.drop_eq_getElem_cons h]; rfl
theorem ret_strs' {w w' : World} {base : Nat} {v : Value} {l l' : List ByteArray} (h : w'.ownsRow base 9 1 v l.length (l.map Value.string)) (hb : Below w.heap.size w w') (hl : l = l') : RetStrs l' w (.returned v) w' := by
  subst hl
  obtain ⟨a, cap, h1, rfl, h2⟩ := own_strs h
  exact ⟨a, cap, h1, rfl, h2, hb⟩

set_option maxHeartbeats 3000000 in
theorem once_any (a : Option Addr) (cap : Nat) (l : List ByteArray) (w : World) (hl : l.length ≤ 1000000) (hz : ∀ s ∈ l, s.size ≤ 1000000) (hA : StrsAt w a l) :
    Calls Try.prog 14 #[.slice a l.length cap] w (RetStrs (onc l) w) := by
  have HA := Lib.hid hA
  have HZ := Lib.hid hz
  clear hA hz
  have hmm := @run_makeMap Try.prog
  obtain ⟨i0, hi, hz0, hz1, hz2⟩ := info_parts str_info
  have HI := Lib.hid (And.intro hi (And.intro hz0 (And.intro hz1 hz2)))
  clear hi hz0 hz1 hz2
  go_enter Try.func14, Try.ntmps14
  go_wp2
  go_loopw [4, 12] (fun v i wr => ∃ (k : Nat) (acc : List ByteArray), k ≤ l.length ∧ acc.length ≤ k ∧ i = .int .i64 k ∧ onc l = oncG acc (l.drop k) ∧ wr.ownsMap Try.prog 9 unitElem w.heap.size k (Sd (H := Unit) acc) ∧ wr.ownsRow (w.heap.size + 1) 9 1 v acc.length (acc.map Value.string) ∧ Below w.heap.size w wr ∧ w.heap.size + 1 ≤ wr.heap.size)
    (fun _ i _ => l.length - (intOf i).toNat)
  case atStart => exact ⟨0, [], Nat.zero_le _, Nat.le_refl _, rfl, rfl, by rw [Sd_nil]; exact World.ownsMap_made _ _ _ _, World.ownsRow_nil _ _ _ _, (Below.refl _ _).alloc (Nat.le_refl _) _, by simp⟩
  case round =>
    obtain ⟨k, acc, hk, hacc, rfl, honc, hown, hrow, hnx, hws⟩ := hrel
    have HO := Lib.hid honc
    have HM := Lib.hid hown
    have HR := Lib.hid hrow
    have HB := Lib.hid hnx
    clear honc hown hrow hnx
    by_cases hlt : k < l.length
    · obtain ⟨b, off, rfl, hbk, hc⟩ := HA.out (fun e => by rw [e] at hlt; simp at hlt)
      have hck : wr.cell? ⟨b, off + k, none⟩ = some (.string l[k]) := (HB.out.cell (p := ⟨b, off + k, none⟩) hbk).trans (hc k hlt)
      have hkey : keyOf Try.prog 9 (.string l[k]) = some (keyS l[k]) := keyOf_string_mk Try.underlying9 (by have := HZ.out _ (List.getElem_mem hlt); unfold maxLen; omega)
      have HK := Lib.hid hkey
      have HD := Lib.hid (onc_drop l k hlt acc)
      have hh := has_Sd (H := Unit) acc l[k]
      clear hc hkey
      generalize l[k] = x at *
      by_cases hin : hasW acc x = true
      · rw [hin] at hh
        have HF : Hid (onc l = oncG acc (l.drop (k + 1))) := Lib.hid (by rw [HO.out, HD.out, if_pos hin])
        clear hin
        go_wp2_with (at_lookup; refine wpList_lookup_own_unit _ rfl _ _ 37 rfl 9 38 law9 Try.underlying37 (zeroU _) w.heap.size k _ rfl HM.out _ _ rfl HK.out ?_)
        go_roundw
        case rel => exact ⟨k + 1, acc, by omega, by omega, by go_num, HF.out, (HM.out.alloc _).mono (Nat.le_succ _), HR.out.alloc _, HB.out.alloc HB.out.size _, by simp; omega⟩
        case measure => simp [intOf]; omega
      · have hno : hasW acc x = false := by simpa using hin
        rw [hno] at hh
        have HF : Hid (onc l = oncG (acc ++ [x]) (l.drop (k + 1))) := Lib.hid (by rw [HO.out, HD.out, if_neg hin])
        clear hin hno
        obtain ⟨hi, hz0, hz1, hz2⟩ := HI.out
        go_wp2_with (first
          | (at_lookup; refine wpList_lookup_own_unit _ rfl _ _ 37 rfl 9 38 law9 Try.underlying37 (zeroU _) w.heap.size k _ rfl HM.out _ _ rfl HK.out ?_)
          | (at_mapUpdate; refine wpList_mapUpdate_own _ rfl _ _ _ 37 rfl 9 38 law9 Try.underlying37 (unitElem (H := Unit)) w.heap.size k _ rfl (HM.out.alloc _) (by unfold maxLen; omega) _ _ _ rfl rfl HK.out _ [] unitElem_mk ?_; intro w1 hown1 hgrow1)
          | (at_builtin; refine wpList_append_own _ rfl _ _ 22 rfl (w.heap.size + 1) 9 i0 (.string ⟨#[]⟩) 1 16 Try.underlying22 hi hz0 hz1 hz2 rfl (by decide) _ _ _ rfl (((HR.out.alloc _).kept hgrow1 (Or.inr (row_ne HR.out (Nat.lt_succ_self _)).symm)).alloc _) ⟨w1.heap.size, 0, none⟩ 1 1 [.string x] rfl rfl (cell_one_new _ _ _) (str_one x) (by unfold maxLen; omega) (by omega) (by have := hgrow1.size; simp at this ⊢; omega) ?_; intro v' w2 hown' hgrow2 hnil2; clear hnil2))
        clear hi hz0 hz1 hz2
        have hr1 := (HR.out.alloc (.cells #[] 38)).kept hgrow1 (Or.inr (row_ne HR.out (Nat.lt_succ_self _)).symm)
        have s1 := hgrow1.size
        have s2 := hgrow2.size
        simp at s1 s2
        go_roundw
        case rel =>
          refine ⟨k + 1, acc ++ [x], by omega, by rw [List.length_append, List.length_singleton]; omega, by go_num, HF.out, ?_, own_snoc hown', ?_, by omega⟩
          · rw [Sd_snoc]
            exact (hown1.alloc _).kept hgrow2 (row_ne hr1 (Nat.lt_succ_self _))
          · exact ((((HB.out.alloc HB.out.size _).grown hgrow1 (by simp; omega) (fun j hj => by cases hj; exact Nat.le_refl _)).alloc (by omega) _).grown hgrow2 (by simp; omega) (fun j hj => Nat.le_trans (Nat.le_succ _) (hr1.lt j hj).1))
        case measure => simp [intOf]; omega
    · have HF : Hid (acc = onc l) := Lib.hid (by rw [HO.out, List.drop_eq_nil_of_le (by omega)]; rfl)
      go_wp2
      go_ret
      exact ret_strs' HR.out HB.out HF.out

set_option maxHeartbeats 1600000 in
theorem ronce_any (a : Option Addr) (cap : Nat) (l : List ByteArray) (w : World) (hl : l.length ≤ 1000000) (hA : StrsAt w a l) :
    Calls Try.prog 15 #[.slice a l.length cap] w (RetStrs (onc l) w) := by
  have HA := Lib.hid hA
  clear hA
  obtain ⟨i0, hi, hz0, hz1, hz2⟩ := info_parts str_info
  have HI := Lib.hid (And.intro hi (And.intro hz0 (And.intro hz1 hz2)))
  clear hi hz0 hz1 hz2
  go_enter Try.func15, Try.ntmps15
  go_wp2
  go_loopw [3, 4] (fun v i wr => ∃ (k : Nat) (acc : List ByteArray), k ≤ l.length ∧ acc.length ≤ k ∧ i = .int .i64 k ∧ onc l = oncG acc (l.drop k) ∧ wr.ownsRow w.heap.size 9 1 v acc.length (acc.map Value.string) ∧ Below w.heap.size w wr)
    (fun _ i _ => l.length - (intOf i).toNat)
  case atStart => exact ⟨0, [], Nat.zero_le _, Nat.le_refl _, rfl, rfl, World.ownsRow_nil _ _ _ _, Below.refl _ _⟩
  case round =>
    obtain ⟨k, acc, hk, hacc, rfl, honc, hrow, hnx⟩ := hrel
    have HO := Lib.hid honc
    have HR := Lib.hid hrow
    have HB := Lib.hid hnx
    clear honc hrow hnx
    by_cases hlt : k < l.length
    · obtain ⟨b, off, rfl, hbk, hc⟩ := HA.out (fun e => by rw [e] at hlt; simp at hlt)
      have hck : wr.cell? ⟨b, off + k, none⟩ = some (.string l[k]) := (HB.out.cell (p := ⟨b, off + k, none⟩) hbk).trans (hc k hlt)
      have HD := Lib.hid (onc_drop l k hlt acc)
      obtain ⟨a1, c1, hc1, rfl, hst⟩ := own_strs HR.out
      have HH := Lib.hid (has_any a1 c1 acc l[k] wr (by omega) hst)
      clear hc hst
      generalize l[k] = x at *
      by_cases hin : hasW acc x = true
      · rw [hin] at HH
        have HF : Hid (onc l = oncG acc (l.drop (k + 1))) := Lib.hid (by rw [HO.out, HD.out, if_pos hin])
        clear hin
        go_wp2_with (go_at_call 18; refine HH.out.mono ?_; rintro e w' ⟨rfl, rfl⟩)
        go_roundw
        case rel => exact ⟨k + 1, acc, by omega, by omega, by go_num, HF.out, HR.out, HB.out⟩
        case measure => simp [intOf]; omega
      · have hno : hasW acc x = false := by simpa using hin
        rw [hno] at HH
        have HF : Hid (onc l = oncG (acc ++ [x]) (l.drop (k + 1))) := Lib.hid (by rw [HO.out, HD.out, if_neg hin])
        clear hin hno
        obtain ⟨hi, hz0, hz1, hz2⟩ := HI.out
        go_wp2_with (first
          | (go_at_call 18; refine HH.out.mono ?_; rintro e w' ⟨rfl, rfl⟩)
          | (at_builtin; refine wpList_append_own _ rfl _ _ 22 rfl w.heap.size 9 i0 (.string ⟨#[]⟩) 1 16 Try.underlying22 hi hz0 hz1 hz2 rfl (by decide) _ _ _ rfl (HR.out.alloc _) ⟨wr.heap.size, 0, none⟩ 1 1 [.string x] rfl rfl (cell_one_new _ _ _) (str_one x) (by unfold maxLen; omega) (by omega) (by have := HB.out.size; simp; omega) ?_; intro v' w2 hown' hgrow2 hnil2; clear hi hz0 hz1 hz2 hnil2; have HO2 := Lib.hid (own_snoc hown'); have HB2 : Hid (Below w.heap.size w w2) := Lib.hid ((HB.out.alloc HB.out.size _).grown hgrow2 (by have := HB.out.size; simp; omega) (fun k hk => (HR.out.lt k hk).1)); clear hown' hgrow2))
        go_roundw
        case rel => exact ⟨k + 1, acc ++ [x], by omega, by rw [List.length_append, List.length_singleton]; omega, by go_num, HF.out, HO2.out, HB2.out⟩
        case measure => simp [intOf]; omega
    · have HF : Hid (acc = onc l) := Lib.hid (by rw [HO.out, List.drop_eq_nil_of_le (by omega)]; rfl)
      go_wp2
      go_ret
      exact ret_strs HR.out HB.out HF.out
end Go.Proofs.Ytphplpkmimckkaa
