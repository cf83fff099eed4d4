/-
  The walk of escape.named: the signs that are written otherwise, and what is written instead.
-/
import Derived.Test.YtkfaenhidjekdaaDoorEPlain
import Derived.Test.YtkfaenhidjekdaaDoorEMap
import Derived.Test.YtkfaenhidjekdaaDoorEEmb
import Derived.Test.YtkfaenhidjekdaaDoorCNamed
import Derived.LoopTactic
import Derived.WalkSpells
import Derived.WalkSmall
import Derived.Maps.RangeWalk
namespace Go.Proofs.YtkfaenhidjekdaaDoor.E
open Go.RowKit Go.Maps Go.Proofs.YtkfaenhidjekdaaDoor.C

def refV (text : List UInt8) (more : Int) : Value := .agg #[.string ⟨text.toArray⟩, .int .i64 more]
/-- The entries, in the order of the names. -/
def ents5 : List (Int × Value) := [(38, refV [38, 97, 109, 112, 59] 4), (160, refV [38, 110, 98, 115, 112, 59] 4), (60, refV [38, 108, 116, 59] 3), (62, refV [38, 103, 116, 59] 3), (34, refV [38, 113, 117, 111, 116, 59] 5)]
def names5 : List ByteArray := [⟨#[97, 109, 112, 59]⟩, ⟨#[110, 98, 115, 112, 59]⟩, ⟨#[108, 116, 59]⟩, ⟨#[103, 116, 59]⟩, ⟨#[113, 117, 111, 116, 59]⟩]
def nameK (k : Nat) : ByteArray := names5.getD k ByteArray.empty
theorem ents_i32 (n : Nat) : ∀ p ∈ ents5.take n, i32 p.1 := by
  intro p hp
  have := List.mem_of_mem_take hp
  simp only [ents5, List.mem_cons, List.not_mem_nil, or_false] at this
  rcases this with rfl | rfl | rfl | rfl | rfl <;> (unfold i32; constructor <;> decide)
theorem ents_nodup (n : Nat) : ((ents5.take n).map (·.1)).Nodup := by
  rw [List.map_take]
  exact (show (ents5.map (·.1)).Nodup by decide).sublist (List.take_sublist _ _)

/-- What one name adds. -/
structure Adds (k : Nat) (name sign : ByteArray) (r : Nat) (text : ByteArray) (more : Int) : Prop where
  told : nmTx name.data.toList = sign
  yes : nmOk name.data.toList = true
  dec : Utf8.decode sign 0 = (r, sign.size)
  one : 1 ≤ sign.size
  small : name.size ≤ 10
  ssmall : sign.size ≤ 2
  rr : r ≤ 160
  txt : (⟨#[38]⟩ : ByteArray) ++ name = text
  len : (text.size : Int) - sign.size = more
  fresh : fnd (ents5.take k) r = none
  next : ents5.take (k + 1) = ents5.take k ++ [((r : Int), .agg #[.string text, .int .i64 more])]
theorem adds_all : ∀ k, k < 5 → ∃ sign r text more, Adds k (nameK k) sign r text more := by
  intro k h
  match k, h with
  | 0, _ => exact ⟨⟨#[38]⟩, 38, ⟨#[38, 97, 109, 112, 59]⟩, 4, by decide +kernel, by decide +kernel, by decide +kernel, by decide, by decide, by decide, by decide, by rfl, by decide, by rfl, by rfl⟩
  | 1, _ => exact ⟨⟨#[194, 160]⟩, 160, ⟨#[38, 110, 98, 115, 112, 59]⟩, 4, by decide +kernel, by decide +kernel, by decide +kernel, by decide, by decide, by decide, by decide, by rfl, by decide, by rfl, by rfl⟩
  | 2, _ => exact ⟨⟨#[60]⟩, 60, ⟨#[38, 108, 116, 59]⟩, 3, by decide +kernel, by decide +kernel, by decide +kernel, by decide, by decide, by decide, by decide, by rfl, by decide, by rfl, by rfl⟩
  | 3, _ => exact ⟨⟨#[62]⟩, 62, ⟨#[38, 103, 116, 59]⟩, 3, by decide +kernel, by decide +kernel, by decide +kernel, by decide, by decide, by decide, by decide, by rfl, by decide, by rfl, by rfl⟩
  | 4, _ => exact ⟨⟨#[34]⟩, 34, ⟨#[38, 113, 117, 111, 116, 59]⟩, 5, by decide +kernel, by decide +kernel, by decide +kernel, by decide, by decide, by decide, by decide, by rfl, by decide, by rfl, by rfl⟩
  | k + 5, h => omega
/-- A slice of the first n of the names. -/
def NamesAt (w : World) (a : Nat) (n : Nat) : Prop := n ≤ 5 ∧ a < w.heap.size ∧ ∀ k, k < n → w.cell? ⟨a, k, none⟩ = some (.string (nameK k))

theorem zeroRef (W : World) : (zeroValue 75).run Tryd.prog W = .ok (.agg #[.string ⟨#[]⟩, .int .i64 0]) W := by kernel_rfl
set_option maxHeartbeats 3000000 in
theorem named_any (a n : Nat) (w : World) (hN : NamesAt w a n) :
    Calls Tryd.prog 48 #[.slice (some ⟨a, 0, none⟩) n n] w fun e w' => e = .returned (.map (some w.heap.size)) ∧ RMap w' w.heap.size (ents5.take n) ∧ Below w.heap.size w w' := by
  obtain ⟨hn5, ha, hcells⟩ := hN
  have HC := Lib.hid hcells
  clear hcells
  have hmm := @run_makeMap Tryd.prog
  have hn63 : n ≤ 9223372036854775807 := by omega
  go_enter Tryd.func48, Tryd.ntmps48
  go_wp2_with fail
  have HM0 := Lib.hid (RMap.made w)
  have HB0 := Lib.hid ((Below.refl w.heap.size w).alloc (Nat.le_refl _) (.map #[] 0))
  generalize w.alloc (.map #[] 0) = w1 at *
  go_loopw [14] (fun i wr => ∃ k : Nat, k ≤ n ∧ i = .int .i64 k ∧ RMap wr w.heap.size (ents5.take k) ∧ Below w.heap.size w wr) (fun i _ => n - (intOf i).toNat)
  case atStart => exact ⟨0, Nat.zero_le _, rfl, HM0.out, HB0.out⟩
  case round =>
    obtain ⟨k, hk, rfl, hM, hB⟩ := hrel
    by_cases hlt : k < n
    · obtain ⟨sign, r, text, more, HA⟩ := adds_all k (by omega)
      have HA := Lib.hid HA
      have hc0 : wr.cell? ⟨a, k, none⟩ = some (.string (nameK k)) := (hB.cell (p := ⟨a, k, none⟩) ha).trans (HC.out k hlt)
      have HNm : Hid (∀ W, Calls Tryd.prog 58 #[.string (nameK k)] W fun e w' => e = .returned (.tuple #[.string sign, .bool true]) ∧ Below W.heap.size W w') := Lib.hid (fun W => by
        have h := C.named_any (nameK k) W (by have := HA.out.small; omega)
        unfold C.NamedPost at h
        rw [HA.out.told, HA.out.yes] at h
        exact h)
      have HM := Lib.hid hM
      have HB := Lib.hid hB
      clear hM hB
      go_wp2_with fail
      refine (HNm.out _).mono ?_
      rintro e w2 ⟨rfl, hb⟩
      have HM2 := Lib.hid (HM.out.below hb HM.out.lt)
      have HB2 := Lib.hid (HB.out.trans (hb.mono HB.out.size))
      clear hb HNm hc0
      have hsm := HA.out.small
      have hss := HA.out.ssmall
      have hs1 := HA.out.one
      go_wp2_with fail
      have HM3 : Hid (RMap (w2.iter sign 0) w.heap.size (ents5.take k)) := Lib.hid (HM2.out.alloc (.stringIter sign 0))
      have HB3 : Hid (Below w.heap.size w (w2.iter sign 0)) := Lib.hid (HB2.out.alloc HB2.out.size (.stringIter sign 0))
      have hit : (w2.iter sign 0).heap[w2.heap.size]? = some (.stringIter sign 0) := w2.iter_heap sign 0
      have hsz : w.heap.size < w2.heap.size := HM2.out.lt
      rw [HA.out.txt]
      have htx : text.size ≤ 11 := by rw [← HA.out.txt, ByteArray.size_append]; have : (⟨#[38]⟩ : ByteArray).size = 1 := rfl; omega
      have hlen := HA.out.len
      have hI : w2.heap.size ≠ w.heap.size := by omega
      generalize w2.heap.size = I at *
      generalize w2.iter sign 0 = w3 at *
      go_loopw [10] (fun _ wr2 => ∃ pos : Nat, wr2.heap[I]? = some (.stringIter sign pos) ∧ Below w.heap.size w wr2 ∧ ((pos = 0 ∧ RMap wr2 w.heap.size (ents5.take k)) ∨ (pos = sign.size ∧ RMap wr2 w.heap.size (ents5.take (k + 1))))) (fun _ wr2 => sign.size - wr2.iterPos I)
      case atStart => exact ⟨0, hit, HB3.out, .inl ⟨rfl, HM3.out⟩⟩
      case round =>
        obtain ⟨pos, hit2, hB4, hcase⟩ := hrel
        have HB4 := Lib.hid hB4
        clear hB4
        rcases hcase with ⟨rfl, hM4⟩ | ⟨rfl, hM4⟩
        · have hnx := fun ty => Lib.run_next_any_at (P := Tryd.prog) wr I sign 0 ty hit2 (by omega)
          rw [HA.out.dec] at hnx
          simp only [Nat.zero_add] at hnx
          have hit3 := Lib.iterAt_heap wr I sign 0 sign.size hit2
          have HM5 : Hid (RMap (wr.iterAt I sign sign.size) w.heap.size (ents5.take k)) := Lib.hid (hM4.kept (Lib.iterAt_other wr I _ sign _ hI.symm))
          have HB5 := Lib.hid (Lib.below_iterAt HB4.out (by omega : w.heap.size ≤ I) sign sign.size)
          clear hM4
          go_wp2_with (first
            | (at_mapUpdate; refine wpList_store_rmap _ rfl _ _ _ rfl Tryd.underlying49 Tryd.underlying21 _ _ rfl HM5.out (ents_i32 k) (ents_nodup k) _ _ rfl rfl (by have := HA.out.rr; unfold i32; omega) HA.out.fresh ?_; intro w6 hM6 hg6))
          have hM7 : RMap w6 w.heap.size (ents5.take (k + 1)) := by rw [HA.out.next]; exact hM6
          have hit6 : w6.heap[I]? = some (.stringIter sign sign.size) := (hg6.block I (Array.getElem?_eq_some_iff.1 hit3).1 (by simpa using hI)).trans hit3
          have hB6 := HB5.out.grown hg6 HB5.out.size (fun j hj => by cases hj; exact Nat.le_refl _)
          go_frame
          go_roundw
          case rel => exact ⟨sign.size, hit6, hB6, .inr ⟨rfl, hM7⟩⟩
          case measure => rw [iterPos_of hit6, iterPos_of hit2]; omega
        · have hnx := fun ty => Lib.run_next_end_at (P := Tryd.prog) wr I sign sign.size ty hit2 (by omega)
          have HM5 := Lib.hid hM4
          clear hM4
          go_wp2_with fail
          go_roundw
          case rel => exact ⟨k + 1, by omega, by go_num, HM5.out, HB4.out⟩
          case measure => simp [intOf]; omega
    · obtain rfl : k = n := by omega
      have HM := Lib.hid hM
      have HB := Lib.hid hB
      clear hM hB
      go_wp2_with fail
      go_ret
      exact ⟨rfl, HM.out, HB.out⟩
end Go.Proofs.YtkfaenhidjekdaaDoor.E
