/-
  Several texts in one: ENamed ESize EPut ETexts.
-/
import Derived.Test.YtceelfomgcbkiaaDoorGE1Z
import Derived.Test.YtceelfomgcbkiaaDoorGCZ
import Derived.LoopTactic
import Derived.WalkSpells
import Derived.WalkSmall
import Derived.Maps.RangeWalk
import Derived.Test.YtceelfomgcbkiaaDoorEEmb2Z
import Derived.StillTailTactics
/-
  The walk of escape.named: the signs that are written otherwise, and what is written instead.
-/
namespace Go.Proofs.YtceelfomgcbkiaaDoor.E
open Go.RowKit Go.Maps Go.Proofs.YtceelfomgcbkiaaDoor.C

def refV (text : List UInt8) (more : Int) : Value := .agg #[.string ⟨text.toArray⟩, .int .i64 more]
/-- The entries, in the order of the names. -/
def ents5 : List (Int × Value) := [(38, refV [38, 97, 109, 112, 59] 4), (160, refV [38, 110, 98, 115, 112, 59] 4), (60, refV [38, 108, 116, 59] 3), (62, refV [38, 103, 116, 59] 3), (34, refV [38, 113, 117, 111, 116, 59] 5)]
def names5 : List ByteArray := [⟨#[97, 109, 112, 59]⟩, ⟨#[110, 98, 115, 112, 59]⟩, ⟨#[108, 116, 59]⟩, ⟨#[103, 116, 59]⟩, ⟨#[113, 117, 111, 116, 59]⟩]
def nameK (k : Nat) : ByteArray := names5.getD k ByteArray.empty
theorem ents_i32 (n : Nat) : ∀ p ∈ ents5.take n, i32 p.1 := by
  intro p hp
  have := List.mem_of_mem_take hp
  simp only [ents5, List.mem_cons, List.not_mem_nil, or_false] at this
  rcases this with rfl | rfl | rfl | rfl | rfl <;> (unfold i32; constructor <;> decide)
theorem ents_nodup (n : Nat) : ((ents5.take n).map (·.1)).Nodup := by
  rw [List.map_take]
  exact (show (ents5.map (·.1)).Nodup by decide).sublist (List.take_sublist _ _)

/-- What one name adds. -/
structure Adds (k : Nat) (name sign : ByteArray) (r : Nat) (text : ByteArray) (more : Int) : Prop where
  told : nmTx name.data.toList = sign
  yes : nmOk name.data.toList = true
  dec : Utf8.decode sign 0 = (r, sign.size)
  one : 1 ≤ sign.size
  small : name.size ≤ 10
  ssmall : sign.size ≤ 2
  rr : r ≤ 160
  txt : (⟨#[38]⟩ : ByteArray) ++ name = text
  len : (text.size : Int) - sign.size = more
  fresh : fnd (ents5.take k) r = none
  next : ents5.take (k + 1) = ents5.take k ++ [((r : Int), .agg #[.string text, .int .i64 more])]
theorem adds_all : ∀ k, k < 5 → ∃ sign r text more, Adds k (nameK k) sign r text more := by
  intro k h
  match k, h with
  | 0, _ => exact ⟨⟨#[38]⟩, 38, ⟨#[38, 97, 109, 112, 59]⟩, 4, by decide +kernel, by decide +kernel, by decide +kernel, by decide, by decide, by decide, by decide, by rfl, by decide, by rfl, by rfl⟩
  | 1, _ => exact ⟨⟨#[194, 160]⟩, 160, ⟨#[38, 110, 98, 115, 112, 59]⟩, 4, by decide +kernel, by decide +kernel, by decide +kernel, by decide, by decide, by decide, by decide, by rfl, by decide, by rfl, by rfl⟩
  | 2, _ => exact ⟨⟨#[60]⟩, 60, ⟨#[38, 108, 116, 59]⟩, 3, by decide +kernel, by decide +kernel, by decide +kernel, by decide, by decide, by decide, by decide, by rfl, by decide, by rfl, by rfl⟩
  | 3, _ => exact ⟨⟨#[62]⟩, 62, ⟨#[38, 103, 116, 59]⟩, 3, by decide +kernel, by decide +kernel, by decide +kernel, by decide, by decide, by decide, by decide, by rfl, by decide, by rfl, by rfl⟩
  | 4, _ => exact ⟨⟨#[34]⟩, 34, ⟨#[38, 113, 117, 111, 116, 59]⟩, 5, by decide +kernel, by decide +kernel, by decide +kernel, by decide, by decide, by decide, by decide, by rfl, by decide, by rfl, by rfl⟩
  | k + 5, h => omega
/-- A slice of the first n of the names. -/
def NamesAt (w : World) (a : Nat) (n : Nat) : Prop := n ≤ 5 ∧ a < w.heap.size ∧ ∀ k, k < n → w.cell? ⟨a, k, none⟩ = some (.string (nameK k))

theorem zeroRef (W : World) : (zeroValue 69).run Tryd.prog W = .ok (.agg #[.string ⟨#[]⟩, .int .i64 0]) W := by kernel_rfl
set_option maxHeartbeats 3000000 in
theorem named_any (a n : Nat) (w : World) (hN : NamesAt w a n) :
    Calls Tryd.prog 17 #[.slice (some ⟨a, 0, none⟩) n n] w fun e w' => e = .returned (.map (some w.heap.size)) ∧ RMap w' w.heap.size (ents5.take n) ∧ Below w.heap.size w w' := by
  obtain ⟨hn5, ha, hcells⟩ := hN
  have HC := Lib.hid hcells
  clear hcells
  have hmm := @run_makeMap Tryd.prog
  have hn63 : n ≤ 9223372036854775807 := by omega
  go_enter Tryd.func17, Tryd.ntmps17
  go_wp2_with fail
  have HM0 := Lib.hid (RMap.made w)
  have HB0 := Lib.hid ((Below.refl w.heap.size w).alloc (Nat.le_refl _) (.map #[] 0))
  generalize w.alloc (.map #[] 0) = w1 at *
  go_loopw [14] (fun i wr => ∃ k : Nat, k ≤ n ∧ i = .int .i64 k ∧ RMap wr w.heap.size (ents5.take k) ∧ Below w.heap.size w wr) (fun i _ => n - (intOf i).toNat)
  case atStart => exact ⟨0, Nat.zero_le _, rfl, HM0.out, HB0.out⟩
  case round =>
    obtain ⟨k, hk, rfl, hM, hB⟩ := hrel
    by_cases hlt : k < n
    · obtain ⟨sign, r, text, more, HA⟩ := adds_all k (by omega)
      have HA := Lib.hid HA
      have hc0 : wr.cell? ⟨a, k, none⟩ = some (.string (nameK k)) := (hB.cell (p := ⟨a, k, none⟩) ha).trans (HC.out k hlt)
      have HNm : Hid (∀ W, Calls Tryd.prog 30 #[.string (nameK k)] W fun e w' => e = .returned (.tuple #[.string sign, .bool true]) ∧ Below W.heap.size W w') := Lib.hid (fun W => by
        have h := C.named_any (nameK k) W (by have := HA.out.small; omega)
        unfold C.NamedPost at h
        rw [HA.out.told, HA.out.yes] at h
        exact h)
      have HM := Lib.hid hM
      have HB := Lib.hid hB
      clear hM hB
      go_wp2_with fail
      refine (HNm.out _).mono ?_
      rintro e w2 ⟨rfl, hb⟩
      have HM2 := Lib.hid (HM.out.below hb HM.out.lt)
      have HB2 := Lib.hid (HB.out.trans (hb.mono HB.out.size))
      clear hb HNm hc0
      have hsm := HA.out.small
      have hss := HA.out.ssmall
      have hs1 := HA.out.one
      go_wp2_with fail
      have HM3 : Hid (RMap (w2.iter sign 0) w.heap.size (ents5.take k)) := Lib.hid (HM2.out.alloc (.stringIter sign 0))
      have HB3 : Hid (Below w.heap.size w (w2.iter sign 0)) := Lib.hid (HB2.out.alloc HB2.out.size (.stringIter sign 0))
      have hit : (w2.iter sign 0).heap[w2.heap.size]? = some (.stringIter sign 0) := w2.iter_heap sign 0
      have hsz : w.heap.size < w2.heap.size := HM2.out.lt
      rw [HA.out.txt]
      have htx : text.size ≤ 11 := by rw [← HA.out.txt, ByteArray.size_append]; have : (⟨#[38]⟩ : ByteArray).size = 1 := rfl; omega
      have hlen := HA.out.len
      have hI : w2.heap.size ≠ w.heap.size := by omega
      generalize w2.heap.size = I at *
      generalize w2.iter sign 0 = w3 at *
      go_loopw [10] (fun _ wr2 => ∃ pos : Nat, wr2.heap[I]? = some (.stringIter sign pos) ∧ Below w.heap.size w wr2 ∧ ((pos = 0 ∧ RMap wr2 w.heap.size (ents5.take k)) ∨ (pos = sign.size ∧ RMap wr2 w.heap.size (ents5.take (k + 1))))) (fun _ wr2 => sign.size - wr2.iterPos I)
      case atStart => exact ⟨0, hit, HB3.out, .inl ⟨rfl, HM3.out⟩⟩
      case round =>
        obtain ⟨pos, hit2, hB4, hcase⟩ := hrel
        have HB4 := Lib.hid hB4
        clear hB4
        rcases hcase with ⟨rfl, hM4⟩ | ⟨rfl, hM4⟩
        · have hnx := fun ty => Lib.run_next_any_at (P := Tryd.prog) wr I sign 0 ty hit2 (by omega)
          rw [HA.out.dec] at hnx
          simp only [Nat.zero_add] at hnx
          have hit3 := Lib.iterAt_heap wr I sign 0 sign.size hit2
          have HM5 : Hid (RMap (wr.iterAt I sign sign.size) w.heap.size (ents5.take k)) := Lib.hid (hM4.kept (Lib.iterAt_other wr I _ sign _ hI.symm))
          have HB5 := Lib.hid (Lib.below_iterAt HB4.out (by omega : w.heap.size ≤ I) sign sign.size)
          clear hM4
          go_wp2_with (first
            | (at_mapUpdate; refine wpList_store_rmap _ rfl _ _ _ rfl Tryd.underlying45 Tryd.underlying21 _ _ rfl HM5.out (ents_i32 k) (ents_nodup k) _ _ rfl rfl (by have := HA.out.rr; unfold i32; omega) HA.out.fresh ?_; intro w6 hM6 hg6))
          have hM7 : RMap w6 w.heap.size (ents5.take (k + 1)) := by rw [HA.out.next]; exact hM6
          have hit6 : w6.heap[I]? = some (.stringIter sign sign.size) := (hg6.block I (Array.getElem?_eq_some_iff.1 hit3).1 (by simpa using hI)).trans hit3
          have hB6 := HB5.out.grown hg6 HB5.out.size (fun j hj => by cases hj; exact Nat.le_refl _)
          go_frame
          go_roundw
          case rel => exact ⟨sign.size, hit6, hB6, .inr ⟨rfl, hM7⟩⟩
          case measure => rw [iterPos_of hit6, iterPos_of hit2]; omega
        · have hnx := fun ty => Lib.run_next_end_at (P := Tryd.prog) wr I sign sign.size ty hit2 (by omega)
          have HM5 := Lib.hid hM4
          clear hM4
          go_wp2_with fail
          go_roundw
          case rel => exact ⟨k + 1, by omega, by go_num, HM5.out, HB4.out⟩
          case measure => simp [intOf]; omega
    · obtain rfl : k = n := by omega
      have HM := Lib.hid hM
      have HB := Lib.hid hB
      clear hM hB
      go_wp2_with fail
      go_ret
      exact ⟨rfl, HM.out, HB.out⟩
end Go.Proofs.YtceelfomgcbkiaaDoor.E

/-
  The walk of escape.size: how many bytes a text has, once it is written.
-/
namespace Go.Proofs.YtceelfomgcbkiaaDoor.E
open Go.RowKit Go.Maps Go.Proofs.YtceelfomgcbkiaaDoor.C

/-- The signs of a text, or of a value. -/
def ents (q : Bool) : List (Int × Value) := ents5.take (if q then 5 else 4)
theorem ents_w (q : Bool) : ∀ p ∈ ents q, i32 p.1 := ents_i32 _
theorem ents_d (q : Bool) : ((ents q).map (·.1)).Nodup := ents_nodup _
def zeroR : Value := .agg #[.string ⟨#[]⟩, .int .i64 0]
/-- What is found is what is written instead. -/
theorem ents_rpl (q : Bool) (r : Nat) : (rpl q r = none ∧ fnd (ents q) r = none) ∨ ∃ t, rpl q r = some t ∧ fnd (ents q) r = some (refV t ((t.length : Int) - (if r = 160 then 2 else 1))) := by
  by_cases h1 : r = 38
  · subst h1; exact .inr ⟨[38, 97, 109, 112, 59], rfl, by cases q <;> rfl⟩
  by_cases h2 : r = 160
  · subst h2; exact .inr ⟨nbsp, rfl, by cases q <;> rfl⟩
  by_cases h3 : r = 60
  · subst h3; exact .inr ⟨[38, 108, 116, 59], rfl, by cases q <;> rfl⟩
  by_cases h4 : r = 62
  · subst h4; exact .inr ⟨[38, 103, 116, 59], rfl, by cases q <;> rfl⟩
  by_cases h5 : r = 34
  · subst h5
    cases q with
    | true => exact .inr ⟨[38, 113, 117, 111, 116, 59], rfl, rfl⟩
    | false => exact .inl ⟨rfl, rfl⟩
  refine .inl ⟨by unfold rpl; rw [if_neg h1, if_neg h2, if_neg h3, if_neg h4, if_neg (fun e => h5 e.1)], fnd_none _ _ fun p hp e => ?_⟩
  have hp' := List.mem_of_mem_take hp
  simp only [ents5, List.mem_cons, List.not_mem_nil, or_false] at hp'
  rcases hp' with rfl | rfl | rfl | rfl | rfl
  · have : (38 : Int) = r := e; omega
  · have : (160 : Int) = r := e; omega
  · have : (60 : Int) = r := e; omega
  · have : (62 : Int) = r := e; omega
  · have : (34 : Int) = r := e; omega
theorem esc_ge (q : Bool) : ∀ l : List UInt8, l.length ≤ (esc q l).length
  | [] => Nat.zero_le _
  | c :: l => by
    cases h : sgn q c with
    | some t =>
      rw [esc_sgn h, List.length_append, List.length_cons]
      have : 1 ≤ t.length := by
        unfold sgn at h
        repeat' split at h
        all_goals first
          | (cases h; decide)
          | cases h
      have := esc_ge q l; omega
    | none =>
      by_cases hn : c ≠ 194 ∨ l.head? ≠ some 160
      · rw [esc_keep h hn, List.length_cons, List.length_cons]; have := esc_ge q l; omega
      · have h1 : c = 194 := by by_cases e : c = 194; exact e; exact absurd (.inl e) hn
        have h2 : l.head? = some 160 := by by_cases e : l.head? = some 160; exact e; exact absurd (.inr e) hn
        cases l with
        | nil => cases h2
        | cons d m =>
          have hd : d = 160 := by simpa using h2
          subst h1 hd
          rw [esc_nbsp, List.length_append, List.length_cons, List.length_cons]; have := esc_ge q m
          have : nbsp.length = 6 := rfl
          omega
/-- How much more is written at a step. -/
def more (q : Bool) (r : Nat) : Int := match rpl q r with
  | some t => (t.length : Int) - (if r = 160 then 2 else 1)
  | none => 0
theorem more_bd (q : Bool) (r : Nat) : 0 ≤ more q r ∧ more q r ≤ 5 := by
  unfold more
  split
  · rename_i t h
    unfold rpl at h
    repeat' split at h
    all_goals first
      | (cases h; split <;> (first | decide | omega))
      | cases h
  · exact ⟨Int.le_refl _, by decide⟩
/-- The number of what is still to come: what is written of it, less its own bytes. -/
def left (q : Bool) (s : ByteArray) (p : Nat) : Int := ((esc q (s.data.toList.drop p)).length : Int) - ((s.size : Int) - p)
theorem left_bd (q : Bool) (s : ByteArray) (p : Nat) (hp : p ≤ s.size) : 0 ≤ left q s p ∧ left q s p ≤ 5 * s.size := by
  have h1 := esc_ge q (s.data.toList.drop p)
  have h2 := esc_len q (s.data.toList.drop p)
  rw [List.length_drop, size_list] at h1 h2
  unfold left; omega
theorem left_step (q : Bool) (s : ByteArray) (p : Nat) (h : p < s.size) : left q s p = more q (Utf8.decode s p).1 + left q s (p + (Utf8.decode s p).2) := by
  have st := step_ok q s p h
  have hf := st.fits
  unfold left more
  cases hr : rpl q (Utf8.decode s p).1 with
  | some t =>
    obtain ⟨h1, h2⟩ := st.yes t hr
    rw [h1, List.length_append]
    simp only
    split at h2
    · rename_i e; rw [if_pos e, h2]; omega
    · rename_i e; rw [if_neg e, h2]; omega
  | none =>
    rw [st.no hr, List.length_append, List.length_take, List.length_drop, size_list]
    simp only
    omega
theorem left_end (q : Bool) (s : ByteArray) : left q s s.size = 0 := by
  unfold left
  rw [List.drop_eq_nil_of_le (by rw [size_list]; exact Nat.le_refl _), esc_nil]
  simp
theorem found (q : Bool) (r : Nat) : ∃ x, (fnd (ents q) r).getD zeroR = .agg #[.string x, .int .i64 (more q r)] := by
  rcases ents_rpl q r with ⟨h1, h2⟩ | ⟨t, h1, h2⟩
  · exact ⟨⟨#[]⟩, by rw [h2]; unfold more; rw [h1]; rfl⟩
  · exact ⟨⟨t.toArray⟩, by rw [h2]; unfold more; rw [h1]; rfl⟩

theorem fieldRef (x y : Value) (W : World) : (Instr.field 69 (.agg #[x, y]) 1).run Tryd.prog W = .ok y W := by kernel_rfl
set_option maxHeartbeats 3000000 in
theorem size_any (q : Bool) (mb : Nat) (s : ByteArray) (w : World) (hs : s.size ≤ 1000000) (hM : RMap w mb (ents q)) :
    Calls Tryd.prog 27 #[.string s, .map (some mb)] w fun e w' => e = .returned (.int .i64 ((esc q s.data.toList).length : Nat)) ∧ Below w.heap.size w w' := by
  have hlt := hM.lt
  have HM0 : Hid (RMap (w.iter s 0) mb (ents q)) := Lib.hid (hM.alloc (.stringIter s 0))
  have hit : (w.iter s 0).heap[w.heap.size]? = some (.stringIter s 0) := w.iter_heap s 0
  have HB0 : Hid (Below w.heap.size w (w.iter s 0)) := Lib.hid ((Below.refl w.heap.size w).alloc (Nat.le_refl _) _)
  have hall : ((esc q s.data.toList).length : Int) = s.size + left q s 0 := by unfold left; rw [List.drop_zero]; omega
  have hI : mb < w.heap.size := hlt
  clear hM hlt
  rw [hall]
  go_enter Tryd.func27, Tryd.ntmps27
  go_wp2_with fail
  generalize w.iter s 0 = w1 at *
  go_loopw [5] (fun n wr => ∃ pos : Nat, pos ≤ s.size ∧ n = .int .i64 (s.size + left q s 0 - left q s pos) ∧ wr.heap[w.heap.size]? = some (.stringIter s pos) ∧ Below w.heap.size w wr ∧ RMap wr mb (ents q)) (fun _ wr => s.size - wr.iterPos w.heap.size)
  case atStart => exact ⟨0, Nat.zero_le _, by congr 1; omega, hit, HB0.out, HM0.out⟩
  case round =>
    obtain ⟨pos, hp, rfl, hit2, hB, hM⟩ := hrel
    have HB := Lib.hid hB
    clear hB
    by_cases hlt : pos < s.size
    · have hnx := fun ty => Lib.run_next_any_at (P := Tryd.prog) wr w.heap.size s pos ty hit2 hlt
      have st := step_ok q s pos hlt
      have hpos := st.pos
      have hfit := st.fits
      have hle := decode_le s pos
      have hls := left_step q s pos hlt
      have hmb := more_bd q (Utf8.decode s pos).1
      have h0 := left_bd q s 0 (Nat.zero_le _)
      have h1 := left_bd q s pos hp
      have h2 := left_bd q s (pos + (Utf8.decode s pos).2) hfit
      obtain ⟨x, hx⟩ := found q (Utf8.decode s pos).1
      generalize hr : (Utf8.decode s pos).1 = r at *
      generalize hk : (Utf8.decode s pos).2 = kk at *
      have hit3 := Lib.iterAt_heap wr w.heap.size s pos (pos + kk) hit2
      have HM2 : Hid (RMap (wr.iterAt w.heap.size s (pos + kk)) mb (ents q)) := Lib.hid (hM.kept (Lib.iterAt_other wr w.heap.size _ s _ (by omega)))
      have HB2 := Lib.hid (Lib.below_iterAt HB.out (Nat.le_refl _) s (pos + kk))
      clear hM st
      generalize left q s 0 = L0 at *
      generalize left q s pos = L1 at *
      generalize hL2 : left q s (pos + kk) = L2 at *
      have HL2 := Lib.hid hL2
      clear hL2
      generalize more q r = mo at *
      have hsum : s.size + L0 - L1 + mo = s.size + L0 - L2 := by omega
      have HL := Lib.hid hls
      clear hls
      have hfl := fieldRef
      go_wp2_with (first
        | (at_lookup; refine wpList_lookup_rmap _ rfl _ _ _ rfl Tryd.underlying45 Tryd.underlying21 zeroR (zeroRef _) mb (ents q) rfl HM2.out (ents_w q) (ents_d q) r rfl (by unfold i32; omega) ?_; rw [if_neg (by decide), hx]))
      go_roundw
      case rel => exact ⟨pos + kk, hfit, by rw [HL2.out], hit3, HB2.out, HM2.out⟩
      case measure => rw [iterPos_of hit3, iterPos_of hit2]; omega
    · obtain rfl : pos = s.size := by omega
      have hnx := fun ty => Lib.run_next_end_at (P := Tryd.prog) wr w.heap.size s s.size ty hit2 (by omega)
      have hfin : (s.size : Int) + left q s 0 - left q s s.size = s.size + left q s 0 := by rw [left_end]; omega
      rw [hfin]
      clear hM
      go_wp2_with fail
      go_ret
      exact ⟨rfl, HB.out⟩
end Go.Proofs.YtceelfomgcbkiaaDoor.E

/-
  The walk of put: a text is written into the builder that lies within the writer.
-/
namespace Go.Proofs.YtceelfomgcbkiaaDoor.E
open Go.RowKit Go.Maps Go.Proofs.YtceelfomgcbkiaaDoor.C Go.Lib

theorem runeLen_one (r : Int) (w : World) (h0 : 0 ≤ r) (h1 : r ≤ 127) : Calls Tryd.prog 45 #[.int .i32 r] w fun e w' => e = .returned (.int .i64 1) ∧ w = w' := by
  go_enter Tryd.func45, Tryd.ntmps45
  go_wp2
  go_ret
  exact ⟨rfl, rfl⟩
theorem runeLen_two (r : Int) (w : World) (h0 : 127 < r) (h1 : r ≤ 2047) : Calls Tryd.prog 45 #[.int .i32 r] w fun e w' => e = .returned (.int .i64 2) ∧ w = w' := by
  go_enter Tryd.func45, Tryd.ntmps45
  go_wp2
  go_ret
  exact ⟨rfl, rfl⟩
theorem str_cells (l : List UInt8) (s : ByteArray) : byteCells l ++ strCells s = byteCells (l ++ s.data.toList) := by simp [byteCells, strCells]
theorem ext_take (s : ByteArray) (i j : Nat) : (s.extract i j).data.toList = (s.data.toList.drop i).take (j - i) := by rw [ext_list, List.drop_take]
theorem oK_cells {b : Nat} {w w' : World} (h : Lib.OthersKept 5 (some b) w w') {k : Nat} {cs : Array Value} {t : TypeId} {fz : Nat × Nat} (hk : w.heap[k]? = some (.cells cs t fz)) (hkb : k ≠ b) (ht : t ≠ 5) : w'.heap[k]? = some (.cells cs t fz) :=
  h k _ hk (by simpa using hkb) (fun c f e => by injection e with _ e2 _; exact ht e2)
/-- Where the loop stands: what is written already, and what is to come. -/
def At (q : Bool) (s : ByteArray) (fr pos : Nat) (acc : List UInt8) : Prop := fr ≤ pos ∧ pos ≤ s.size ∧ esc q s.data.toList = acc ++ (s.data.toList.drop fr).take (pos - fr) ++ esc q (s.data.toList.drop pos)
theorem At.start (q : Bool) (s : ByteArray) : At q s 0 0 [] := ⟨Nat.le_refl _, Nat.zero_le _, by simp⟩
theorem At.small {q : Bool} {s : ByteArray} {fr pos : Nat} {acc : List UInt8} (h : At q s fr pos acc) : acc.length + (pos - fr) ≤ 6 * s.size := by
  obtain ⟨h1, h2, h3⟩ := h
  have := congrArg List.length h3
  rw [List.length_append, List.length_append, List.length_take, List.length_drop, size_list] at this
  have := esc_len q s.data.toList
  rw [size_list] at this
  omega
theorem At.no {q : Bool} {s : ByteArray} {fr pos : Nat} {acc : List UInt8} (h : At q s fr pos acc) (hp : pos < s.size) (hr : rpl q (Utf8.decode s pos).1 = none) : At q s fr (pos + (Utf8.decode s pos).2) acc := by
  obtain ⟨h1, h2, h3⟩ := h
  have st := step_ok q s pos hp
  refine ⟨by omega, st.fits, ?_⟩
  rw [h3, st.no hr]
  have e : pos + (Utf8.decode s pos).2 - fr = (pos - fr) + (Utf8.decode s pos).2 := by omega
  rw [e, List.take_add, List.drop_drop, show fr + (pos - fr) = pos by omega]
  simp only [List.append_assoc]
theorem At.yes {q : Bool} {s : ByteArray} {fr pos : Nat} {acc t : List UInt8} (h : At q s fr pos acc) (hp : pos < s.size) (hr : rpl q (Utf8.decode s pos).1 = some t) :
    At q s (pos + (Utf8.decode s pos).2) (pos + (Utf8.decode s pos).2) (acc ++ (s.extract fr pos).data.toList ++ t) ∧ (Utf8.decode s pos).2 = if (Utf8.decode s pos).1 = 160 then 2 else 1 := by
  obtain ⟨h1, h2, h3⟩ := h
  have st := step_ok q s pos hp
  obtain ⟨k1, k2⟩ := st.yes t hr
  refine ⟨⟨Nat.le_refl _, st.fits, ?_⟩, k2⟩
  rw [h3, k1, ext_take, Nat.sub_self, List.take_zero, List.append_nil]
  simp [List.append_assoc]
theorem At.fin {q : Bool} {s : ByteArray} {fr : Nat} {acc : List UInt8} (h : At q s fr s.size acc) : esc q s.data.toList = acc ++ (s.extract fr s.size).data.toList := by
  obtain ⟨h1, h2, h3⟩ := h
  have e : s.data.toList.drop s.size = [] := List.drop_eq_nil_of_le (by rw [size_list]; exact Nat.le_refl _)
  rw [h3, ext_take, e, esc_nil, List.append_nil]

theorem rpl_r {q : Bool} {r : Nat} {t : List UInt8} (h : rpl q r = some t) : (r ≤ 127 ∨ r = 160) ∧ t.length ≤ 6 := by
  unfold rpl at h
  repeat' split at h
  all_goals first
    | (cases h; refine ⟨by omega, by decide⟩)
    | cases h

set_option maxRecDepth 100000 in
set_option maxHeartbeats 6400000 in
theorem put_any (q : Bool) (B b mb : Nat) (s : ByteArray) (w : World) (hs : s.size ≤ 1000000) (hM : RMap w mb (ents q)) (hmb : mb < B) (hE : IsEmb B b (.map (some mb)) [] w) (hB : B ≤ b) (hBw : B ≤ w.heap.size) :
    Calls Tryd.prog 28 #[.pointer (some ⟨b, 0, none⟩), .string s] w fun e w' => e = .returned (.tuple #[]) ∧ IsEmb B b (.map (some mb)) (byteCells (esc q s.data.toList)) w' ∧ Below B w w' := by
  have hit : (w.iter s 0).heap[w.heap.size]? = some (.stringIter s 0) := w.iter_heap s 0
  have hbI : b < w.heap.size := hE.lt
  have HE0 : Hid (IsEmb B b (.map (some mb)) (byteCells []) (w.iter s 0)) := Lib.hid (hE.alloc (.stringIter s 0))
  have HM : Hid (RMap w mb (ents q)) := Lib.hid hM
  have HB0 : Hid (Below B w (w.iter s 0)) := Lib.hid ((Below.refl B w).alloc hBw _)
  clear hM hE
  go_enter Tryd.func28, Tryd.ntmps28
  go_wp2_with fail
  have HA0 := At.start q s
  generalize w.iter s 0 = w1 at *
  go_loopw [4] (fun f wr => ∃ (pos fr : Nat) (acc : List UInt8), f = .int .i64 fr ∧ At q s fr pos acc ∧ wr.heap[w.heap.size]? = some (.stringIter s pos) ∧ IsEmb B b (.map (some mb)) (byteCells acc) wr ∧ Below B w wr) (fun _ wr => s.size - wr.iterPos w.heap.size)
  case atStart => exact ⟨0, 0, [], rfl, HA0, hit, HE0.out, HB0.out⟩
  case round =>
    obtain ⟨pos, fr, acc, rfl, hA, hit2, hE, hBl⟩ := hrel
    have HBl := Lib.hid hBl
    have HE := Lib.hid hE
    have hfp := hA.1
    have hps := hA.2.1
    have hsm := hA.small
    have HA := Lib.hid hA
    have hIw : w.heap.size < wr.heap.size := (Array.getElem?_eq_some_iff.1 hit2).1
    have hbx : b ≠ w.heap.size := by omega
    have hBwr : B ≤ wr.heap.size := by omega
    clear hA hBl hE
    by_cases hlt : pos < s.size
    · have hnx := fun ty => Lib.run_next_any_at (P := Tryd.prog) wr w.heap.size s pos ty hit2 hlt
      have hpos := (step_ok q s pos hlt).pos
      have hfit := (step_ok q s pos hlt).fits
      have hle := decode_le s pos
      have HN : Hid (rpl q (Utf8.decode s pos).1 = none → At q s fr (pos + (Utf8.decode s pos).2) acc) := Lib.hid (HA.out.no hlt)
      have HY : Hid (∀ t, rpl q (Utf8.decode s pos).1 = some t → At q s (pos + (Utf8.decode s pos).2) (pos + (Utf8.decode s pos).2) (acc ++ (s.extract fr pos).data.toList ++ t) ∧ (Utf8.decode s pos).2 = if (Utf8.decode s pos).1 = 160 then 2 else 1) := Lib.hid (fun t ht => HA.out.yes hlt ht)
      generalize (Utf8.decode s pos).1 = r at *
      generalize (Utf8.decode s pos).2 = kk at *
      have hit3 := Lib.iterAt_heap wr w.heap.size s pos (pos + kk) hit2
      have HM2 : Hid (RMap (wr.iterAt w.heap.size s (pos + kk)) mb (ents q)) := Lib.hid ((HM.out.below HBl.out hmb).kept (Lib.iterAt_other wr w.heap.size _ s _ (by omega)))
      have HB2 : Hid (Below B w (wr.iterAt w.heap.size s (pos + kk))) := Lib.hid (Lib.below_iterAt HBl.out (by omega) s (pos + kk))
      have HE2 : Hid (IsEmb B b (.map (some mb)) (byteCells acc) (wr.iterAt w.heap.size s (pos + kk))) := Lib.hid (HE.out.iterAt hit2 (pos + kk))
      have hc2 := HE2.out.cell2
      have hz2 : (wr.iterAt w.heap.size s (pos + kk)).heap.size = wr.heap.size := Lib.iterAt_size _ _ _ _
      rcases ents_rpl q r with ⟨hr, hf⟩ | ⟨t, hr, hf⟩
      · have HA3 := Lib.hid (HN.out hr)
        clear HN HY
        go_wp2_with (first
          | (at_lookup; refine wpList_lookup_rmap _ rfl _ _ _ rfl Tryd.underlying45 Tryd.underlying21 zeroR (zeroRef _) mb (ents q) rfl HM2.out (ents_w q) (ents_d q) r rfl (by unfold i32; omega) ?_; rw [if_pos rfl, hf]; simp only [Option.getD_none, Option.isSome_none]; unfold zeroR))
        have hit4 : ((wr.iterAt w.heap.size s (pos + kk)).alloc (.cells #[.string ⟨#[]⟩, .int .i64 0] 69)).heap[w.heap.size]? = some (.stringIter s (pos + kk)) := (Below.heap_alloc _ _ _ (by rw [hz2]; exact hIw)).trans hit3
        exact ⟨⟨pos + kk, fr, acc, rfl, HA3.out, hit4, HE2.out.alloc _, HB2.out.alloc (by rw [hz2]; exact hBwr) _⟩, by rw [iterPos_of hit4, iterPos_of hit2]; omega⟩
      · obtain ⟨hAy, hkk⟩ := HY.out t hr
        have HA3 := Lib.hid hAy
        have HKK := Lib.hid hkk
        obtain ⟨mo, hf⟩ : ∃ mo : Int, fnd (ents q) r = some (refV t mo) := ⟨_, hf⟩
        have HF := Lib.hid hf
        obtain ⟨hr2, ht6⟩ := rpl_r hr
        have hit4 : ((wr.iterAt w.heap.size s (pos + kk)).alloc (.cells #[.string ⟨t.toArray⟩, .int .i64 mo] 69)).heap[w.heap.size]? = some (.stringIter s (pos + kk)) := (Below.heap_alloc _ _ _ (by rw [hz2]; exact hIw)).trans hit3
        have hJ : ((wr.iterAt w.heap.size s (pos + kk)).alloc (.cells #[.string ⟨t.toArray⟩, .int .i64 mo] 69)).heap[wr.heap.size]? = some (.cells #[.string ⟨t.toArray⟩, .int .i64 mo] 69 (0, 0)) := by
          rw [← hz2]; exact heap_alloc_new _ _
        have HE3 := Lib.hid (HE2.out.alloc (.cells #[.string ⟨t.toArray⟩, .int .i64 mo] 69))
        have HB3 := Lib.hid (HB2.out.alloc (by rw [hz2]; exact hBwr) (.cells #[.string ⟨t.toArray⟩, .int .i64 mo] 69))
        have hz3 : B ≤ ((wr.iterAt w.heap.size s (pos + kk)).alloc (.cells #[.string ⟨t.toArray⟩, .int .i64 mo] 69)).heap.size := by simp [hz2]; omega
        have HR2 := Lib.hid hr2
        clear HN HY hAy hkk hf hr hr2
        go_wp2_with (first
          | (at_lookup; refine wpList_lookup_rmap _ rfl _ _ _ rfl Tryd.underlying45 Tryd.underlying21 zeroR (zeroRef _) mb (ents q) rfl HM2.out (ents_w q) (ents_d q) r rfl (by unfold i32; omega) ?_; rw [if_pos rfl, HF.out]; simp only [Option.getD_some, Option.isSome_some]; unfold refV))
        generalize (wr.iterAt w.heap.size s (pos + kk)).alloc (.cells #[.string ⟨t.toArray⟩, .int .i64 mo] 69) = w4 at *
        go_still_tail 7, (by kernel_rfl)
        change wpList _ _ _ _ _ w4.drew
        have HE5 : Hid (IsEmb B b (.map (some mb)) (byteCells acc) w4.drew) := HE3
        have HB5 : Hid (Below B w w4.drew) := Lib.hid HB3.out.drew
        have hit5 : w4.drew.heap[w.heap.size]? = some (.stringIter s (pos + kk)) := hit4
        have hJ5 : w4.drew.heap[wr.heap.size]? = some (.cells #[.string ⟨t.toArray⟩, .int .i64 mo] 69 (0, 0)) := hJ
        have hz5 : B ≤ w4.drew.heap.size := hz3
        clear HE3 HB3 hit4 hJ hz3
        generalize w4.drew = w5 at *
        have hex : (s.extract fr pos).size = pos - fr := by rw [ByteArray.size_extract]; omega
        have hbl : (byteCells acc).length = acc.length := byteCells_length _
        go_wp2_with fail
        refine (writeString_any B b (.map (some mb)) (byteCells acc) (s.extract fr pos) w5 HE5.out (by rw [hbl, hex]; omega) hz5).mono ?_
        rintro e w6 ⟨rfl, hE6, hb6, hk6⟩
        rw [str_cells] at hE6
        have HE6 := Lib.hid hE6
        have HB6 : Hid (Below B w w6) := Lib.hid (HB5.out.trans hb6)
        have hit6 : w6.heap[w.heap.size]? = some (.stringIter s (pos + kk)) := hk6.iter hit5 (by omega)
        have hJ6 := oK_cells hk6 hJ5 (by omega) (by decide)
        have hz6 : B ≤ w6.heap.size := Nat.le_trans hz5 hb6.size
        clear hE6 hb6 hk6 HE5 HB5 hit5 hJ5
        have hcJ : w6.cell? ⟨wr.heap.size, 0, none⟩ = some (.string ⟨t.toArray⟩) := by rw [Lib.cell_of_heap hJ6]; rfl
        go_wp2_with fail
        go_still_tail 5, (by kernel_rfl)
        change wpList _ _ _ _ _ w6.drew
        have HE7 : Hid (EmbAt B b (.map (some mb)) (.pointer (some ⟨b, 0, none⟩)) (byteCells (acc ++ (s.extract fr pos).data.toList)) w6.drew) := HE6
        have HB7 : Hid (Below B w w6.drew) := Lib.hid HB6.out.drew
        have hit7 : w6.drew.heap[w.heap.size]? = some (.stringIter s (pos + kk)) := hit6
        have hz7 : B ≤ w6.drew.heap.size := hz6
        clear HE6 HB6 hit6 hz6 hcJ hJ6
        generalize w6.drew = w7 at *
        have hbl2 : (byteCells (acc ++ (s.extract fr pos).data.toList)).length = acc.length + (pos - fr) := by rw [byteCells_length, List.length_append, size_list, hex]
        have htl : (⟨t.toArray⟩ : ByteArray).size = t.length := by show t.toArray.size = _; simp
        go_wp2_with fail
        refine (writeString_any B b (.map (some mb)) (byteCells (acc ++ (s.extract fr pos).data.toList)) ⟨t.toArray⟩ w7 (.inr HE7.out) (by rw [hbl2, htl]; omega) hz7).mono ?_
        rintro e w8 ⟨rfl, hE8, hb8, hk8⟩
        rw [str_cells] at hE8
        have HE8 : Hid (IsEmb B b (.map (some mb)) (byteCells (acc ++ (s.extract fr pos).data.toList ++ t)) w8) := Lib.hid (.inr (by simpa using hE8))
        have HB8 : Hid (Below B w w8) := Lib.hid (HB7.out.trans hb8)
        have hit8 : w8.heap[w.heap.size]? = some (.stringIter s (pos + kk)) := hk8.iter hit7 (by omega)
        clear hE8 hb8 hk8 HE7 HB7 hit7 hz7 hbl2 htl hex hbl
        have HRL : Hid (Calls Tryd.prog 45 #[.int .i32 r] w8 fun e w' => e = .returned (.int .i64 kk) ∧ w8 = w') := Lib.hid (by
          rw [HKK.out]
          rcases HR2.out with h | h
          · rw [if_neg (by omega)]; exact runeLen_one r w8 (by omega) (by omega)
          · rw [if_pos h, h]; exact runeLen_two 160 w8 (by decide) (by decide))
        go_wp2_with fail
        refine HRL.out.mono ?_
        rintro e w9 ⟨rfl, rfl⟩
        clear HRL
        go_wp2_with fail
        go_roundw
        case rel => exact ⟨pos + kk, pos + kk, _, by go_num, HA3.out, hit8, HE8.out, HB8.out⟩
        case measure => rw [iterPos_of hit8, iterPos_of hit2]; omega
    · obtain rfl : pos = s.size := by omega
      have hnx := fun ty => Lib.run_next_end_at (P := Tryd.prog) wr w.heap.size s s.size ty hit2 (by omega)
      have HF := Lib.hid HA.out.fin
      have hex : (s.extract fr s.size).size = s.size - fr := by rw [ByteArray.size_extract]; omega
      have hbl : (byteCells acc).length = acc.length := byteCells_length _
      go_wp2_with fail
      go_still_tail 6, (by kernel_rfl)
      change wpList _ _ _ _ _ wr.drew
      have HE5 : Hid (IsEmb B b (.map (some mb)) (byteCells acc) wr.drew) := HE
      have HB5 : Hid (Below B w wr.drew) := Lib.hid HBl.out.drew
      have hz5 : B ≤ wr.drew.heap.size := hBwr
      clear HE HBl hit2 hnx
      generalize wr.drew = w5 at *
      go_wp2_with fail
      refine (writeString_any B b (.map (some mb)) (byteCells acc) (s.extract fr s.size) w5 HE5.out (by rw [hbl, hex]; omega) hz5).mono ?_
      rintro e w6 ⟨rfl, hE6, hb6, _⟩
      rw [str_cells, ← HF.out] at hE6
      have HE6 := Lib.hid hE6
      have HB6 : Hid (Below B w w6) := Lib.hid (HB5.out.trans hb6)
      clear hE6 hb6 HE5 HB5
      go_wp2
      go_end0
      exact ⟨rfl, .inr HE6.out, HB6.out⟩
end Go.Proofs.YtceelfomgcbkiaaDoor.E

/-
  The walks of escape.write, Text, Value, Size: what the text is.
-/
namespace Go.Proofs.YtceelfomgcbkiaaDoor.E
open Go.RowKit Go.Maps Go.Proofs.YtceelfomgcbkiaaDoor.C Go.Lib

def escS (q : Bool) (s : ByteArray) : ByteArray := ⟨(esc q s.data.toList).toArray⟩
theorem escS_list (q : Bool) (s : ByteArray) : (escS q s).data.toList = esc q s.data.toList := by simp [escS]
theorem escS_size (q : Bool) (s : ByteArray) : (escS q s).size = (esc q s.data.toList).length := by rw [← size_list, escS_list]
theorem escS_le (q : Bool) (s : ByteArray) : (escS q s).size ≤ 6 * s.size := by have := esc_len q s.data.toList; rw [size_list] at this; rw [escS_size]; exact this

set_option maxHeartbeats 3200000 in
theorem write_any (q : Bool) (mb : Nat) (s : ByteArray) (w : World) (hs : s.size ≤ 1000000) (hM : RMap w mb (ents q)) :
    Calls Tryd.prog 16 #[.string s, .map (some mb)] w fun e w' => e = .returned (.string (escS q s)) ∧ Below w.heap.size w w' := by
  have hmb := hM.lt
  have hle := escS_le q s
  rw [escS_size] at hle
  have HM1 : Hid (RMap (w.alloc (.cells #[.pointer none, .slice none 0 0, .map (some mb)] 61)) mb (ents q)) := Lib.hid (hM.alloc _)
  have HB1 : Hid (Below w.heap.size w (w.alloc (.cells #[.pointer none, .slice none 0 0, .map (some mb)] 61))) := Lib.hid ((Below.refl w.heap.size w).alloc (Nat.le_refl _) _)
  have hb1 : (w.alloc (.cells #[.pointer none, .slice none 0 0, .map (some mb)] 61)).heap[w.heap.size]? = some (.cells #[.pointer none, .slice none 0 0, .map (some mb)] 61 (0, 0)) := heap_alloc_new _ _
  clear hM
  go_enter Tryd.func16, Tryd.ntmps16
  go_wp2_with fail
  generalize w.alloc (.cells #[.pointer none, .slice none 0 0, .map (some mb)] 61) = w1 at *
  refine (size_any q mb s w1 hs HM1.out).mono ?_
  rintro e w2 ⟨rfl, hb⟩
  have hlt1 : w.heap.size < w1.heap.size := heap_lt hb1
  have HM2 := Lib.hid (HM1.out.below hb HM1.out.lt)
  have hb2 := (hb.block _ hlt1).trans hb1
  have HB2 := Lib.hid (HB1.out.trans (hb.mono HB1.out.size))
  clear hb HM1 hb1 HB1
  go_wp2_with fail
  refine (Grow_fresh w.heap.size w.heap.size (esc q s.data.toList).length (.map (some mb)) w2 (Nat.le_refl _) hb2 HB2.out.size (by omega)).mono ?_
  rintro e w3 ⟨rfl, hE, hb⟩
  have HE3 := Lib.hid (show IsEmb w.heap.size w.heap.size (.map (some mb)) [] w3 from .inr hE)
  have HM3 := Lib.hid (HM2.out.below hb hmb)
  have HB3 := Lib.hid (HB2.out.trans hb)
  clear hE hb HM2 hb2 HB2
  go_wp2_with fail
  refine (put_any q w.heap.size w.heap.size mb s w3 hs HM3.out hmb HE3.out (Nat.le_refl _) HB3.out.size).mono ?_
  rintro e w4 ⟨rfl, hE, hb⟩
  have HE4 := Lib.hid hE
  have HB4 := Lib.hid (HB3.out.trans hb)
  clear hE hb HM3 HE3 HB3
  go_wp2_with fail
  refine (String_any w.heap.size w.heap.size (.map (some mb)) _ w4 HE4.out HB4.out.size).mono ?_
  rintro e w5 ⟨rfl, hb⟩
  have HB5 := Lib.hid (HB4.out.trans hb)
  clear hb HE4 HB4
  go_wp2
  go_ret
  exact ⟨rfl, HB5.out⟩

theorem names_four (w : World) : NamesAt (w.alloc (.cells #[.string ⟨#[97, 109, 112, 59]⟩, .string ⟨#[110, 98, 115, 112, 59]⟩, .string ⟨#[108, 116, 59]⟩, .string ⟨#[103, 116, 59]⟩] 9)) w.heap.size 4 :=
  ⟨by decide, by simp, fun k hk => by
    match k, hk with
    | 0, _ => simp; rfl
    | 1, _ => simp; rfl
    | 2, _ => simp; rfl
    | 3, _ => simp; rfl
    | k + 4, hk => omega⟩
theorem names_five (w : World) : NamesAt (w.alloc (.cells #[.string ⟨#[97, 109, 112, 59]⟩, .string ⟨#[110, 98, 115, 112, 59]⟩, .string ⟨#[108, 116, 59]⟩, .string ⟨#[103, 116, 59]⟩, .string ⟨#[113, 117, 111, 116, 59]⟩] 9)) w.heap.size 5 :=
  ⟨by decide, by simp, fun k hk => by
    match k, hk with
    | 0, _ => simp; rfl
    | 1, _ => simp; rfl
    | 2, _ => simp; rfl
    | 3, _ => simp; rfl
    | 4, _ => simp; rfl
    | k + 5, hk => omega⟩

set_option maxHeartbeats 1600000 in
theorem text_any (s : ByteArray) (w : World) (hs : s.size ≤ 1000000) :
    Calls Tryd.prog 11 #[.string s] w fun e w' => e = .returned (.string (escS false s)) ∧ Below w.heap.size w w' := by
  go_enter Tryd.func11, Tryd.ntmps11
  go_wp2_with fail
  have hN := names_four w
  have hB0 := (Below.refl w.heap.size w).alloc (Nat.le_refl _) (.cells #[.string ⟨#[97, 109, 112, 59]⟩, .string ⟨#[110, 98, 115, 112, 59]⟩, .string ⟨#[108, 116, 59]⟩, .string ⟨#[103, 116, 59]⟩] 9)
  generalize w.alloc (.cells #[.string ⟨#[97, 109, 112, 59]⟩, .string ⟨#[110, 98, 115, 112, 59]⟩, .string ⟨#[108, 116, 59]⟩, .string ⟨#[103, 116, 59]⟩] 9) = w0 at *
  refine (named_any w.heap.size 4 w0 hN).mono ?_
  rintro e w1 ⟨rfl, hM, hb⟩
  have HM : Hid (RMap w1 _ (ents false)) := Lib.hid hM
  have HB := Lib.hid (hB0.trans (hb.mono hB0.size))
  clear hM hb
  go_wp2_with fail
  refine (write_any false _ s w1 hs HM.out).mono ?_
  rintro e w2 ⟨rfl, hb⟩
  replace HB := Lib.hid (HB.out.trans (hb.mono HB.out.size))
  clear hb
  go_wp2
  go_ret
  exact ⟨rfl, HB.out⟩

end Go.Proofs.YtceelfomgcbkiaaDoor.E
