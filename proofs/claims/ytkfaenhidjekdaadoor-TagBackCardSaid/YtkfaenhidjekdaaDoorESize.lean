/-
  The walk of escape.size: how many bytes a text has, once it is written.
-/
import Derived.Test.YtkfaenhidjekdaaDoorENamed
namespace Go.Proofs.YtkfaenhidjekdaaDoor.E
open Go.RowKit Go.Maps Go.Proofs.YtkfaenhidjekdaaDoor.C

/-- The signs of a text, or of a value. -/
def ents (q : Bool) : List (Int × Value) := ents5.take (if q then 5 else 4)
theorem ents_w (q : Bool) : ∀ p ∈ ents q, i32 p.1 := ents_i32 _
theorem ents_d (q : Bool) : ((ents q).map (·.1)).Nodup := ents_nodup _
def zeroR : Value := .agg #[.string ⟨#[]⟩, .int .i64 0]
/-- What is found is what is written instead. -/
theorem ents_rpl (q : Bool) (r : Nat) : (rpl q r = none ∧ fnd (ents q) r = none) ∨ ∃ t, rpl q r = some t ∧ fnd (ents q) r = some (refV t ((t.length : Int) - (if r = 160 then 2 else 1))) := by
  by_cases h1 : r = 38
  · subst h1; exact .inr ⟨[38, 97, 109, 112, 59], rfl, by cases q <;> rfl⟩
  by_cases h2 : r = 160
  · subst h2; exact .inr ⟨nbsp, rfl, by cases q <;> rfl⟩
  by_cases h3 : r = 60
  · subst h3; exact .inr ⟨[38, 108, 116, 59], rfl, by cases q <;> rfl⟩
  by_cases h4 : r = 62
  · subst h4; exact .inr ⟨[38, 103, 116, 59], rfl, by cases q <;> rfl⟩
  by_cases h5 : r = 34
  · subst h5
    cases q with
    | true => exact .inr ⟨[38, 113, 117, 111, 116, 59], rfl, rfl⟩
    | false => exact .inl ⟨rfl, rfl⟩
  refine .inl ⟨by unfold rpl; rw [if_neg h1, if_neg h2, if_neg h3, if_neg h4, if_neg (fun e => h5 e.1)], fnd_none _ _ fun p hp e => ?_⟩
  have hp' := List.mem_of_mem_take hp
  simp only [ents5, List.mem_cons, List.not_mem_nil, or_false] at hp'
  rcases hp' with rfl | rfl | rfl | rfl | rfl
  · have : (38 : Int) = r := e; omega
  · have : (160 : Int) = r := e; omega
  · have : (60 : Int) = r := e; omega
  · have : (62 : Int) = r := e; omega
  · have : (34 : Int) = r := e; omega
theorem esc_ge (q : Bool) : ∀ l : List UInt8, l.length ≤ (esc q l).length
  | [] => Nat.zero_le _
  | c :: l => by
    cases h : sgn q c with
    | some t =>
      rw [esc_sgn h, List.length_append, List.length_cons]
      have : 1 ≤ t.length := by
        unfold sgn at h
        repeat' split at h
        all_goals first
          | (cases h; decide)
          | cases h
      have := esc_ge q l; omega
    | none =>
      by_cases hn : c ≠ 194 ∨ l.head? ≠ some 160
      · rw [esc_keep h hn, List.length_cons, List.length_cons]; have := esc_ge q l; omega
      · have h1 : c = 194 := by by_cases e : c = 194; exact e; exact absurd (.inl e) hn
        have h2 : l.head? = some 160 := by by_cases e : l.head? = some 160; exact e; exact absurd (.inr e) hn
        cases l with
        | nil => cases h2
        | cons d m =>
          have hd : d = 160 := by simpa using h2
          subst h1 hd
          rw [esc_nbsp, List.length_append, List.length_cons, List.length_cons]; have := esc_ge q m
          have : nbsp.length = 6 := rfl
          omega
/-- How much more is written at a step. -/
def more (q : Bool) (r : Nat) : Int := match rpl q r with
  | some t => (t.length : Int) - (if r = 160 then 2 else 1)
  | none => 0
theorem more_bd (q : Bool) (r : Nat) : 0 ≤ more q r ∧ more q r ≤ 5 := by
  unfold more
  split
  · rename_i t h
    unfold rpl at h
    repeat' split at h
    all_goals first
      | (cases h; split <;> (first | decide | omega))
      | cases h
  · exact ⟨Int.le_refl _, by decide⟩
/-- The number of what is still to come: what is written of it, less its own bytes. -/
def left (q : Bool) (s : ByteArray) (p : Nat) : Int := ((esc q (s.data.toList.drop p)).length : Int) - ((s.size : Int) - p)
theorem left_bd (q : Bool) (s : ByteArray) (p : Nat) (hp : p ≤ s.size) : 0 ≤ left q s p ∧ left q s p ≤ 5 * s.size := by
  have h1 := esc_ge q (s.data.toList.drop p)
  have h2 := esc_len q (s.data.toList.drop p)
  rw [List.length_drop, size_list] at h1 h2
  unfold left; omega
theorem left_step (q : Bool) (s : ByteArray) (p : Nat) (h : p < s.size) : left q s p = more q (Utf8.decode s p).1 + left q s (p + (Utf8.decode s p).2) := by
  have st := step_ok q s p h
  have hf := st.fits
  unfold left more
  cases hr : rpl q (Utf8.decode s p).1 with
  | some t =>
    obtain ⟨h1, h2⟩ := st.yes t hr
    rw [h1, List.length_append]
    simp only
    split at h2
    · rename_i e; rw [if_pos e, h2]; omega
    · rename_i e; rw [if_neg e, h2]; omega
  | none =>
    rw [st.no hr, List.length_append, List.length_take, List.length_drop, size_list]
    simp only
    omega
theorem left_end (q : Bool) (s : ByteArray) : left q s s.size = 0 := by
  unfold left
  rw [List.drop_eq_nil_of_le (by rw [size_list]; exact Nat.le_refl _), esc_nil]
  simp
theorem found (q : Bool) (r : Nat) : ∃ x, (fnd (ents q) r).getD zeroR = .agg #[.string x, .int .i64 (more q r)] := by
  rcases ents_rpl q r with ⟨h1, h2⟩ | ⟨t, h1, h2⟩
  · exact ⟨⟨#[]⟩, by rw [h2]; unfold more; rw [h1]; rfl⟩
  · exact ⟨⟨t.toArray⟩, by rw [h2]; unfold more; rw [h1]; rfl⟩

theorem fieldRef (x y : Value) (W : World) : (Instr.field 75 (.agg #[x, y]) 1).run Tryd.prog W = .ok y W := by kernel_rfl
set_option maxHeartbeats 3000000 in
theorem size_any (q : Bool) (mb : Nat) (s : ByteArray) (w : World) (hs : s.size ≤ 1000000) (hM : RMap w mb (ents q)) :
    Calls Tryd.prog 45 #[.string s, .map (some mb)] w fun e w' => e = .returned (.int .i64 ((esc q s.data.toList).length : Nat)) ∧ Below w.heap.size w w' := by
  have hlt := hM.lt
  have HM0 : Hid (RMap (w.iter s 0) mb (ents q)) := Lib.hid (hM.alloc (.stringIter s 0))
  have hit : (w.iter s 0).heap[w.heap.size]? = some (.stringIter s 0) := w.iter_heap s 0
  have HB0 : Hid (Below w.heap.size w (w.iter s 0)) := Lib.hid ((Below.refl w.heap.size w).alloc (Nat.le_refl _) _)
  have hall : ((esc q s.data.toList).length : Int) = s.size + left q s 0 := by unfold left; rw [List.drop_zero]; omega
  have hI : mb < w.heap.size := hlt
  clear hM hlt
  rw [hall]
  go_enter Tryd.func45, Tryd.ntmps45
  go_wp2_with fail
  generalize w.iter s 0 = w1 at *
  go_loopw [5] (fun n wr => ∃ pos : Nat, pos ≤ s.size ∧ n = .int .i64 (s.size + left q s 0 - left q s pos) ∧ wr.heap[w.heap.size]? = some (.stringIter s pos) ∧ Below w.heap.size w wr ∧ RMap wr mb (ents q)) (fun _ wr => s.size - wr.iterPos w.heap.size)
  case atStart => exact ⟨0, Nat.zero_le _, by congr 1; omega, hit, HB0.out, HM0.out⟩
  case round =>
    obtain ⟨pos, hp, rfl, hit2, hB, hM⟩ := hrel
    have HB := Lib.hid hB
    clear hB
    by_cases hlt : pos < s.size
    · have hnx := fun ty => Lib.run_next_any_at (P := Tryd.prog) wr w.heap.size s pos ty hit2 hlt
      have st := step_ok q s pos hlt
      have hpos := st.pos
      have hfit := st.fits
      have hle := decode_le s pos
      have hls := left_step q s pos hlt
      have hmb := more_bd q (Utf8.decode s pos).1
      have h0 := left_bd q s 0 (Nat.zero_le _)
      have h1 := left_bd q s pos hp
      have h2 := left_bd q s (pos + (Utf8.decode s pos).2) hfit
      obtain ⟨x, hx⟩ := found q (Utf8.decode s pos).1
      generalize hr : (Utf8.decode s pos).1 = r at *
      generalize hk : (Utf8.decode s pos).2 = kk at *
      have hit3 := Lib.iterAt_heap wr w.heap.size s pos (pos + kk) hit2
      have HM2 : Hid (RMap (wr.iterAt w.heap.size s (pos + kk)) mb (ents q)) := Lib.hid (hM.kept (Lib.iterAt_other wr w.heap.size _ s _ (by omega)))
      have HB2 := Lib.hid (Lib.below_iterAt HB.out (Nat.le_refl _) s (pos + kk))
      clear hM st
      generalize left q s 0 = L0 at *
      generalize left q s pos = L1 at *
      generalize hL2 : left q s (pos + kk) = L2 at *
      have HL2 := Lib.hid hL2
      clear hL2
      generalize more q r = mo at *
      have hsum : s.size + L0 - L1 + mo = s.size + L0 - L2 := by omega
      have HL := Lib.hid hls
      clear hls
      have hfl := fieldRef
      go_wp2_with (first
        | (at_lookup; refine wpList_lookup_rmap _ rfl _ _ _ rfl Tryd.underlying49 Tryd.underlying21 zeroR (zeroRef _) mb (ents q) rfl HM2.out (ents_w q) (ents_d q) r rfl (by unfold i32; omega) ?_; rw [if_neg (by decide), hx]))
      go_roundw
      case rel => exact ⟨pos + kk, hfit, by rw [HL2.out], hit3, HB2.out, HM2.out⟩
      case measure => rw [iterPos_of hit3, iterPos_of hit2]; omega
    · obtain rfl : pos = s.size := by omega
      have hnx := fun ty => Lib.run_next_end_at (P := Tryd.prog) wr w.heap.size s s.size ty hit2 (by omega)
      have hfin : (s.size : Int) + left q s 0 - left q s s.size = s.size + left q s 0 := by rw [left_end]; omega
      rw [hfin]
      clear hM
      go_wp2_with fail
      go_ret
      exact ⟨rfl, HB.out⟩
end Go.Proofs.YtkfaenhidjekdaaDoor.E
