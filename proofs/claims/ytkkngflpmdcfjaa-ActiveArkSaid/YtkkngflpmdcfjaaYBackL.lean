/-
  The law ActiveBack, walked; numbers as an argument.
-/
import Derived.Test.YtkkngflpmdcfjaaYAwake
import Derived.Test.YtkkngflpmdcfjaaYOpen
namespace Go.Proofs.Ytkkngflpmdcfjaa
open Go.RowKit

section
open Go.ChangeShapes Go.WideShapes Go.Deep Go.Joins
variable {H : Type} {enc : TypeId × Value → H} {w : World} {base : Nat} {held : Bool}
set_option maxRecDepth 100000 in
theorem ints_arg {fuel : Nat} {a : Option Addr} {n c : Nat} {x : DataW H × List MemPlace} (h : DataW.trod enc Try.prog w base (fun _ => true) held fuel 29 [.slice a n c] = some x) : ∃ l : List Int, l.length = n ∧ l.length ≤ c ∧ l.length ≤ maxLen ∧ IntsAt w a l := by
  rcases open_ints Try.underlying29 Try.underlying3 (by kernel_rfl) h with ⟨hcs, _⟩ | ⟨a, len, cap, zs, hcs, hb, hl, hm, hz, _, hc, _⟩
  · simp at hcs
    obtain ⟨rfl, rfl, rfl⟩ := hcs
    exact ⟨[], rfl, Nat.le_refl _, Nat.zero_le _, IntsAt.nil _ _⟩
  · simp at hcs
    obtain ⟨rfl, rfl, rfl⟩ := hcs
    have hz' : zs.length = c := by rw [hz]; rfl
    have hlen : (zs.take n).length = n := by rw [List.length_take]; omega
    refine ⟨zs.take n, hlen, by omega, by omega, fun hne => ?_⟩
    have hpos : 0 < n := by
      rcases Nat.eq_zero_or_pos n with h0 | h0
      · subst h0; simp at hne
      · exact h0
    have h0 := hc 0 (by omega)
    have hbk := World.block_lt_of_cell? w _ h0
    rcases a with ⟨b, off, path⟩
    have key : path = none := by
      cases path with
      | none => rfl
      | some q =>
        exfalso
        simp [Addr.add, World.cell?] at h0
        split at h0 <;> cases h0
    subst key
    have hadd : ∀ i, (⟨b, off, none⟩ : Addr).add i = ⟨b, off + i, none⟩ := fun i => by unfold Addr.add; split <;> simp_all
    refine ⟨b, off, rfl, by rw [hadd] at hbk; exact hbk, fun j hj => ?_⟩
    have hj2 : j < n := by omega
    have := hc j (by omega)
    rw [hadd] at this
    rw [this, List.getElem_take, List.getD_eq_getElem?_getD, List.getElem?_eq_getElem (by omega)]; rfl
end

theorem numbers_any (a : Option Addr) (n cap : Nat) (w : World) (hn : n ≤ maxLen) : Calls Try.prog 40 #[.slice a n cap] w fun e w' => e = .returned (.bool (decide (n ≤ 40))) ∧ w' = w := by
  unfold maxLen at hn
  go_enter Try.func40, Try.ntmps40
  go_wp2
  go_ret
  exact ⟨ret_bool (by first | rfl | (apply decide_eq_decide.2; omega)), rfl⟩
theorem swap_back {i by_ : Int} : ∀ {xs : List Int}, by_ ∉ xs → (xs.map (swP i by_)).map (swP by_ i) = xs
  | [], _ => rfl
  | z :: r, h => by
    have h1 : z ≠ by_ := fun e => h (by simp [e])
    rw [List.map_cons, List.map_cons, swap_back (fun e => h (by simp [e]))]
    congr 1
    unfold swP
    by_cases e : z = i
    · rw [if_pos e, if_pos rfl, e]
    · rw [if_neg e, if_neg h1]
theorem drop_none {d : Int} : ∀ {xs : List Int}, d ∉ xs → dropP d xs = xs
  | [], _ => rfl
  | z :: r, h => by
    have h1 : z ≠ d := fun e => h (by simp [e])
    unfold dropP
    rw [List.filter_cons, if_pos (by simp [h1])]
    have := drop_none (d := d) (xs := r) (fun e => h (by simp [e]))
    unfold dropP at this
    rw [this]
theorem drop_into {at_ by_ : Int} {xs : List Int} (h0 : 0 ≤ by_) (h : by_ ∉ xs) : dropP by_ (intoP at_ by_ xs) = xs := by
  have h1 := drop_none (d := by_) (xs := xs.take (nearK at_ xs.length)) (fun e => h (List.mem_of_mem_take e))
  have h2 := drop_none (d := by_) (xs := xs.drop (nearK at_ xs.length)) (fun e => h (List.mem_of_mem_drop e))
  unfold dropP at h1 h2
  unfold dropP intoP
  rw [List.filter_append, List.filter_cons, if_neg (by simp [h0]), h1, h2, List.take_append_drop]
theorem idxR_app (x : Int) (r : List Int) : ∀ (l : List Int) (k : Nat), x ∉ l → idxR x (l ++ x :: r) k = ((k + l.length : Nat) : Int)
  | [], k, _ => by show idxR x (x :: r) k = _; unfold idxR; rw [if_pos rfl]; rfl
  | z :: l, k, h => by
    show idxR x (z :: (l ++ x :: r)) k = _
    unfold idxR
    rw [if_neg (fun e => h (by simp [e])), idxR_app x r l (k + 1) (fun e => h (by simp [e]))]
    simp only [List.length_cons]; omega
theorem idx_into {at_ by_ : Int} {xs : List Int} (h : by_ ∉ xs) : idxI by_ (intoP at_ by_ xs) = max 0 (min at_ xs.length) := by
  unfold idxI intoP
  have hk : nearK at_ xs.length ≤ xs.length := by unfold nearK; omega
  rw [idxR_app _ _ _ _ (fun e => h (List.mem_of_mem_take e)), List.length_take, Nat.min_eq_left hk]
  unfold nearK; omega
theorem idxI_mem {x : Int} {xs : List Int} (h : decide (0 ≤ idxI x xs) = false) : x ∉ xs := by
  have h1 : ¬ 0 ≤ idxI x xs := by simpa using h
  intro hm
  have key : ∀ (l : List Int) (k : Nat), x ∈ l → 0 ≤ idxR x l k := by
    intro l
    induction l with
    | nil => intro k h; cases h
    | cons y r ih =>
      intro k h
      unfold idxR
      split
      · omega
      · rename_i hne
        exact ih (k + 1) (by
          rcases List.mem_cons.1 h with e | e
          · exact absurd e hne
          · exact e)
  exact h1 (key xs 0 hm)
theorem into_len (at_ by_ : Int) (xs : List Int) : (intoP at_ by_ xs).length = xs.length + 1 := by
  unfold intoP
  have hk : nearK at_ xs.length ≤ xs.length := by unfold nearK; omega
  rw [List.length_append, List.length_cons, List.length_take, List.length_drop]; omega
theorem drop_len (d : Int) (xs : List Int) : (dropP d xs).length ≤ xs.length := List.length_filter_le _ _

set_option maxRecDepth 100000 in
set_option maxHeartbeats 4000000 in
theorem back_law (a : Option Addr) (cap : Nat) (xs : List Int) (i by_ at_ : Int) (w : World) (hAw : ∀ W, Calls Try.prog 59 #[] W (RetT W)) (hA : IntsAt w a xs) (hl : xs.length ≤ maxLen) :
    Calls Try.prog 14 #[.slice a xs.length cap, .int .i64 i, .int .i64 by_, .int .i64 at_] w (RetT w) := by
  have HAw := Lib.hid hAw
  have HA := Lib.hid hA
  clear hAw hA
  have hN := numbers_any a xs.length cap w hl
  by_cases h40 : xs.length ≤ 40
  · rw [decide_eq_true h40] at hN
    have HN := Lib.hid hN
    have HL : Hid (xs.length ≤ 1000000) := Lib.hid (by omega)
    have hC := contains_ints a cap xs by_ w HA.out HL.out
    have hn1 : (xs.length : Int) ≤ 40 := by omega
    have hn0 : (0 : Int) ≤ (xs.length : Int) := by omega
    clear hN hl h40
    cases hq : decide (0 ≤ idxI by_ xs) with
    | true =>
      rw [hq] at hC
      have HC := Lib.hid hC
      clear hC hq
      go_enter Try.func14, Try.ntmps14
      go_wp2_with fail
      refine HN.out.mono ?_
      rintro e w1 ⟨rfl, rfl⟩
      go_wp2_with fail
      refine HC.out.mono ?_
      rintro e w2 ⟨rfl, rfl⟩
      go_wp2_with fail
      refine (HAw.out _).mono ?_
      rintro e w3 ⟨rfl, hb⟩
      go_wp2
      go_ret
      exact ⟨rfl, hb⟩
    | false =>
      rw [hq] at hC
      have HC := Lib.hid hC
      have HM := Lib.hid (idxI_mem hq)
      clear hC hq
      by_cases hb0 : by_ < 0
      · go_enter Try.func14, Try.ntmps14
        go_wp2_with fail
        refine HN.out.mono ?_
        rintro e w1 ⟨rfl, rfl⟩
        go_wp2_with fail
        refine HC.out.mono ?_
        rintro e w2 ⟨rfl, rfl⟩
        go_wp2_with fail
        refine (HAw.out _).mono ?_
        rintro e w3 ⟨rfl, hb⟩
        go_wp2
        go_ret
        exact ⟨rfl, hb⟩
      · have HDr : Hid (dropP by_ (intoP at_ by_ xs) = xs) := Lib.hid (drop_into (by omega) HM.out)
        have HIx : Hid (idxI by_ (intoP at_ by_ xs) = max 0 (min at_ xs.length)) := Lib.hid (idx_into HM.out)
        have HSw : Hid ((xs.map (swP i by_)).map (swP by_ i) = xs) := Lib.hid (swap_back HM.out)
        have hb1 : 0 ≤ by_ := by omega
        clear hb0 HM
        go_enter Try.func14, Try.ntmps14
        go_wp2_with fail
        refine HN.out.mono ?_
        rintro e w1 ⟨rfl, rfl⟩
        go_wp2_with fail
        refine HC.out.mono ?_
        rintro e w2 ⟨rfl, rfl⟩
        clear HN HC
        go_wp2_with fail
        refine ((into_any a cap xs at_ by_ w2 HA.out HL.out).mono fun e w' h => retL_of h rfl (into_len at_ by_ xs)).mono ?_
        rintro e w3 ⟨ai, ci, rfl, hi, hb⟩
        have HIn := Lib.hid hi
        have HB3 := Lib.hid hb
        have HA3 := Lib.hid (HA.out.below hb)
        clear hi hb
        go_wp2_with fail
        have hAt := at_any ai ci (intoP at_ by_ xs) by_ w3 HIn.out (by rw [into_len]; have := HL.out; omega)
        rw [into_len, HIx.out] at hAt
        refine hAt.mono ?_
        rintro e w4 ⟨rfl, rfl⟩
        clear hAt
        go_wp2_with fail
        refine ((swap_any a cap xs i by_ w4 HA3.out HL.out).mono fun e w' h => retL_of h rfl (List.length_map ..)).mono ?_
        rintro e w5 ⟨a5, c5, rfl, hi, hb⟩
        have HI5 := Lib.hid hi
        have HB5 := below_step HB3 hb
        have HA5 := Lib.hid (HA3.out.below hb)
        have HIn5 := Lib.hid (HIn.out.below hb)
        clear hi hb
        have hS2 := (swap_any a5 c5 (xs.map (swP i by_)) by_ i w5 HI5.out (by rw [List.length_map]; exact HL.out)).mono fun e w' h => retL_of h HSw.out rfl
        rw [List.length_map] at hS2
        have HS2 := Lib.hid hS2
        clear hS2
        go_wp2_with fail
        refine HS2.out.mono ?_
        rintro e w6 ⟨a6, c6, rfl, hi, hb⟩
        have HI6 := Lib.hid hi
        have HB6 := below_step HB5 hb
        have HA6 := Lib.hid (HA5.out.below hb)
        have HIn6 := Lib.hid (HIn5.out.below hb)
        clear hi hb HS2
        go_wp2_with fail
        refine (equal_ints a6 a c6 cap xs xs w6 HL.out HL.out HI6.out HA6.out).mono ?_
        rw [decide_eq_true (rfl : xs = xs)]
        rintro e w7 ⟨rfl, hb⟩
        have HB7 := below_step HB6 hb
        have HA7 := Lib.hid (HA6.out.below hb)
        have HIn7 := Lib.hid (HIn6.out.below hb)
        clear hb
        have hD := (drop_any ai ci (intoP at_ by_ xs) by_ w7 HIn7.out (by rw [into_len]; have := HL.out; omega)).mono fun e w' h => retL_of h HDr.out rfl
        rw [into_len] at hD
        have HD := Lib.hid hD
        clear hD
        go_wp2_with fail
        refine HD.out.mono ?_
        rintro e w8 ⟨a8, c8, rfl, hi, hb⟩
        have HI8 := Lib.hid hi
        have HB8 := below_step HB7 hb
        have HA8 := Lib.hid (HA7.out.below hb)
        clear hi hb HD
        go_wp2_with fail
        refine (equal_ints a8 a c8 cap xs xs w8 HL.out HL.out HI8.out HA8.out).mono ?_
        rw [decide_eq_true (rfl : xs = xs)]
        rintro e w9 ⟨rfl, hb⟩
        have HB9 := below_step HB8 hb
        clear hb
        go_wp2_with fail
        refine (HAw.out _).mono ?_
        rintro e w10 ⟨rfl, hb⟩
        have HB10 := below_step HB9 hb
        go_wp2
        go_ret
        exact ⟨rfl, HB10.out⟩
  · have h41 : decide (xs.length ≤ 40) = false := decide_eq_false h40
    rw [h41] at hN
    have HN := Lib.hid hN
    clear hN hl h40 h41
    go_enter Try.func14, Try.ntmps14
    go_wp2_with fail
    refine HN.out.mono ?_
    rintro e w1 ⟨rfl, rfl⟩
    go_wp2_with fail
    refine (HAw.out _).mono ?_
    rintro e w3 ⟨rfl, hb⟩
    go_wp2
    go_ret
    exact ⟨rfl, hb⟩
end Go.Proofs.Ytkkngflpmdcfjaa
