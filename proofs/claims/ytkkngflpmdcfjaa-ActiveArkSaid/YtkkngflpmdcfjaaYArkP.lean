/-
  No more than three are alike: plain, on lists of numbers.
-/
import Derived.Test.YtkkngflpmdcfjaaYPush
namespace Go.Proofs.Ytkkngflpmdcfjaa
open Go.RowKit

/-- What stands behind the last mark. -/
def tlN : List Int → List Int
  | [] => []
  | x :: r => if r.contains (-1) = true then tlN r else if x = -1 then r else x :: r
/-- What is asked of likeness. -/
structure Lk (g : Int → Int → Bool) : Prop where
  symm : ∀ a b, g a b = true → g b a = true
  trans : ∀ a b c, g a b = true → g b c = true → g a c = true
def cnt (g : Int → Int → Bool) (a : Int) (l : List Int) : Nat := (l.filter fun b => g a b).length
def good (g : Int → Int → Bool) (l : List Int) : Prop := ∀ a ∈ l, cnt g a l ≤ 3
/-- Each part between marks, and each beginning of one, is good. -/
def Good (g : Int → Int → Bool) (xs : List Int) : Prop := ∀ k, good g (tlN (xs.take k))

theorem good_sub {g : Int → Int → Bool} {l m : List Int} (h : good g m) (hs : l.Sublist m) : good g l := fun a ha => by
  have h1 := h a (hs.subset ha)
  have h2 := (hs.filter fun b => g a b).length_le
  unfold cnt at *
  omega
theorem tlN_none {l : List Int} (h : -1 ∉ l) : tlN l = l := by
  cases l with
  | nil => rfl
  | cons x r =>
    unfold tlN
    rw [if_neg (by simpa using fun e => h (by simp [e])), if_neg (fun e => h (by simp [e]))]
theorem tlN_app (p r : List Int) (h : -1 ∉ r) : tlN (p ++ -1 :: r) = r := by
  induction p with
  | nil =>
    show tlN (-1 :: r) = r
    unfold tlN
    rw [if_neg (by simpa using h), if_pos rfl]
  | cons x p ih =>
    show tlN (x :: (p ++ -1 :: r)) = r
    unfold tlN
    rw [if_pos (by simp), ih]
/-- A list is its part behind the last mark, and what is ahead of it. -/
theorem tlN_split (l : List Int) : (-1 ∉ l ∧ tlN l = l) ∨ ∃ p r, l = p ++ -1 :: r ∧ -1 ∉ r ∧ tlN l = r := by
  induction l with
  | nil => exact .inl ⟨by simp, rfl⟩
  | cons x r ih =>
    rcases ih with ⟨h1, h2⟩ | ⟨p, q, e, h1, h2⟩
    · by_cases hx : x = -1
      · subst hx
        exact .inr ⟨[], r, rfl, h1, tlN_app [] r h1⟩
      · have : -1 ∉ x :: r := fun e => by
          rcases List.mem_cons.1 e with e | e
          · exact hx e.symm
          · exact h1 e
        exact .inl ⟨this, tlN_none this⟩
    · refine .inr ⟨x :: p, q, by rw [e]; rfl, h1, ?_⟩
      rw [e]; exact tlN_app (x :: p) q h1
theorem tlN_no (l : List Int) : -1 ∉ tlN l := by
  rcases tlN_split l with ⟨h1, h2⟩ | ⟨p, r, e, h1, h2⟩
  · rw [h2]; exact h1
  · rw [h2]; exact h1
theorem Good.nil (g : Int → Int → Bool) : Good g [] := fun k => by rw [List.take_nil]; intro a ha; cases ha
theorem Good.take {g : Int → Int → Bool} {xs : List Int} (h : Good g xs) (n : Nat) : Good g (xs.take n) := fun k => by rw [List.take_take]; exact h _
theorem Good.mark {g : Int → Int → Bool} {xs : List Int} (h : Good g xs) : Good g (xs ++ [-1]) := fun k => by
  rcases Nat.lt_or_ge xs.length k with hk | hk
  · rw [List.take_of_length_le (by simp; omega)]
    have := tlN_app xs [] (by simp)
    rw [this]
    intro a ha; cases ha
  · rw [List.take_append_of_le_length hk]; exact h k
theorem tlN_snoc (xs : List Int) {i : Int} (hi : i ≠ -1) : tlN (xs ++ [i]) = tlN xs ++ [i] := by
  rcases tlN_split xs with ⟨h1, h2⟩ | ⟨p, r, e, h1, h2⟩
  · rw [h2]
    exact tlN_none (fun e => by
      rcases List.mem_append.1 e with e | e
      · exact h1 e
      · exact hi (List.mem_singleton.1 e).symm)
  · rw [h2, e, List.append_assoc]
    exact tlN_app p (r ++ [i]) (fun e => by
      rcases List.mem_append.1 e with e | e
      · exact h1 e
      · exact hi (List.mem_singleton.1 e).symm)
theorem Good.snoc {g : Int → Int → Bool} {xs : List Int} {i : Int} (h : Good g xs) (hi : i ≠ -1) (hg : good g (tlN xs ++ [i])) : Good g (xs ++ [i]) := fun k => by
  rcases Nat.lt_or_ge xs.length k with hk | hk
  · rw [List.take_of_length_le (by simp; omega), tlN_snoc xs hi]; exact hg
  · rw [List.take_append_of_le_length hk]; exact h k
/-- One more, where there are less than three alike. -/
theorem good_more {g : Int → Int → Bool} (L : Lk g) {l : List Int} {i : Int} (h : good g l) (hc : (l.filter fun b => g b i).length < 3) : good g (l ++ [i]) := by
  have key : ∀ a, g a i = true → cnt g a (l ++ [i]) ≤ 3 := fun a ha => by
    unfold cnt
    rw [List.filter_append, List.length_append]
    have h1 : (l.filter fun b => g a b).length ≤ (l.filter fun b => g b i).length := by
      have hs : (l.filter fun b => g a b) = (l.filter fun b => g a b).filter fun b => g b i := by
        rw [List.filter_filter]
        apply List.filter_congr
        intro b _
        cases hb : g a b with
        | false => simp
        | true => rw [L.trans b a i (L.symm a b hb) ha]; rfl
      rw [hs, List.filter_filter]
      have : (fun b => g b i && g a b) = fun b => g a b && g b i := by funext b; exact Bool.and_comm _ _
      rw [this, ← List.filter_filter]
      exact List.length_filter_le _ _
    have h2 : ([i].filter fun b => g a b).length ≤ 1 := List.length_filter_le _ _
    omega
  intro a ha
  cases hai : g a i with
  | true => exact key a hai
  | false =>
    rcases List.mem_append.1 ha with ha | ha
    · have h1 := h a ha
      unfold cnt at *
      rw [List.filter_append, List.length_append]
      have : ([i].filter fun b => g a b) = [] := by simp [hai]
      rw [this]; simpa using h1
    · obtain rfl : a = i := by simpa using ha
      unfold cnt
      rw [List.filter_append, List.length_append]
      have e1 : ([a].filter fun b => g a b) = [] := by simp [hai]
      have e2 : (l.filter fun b => g a b) = [] := by
        rw [List.filter_eq_nil_iff]
        intro b _ hb
        have := L.trans a b a hb (L.symm a b hb)
        rw [hai] at this; cases this
      rw [e1, e2]; simp
/-- How many are alike, and where one of them is: what Push counts. -/
theorem cf_count (G : Int → Bool) (pre : List (Nat × Int)) : (cfP G pre).1 = ((pre.map (·.2)).filter G).length ∧ (1 ≤ (cfP G pre).1 → ∃ x ∈ pre, G x.2 = true ∧ (cfP G pre).2 = (x.1 : Int)) := by
  have key : ∀ (n : Nat) (pre : List (Nat × Int)), pre.length = n → (cfP G pre).1 = ((pre.map (·.2)).filter G).length ∧ (1 ≤ (cfP G pre).1 → ∃ x ∈ pre, G x.2 = true ∧ (cfP G pre).2 = (x.1 : Int)) := by
    intro n
    induction n with
    | zero => intro pre h; obtain rfl := List.eq_nil_of_length_eq_zero h; exact ⟨rfl, fun h => absurd h (by show ¬ (1 : Int) ≤ 0; decide)⟩
    | succ n ih =>
      intro pre h
      rcases List.eq_nil_or_concat pre with e | ⟨q, x, e⟩
      · subst e; simp at h
      · rw [List.concat_eq_append] at e
        subst e
        obtain ⟨i1, i2⟩ := ih q (by simp at h; omega)
        rw [cfP_snoc]
        by_cases hx : G x.2 = true
        · rw [if_pos hx]
          refine ⟨?_, fun _ => ⟨x, by simp, hx, rfl⟩⟩
          rw [List.map_append, List.filter_append, List.length_append, i1]
          simp [hx]
        · rw [if_neg hx]
          refine ⟨?_, fun h1 => ?_⟩
          · rw [List.map_append, List.filter_append, List.length_append, i1]
            simp [hx]
          · obtain ⟨y, hy, h2⟩ := i2 h1
            exact ⟨y, by simp [hy], h2⟩
  exact key _ pre rfl
def entries (p : Nat) (m : List Int) (j : Nat) : List (Nat × Int) := ((List.range j).map fun t => (p + t, m.getD t 0)).reverse
theorem endE_entries (p m : List Int) (hm : -1 ∉ m) (hp : p = [] ∨ ∃ p', p = p' ++ [-1]) : ∀ j, j ≤ m.length → ((bkN (p ++ m) (p.length + j)).takeWhile fun x => decide (x.2 ≠ -1)) = entries p.length m j
  | 0, _ => by
    rcases hp with rfl | ⟨p', rfl⟩
    · rfl
    · rw [Nat.add_zero, List.length_append, List.length_singleton]
      unfold bkN
      have : ((p' ++ [-1]) ++ m).getD p'.length 0 = -1 := by simp [List.getD_eq_getElem?_getD]
      rw [this, List.takeWhile_cons, if_neg (by show ¬ decide ((-1 : Int) ≠ -1) = true; decide)]; rfl
  | j + 1, h => by
    have ih := endE_entries p m hm hp j (by omega)
    have hv : (p ++ m).getD (p.length + j) 0 = m.getD j 0 := by
      rw [List.getD_eq_getElem?_getD, List.getD_eq_getElem?_getD, List.getElem?_append_right (by omega), Nat.add_sub_cancel_left]
    have hne : m.getD j 0 ≠ -1 := fun e => hm (by
      rw [List.getD_eq_getElem?_getD, List.getElem?_eq_getElem (by omega)] at e
      rw [← e]; exact List.getElem_mem _)
    rw [← Nat.add_assoc]
    unfold bkN
    rw [hv, List.takeWhile_cons, if_pos (by simpa using hne), ih]
    unfold entries
    rw [List.range_succ, List.map_append, List.reverse_append]; rfl
theorem split_tl (xs : List Int) : ∃ p m, xs = p ++ m ∧ -1 ∉ m ∧ (p = [] ∨ ∃ p', p = p' ++ [-1]) ∧ tlN xs = m ∧ ∀ r, -1 ∉ r → tlN (p ++ r) = r := by
  rcases tlN_split xs with ⟨h1, h2⟩ | ⟨p, r, e, h1, h2⟩
  · exact ⟨[], xs, rfl, h1, .inl rfl, h2, fun r hr => tlN_none hr⟩
  · exact ⟨p ++ [-1], r, by rw [e]; simp, h1, .inr ⟨p, rfl⟩, h2, fun q hq => by rw [List.append_assoc]; exact tlN_app p q hq⟩
theorem wo_keep {c f : Int} (h : ¬ 3 ≤ c) (xs : List Int) : ∀ k, k ≤ xs.length → woN (pushG c f) xs k = xs.take k
  | 0, _ => by simp [woN]
  | k + 1, hk => by
    unfold woN
    rw [wo_keep h xs k (by omega), if_neg (by unfold pushG; rw [decide_eq_false h]; simp), List.take_add_one, List.getD_eq_getElem?_getD, List.getElem?_eq_getElem (by omega)]; rfl
theorem wo_cut {c : Int} {F : Nat} (h : 3 ≤ c) (xs : List Int) (hF : F < xs.length) : ∀ k, k ≤ xs.length → woN (pushG c (F : Int)) xs k = (xs.take F).take k ++ (xs.take k).drop (F + 1)
  | 0, _ => by simp [woN]
  | k + 1, hk => by
    unfold woN
    have e : xs.getD k 0 = xs[k]'(by omega) := by rw [List.getD_eq_getElem?_getD, List.getElem?_eq_getElem (by omega)]; rfl
    rw [wo_cut h xs hF k (by omega), e]
    have et : xs.take (k + 1) = xs.take k ++ [xs[k]'(by omega)] := by rw [List.take_add_one, List.getElem?_eq_getElem (by omega)]; rfl
    by_cases hkF : k = F
    · subst hkF
      rw [if_pos (by unfold pushG; rw [decide_eq_true h]; simp)]
      rw [List.append_nil, List.drop_eq_nil_of_le (by simp; omega), List.drop_eq_nil_of_le (by simp; omega), List.take_take, List.take_take]
      congr 2; omega
    · rw [if_neg (by unfold pushG; rw [decide_eq_true h]; simp; omega), et]
      rcases Nat.lt_or_ge k F with h1 | h1
      · rw [List.drop_eq_nil_of_le (by simp; omega), List.drop_eq_nil_of_le (by simp; omega), List.append_nil, List.append_nil, List.take_take, List.take_take, Nat.min_eq_left (by omega), Nat.min_eq_left (by omega), et]
      · rw [List.drop_append_of_le_length (by simp; omega), ← List.append_assoc, show (xs.take F).take k = xs.take F from List.take_of_length_le (by simp; omega), show (xs.take F).take (k + 1) = xs.take F from List.take_of_length_le (by simp; omega)]
/-- Push keeps each part good. -/
theorem Good.push {g : Int → Int → Bool} (L : Lk g) {xs : List Int} {i : Int} (h : Good g xs) (hi : i ≠ -1) : Good g (pushP (fun x => g x i) xs i) := by
  obtain ⟨p, m, e, hm, hp, ht, hpr⟩ := split_tl xs
  have hE : endE xs = entries p.length m m.length := by
    have := endE_entries p m hm hp m.length (Nat.le_refl _)
    rw [← e] at this
    unfold endE bk
    rw [e, List.length_append, ← e]
    exact this
  have hgm : good g m := by
    have := h xs.length
    rw [List.take_length, ht] at this
    exact this
  have hval : (endE xs).map (·.2) = m.reverse := by
    rw [hE]; unfold entries
    rw [List.map_reverse, List.map_map]
    congr 1
    apply List.ext_getElem
    · simp
    · intro j h1 h2
      simp [List.getD_eq_getElem?_getD, List.getElem?_eq_getElem h2]
  obtain ⟨hc, hf⟩ := cf_count (fun x => g x i) (endE xs)
  rw [hval, List.filter_reverse, List.length_reverse] at hc
  unfold pushP
  obtain ⟨c, hcc⟩ : ∃ c, c = (cfP (fun x => g x i) (endE xs)).1 := ⟨_, rfl⟩
  obtain ⟨f, hff⟩ : ∃ f, f = (cfP (fun x => g x i) (endE xs)).2 := ⟨_, rfl⟩
  rw [← hcc] at hc hf ⊢
  rw [← hff] at hf ⊢
  by_cases h3 : 3 ≤ c
  · obtain ⟨x, hx, hgx, hfx⟩ := hf (by omega)
    rw [hE] at hx
    unfold entries at hx
    rw [List.mem_reverse, List.mem_map] at hx
    obtain ⟨t, htm, hxe⟩ := hx
    have htm := List.mem_range.1 htm
    subst hxe
    dsimp only at hgx hfx
    have hz : m.getD t 0 = m[t] := by rw [List.getD_eq_getElem?_getD, List.getElem?_eq_getElem htm]; rfl
    rw [hz] at hgx
    have hxl : xs.length = p.length + m.length := by rw [e, List.length_append]
    rw [hfx, wo_cut h3 xs (by omega) xs.length (Nat.le_refl _), List.take_length, List.take_of_length_le (by simp; omega)]
    have e1 : xs.take (p.length + t) = p ++ m.take t := by rw [e, List.take_append, List.take_of_length_le (by omega), Nat.add_sub_cancel_left]
    have e2 : xs.drop (p.length + t + 1) = m.drop (t + 1) := by rw [e, List.drop_append, List.drop_eq_nil_of_le (by omega), show p.length + t + 1 - p.length = t + 1 by omega]; rfl
    rw [e1, e2]
    have hsub : ∀ q, (m.take t ++ (m.drop (t + 1)).take q).Sublist (m.take (t + 1 + q)) := fun q => by
      have : m.take (t + 1 + q) = m.take (t + 1) ++ (m.drop (t + 1)).take q := by rw [List.take_add]
      rw [this]
      exact List.Sublist.append ((List.take_sublist_take_left (by omega))) (List.Sublist.refl _)
    have hno : ∀ q, -1 ∉ m.take t ++ (m.drop (t + 1)).take q := fun q e => hm ((List.take_sublist _ _).subset ((hsub q).subset e))
    have hfull : (m.drop (t + 1)).take m.length = m.drop (t + 1) := List.take_of_length_le (by simp)
    have hGo : Good g ((p ++ m.take t) ++ m.drop (t + 1)) := fun k => by
      rcases Nat.lt_or_ge k (p.length + t) with hk | hk
      · rw [List.take_append_of_le_length (by simp; omega), ← e1, List.take_take]
        exact h _
      · obtain ⟨q, rfl⟩ : ∃ q, k = p.length + t + q := ⟨k - (p.length + t), by omega⟩
        have ek : ((p ++ m.take t) ++ m.drop (t + 1)).take (p.length + t + q) = p ++ (m.take t ++ (m.drop (t + 1)).take q) := by
          rw [List.take_append, List.take_of_length_le (by simp; omega), List.append_assoc]
          congr 3
          simp; omega
        rw [ek, hpr _ (hno q)]
        refine good_sub ?_ (hsub q)
        have h2 := h (p.length + (t + 1 + q))
        have e3 : xs.take (p.length + (t + 1 + q)) = p ++ m.take (t + 1 + q) := by rw [e, List.take_append, List.take_of_length_le (by omega), Nat.add_sub_cancel_left]
        rw [e3, hpr _ (fun e => hm ((List.take_sublist _ _).subset e))] at h2
        exact h2
    refine hGo.snoc hi ?_
    have hno2 := hno m.length
    rw [hfull] at hno2
    rw [List.append_assoc, hpr _ hno2]
    refine good_more L (good_sub hgm (by have := hsub m.length; rw [hfull] at this; exact this.trans (List.take_sublist _ _))) ?_
    have em : m = m.take t ++ m[t] :: m.drop (t + 1) := by rw [← List.drop_eq_getElem_cons htm, List.take_append_drop]
    have hc3 : (m.filter fun b => g b i).length ≤ 3 := by
      have h1 := hgm m[t] (List.getElem_mem _)
      unfold cnt at h1
      have : (m.filter fun b => g b i) = m.filter fun b => g m[t] b := by
        apply List.filter_congr
        intro b _
        rw [Bool.eq_iff_iff]
        exact ⟨fun hb => L.trans _ _ _ hgx (L.symm _ _ hb), fun hb => L.trans _ _ _ (L.symm _ _ hb) hgx⟩
      rw [this]; exact h1
    have hlen : (m.filter fun b => g b i).length = ((m.take t ++ m.drop (t + 1)).filter fun b => g b i).length + 1 := by
      conv => lhs; rw [em]
      rw [List.filter_append, List.filter_append, List.filter_cons, if_pos hgx]
      simp; omega
    omega
  · rw [wo_keep h3 xs _ (Nat.le_refl _), List.take_length]
    refine h.snoc hi ?_
    rw [ht]
    exact good_more L hgm (by omega)
end Go.Proofs.Ytkkngflpmdcfjaa
