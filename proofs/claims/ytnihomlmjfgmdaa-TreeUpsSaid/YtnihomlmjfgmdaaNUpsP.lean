/-
  What stays true of a new tree, whatever is done with it: each kid once in what it says that it is in, and nothing in itself.
-/
import Derived.Test.YtnihomlmjfgmdaaNQ
import Derived.Test.YtnihomlmjfgmdaaNPut
import Derived.Test.YtnihomlmjfgmdaaNRmove
import Derived.Test.YtnihomlmjfgmdaaNDone
namespace Go.Proofs.Ytnihomlmjfgmdaa
open Go.RowKit

def upF (P : List Nd) (j : Nat) : Int := (P.getD j nd0).up
def ksF (P : List Nd) (j : Nat) : List Int := (P.getD j nd0).kids
theorem upI_nat (P : List Nd) (j : Nat) : upI P (j : Int) = upF P j := rfl
theorem upF_up (P : List Nd) (i : Nat) (u : Int) (h : i < P.length) (j : Nat) : upF (P.modify i (setUp u)) j = if j = i then u else upF P j := by
  unfold upF
  rw [List.getD_eq_getElem?_getD, List.getD_eq_getElem?_getD, List.getElem?_modify]
  by_cases e : j = i
  · subst e
    simp [h, setUp]
  · rw [if_neg e]
    cases P[j]? <;> simp [Ne.symm e]
theorem ksF_up (P : List Nd) (i : Nat) (u : Int) (j : Nat) : ksF (P.modify i (setUp u)) j = ksF P j := by
  unfold ksF
  rw [List.getD_eq_getElem?_getD, List.getD_eq_getElem?_getD, List.getElem?_modify]
  cases P[j]? with
  | none => rfl
  | some y => by_cases e : i = j <;> simp [e, setUp]
theorem upF_kids (P : List Nd) (i : Nat) (ks : List Int) (j : Nat) : upF (P.modify i (putKids ks)) j = upF P j := by
  unfold upF
  rw [List.getD_eq_getElem?_getD, List.getD_eq_getElem?_getD, List.getElem?_modify]
  cases P[j]? with
  | none => rfl
  | some y => by_cases e : i = j <;> simp [e, putKids]
theorem ksF_kids (P : List Nd) (i : Nat) (ks : List Int) (h : i < P.length) (j : Nat) : ksF (P.modify i (putKids ks)) j = if j = i then ks else ksF P j := by
  unfold ksF
  rw [List.getD_eq_getElem?_getD, List.getD_eq_getElem?_getD, List.getElem?_modify]
  by_cases e : j = i
  · subst e
    simp [h, putKids]
  · rw [if_neg e]
    cases P[j]? <;> simp [Ne.symm e]

def Falls (n : Nat) (up : Nat → Int) (r : Nat → Nat) : Prop := ∀ j, j < n → ∀ i : Nat, up j = (i : Int) → r i < r j
structure GoodF (n : Nat) (up : Nat → Int) (ks : Nat → List Int) : Prop where
  pos : 0 < n
  root : up 0 = -1
  kid : ∀ i, i < n → ∀ k ∈ ks i, ∃ j : Nat, k = (j : Int) ∧ j < n ∧ up j = (i : Int)
  up_ : ∀ j, j < n → up j = -1 ∨ ∃ i : Nat, up j = (i : Int) ∧ i < n ∧ (ks i).count (j : Int) = 1
  rank : ∃ r, Falls n up r
def Good (P : List Nd) : Prop := GoodF P.length (upF P) (ksF P)
theorem good_new : Good [⟨0, 0, ⟨#[]⟩, .slice none 0 0, ⟨#[]⟩, -1, .slice none 0 0, [], []⟩] := by
  refine ⟨by simp, rfl, fun i hi k hk => ?_, fun j hj => .inl ?_, fun _ => 0, fun j hj i hi => ?_⟩
  · obtain rfl : i = 0 := by simpa using hi
    simp [ksF] at hk
  · obtain rfl : j = 0 := by simpa using hj
    rfl
  · obtain rfl : j = 0 := by simpa using hj
    have : (-1 : Int) = i := hi
    omega
theorem good_add {P : List Nd} {y : Nd} (h : Good P) (hu : y.up = -1) (hk : y.kids = []) : Good (P ++ [y]) := by
  have hup : ∀ j, j < P.length → upF (P ++ [y]) j = upF P j := fun j hj => by unfold upF; simp [List.getD_eq_getElem?_getD, List.getElem?_append, hj]
  have hks : ∀ j, j < P.length → ksF (P ++ [y]) j = ksF P j := fun j hj => by unfold ksF; simp [List.getD_eq_getElem?_getD, List.getElem?_append, hj]
  have hun : upF (P ++ [y]) P.length = -1 := by unfold upF; simp [List.getD_eq_getElem?_getD, hu]
  have hkn : ksF (P ++ [y]) P.length = [] := by unfold ksF; simp [List.getD_eq_getElem?_getD, hk]
  have hl : (P ++ [y]).length = P.length + 1 := by simp
  obtain ⟨h0, h1, h2, h3, r, h4⟩ := h
  unfold Good
  rw [hl]
  refine ⟨by omega, by rw [hup 0 h0]; exact h1, fun i hi k hk => ?_, fun j hj => ?_, r, fun j hj i hi => ?_⟩
  · by_cases e : i < P.length
    · rw [hks i e] at hk
      obtain ⟨j, rfl, hj, hu⟩ := h2 i e k hk
      exact ⟨j, rfl, by omega, by rw [hup j hj]; exact hu⟩
    · obtain rfl : i = P.length := by omega
      rw [hkn] at hk; cases hk
  · by_cases e : j < P.length
    · rw [hup j e]
      rcases h3 j e with h | ⟨i, a1, a2, a3⟩
      · exact .inl h
      · exact .inr ⟨i, a1, by omega, by rw [hks i a2]; exact a3⟩
    · obtain rfl : j = P.length := by omega
      exact .inl hun
  · by_cases e : j < P.length
    · rw [hup j e] at hi
      exact h4 j e i hi
    · obtain rfl : j = P.length := by omega
      rw [hun] at hi
      omega
/-- Does one come to k from j, however far? -/
def Under (P : List Nd) (k j : Nat) : Prop := ∃ f, climb P (k : Int) f (j : Int) = true
theorem under_self (P : List Nd) (k : Nat) : Under P k k := ⟨1, by simp [climb]⟩
theorem under_up {P : List Nd} {k j m : Nat} (hj : j < P.length) (hu : upF P j = (m : Int)) (h : Under P k m) : Under P k j := by
  obtain ⟨f, hf⟩ := h
  refine ⟨f + 1, ?_⟩
  unfold climb
  split
  · rfl
  · rw [inN_of hj, upI_nat, hu]; simpa using hf
theorem climb_more {P : List Nd} {u : Int} : ∀ (f g : Nat) (k : Int), f ≤ g → climb P u f k = true → climb P u g k = true
  | 0, _, _, _, h => by simp [climb] at h
  | f + 1, 0, _, hfg, _ => by omega
  | f + 1, g + 1, k, hfg, h => by
    unfold climb at h ⊢
    split
    · rfl
    · rename_i e
      rw [if_neg e] at h
      split at h
      · rename_i e2
        rw [if_pos e2]
        exact climb_more f g _ (by omega) h
      · cases h
/-- How many numbers fall below a number's rank. -/
def below_ (n : Nat) (r : Nat → Nat) (j : Nat) : Nat := (List.range n).countP fun i => decide (r i < r j)
theorem countP_lt {p q : Nat → Bool} : ∀ (l : List Nat), (∀ x, p x = true → q x = true) → (∃ y ∈ l, q y = true ∧ p y = false) → l.countP p < l.countP q
  | [], _, h => by obtain ⟨y, hy, _⟩ := h; cases hy
  | x :: l, hpq, ⟨y, hy, h1, h2⟩ => by
    have hm : l.countP p ≤ l.countP q := List.countP_mono_left fun z _ h => hpq z h
    rw [List.countP_cons, List.countP_cons]
    rcases List.mem_cons.1 hy with e | hy'
    · subst e
      rw [if_pos h1, if_neg (by rw [h2]; simp)]; omega
    · have ih := countP_lt l hpq ⟨y, hy', h1, h2⟩
      by_cases e : p x = true
      · rw [if_pos e, if_pos (hpq x e)]; omega
      · rw [if_neg e]; split <;> omega
theorem below_lt {n : Nat} {r : Nat → Nat} {j : Nat} (hj : j < n) : below_ n r j < n := by
  have h := countP_lt (p := fun i => decide (r i < r j)) (q := fun _ => true) (List.range n) (fun _ _ => rfl) ⟨j, List.mem_range.2 hj, rfl, by simp⟩
  unfold below_
  simpa using h
theorem below_falls {n : Nat} {r : Nat → Nat} {i j : Nat} (hi : i < n) (h : r i < r j) : below_ n r i < below_ n r j :=
  countP_lt _ (fun x hx => by have : r x < r i := by simpa using hx
                              simpa using (by omega : r x < r j)) ⟨i, List.mem_range.2 hi, by simpa using h, by simp⟩
theorem climb_short {P : List Nd} {k : Nat} (h : Good P) {r : Nat → Nat} (hr : Falls P.length (upF P) r) : ∀ (f : Nat) (j : Nat), j < P.length → climb P (k : Int) f (j : Int) = true → climb P (k : Int) (below_ P.length r j + 1) (j : Int) = true
  | 0, _, _, hc => by simp [climb] at hc
  | f + 1, j, hj, hc => by
    unfold climb at hc ⊢
    by_cases e : (j : Int) = k
    · rw [if_pos e]
    · rw [if_neg e, inN_of hj, if_pos rfl, upI_nat] at hc
      rw [if_neg e, inN_of hj, if_pos rfl, upI_nat]
      rcases h.up_ j hj with hu | ⟨i, hu, hi, _⟩
      · rw [hu] at hc
        exfalso
        cases f with
        | zero => simp [climb] at hc
        | succ f =>
          unfold climb at hc
          rw [if_neg (by omega), show inN P.length (-1) = false by unfold inN; simp] at hc
          simp at hc
      · rw [hu] at hc ⊢
        exact climb_more _ _ _ (below_falls hi (hr j hj i hu)) (climb_short h hr f i hi hc)
theorem not_under {P : List Nd} {k j : Nat} (h : Good P) (hk : k < P.length) (hj : j < P.length) (hh : holdsP P (k : Int) (j : Int) = false) : ¬ Under P k j := by
  rintro ⟨f, hf⟩
  obtain ⟨r, hr⟩ := h.rank
  have h1 := climb_more _ P.length _ (Nat.succ_le_of_lt (below_lt (r := r) hj)) (climb_short h hr f j hj hf)
  unfold holdsP at hh
  rw [inN_of hk, h1] at hh
  simp at hh
/-- A number never comes to itself from what it says that it is in. -/
theorem climb_falls {P : List Nd} {k : Nat} (h : Good P) {r : Nat → Nat} (hr : Falls P.length (upF P) r) : ∀ (f : Nat) (j : Nat), j < P.length → climb P (k : Int) f (j : Int) = true → r k ≤ r j
  | 0, _, _, hc => by simp [climb] at hc
  | f + 1, j, hj, hc => by
    unfold climb at hc
    by_cases e : (j : Int) = k
    · obtain rfl : j = k := by omega
      exact Nat.le_refl _
    · rw [if_neg e, inN_of hj, if_pos rfl, upI_nat] at hc
      rcases h.up_ j hj with hu | ⟨i, hu, hi, _⟩
      · rw [hu] at hc
        exfalso
        cases f with
        | zero => simp [climb] at hc
        | succ f =>
          unfold climb at hc
          rw [if_neg (by omega), show inN P.length (-1) = false by unfold inN; simp] at hc
          simp at hc
      · rw [hu] at hc
        have := climb_falls h hr f i hi hc
        have := hr j hj i hu
        omega
theorem good_holds {P : List Nd} (h : Good P) {i : Nat} (hi : i < P.length) {m : Nat} (hu : upF P i = (m : Int)) : rholdsP P (i : Int) (m : Int) = false := by
  obtain ⟨r, hr⟩ := h.rank
  have h1 := hr i hi m hu
  have hm : m < P.length := by
    rcases h.up_ i hi with e | ⟨m', e, hm, _⟩
    · omega
    · obtain rfl : m = m' := by omega
      exact hm
  unfold rholdsP
  cases hc : climb P (i : Int) (P.length + 1) (m : Int) with
  | false => simp
  | true => have := climb_falls h hr _ m hm hc; omega
theorem rank_shift {P : List Nd} {n k i : Nat} {up' : Nat → Int} (hn : n = P.length) (hr : ∃ r, Falls n (upF P) r) (hi : ¬ Under P k i) (hup : ∀ j, j < n → ∀ m : Nat, up' j = (m : Int) → upF P j = (m : Int) ∨ (Under P k j ∧ m = i)) : ∃ r, Falls n up' r := by
  subst hn
  obtain ⟨r, hr⟩ := hr
  classical
  refine ⟨fun j => r j + if Under P k j then r i + 1 else 0, fun j hj m hm => ?_⟩
  show r m + (if Under P k m then r i + 1 else 0) < r j + if Under P k j then r i + 1 else 0
  rcases hup j hj m hm with hu | ⟨hu, rfl⟩
  · have h1 := hr j hj m hu
    by_cases hm : Under P k m
    · rw [if_pos hm, if_pos (under_up hj hu hm)]; omega
    · rw [if_neg hm]; split <;> omega
  · rw [if_neg hi, if_pos hu]; omega
theorem count_one_parts {l : List Int} {x : Int} {a : Nat} (ha : a < l.length) (hx : l[a] = x) (hc : l.count x = 1) : l.eraseIdx a = l.take a ++ l.drop (a + 1) ∧ (l.take a ++ l.drop (a + 1)).count x = 0 ∧ ∀ y, y ≠ x → (l.take a ++ l.drop (a + 1)).count y = l.count y := by
  have e : l = l.take a ++ x :: l.drop (a + 1) := by
    rw [← hx, List.getElem_cons_drop, List.take_append_drop]
  refine ⟨eraseIdx_parts l a, ?_, fun y hy => ?_⟩
  · rw [e, List.count_append, List.count_cons_self] at hc
    rw [List.count_append]; omega
  · conv => rhs; rw [e]
    rw [List.count_append, List.count_append, List.count_cons_of_ne (Ne.symm hy)]
theorem idxR_some {x : Int} : ∀ (l : List Int) (k : Nat), x ∈ l → idxR x l k ≠ -1
  | [], _, h => by cases h
  | y :: r, k, h => by
    unfold idxR
    by_cases e : x = y
    · rw [if_pos e]; omega
    · rw [if_neg e]
      rcases List.mem_cons.1 h with h | h
      · exact absurd h e
      · exact idxR_some r (k + 1) h
theorem idxI_found {l : List Int} {x : Int} (h : x ∈ l) : ∃ a : Nat, idxI x l = (a : Int) ∧ ∃ ha : a < l.length, l[a] = x := by
  rcases idxI_cases x l with e | ⟨a, e, ha, hx, _⟩
  · exfalso
    exact idxR_some l 0 h e
  · exact ⟨a, e, ha, hx⟩

/-- Behind a cut. -/
theorem good_cut {P : List Nd} {k : Nat} (h : Good P) (hk : k < P.length) (h0 : k ≠ 0) : Good (cutP P (k : Int)) ∧ upF (cutP P (k : Int)) k = -1 ∧ (∀ j, upF (cutP P (k : Int)) j = if j = k then -1 else upF P j) := by
  have hl := length_cutP P (k : Int)
  obtain ⟨p0, p1, p2, p3, p4⟩ := h
  obtain ⟨r, hr⟩ := p4
  rcases p3 k hk with hu | ⟨i, hu, hi, hc⟩
  · have e : cutP P (k : Int) = P.modify k (setUp (-1)) := by
      have hp : placeP P (k : Int) = -1 := by
        unfold placeP
        rw [inN_of hk, upI_nat, hu, show inN P.length (-1) = false by unfold inN; simp]
        simp
      unfold cutP
      rw [inN_of hk, if_pos rfl, hp]
      simp [h0]
    have hup : ∀ j, upF (cutP P (k : Int)) j = if j = k then -1 else upF P j := fun j => by rw [e]; exact upF_up P k (-1) hk j
    have hup2 : ∀ j, upF (cutP P (k : Int)) j = upF P j := fun j => by
      rw [hup]; split
      · rename_i e; rw [e, hu]
      · rfl
    have hks : ∀ j, ksF (cutP P (k : Int)) j = ksF P j := fun j => by rw [e]; exact ksF_up P k (-1) j
    refine ⟨?_, by rw [hup, if_pos rfl], hup⟩
    unfold Good
    rw [hl, funext hup2, funext hks]
    exact ⟨p0, p1, p2, p3, r, hr⟩
  · have hmem : (k : Int) ∈ ksF P i := List.count_pos_iff.1 (by omega)
    obtain ⟨a, ha, hal, hx⟩ := idxI_found hmem
    obtain ⟨e1, c1, c2⟩ := count_one_parts hal hx hc
    have e : cutP P (k : Int) = (P.modify i (putKids ((ksF P i).eraseIdx a))).modify k (setUp (-1)) := by
      have hp : placeP P (k : Int) = (a : Int) := by
        unfold placeP
        rw [inN_of hk, upI_nat, hu, inN_of hi, if_pos rfl, if_pos rfl]
        exact ha
      unfold cutP
      rw [inN_of hk, if_pos rfl, hp, upI_nat, hu]
      simp [h0, nodeI, ksF]
    have hlm : k < (P.modify i (putKids ((ksF P i).eraseIdx a))).length := by simpa using hk
    have hup : ∀ j, upF (cutP P (k : Int)) j = if j = k then -1 else upF P j := fun j => by rw [e, upF_up _ k (-1) hlm j, upF_kids]
    have hks : ∀ j, ksF (cutP P (k : Int)) j = if j = i then (ksF P i).take a ++ (ksF P i).drop (a + 1) else ksF P j := fun j => by rw [e, ksF_up, ksF_kids _ i _ hi j, e1]
    refine ⟨?_, by rw [hup, if_pos rfl], hup⟩
    unfold Good
    rw [hl]
    refine ⟨p0, by rw [hup, if_neg (Ne.symm h0)]; exact p1, fun i' hi' k' hk' => ?_, fun j hj => ?_, r, fun j hj m hm => ?_⟩
    · rw [hks] at hk'
      by_cases ei : i' = i
      · subst ei
        rw [if_pos rfl] at hk'
        have hk2 : k' ∈ ksF P i' := by
          rcases List.mem_append.1 hk' with h | h
          · exact List.mem_of_mem_take h
          · exact List.mem_of_mem_drop h
        obtain ⟨j, rfl, hj, hju⟩ := p2 i' hi' k' hk2
        refine ⟨j, rfl, hj, ?_⟩
        rw [hup, if_neg]
        · exact hju
        · intro ej
          subst ej
          have := List.count_pos_iff.2 hk'
          omega
      · rw [if_neg ei] at hk'
        obtain ⟨j, rfl, hj, hju⟩ := p2 i' hi' k' hk'
        refine ⟨j, rfl, hj, ?_⟩
        rw [hup, if_neg]
        · exact hju
        · intro ej
          subst ej
          rw [hu] at hju
          exact ei (by omega)
    · by_cases ej : j = k
      · exact .inl (by rw [hup, if_pos ej])
      · rw [hup, if_neg ej]
        rcases p3 j hj with h | ⟨i', a1, a2, a3⟩
        · exact .inl h
        · refine .inr ⟨i', a1, a2, ?_⟩
          rw [hks]
          by_cases ei : i' = i
          · subst ei
            rw [if_pos rfl, c2 _ (by omega)]; exact a3
          · rw [if_neg ei]; exact a3
    · rw [hup] at hm
      by_cases ej : j = k
      · rw [if_pos ej] at hm; omega
      · rw [if_neg ej] at hm; exact hr j hj m hm
theorem good_cutP {P : List Nd} (h : Good P) (a : Int) : Good (cutP P a) := by
  by_cases hin : inN P.length a = true
  · obtain ⟨k, rfl, hk⟩ := inN_nat hin
    by_cases h0 : k = 0
    · subst h0
      have hp : placeP P ((0 : Nat) : Int) = -1 := by
        unfold placeP
        rw [inN_of hk, upI_nat, h.root, show inN P.length (-1) = false by unfold inN; simp]
        simp
      have e : cutP P ((0 : Nat) : Int) = P := by
        unfold cutP
        rw [inN_of hk, if_pos rfl, hp]
        simp
      rw [e]; exact h
    · exact (good_cut h hk h0).1
  · have e : cutP P a = P := by unfold cutP; rw [if_neg hin]
    rw [e]; exact h
theorem mayP_parts {P : List Nd} {a b : Int} (h : mayP P a b = true) : ∃ i j : Nat, a = i ∧ b = j ∧ i < P.length ∧ j < P.length ∧ holdsP P (i : Int) (j : Int) = false := by
  unfold mayP at h
  simp only [Bool.and_eq_true] at h
  obtain ⟨⟨h1, h2⟩, h3⟩ := h
  obtain ⟨i, rfl, hi⟩ := inN_nat h1
  obtain ⟨j, rfl, hj⟩ := inN_nat h2
  exact ⟨i, j, rfl, rfl, hi, hj, by simpa using h3⟩
theorem good_putP {P : List Nd} (h : Good P) (up at_ kid : Int) : Good (putP P up at_ kid) := by
  unfold putP
  by_cases hm : kid ≠ 0 ∧ mayP P kid up = true
  · rw [if_pos hm]
    obtain ⟨hk0, hm⟩ := hm
    obtain ⟨k, i, rfl, rfl, hk, hi, hh⟩ := mayP_parts hm
    have hk0' : k ≠ 0 := by omega
    have hnu := not_under h hk hi hh
    obtain ⟨hg, hg1, hg2⟩ := good_cut h hk hk0'
    have hl := length_cutP P (k : Int)
    obtain ⟨q, hq⟩ : ∃ q, cutP P (k : Int) = q := ⟨_, rfl⟩
    rw [hq] at hg hg1 hg2 hl ⊢
    have hnm : ∀ i', i' < P.length → (k : Int) ∉ ksF q i' := fun i' hi' hmem => by
      obtain ⟨j, e, _, hu⟩ := hg.kid i' (by omega) _ hmem
      obtain rfl : k = j := by omega
      omega
    show Good ((q.modify i (putKids (insAt (ksF q i) at_ (k : Int)))).modify k (setUp (i : Int)))
    obtain ⟨m, hmm⟩ : ∃ m, insAt (ksF q i) at_ (k : Int) = (ksF q i).take m ++ (k : Int) :: (ksF q i).drop m := ⟨_, rfl⟩
    rw [hmm]
    have hlq : i < q.length := by omega
    have hlm : k < (q.modify i (putKids ((ksF q i).take m ++ (k : Int) :: (ksF q i).drop m))).length := by simp; omega
    have hup : ∀ j, upF ((q.modify i (putKids ((ksF q i).take m ++ (k : Int) :: (ksF q i).drop m))).modify k (setUp (i : Int))) j = if j = k then (i : Int) else upF q j := fun j => by rw [upF_up _ k _ hlm j, upF_kids]
    have hks : ∀ j, ksF ((q.modify i (putKids ((ksF q i).take m ++ (k : Int) :: (ksF q i).drop m))).modify k (setUp (i : Int))) j = if j = i then (ksF q i).take m ++ (k : Int) :: (ksF q i).drop m else ksF q j := fun j => by rw [ksF_up, ksF_kids _ i _ hlq j]
    have hct : ∀ y, ((ksF q i).take m ++ (k : Int) :: (ksF q i).drop m).count y = (ksF q i).count y + if y = (k : Int) then 1 else 0 := fun y => by
      have hs : ((ksF q i).take m).count y + ((ksF q i).drop m).count y = (ksF q i).count y := by rw [← List.count_append, List.take_append_drop]
      rw [List.count_append]
      by_cases ey : y = (k : Int)
      · subst ey; rw [if_pos rfl, List.count_cons_self]; omega
      · rw [if_neg ey, List.count_cons_of_ne (Ne.symm ey)]; omega
    unfold Good
    have hle : ((q.modify i (putKids ((ksF q i).take m ++ (k : Int) :: (ksF q i).drop m))).modify k (setUp (i : Int))).length = q.length := by simp
    rw [hle]
    refine ⟨hg.pos, by rw [hup, if_neg (Ne.symm hk0')]; exact hg.root, fun i' hi' k' hk' => ?_, fun j hj => ?_, ?_⟩
    · rw [hks] at hk'
      by_cases ek : k' = (k : Int)
      · subst ek
        by_cases ei : i' = i
        · exact ⟨k, rfl, by omega, by rw [hup, if_pos rfl, ei]⟩
        · rw [if_neg ei] at hk'
          exact absurd hk' (hnm i' (by omega))
      · have hk2 : k' ∈ ksF q i' := by
          by_cases ei : i' = i
          · subst ei
            rw [if_pos rfl] at hk'
            rcases List.mem_append.1 hk' with h | h
            · exact List.mem_of_mem_take h
            · rcases List.mem_cons.1 h with h | h
              · exact absurd h ek
              · exact List.mem_of_mem_drop h
          · rw [if_neg ei] at hk'; exact hk'
        obtain ⟨j, rfl, hj, hju⟩ := hg.kid i' hi' k' hk2
        exact ⟨j, rfl, hj, by rw [hup, if_neg (by omega)]; exact hju⟩
    · by_cases ej : j = k
      · subst ej
        refine .inr ⟨i, by rw [hup, if_pos rfl], hlq, ?_⟩
        rw [hks, if_pos rfl, hct, if_pos rfl, List.count_eq_zero.2 (hnm i hi)]
      · rw [hup, if_neg ej]
        rcases hg.up_ j hj with h | ⟨i', a1, a2, a3⟩
        · exact .inl h
        · refine .inr ⟨i', a1, a2, ?_⟩
          rw [hks]
          by_cases ei : i' = i
          · subst ei
            rw [if_pos rfl, hct, if_neg (by omega)]; exact a3
          · rw [if_neg ei]; exact a3
    · refine rank_shift (P := P) (k := k) (i := i) hl (by rw [hl]; exact h.rank) hnu fun j hj m hm => ?_
      rw [hup] at hm
      by_cases ej : j = k
      · rw [if_pos ej] at hm
        subst ej
        exact .inr ⟨under_self P j, by omega⟩
      · rw [if_neg ej, hg2, if_neg ej] at hm
        exact .inl hm
  · rw [if_neg hm]; exact h
theorem stepUp_up (dst : Int) (P : List Nd) (k j : Nat) (hk : k < P.length) : upF (stepUp dst P (k : Int)) j = if j = k then dst else upF P j := by
  unfold stepUp
  rw [inN_of hk, if_pos rfl]
  exact upF_up P k dst hk j
theorem stepUp_ks (dst : Int) (P : List Nd) (k : Int) (j : Nat) : ksF (stepUp dst P k) j = ksF P j := by
  unfold stepUp
  split
  · exact ksF_up P _ dst j
  · rfl
theorem upsP_ks (dst : Int) : ∀ (ks : List Int) (P : List Nd) (j : Nat), ksF (upsP dst P ks) j = ksF P j
  | [], _, _ => rfl
  | k :: ks, P, j => (upsP_ks dst ks (stepUp dst P k) j).trans (stepUp_ks dst P k j)
theorem upsP_up (dst : Int) : ∀ (ks : List Int) (P : List Nd) (j : Nat), (∀ k ∈ ks, ∃ i : Nat, k = (i : Int) ∧ i < P.length) → upF (upsP dst P ks) j = if (j : Int) ∈ ks then dst else upF P j
  | [], P, j, _ => by simp [upsP]
  | k :: ks, P, j, h => by
    obtain ⟨i, rfl, hi⟩ := h k (by simp)
    have ih := upsP_up dst ks (stepUp dst P (i : Int)) j fun k' hk' => by rw [stepUp_len]; exact h k' (by simp [hk'])
    show upF (upsP dst (stepUp dst P (i : Int)) ks) j = _
    rw [ih, stepUp_up dst P i j hi]
    by_cases e1 : (j : Int) ∈ ks
    · rw [if_pos e1, if_pos (by simp [e1])]
    · rw [if_neg e1]
      by_cases e2 : j = i
      · rw [if_pos e2, if_pos (by simp [e2])]
      · rw [if_neg e2, if_neg]
        intro hm
        rcases List.mem_cons.1 hm with h | h
        · omega
        · exact e1 h
theorem good_moveP {P : List Nd} (h : Good P) (src dst : Int) : Good (moveP P src dst) := by
  unfold moveP
  by_cases hm : mayP P src dst = true
  · rw [if_pos hm]
    obtain ⟨a, b, rfl, rfl, ha, hb, hh⟩ := mayP_parts hm
    have hnu := not_under h ha hb hh
    have hab : a ≠ b := fun e => hnu (e ▸ under_self P a)
    show Good (((upsP (b : Int) P (ksF P a)).modify b (putKids (ksF P b ++ ksF P a))).modify a (putKids []))
    have hks0 : ∀ k ∈ ksF P a, ∃ i : Nat, k = (i : Int) ∧ i < P.length := fun k hk => by
      obtain ⟨j, e, hj, _⟩ := h.kid a ha k hk
      exact ⟨j, e, hj⟩
    have hlu : (upsP (b : Int) P (ksF P a)).length = P.length := upsP_len _ _ _
    have hlb : b < (upsP (b : Int) P (ksF P a)).length := by omega
    have hla : a < ((upsP (b : Int) P (ksF P a)).modify b (putKids (ksF P b ++ ksF P a))).length := by simp; omega
    have hup : ∀ j, upF (((upsP (b : Int) P (ksF P a)).modify b (putKids (ksF P b ++ ksF P a))).modify a (putKids [])) j = if (j : Int) ∈ ksF P a then (b : Int) else upF P j := fun j => by rw [upF_kids, upF_kids, upsP_up _ _ _ _ hks0]
    have hks : ∀ j, ksF (((upsP (b : Int) P (ksF P a)).modify b (putKids (ksF P b ++ ksF P a))).modify a (putKids [])) j = if j = a then [] else if j = b then ksF P b ++ ksF P a else ksF P j := fun j => by rw [ksF_kids _ a _ hla, ksF_kids _ b _ hlb, upsP_ks]
    have hkid : ∀ j : Nat, (j : Int) ∈ ksF P a → j < P.length ∧ upF P j = (a : Int) := fun j hj => by
      obtain ⟨j', e, hj', hu⟩ := h.kid a ha _ hj
      obtain rfl : j = j' := by omega
      exact ⟨hj', hu⟩
    have hlen : (((upsP (b : Int) P (ksF P a)).modify b (putKids (ksF P b ++ ksF P a))).modify a (putKids [])).length = P.length := by simp [hlu]
    unfold Good
    rw [hlen]
    refine ⟨h.pos, ?_, fun i hi k hk => ?_, fun j hj => ?_, ?_⟩
    · rw [hup, if_neg]
      · exact h.root
      · intro hm0
        have h1 := (hkid 0 hm0).2
        rw [h.root] at h1
        omega
    · rw [hks] at hk
      by_cases ea : i = a
      · rw [if_pos ea] at hk; cases hk
      · rw [if_neg ea] at hk
        by_cases eb : i = b
        · subst eb
          rw [if_pos rfl] at hk
          by_cases hka : k ∈ ksF P a
          · obtain ⟨j, rfl, hj⟩ := hks0 k hka
            exact ⟨j, rfl, hj, by rw [hup, if_pos hka]⟩
          · have hkb : k ∈ ksF P i := by
              rcases List.mem_append.1 hk with h | h
              · exact h
              · exact absurd h hka
            obtain ⟨j, rfl, hj, hu⟩ := h.kid i hi k hkb
            exact ⟨j, rfl, hj, by rw [hup, if_neg hka]; exact hu⟩
        · rw [if_neg eb] at hk
          obtain ⟨j, rfl, hj, hu⟩ := h.kid i hi k hk
          refine ⟨j, rfl, hj, ?_⟩
          rw [hup, if_neg]
          · exact hu
          · intro hka
            have := (hkid j hka).2
            omega
    · by_cases hja : (j : Int) ∈ ksF P a
      · refine .inr ⟨b, by rw [hup, if_pos hja], hb, ?_⟩
        have hju := (hkid j hja).2
        have c1 : (ksF P a).count (j : Int) = 1 := by
          rcases h.up_ j hj with e | ⟨i, a1, _, a3⟩
          · omega
          · obtain rfl : i = a := by omega
            exact a3
        have c2 : (ksF P b).count (j : Int) = 0 := List.count_eq_zero.2 fun hm0 => by
          obtain ⟨j', e, _, hu⟩ := h.kid b hb _ hm0
          obtain rfl : j = j' := by omega
          omega
        rw [hks, if_neg (Ne.symm hab), if_pos rfl, List.count_append, c1, c2]
      · rw [hup, if_neg hja]
        rcases h.up_ j hj with e | ⟨i, a1, a2, a3⟩
        · exact .inl e
        · have ea : i ≠ a := fun e => hja (List.count_pos_iff.1 (by rw [← e]; omega))
          refine .inr ⟨i, a1, a2, ?_⟩
          rw [hks, if_neg ea]
          by_cases eb : i = b
          · subst eb
            rw [if_pos rfl, List.count_append, a3, List.count_eq_zero.2 hja]
          · rw [if_neg eb]; exact a3
    · refine rank_shift (P := P) (k := a) (i := b) rfl h.rank hnu fun j hj m hm => ?_
      rw [hup] at hm
      by_cases hja : (j : Int) ∈ ksF P a
      · rw [if_pos hja] at hm
        exact .inr ⟨under_up hj (hkid j hja).2 (under_self P a), by omega⟩
      · rw [if_neg hja] at hm
        exact .inl hm
  · rw [if_neg hm]; exact h
/-- How many kids there are. -/
theorem kidSum_put (ks : List Int) : ∀ (l : List Nd) (i : Nat) (h : i < l.length), kidSum (l.modify i (putKids ks)) + l[i].kids.length = kidSum l + ks.length
  | [], i, h => by simp at h
  | x :: l, 0, _ => by simp [kidSum_cons, putKids, List.modify]; omega
  | x :: l, i + 1, h => by
    rw [List.modify_succ_cons, kidSum_cons, kidSum_cons]
    have := kidSum_put ks l i (by simpa using h)
    simp; omega
theorem ksF_at {l : List Nd} {i : Nat} (h : i < l.length) : ksF l i = l[i].kids := by unfold ksF; simp [h]
theorem sum_cutP (P : List Nd) (k : Int) : kidSum (cutP P k) ≤ kidSum P := by
  unfold cutP
  split
  · rename_i hin
    have h1 : kidSum (if 0 ≤ placeP P k then P.modify (upI P k).toNat (putKids ((nodeI P (upI P k)).kids.eraseIdx (placeP P k).toNat)) else P) ≤ kidSum P := by
      split
      · by_cases hl : (upI P k).toNat < P.length
        · have h := kidSum_put ((nodeI P (upI P k)).kids.eraseIdx (placeP P k).toNat) P _ hl
          have e : (nodeI P (upI P k)).kids = P[(upI P k).toNat].kids := by unfold nodeI; simp [hl]
          rw [e] at h ⊢
          have := List.length_eraseIdx_le P[(upI P k).toNat].kids (placeP P k).toNat
          omega
        · rw [List.modify_eq_self (by omega)]
          exact Nat.le_refl _
      · exact Nat.le_refl _
    dsimp only
    split
    · exact h1
    · rw [kidSum_up]; exact h1
  · exact Nat.le_refl _
theorem sum_putP (P : List Nd) (up at_ kid : Int) : kidSum (putP P up at_ kid) ≤ kidSum P + 1 := by
  unfold putP
  split
  · rename_i hm
    obtain ⟨k, i, rfl, rfl, hk, hi, _⟩ := mayP_parts hm.2
    dsimp only
    rw [kidSum_up]
    have hl : i < (cutP P (k : Int)).length := by rw [length_cutP]; exact hi
    have h := kidSum_put (insAt (nodeI (cutP P (k : Int)) (i : Int)).kids at_ (k : Int)) _ i hl
    have hc := sum_cutP P (k : Int)
    have e : (insAt (nodeI (cutP P (k : Int)) (i : Int)).kids at_ (k : Int)).length = (cutP P (k : Int))[i].kids.length + 1 := by
      rw [nodeI_at hl]
      unfold insAt
      simp
      omega
    have e2 : (i : Int).toNat = i := rfl
    rw [e2]
    omega
  · omega
theorem sum_moveP (P : List Nd) (src dst : Int) : kidSum (moveP P src dst) ≤ kidSum P := by
  unfold moveP
  split
  · rename_i hm
    obtain ⟨a, b, rfl, rfl, ha, hb, hh⟩ := mayP_parts hm
    have hab : a ≠ b := Ne.symm (may_ne (P := P) ha hm)
    show kidSum (((upsP (b : Int) P (ksF P a)).modify b (putKids (ksF P b ++ ksF P a))).modify a (putKids [])) ≤ kidSum P
    have hlu : (upsP (b : Int) P (ksF P a)).length = P.length := upsP_len _ _ _
    have hlb : b < (upsP (b : Int) P (ksF P a)).length := by omega
    have hla : a < ((upsP (b : Int) P (ksF P a)).modify b (putKids (ksF P b ++ ksF P a))).length := by simp; omega
    have h1 := kidSum_put (ksF P b ++ ksF P a) (upsP (b : Int) P (ksF P a)) b hlb
    have h2 := kidSum_put [] ((upsP (b : Int) P (ksF P a)).modify b (putKids (ksF P b ++ ksF P a))) a hla
    rw [← ksF_at hlb, upsP_ks, kidSum_ups, List.length_append] at h1
    rw [← ksF_at hla, ksF_kids _ b _ hlb, if_neg hab, upsP_ks, List.length_nil] at h2
    omega
  · exact Nat.le_refl _
theorem good_op {P : List Nd} (h : Good P) (d a b c : Int) (x : Nd) : Good (opP d a b c x P) := by
  unfold opP
  split
  · exact good_add h rfl rfl
  · split
    · exact good_cutP h a
    · split
      · exact good_putP h a b c
      · exact good_moveP h a b
theorem sum_op (P : List Nd) (d a b c : Int) (x : Nd) : kidSum (opP d a b c x P) ≤ kidSum P + 1 := by
  unfold opP
  split
  · rw [kidSum_snoc]; show _ + ([] : List Int).length ≤ _; simp
  · split
    · exact Nat.le_succ_of_le (sum_cutP P a)
    · split
      · exact sum_putP P a b c
      · exact Nat.le_succ_of_le (sum_moveP P a b)
theorem len_op (P : List Nd) (d a b c : Int) (x : Nd) : P.length ≤ (opP d a b c x P).length ∧ (opP d a b c x P).length ≤ P.length + 1 := by
  unfold opP
  split
  · simp
  · split
    · rw [length_cutP]; omega
    · split
      · unfold putP; split <;> simp [length_cutP]
      · unfold moveP; split <;> simp [upsP_len]
theorem kids_le {P : List Nd} {n : Nat} (h : kidSum P ≤ n) : ∀ y ∈ P, y.kids.length ≤ n := fun y hy => by
  obtain ⟨i, hi, rfl⟩ := List.getElem_of_mem hy
  exact Nat.le_trans (kidSum_at P i hi) h
end Go.Proofs.Ytnihomlmjfgmdaa
