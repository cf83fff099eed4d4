/-
  Nodes are inside one another, or apart; what a node is in is what is open as it is gone into; each mark's places are its own.
-/
import Derived.Test.YtkkngflpmdcfjaaOOpenP
import Derived.Test.YtkkngflpmdcfjaaOAt
import Derived.Test.YtkkngflpmdcfjaaOInside
namespace Go.Proofs.Ytkkngflpmdcfjaa
open Go.RowKit

theorem evs_lt (K : Nat → List Int) (n : Nat) : ∀ (f : Nat) (seen : Nat → Bool) (s : Stk), (∀ k ∈ nds s, k < n) → ∀ x ∈ evs K n f seen s, x.1 < n
  | 0, _, _, _, x, h => by unfold evs at h; cases h
  | f + 1, seen, [], _, x, h => by unfold evs at h; cases h
  | f + 1, seen, [(a, [])], _, x, h => by rw [evs_end] at h; cases h
  | f + 1, seen, (a, []) :: q :: r, hn, x, h => by
    rw [evs_out] at h
    rw [nds_cons] at hn
    rcases List.mem_cons.1 h with rfl | h
    · exact hn _ (List.mem_cons_self ..)
    · exact evs_lt K n f seen (q :: r) (fun k hk => hn k (List.mem_cons_of_mem _ hk)) x h
  | f + 1, seen, (a, k :: ks) :: r, hn, x, h => by
    rw [nds_kids a (k :: ks) ks r] at hn
    by_cases hf : fresh n seen k = true
    · rw [evs_in hf] at h
      obtain ⟨h0, h1, _⟩ := fresh_iff.1 hf
      have hk : k.toNat < n := by omega
      rcases List.mem_cons.1 h with rfl | h
      · exact hk
      · refine evs_lt K n f _ _ (fun j hj => ?_) x h
        rw [nds_cons] at hj
        rcases List.mem_cons.1 hj with h4 | h4
        · rw [h4]; exact hk
        · exact hn j h4
    · rw [evs_skip (by simpa using hf)] at h
      exact evs_lt K n f seen ((a, ks) :: r) hn x h
theorem evA_lt {K : Nat → List Int} {n : Nat} {x : Nat × Bool} (h : x ∈ evA K n) : x.1 < n := evs_lt K n _ _ _ (fun k hk => by cases hk) x h

/-- Each that is gone into has two steps. -/
theorem evA_twice (K : Nat → List Int) (n : Nat) : (evA K n).length = 2 * (insE (evA K n)).length := by
  obtain ⟨A, hA⟩ : ∃ A, A = evA K n := ⟨_, rfl⟩
  have hnd : A.Nodup := hA ▸ evA_nodup K n
  have h1 : ∀ k, (k, true) ∈ A → (k, false) ∈ A := fun k h => by rw [hA] at h ⊢; exact evA_left h
  have h2 : ∀ k, (k, false) ∈ A → (k, true) ∈ A := fun k h => by rw [hA] at h ⊢; exact evA_went h
  rw [← hA]
  clear hA
  have hp : List.Perm ((A.filter fun x => x.2).map fun x => x.1) ((A.filter fun x => !x.2).map fun x => x.1) := by
    have nd : ∀ b : Bool, ((A.filter fun x => x.2 == b).map fun x => x.1).Nodup := fun b => by
      have key : ∀ B : List (Nat × Bool), B.Nodup → ((B.filter fun x => x.2 == b).map fun x => x.1).Nodup := by
        intro B
        induction B with
        | nil => intro _; exact List.nodup_nil
        | cons x B ih =>
          intro h
          obtain ⟨h3, h4⟩ := List.nodup_cons.1 h
          rw [List.filter_cons]
          split
          · rename_i hb
            rw [List.map_cons]
            refine List.nodup_cons.2 ⟨fun hm => ?_, ih h4⟩
            obtain ⟨y, hy, e⟩ := List.mem_map.1 hm
            obtain ⟨hy1, hy2⟩ := List.mem_filter.1 hy
            have : y = x := Prod.ext e ((eq_of_beq hy2).trans (eq_of_beq hb).symm)
            exact h3 (this ▸ hy1)
          · exact ih h4
      exact key A hnd
    have e1 : (A.filter fun x => x.2) = A.filter fun x => x.2 == true := List.filter_congr fun x _ => by cases x.2 <;> rfl
    have e2 : (A.filter fun x => !x.2) = A.filter fun x => x.2 == false := List.filter_congr fun x _ => by cases x.2 <;> rfl
    rw [e1, e2, List.perm_ext_iff_of_nodup (nd true) (nd false)]
    intro k
    constructor
    · intro h
      obtain ⟨y, hy, rfl⟩ := List.mem_map.1 h
      obtain ⟨hy1, hy2⟩ := List.mem_filter.1 hy
      have e : y = (y.1, true) := Prod.ext rfl (eq_of_beq hy2)
      exact List.mem_map.2 ⟨(y.1, false), List.mem_filter.2 ⟨h1 _ (e ▸ hy1), rfl⟩, rfl⟩
    · intro h
      obtain ⟨y, hy, rfl⟩ := List.mem_map.1 h
      obtain ⟨hy1, hy2⟩ := List.mem_filter.1 hy
      have e : y = (y.1, false) := Prod.ext rfl (eq_of_beq hy2)
      exact List.mem_map.2 ⟨(y.1, true), List.mem_filter.2 ⟨h2 _ (e ▸ hy1), rfl⟩, rfl⟩
  have hl := hp.length_eq
  have hs : ∀ B : List (Nat × Bool), (B.filter fun x => x.2).length + (B.filter fun x => !x.2).length = B.length := by
    intro B
    induction B with
    | nil => rfl
    | cons x B ih =>
      obtain ⟨k, b⟩ := x
      cases b
      · rw [List.filter_cons_of_neg (by simp), List.filter_cons_of_pos (by simp)]; simp only [List.length_cons]; omega
      · rw [List.filter_cons_of_pos (by simp), List.filter_cons_of_neg (by simp)]; simp only [List.length_cons]; omega
  have := hs A
  rw [List.length_map, List.length_map] at hl
  unfold insE
  rw [List.length_map]
  omega

theorem nodup_at {α : Type} {A : List α} (h : A.Nodup) {i j : Nat} {x : α} (hi : A[i]? = some x) (hj : A[j]? = some x) : i = j := by
  obtain ⟨hi1, hi2⟩ := List.getElem?_eq_some_iff.1 hi
  obtain ⟨hj1, hj2⟩ := List.getElem?_eq_some_iff.1 hj
  exact (List.getElem_inj h).1 (hi2.trans hj2.symm)
theorem take_snoc {α : Type} {A : List α} {i : Nat} {x : α} (h : A[i]? = some x) : A.take i ++ [x] = A.take (i + 1) := by
  rw [List.take_add_one, h]; rfl
theorem mem_take_at {α : Type} {A : List α} {x : α} {o : Nat} (h : x ∈ A.take o) : ∃ i, i < o ∧ A[i]? = some x := by
  obtain ⟨i, hi⟩ := List.getElem?_of_mem h
  have hlt := (List.getElem?_eq_some_iff.1 hi).1
  rw [List.length_take] at hlt
  rw [List.getElem?_take, if_pos (by omega)] at hi
  exact ⟨i, by omega, hi⟩
theorem at_mem_take {α : Type} {A : List α} {x : α} {i o : Nat} (h : A[i]? = some x) (hio : i < o) : x ∈ A.take o := by
  refine List.mem_of_getElem? (i := i) ?_
  rw [List.getElem?_take, if_pos hio]; exact h

variable {K : Nat → List Int} {n : Nat}
theorem went_before {k p o : Nat} (hp : (evA K n)[p]? = some (k, true)) (ho : (evA K n)[o]? = some (k, false)) : p < o := by
  have h : (evA K n).take o ++ [(k, false)] <+: evA K n := by rw [take_snoc ho]; exact List.take_prefix _ _
  obtain ⟨i, hi, h2⟩ := mem_take_at (evA_before h)
  have := nodup_at (evA_nodup K n) hp h2
  omega
theorem insE_append (A B : List (Nat × Bool)) : insE (A ++ B) = insE A ++ insE B := by unfold insE; rw [List.filter_append, List.map_append]
/-- Of two nodes one is inside the other one, or they are apart. -/
theorem nest {i k p o pk ok : Nat} (hp : (evA K n)[p]? = some (i, true)) (ho : (evA K n)[o]? = some (i, false)) (hpk : (evA K n)[pk]? = some (k, true)) (hok : (evA K n)[ok]? = some (k, false)) (hlt : pk < p) : o < ok ↔ p ≤ ok := by
  have hpo := went_before hp ho
  refine ⟨fun h => by omega, fun h => ?_⟩
  have hik : i ≠ k := fun e => by
    subst e
    have := nodup_at (evA_nodup K n) hp hpk
    omega
  have h1 : ok ≠ p := fun e => by
    subst e
    rw [hp] at hok; cases hok
  have h2 : ok ≠ o := fun e => by
    subst e
    rw [ho] at hok
    injection hok with e1
    exact hik (congrArg Prod.fst e1)
  rcases Nat.lt_or_ge o ok with h3 | h3
  · exact h3
  · exfalso
    have hpre : (evA K n).take ok ++ [(k, false)] <+: evA K n := by rw [take_snoc hok]; exact List.take_prefix _ _
    obtain ⟨z, hz⟩ := opE_last hpre
    have hpt : (evA K n).take ok <+: evA K n := List.take_prefix _ _
    have hL := opE_is _ ((evA K n).take ok) rfl hpt
    rw [hz] at hL
    have hnd : (z ++ [(k : Int)]).Nodup := by
      rw [hL]
      exact (insE_nodup ((evA_nodup K n).sublist hpt.sublist)).sublist List.filter_sublist
    have hsplit : (evA K n).take ok = (evA K n).take p ++ (i, true) :: ((evA K n).take ok).drop (p + 1) := by
      have e : ((evA K n).take ok).take (p + 1) = (evA K n).take p ++ [(i, true)] := by
        rw [List.take_take, show min (p + 1) ok = p + 1 by omega, take_snoc hp]
      have := List.take_append_drop (p + 1) ((evA K n).take ok)
      rw [e] at this
      exact this.symm.trans (List.append_assoc _ _ _)
    have hoi : openQ ((evA K n).take ok) (i : Int) = true := by
      unfold openQ
      simp only [Bool.not_eq_true', List.contains_eq_mem, decide_eq_false_iff_not, Int.toNat_natCast]
      intro hin
      obtain ⟨j, hj, h4⟩ := mem_take_at hin
      have := nodup_at (evA_nodup K n) ho h4
      omega
    have hkk : openQ ((evA K n).take ok) (k : Int) = true := by
      unfold openQ
      simp only [Bool.not_eq_true', List.contains_eq_mem, decide_eq_false_iff_not, Int.toNat_natCast]
      intro hin
      obtain ⟨j, hj, h4⟩ := mem_take_at hin
      have := nodup_at (evA_nodup K n) hok h4
      omega
    have e3 : insE ((evA K n).take ok) = insE ((evA K n).take p) ++ ((i : Int) :: insE (((evA K n).take ok).drop (p + 1))) := by
      conv => lhs; rw [hsplit]
      rw [insE_append]; rfl
    rw [e3, List.filter_append, List.filter_cons_of_pos hoi] at hL
    have hkF : (k : Int) ∈ (insE ((evA K n).take p)).filter (openQ ((evA K n).take ok)) :=
      List.mem_filter.2 ⟨insE_mem.2 ⟨k, rfl, at_mem_take hpk hlt⟩, hkk⟩
    rw [hL] at hnd
    have hlast := congrArg List.getLast? hL
    rw [List.getLast?_concat, List.getLast?_append] at hlast
    have hne : ∃ q, ((i : Int) :: List.filter (openQ ((evA K n).take ok)) (insE (((evA K n).take ok).drop (p + 1)))).getLast? = some q ∧ q ∈ ((i : Int) :: List.filter (openQ ((evA K n).take ok)) (insE (((evA K n).take ok).drop (p + 1)))) := by
      refine ⟨_, List.getLast?_eq_some_getLast (by simp), List.getLast_mem _⟩
    obtain ⟨q, hq1, hq2⟩ := hne
    rw [hq1] at hlast
    simp at hlast
    rw [List.nodup_append] at hnd
    exact hnd.2.2 _ hkF _ hq2 hlast
/-- Where a node's steps stand, if it is gone into. -/
theorem mark_of (j : Nat) : ((mkE (evA K n)).1 j = (-1, -1) ∧ (j, true) ∉ evA K n) ∨ ∃ i o : Nat, (evA K n)[i]? = some (j, true) ∧ (evA K n)[o]? = some (j, false) ∧ (mkE (evA K n)).1 j = ((i : Int), (o : Int)) ∧ i < o ∧ o < (evA K n).length := by
  obtain ⟨h1, h2⟩ := marks_at K n j
  by_cases h : (j, true) ∈ evA K n
  · obtain ⟨i, hi⟩ := List.getElem?_of_mem h
    obtain ⟨o, ho, hm⟩ := h2 i hi
    exact .inr ⟨i, o, hi, ho, hm, went_before hi ho, (List.getElem?_eq_some_iff.1 ho).1⟩
  · exact .inl ⟨h1 h, h⟩
theorem mark_bd (j : Nat) (hn : (evA K n).length ≤ 62) : (-1 ≤ ((mkE (evA K n)).1 j).1 ∧ ((mkE (evA K n)).1 j).1 < 65) ∧ -1 ≤ ((mkE (evA K n)).1 j).2 ∧ ((mkE (evA K n)).1 j).2 < 65 := by
  rcases mark_of (K := K) (n := n) j with ⟨h, _⟩ | ⟨i, o, _, _, h, h1, h2⟩
  · rw [h]; exact ⟨⟨by decide, by decide⟩, by decide, by decide⟩
  · rw [h]; refine ⟨⟨?_, ?_⟩, ?_, ?_⟩ <;> dsimp only <;> omega
/-- What is between two nodes where neither is inside the other one. -/
theorem apart {i k : Nat} (hk : (k, true) ∈ evA K n) (hr : 0 ≤ ((mkE (evA K n)).1 i).1) (hne : k ≠ i) (h1 : insB ((mkE (evA K n)).1 i) ((mkE (evA K n)).1 k) = false) (h2 : insB ((mkE (evA K n)).1 k) ((mkE (evA K n)).1 i) = false) :
    ¬ (((mkE (evA K n)).1 i).1 < ((mkE (evA K n)).1 k).2 ∧ ((mkE (evA K n)).1 k).1 < ((mkE (evA K n)).1 i).2) := by
  rcases mark_of (K := K) (n := n) i with ⟨h, _⟩ | ⟨p, o, hp, ho, hm, hpo, _⟩
  · rw [h] at hr; exact absurd hr (by decide)
  · rcases mark_of (K := K) (n := n) k with ⟨_, h⟩ | ⟨pk, ok, hpk, hok, hmk, hpok, _⟩
    · exact absurd hk h
    · rw [hm, hmk] at h1 h2 ⊢
      unfold insB at h1 h2
      simp only [Bool.and_eq_false_iff, decide_eq_false_iff_not] at h1 h2
      have hd : pk ≠ p := fun e => by
        subst e
        rw [hp] at hpk
        injection hpk with e1
        exact hne (congrArg Prod.fst e1).symm
      dsimp only at h1 h2 ⊢
      rcases Nat.lt_or_ge pk p with h3 | h3
      · have := nest hp ho hpk hok h3
        omega
      · have := nest hpk hok hp ho (by omega)
        omega
/-- What a node is in. -/
theorem path_in (i : Nat) : pthE (i : Int) [] (evA K n) = (insE (evA K n)).filter fun z => insB ((mkE (evA K n)).1 i) ((mkE (evA K n)).1 z.toNat) := by
  rcases mark_of (K := K) (n := n) i with ⟨h, hno⟩ | ⟨p, o, hp, ho, hm, hpo, _⟩
  · have h1 : hasI (i : Int) (evA K n) = false := by
      unfold hasI
      rw [List.any_eq_false]
      intro x hx
      obtain ⟨k, b⟩ := x
      cases b with
      | false => simp
      | true =>
        simp only [Bool.true_and, decide_eq_true_eq]
        intro e
        have : k = i := by omega
        exact hno (this ▸ hx)
    rw [pthE_none h1, h]
    symm
    rw [List.filter_eq_nil_iff]
    intro z _ hz
    unfold insB at hz
    simp only [Bool.and_eq_true, decide_eq_true_eq] at hz
    omega
  · have hpt : (evA K n).take p <+: evA K n := List.take_prefix _ _
    have h1 : hasI (i : Int) ((evA K n).take p) = false := by
      unfold hasI
      rw [List.any_eq_false]
      intro x hx
      obtain ⟨k, b⟩ := x
      cases b with
      | false => simp
      | true =>
        simp only [Bool.true_and, decide_eq_true_eq]
        intro e
        have hk : k = i := by omega
        subst hk
        obtain ⟨j, hj, h4⟩ := mem_take_at hx
        have := nodup_at (evA_nodup K n) hp h4
        omega
    have hpre : (evA K n).take p ++ [(i, true)] <+: evA K n := by rw [take_snoc hp]; exact List.take_prefix _ _
    rw [pthE_hit h1 rfl hpre, opE_is _ _ rfl hpt]
    have hall : insE (evA K n) = insE ((evA K n).take p) ++ insE ((evA K n).drop p) := by rw [← insE_append, List.take_append_drop]
    rw [hall, List.filter_append]
    have h2 : (insE ((evA K n).drop p)).filter (fun z => insB ((mkE (evA K n)).1 i) ((mkE (evA K n)).1 z.toNat)) = [] := by
      rw [List.filter_eq_nil_iff]
      intro z hz hb
      obtain ⟨k, rfl, hk⟩ := insE_mem.1 hz
      obtain ⟨j, hj⟩ := List.getElem?_of_mem hk
      rw [List.getElem?_drop] at hj
      obtain ⟨_, h5⟩ := marks_at K n k
      obtain ⟨ok, _, hmk⟩ := h5 _ hj
      rw [Int.toNat_natCast, hm, hmk] at hb
      unfold insB at hb
      simp only [Bool.and_eq_true, decide_eq_true_eq] at hb
      omega
    rw [h2, List.append_nil]
    refine List.filter_congr fun z hz => ?_
    obtain ⟨k, rfl, hk⟩ := insE_mem.1 hz
    obtain ⟨pk, hlt, hpk⟩ := mem_take_at hk
    obtain ⟨_, h5⟩ := marks_at K n k
    obtain ⟨ok, hok, hmk⟩ := h5 _ hpk
    rw [Int.toNat_natCast, hm, hmk]
    have hn := nest hp ho hpk hok hlt
    unfold openQ insB
    rw [Int.toNat_natCast]
    by_cases hin : (k, false) ∈ (evA K n).take p
    · obtain ⟨j, hj, h6⟩ := mem_take_at hin
      have := nodup_at (evA_nodup K n) hok h6
      have h7 : ¬ (o < ok) := fun e => by have := hn.1 e; omega
      have h8 : decide ((o : Int) < (ok : Int)) = false := by simp; omega
      rw [h8]
      simp [hin]
    · have h7 : p ≤ ok := by
        rcases Nat.lt_or_ge ok p with h9 | h9
        · exact absurd (at_mem_take hok h9) hin
        · exact h9
      have h8 := hn.2 h7
      have e1 : decide ((0 : Int) ≤ (pk : Int)) = true := by simp
      have e2 : decide ((pk : Int) < (p : Int)) = true := by simp; omega
      have e3 : decide ((o : Int) < (ok : Int)) = true := by simp; omega
      dsimp only
      rw [e1, e2, e3]
      simp [hin]
end Go.Proofs.Ytkkngflpmdcfjaa
