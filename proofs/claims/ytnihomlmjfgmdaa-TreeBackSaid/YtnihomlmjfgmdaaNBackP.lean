/-
  What is put, and cut again, in plain functions.
-/
import Derived.Test.YtnihomlmjfgmdaaNPut
namespace Go.Proofs.Ytnihomlmjfgmdaa
open Go.RowKit

theorem idxR_mem (x : Int) : ∀ (l : List Int) (k : Nat), x ∈ l → 0 ≤ idxR x l k
  | [], _, h => by cases h
  | y :: r, k, h => by
    unfold idxR
    by_cases e : x = y
    · rw [if_pos e]; omega
    · rw [if_neg e]; exact idxR_mem x r (k + 1) (by rcases List.mem_cons.1 h with h | h; exact absurd h e; exact h)
theorem idxR_app (x : Int) : ∀ (l m : List Int) (k : Nat), x ∉ l → idxR x (l ++ x :: m) k = ((k + l.length : Nat) : Int)
  | [], m, k, _ => by simp [idxR]
  | y :: r, m, k, h => by
    rw [List.cons_append]
    unfold idxR
    rw [if_neg (fun e => h (by rw [e]; simp)), idxR_app x r m (k + 1) (fun e => h (by simp [e]))]
    simp; omega
theorem idx_ins (n at_ : Int) (ks : List Int) (h : idxI n ks = -1) : idxI n (insAt ks at_ n) = ((min at_.toNat ks.length : Nat) : Int) ∧ (insAt ks at_ n).eraseIdx (min at_.toNat ks.length) = ks := by
  have hn : n ∉ ks := fun e => by have := idxR_mem n ks 0 e; unfold idxI at h; omega
  have hl : (ks.take (min at_.toNat ks.length)).length = min at_.toNat ks.length := by rw [List.length_take]; omega
  refine ⟨?_, ?_⟩
  · unfold idxI insAt
    rw [idxR_app n _ _ 0 (fun e => hn (List.mem_of_mem_take e)), hl, Nat.zero_add]
  · unfold insAt
    rw [List.eraseIdx_eq_take_drop_succ, List.take_append_of_le_length (by omega), List.take_of_length_le (by omega), List.drop_append, hl]
    rw [List.drop_eq_nil_of_le (by omega), show min at_.toNat ks.length + 1 - min at_.toNat ks.length = 1 by omega]
    simp
theorem ins_len (ks : List Int) (at_ n : Int) : (insAt ks at_ n).length = ks.length + 1 := by
  unfold insAt; rw [List.length_append, List.length_cons, List.length_take, List.length_drop]; omega
theorem modify_self {P : List Nd} {i : Nat} {f : Nd → Nd} (h : ∀ x, P[i]? = some x → f x = x) : P.modify i f = P := by
  apply List.ext_getElem?
  intro j
  rw [List.getElem?_modify]
  by_cases e : i = j
  · subst e
    cases hx : P[i]? with
    | none => rfl
    | some x => simp [h x hx]
  · cases P[j]? <;> simp [e]
theorem nodeI_mod {P : List Nd} {i j : Nat} {f : Nd → Nd} (hj : j < P.length) : nodeI (P.modify i f) j = if i = j then f (nodeI P j) else nodeI P j := by
  rw [nodeI_at (by simpa using hj), nodeI_at hj, List.getElem_modify]
theorem cutP_new {P : List Nd} {n : Nat} (hn : n < P.length) (h0 : 0 < n) (hup : upI P n = -1) : cutP P n = P := by
  have hpl : placeP P n = -1 := by
    unfold placeP
    rw [if_pos (inN_of hn), hup, if_neg (by unfold inN; simp)]
  unfold cutP
  rw [if_pos (inN_of hn), hpl]
  dsimp only
  rw [if_neg (by omega), if_neg (by omega), Int.toNat_natCast]
  refine modify_self fun x hx => ?_
  have : upI P n = x.up := by unfold upI; rw [nodeI_at hn, ← Option.some.inj ((List.getElem?_eq_getElem hn).symm.trans hx)]
  have e : x.up = -1 := by rw [← this, hup]
  cases x; simp only [setUp] at *; rw [e]
theorem back_may {P : List Nd} {n j : Nat} {at_ : Int} (hn : P.length = n + 1) (hj : j < n) (hup : upI P n = -1) (hm : mayP P n j = true) :
    putP P j at_ n = (P.modify j (putKids (insAt (nodeI P j).kids at_ n))).modify n (setUp j) := by
  unfold putP
  rw [if_pos ⟨by omega, hm⟩, cutP_new (by omega) (by omega) hup]
  rfl
theorem back_up {P : List Nd} {n j : Nat} {at_ : Int} (hn : P.length = n + 1) (hj : j < n) (hup : upI P n = -1) (hm : mayP P n j = true) :
    upI (putP P j at_ n) n = j ∧ (nodeI (putP P j at_ n) j).kids = insAt (nodeI P j).kids at_ n ∧ (putP P j at_ n).length = n + 1 := by
  rw [back_may hn hj hup hm]
  refine ⟨?_, ?_, by simpa using hn⟩
  · unfold upI; rw [nodeI_mod (by simp; omega), if_pos rfl]; rfl
  · rw [nodeI_mod (by simp; omega), if_neg (by omega), nodeI_mod (by omega), if_pos rfl]; rfl
theorem back_cut {P : List Nd} {n j : Nat} {at_ : Int} (hn : P.length = n + 1) (hj : j < n) (hup : upI P n = -1) (hm : mayP P n j = true) (hi : idxI n (nodeI P j).kids = -1) : cutP (putP P j at_ n) n = P := by
  obtain ⟨h1, h2, h3⟩ := back_up (at_ := at_) hn hj hup hm
  obtain ⟨e1, e2⟩ := idx_ins n at_ _ hi
  have hpl : placeP (putP P j at_ n) n = ((min at_.toNat (nodeI P j).kids.length : Nat) : Int) := by
    unfold placeP
    rw [if_pos (by rw [h3]; exact inN_of (by omega)), h1, if_pos (by rw [h3]; exact inN_of (by omega)), h2, e1]
  unfold cutP
  rw [if_pos (by rw [h3]; exact inN_of (by omega)), hpl, h1, h2]
  dsimp only
  rw [if_neg (show ¬ (n : Int) = 0 by omega), if_pos (show (0 : Int) ≤ ((min at_.toNat (nodeI P j).kids.length : Nat) : Int) by omega), Int.toNat_natCast, Int.toNat_natCast, Int.toNat_natCast, e2, back_may hn hj hup hm]
  apply List.ext_getElem?
  intro i
  rw [List.getElem?_modify, List.getElem?_modify, List.getElem?_modify, List.getElem?_modify]
  cases hx : P[i]? with
  | none => rfl
  | some x =>
    have hil := (List.getElem?_eq_some_iff.1 hx).1
    have hxe := (List.getElem?_eq_some_iff.1 hx).2
    by_cases e3 : n = i
    · subst e3
      have : x.up = -1 := by rw [← hup]; unfold upI; rw [nodeI_at hil, hxe]
      have e4 : ¬ j = n := by omega
      have hf : setUp (-1) (setUp (j : Int) x) = x := by cases x; simp only [setUp] at *; rw [this]
      simp [e4, hf]
    · by_cases e4 : j = i
      · subst e4
        have hk : (nodeI P j).kids = x.kids := by rw [nodeI_at hil, hxe]
        have hf : putKids (nodeI P j).kids (putKids (insAt (nodeI P j).kids at_ n) x) = x := by rw [hk]; cases x; rfl
        simp [e3, hf]
      · simp [e3, e4]
theorem back_stay {P : List Nd} {n j : Nat} {at_ : Int} (hm : mayP P n j = false) : putP P j at_ n = P := by
  unfold putP; rw [if_neg (by simp [hm])]
theorem small_putP {P : List Nd} {n j : Nat} {at_ : Int} {m : Nat} (hn : P.length = n + 1) (hj : j < n) (hup : upI P n = -1) (hP : ∀ x ∈ P, x.kids.length ≤ m) : ∀ x ∈ putP P j at_ n, x.kids.length ≤ m + 1 := by
  cases hm : mayP P n j with
  | false => rw [back_stay hm]; exact fun x hx => Nat.le_succ_of_le (hP x hx)
  | true =>
    rw [back_may hn hj hup hm]
    have hle : (nodeI P j).kids.length ≤ m := by rw [nodeI_at (by omega : j < P.length)]; exact hP _ (List.getElem_mem _)
    exact small_modify (small_modify (fun x hx => Nat.le_succ_of_le (hP x hx)) fun x _ => by show (insAt _ _ _).length ≤ _; rw [ins_len]; omega) fun x hx => hx
theorem all_modify {p : Nd → Prop} {P : List Nd} {i : Nat} {f : Nd → Nd} (hP : ∀ x ∈ P, p x) (hf : ∀ x, p x → p (f x)) : ∀ x ∈ P.modify i f, p x := by
  intro x hx
  obtain ⟨j, hj, e⟩ := List.mem_iff_getElem.1 hx
  obtain ⟨h', e'⟩ := modify_at hj
  rw [← e, e']
  have := hP _ (List.getElem_mem h')
  split
  · exact hf _ this
  · exact this
theorem all_cutP {p : Nd → Prop} (hu : ∀ x u, p x → p (setUp u x)) (hk : ∀ x ks, p x → p (putKids ks x)) {P : List Nd} {kid : Int} (hP : ∀ x ∈ P, p x) : ∀ x ∈ cutP P kid, p x := by
  unfold cutP
  have h1 : ∀ x ∈ (if 0 ≤ placeP P kid then P.modify (upI P kid).toNat (putKids ((nodeI P (upI P kid)).kids.eraseIdx (placeP P kid).toNat)) else P), p x := by
    split
    · exact all_modify hP fun x hx => hk x _ hx
    · exact hP
  split
  · dsimp only
    split
    · exact h1
    · exact all_modify h1 fun x hx => hu x _ hx
  · exact hP
theorem all_putP {p : Nd → Prop} (hu : ∀ x u, p x → p (setUp u x)) (hk : ∀ x ks, p x → p (putKids ks x)) {P : List Nd} {up at_ kid : Int} (hP : ∀ x ∈ P, p x) : ∀ x ∈ putP P up at_ kid, p x := by
  unfold putP
  split
  · exact all_modify (all_modify (all_cutP hu hk hP) fun x hx => hk x _ hx) fun x hx => hu x _ hx
  · exact hP
end Go.Proofs.Ytnihomlmjfgmdaa
