/-
  Layer 8 (tag) in plain functions on lists of bytes: a tag out of text; what stands behind it plays no part. No program stands here.
-/
import Derived.Test.YtceelfomgcbkiaaGreatDoorGIZ
import Derived.Test.YtceelfomgcbkiaaGreatDoorGCZ
import Derived.Test.YtceelfomgcbkiaaGreatDoorGAZ
namespace Go.Proofs.YtceelfomgcbkiaaGreatDoor.T
open Go.RowKit
open Go.Proofs.YtceelfomgcbkiaaGreatDoor.I (spI spC leI lowS lowL lowB)
open Go.Proofs.YtceelfomgcbkiaaGreatDoor.A (At addL getB eqS)

/-! ### going on while something holds -/
def run (p : UInt8 → Bool) (l : List UInt8) (k : Nat) : Nat := k + ((l.drop k).takeWhile p).length
theorem run_ge (p : UInt8 → Bool) (l : List UInt8) (k : Nat) : k ≤ run p l k := Nat.le_add_right _ _
theorem tw_len (p : UInt8 → Bool) (l : List UInt8) : (l.takeWhile p).length ≤ l.length := by
  induction l with
  | nil => exact Nat.le_refl _
  | cons c l ih => rw [List.takeWhile_cons]; split <;> simp <;> omega
theorem run_le (p : UInt8 → Bool) (l : List UInt8) (k : Nat) (h : k ≤ l.length) : run p l k ≤ l.length := by
  unfold run
  have := tw_len p (l.drop k)
  rw [List.length_drop] at this; omega
theorem run_end (p : UInt8 → Bool) (l : List UInt8) (k : Nat) (h : l.length ≤ k) : run p l k = k := by
  unfold run; rw [List.drop_eq_nil_of_le h]; rfl
theorem run_yes {p : UInt8 → Bool} {l : List UInt8} {k : Nat} (h : k < l.length) (hp : p l[k] = true) : run p l k = run p l (k + 1) := by
  unfold run
  rw [List.drop_eq_getElem_cons h, List.takeWhile_cons, if_pos hp, List.length_cons]; omega
theorem run_no {p : UInt8 → Bool} {l : List UInt8} {k : Nat} (h : k < l.length) (hp : p l[k] = false) : run p l k = k := by
  unfold run
  rw [List.drop_eq_getElem_cons h, List.takeWhile_cons, if_neg (by rw [hp]; decide)]; rfl
theorem tw_drop (p : UInt8 → Bool) : ∀ l : List UInt8, ∀ c, (l.drop (l.takeWhile p).length).head? = some c → p c = false
  | [], c, h => by cases h
  | x :: l, c, h => by
    rw [List.takeWhile_cons] at h
    cases hx : p x
    · rw [hx] at h
      have : x = c := by simpa using h
      rw [← this]; exact hx
    · rw [hx] at h
      simp only [if_true, List.length_cons, List.drop_succ_cons] at h
      exact tw_drop p l c h
theorem run_stop {p : UInt8 → Bool} {l : List UInt8} {k : Nat} (h : run p l k < l.length) : p (l[run p l k]) = false := by
  have hd : (l.drop k).drop ((l.drop k).takeWhile p).length = l.drop (run p l k) := by rw [List.drop_drop]; rfl
  refine tw_drop p (l.drop k) _ ?_
  rw [hd, List.drop_eq_getElem_cons h]; rfl
theorem tw_mem (p : UInt8 → Bool) : ∀ l : List UInt8, ∀ c ∈ l.takeWhile p, p c = true
  | [], c, h => by cases h
  | x :: l, c, h => by
    rw [List.takeWhile_cons] at h
    cases hx : p x
    · rw [hx] at h; cases h
    · rw [hx] at h
      rcases List.mem_cons.1 h with rfl | h
      · exact hx
      · exact tw_mem p l c h
theorem tw_pre (p : UInt8 → Bool) : ∀ l : List UInt8, l = l.takeWhile p ++ l.drop (l.takeWhile p).length
  | [] => rfl
  | x :: l => by
    rw [List.takeWhile_cons]
    cases hx : p x
    · rfl
    · simp only [if_true, List.length_cons, List.drop_succ_cons, List.cons_append]
      rw [← tw_pre p l]
theorem run_all {p : UInt8 → Bool} {l : List UInt8} {k j : Nat} (h1 : k ≤ j) (h2 : j < run p l k) (h : j < l.length) : p l[j] = true := by
  have hd := tw_pre p (l.drop k)
  have hj : j - k < ((l.drop k).takeWhile p).length := by unfold run at h2; omega
  have e : ((l.drop k).takeWhile p)[j - k]? = some l[j] := by
    have : (l.drop k)[j - k]? = some l[j] := by rw [List.getElem?_drop, show k + (j - k) = j by omega, List.getElem?_eq_getElem h]
    rw [hd, List.getElem?_append_left hj] at this; exact this
  exact tw_mem p _ _ (List.mem_of_getElem? e)
theorem run_is {p : UInt8 → Bool} {l : List UInt8} {k j : Nat} (h1 : k ≤ j) (h2 : ∀ i (h : i < l.length), k ≤ i → i < j → p l[i] = true) (hj : j ≤ l.length) (h3 : ∀ h : j < l.length, p l[j] = false) : run p l k = j := by
  rcases Nat.lt_trichotomy (run p l k) j with h | h | h
  · have := run_stop (p := p) (l := l) (k := k) (by omega)
    rw [h2 _ (by omega) (run_ge p l k) h] at this; cases this
  · exact h
  · have hl := run_le p l k (by omega)
    have h4 := h3 (by omega)
    rw [run_all h1 h (by omega)] at h4; cases h4
/-! ### where names and values end -/
def stopN (c : UInt8) : Bool := !spC c && c != 47 && c != 62
def stopA (c : UInt8) : Bool := !spC c && c != 47 && c != 62 && c != 61
def stopV (c : UInt8) : Bool := !spC c && c != 62
abbrev skp (l : List UInt8) (k : Nat) : Nat := run spC l k
def decT (s : ByteArray) : ByteArray := C.mkB (C.dec true s.data.toList)
/-- The bytes from a place to another one. -/
def cut (l : List UInt8) (i j : Nat) : ByteArray := C.mkB ((l.take j).drop i)
theorem cut_of (s : ByteArray) (i j : Nat) : cut s.data.toList i j = s.extract i j := by
  apply C.eq_of_list
  unfold cut
  rw [C.mkB_list, C.ext_list]
/-- A value, as0 it is written: from where, to where, and the place behind it; none, if it is cut off. -/
def valG (l : List UInt8) (i : Nat) : Option (ByteArray × Nat) :=
  if h : i < l.length then
    if l[i] = 34 ∨ l[i] = 39 then (if run (· != l[i]) l (i + 1) < l.length then some (cut l (i + 1) (run (· != l[i]) l (i + 1)), run (· != l[i]) l (i + 1) + 1) else none)
    else some (cut l i (run stopV l i), run stopV l i)
  else none
/-- An attribute, and the place behind it. -/
def atr (l : List UInt8) (i : Nat) : Option (At × Nat) :=
  if l[skp l (run stopA l (i + 1))]? = some 61 then
    (valG l (skp l (skp l (run stopA l (i + 1)) + 1))).map fun v => ((lowS (cut l i (run stopA l (i + 1))), decT v.1), v.2)
  else some ((lowS (cut l i (run stopA l (i + 1))), ByteArray.empty), skp l (run stopA l (i + 1)))
/-- From behind the name on: the attributes, Self, and the place behind the tag. -/
def tg (l : List UInt8) : Nat → Nat → List At → Option (List At × Bool × Nat)
  | 0, _, _ => none
  | f + 1, i, acc =>
    if l[skp l i]? = none then none
    else if l[skp l i]? = some 62 then some (acc, false, skp l i + 1)
    else if l[skp l i]? = some 47 then (if l[skp l i + 1]? = some 62 then some (acc, true, skp l i + 2) else tg l f (skp l i + 1) acc)
    else match atr l (skp l i) with
      | none => none
      | some (a, n) => tg l f n (addL acc a)
structure Tok where
  kind : Int
  name : ByteArray
  attrs : List At
  self : Bool
  n : Nat
  ok : Bool
def fromB (l : List UInt8) : Nat := if l[1]? = some 47 then 2 else 1
def begins (l : List UInt8) : Bool := decide (l[0]? = some 60) && (match l[fromB l]? with | some c => leI (c.toNat : Int) | none => false)
def nmE (l : List UInt8) : Nat := run stopN l (fromB l)
def rdT (l : List UInt8) : Tok :=
  if begins l = true then
    match tg l (l.length + 1) (nmE l) [] with
    | none => ⟨0, ByteArray.empty, [], false, l.length, false⟩
    | some (as0, sf, n) => if fromB l = 2 then ⟨2, lowS (cut l 2 (nmE l)), [], false, n, true⟩ else ⟨1, lowS (cut l 1 (nmE l)), as0, sf, n, true⟩
  else ⟨0, ByteArray.empty, [], false, 0, false⟩

/-! ### how far -/
theorem valG_bd {l : List UInt8} {i n : Nat} {v : ByteArray} (h : valG l i = some (v, n)) : i ≤ n ∧ n ≤ l.length := by
  unfold valG at h
  split at h
  · rename_i hi
    split at h
    · split at h
      · injection h with h; injection h with h1 h2
        have := run_ge (· != l[i]) l (i + 1)
        omega
      · cases h
    · injection h with h; injection h with h1 h2
      have := run_ge stopV l i
      have := run_le stopV l i (by omega)
      omega
  · cases h
theorem atr_bd {l : List UInt8} {i n : Nat} {a : At} (hi : i < l.length) (h : atr l i = some (a, n)) : i < n ∧ n ≤ l.length := by
  have h1 := run_ge stopA l (i + 1)
  have h1' := run_le stopA l (i + 1) (by omega)
  have h2 := run_ge spC l (run stopA l (i + 1))
  have h2' := run_le spC l (run stopA l (i + 1)) h1'
  unfold atr at h
  split at h
  · rename_i e
    have hk := (List.getElem?_eq_some_iff.1 e).1
    cases hv : valG l (skp l (skp l (run stopA l (i + 1)) + 1)) with
    | none => rw [hv] at h; cases h
    | some v =>
      rw [hv] at h
      injection h with h; injection h with h3 h4
      have h5 := valG_bd hv
      have h6 := run_ge spC l (skp l (run stopA l (i + 1)) + 1)
      simp only [skp] at *
      omega
  · injection h with h; injection h with h3 h4
    simp only [skp] at *
    omega
theorem tg_bd {l : List UInt8} : ∀ {f i : Nat} {acc as0 : List At} {sf : Bool} {n : Nat}, i ≤ l.length → tg l f i acc = some (as0, sf, n) → i < n ∧ n ≤ l.length
  | 0, _, _, _, _, _, _, h => by cases h
  | f + 1, i, acc, as0, sf, n, hi, h => by
    have h1 := run_ge spC l i
    have h1' := run_le spC l i hi
    unfold tg at h
    split at h
    · cases h
    · rename_i hne
      have hlt : skp l i < l.length := by
        rcases Nat.lt_or_ge (skp l i) l.length with h2 | h2
        · exact h2
        · exact absurd (List.getElem?_eq_none h2) hne
      split at h
      · injection h with h; injection h with _ h; injection h with _ h; simp only [skp] at *; omega
      · split at h
        · split at h
          · rename_i e
            have := (List.getElem?_eq_some_iff.1 e).1
            injection h with h; injection h with _ h; injection h with _ h; simp only [skp] at *; omega
          · have := tg_bd (by omega) h
            simp only [skp] at *; omega
        · cases ha : atr l (skp l i) with
          | none => rw [ha] at h; cases h
          | some r =>
            obtain ⟨a, m⟩ := r
            rw [ha] at h
            have h2 := atr_bd hlt ha
            have := tg_bd h2.2 h
            simp only [skp] at *; omega
/-! ### what stands behind plays no part -/
def agree (n : Nat) (l m : List UInt8) : Prop := n ≤ l.length ∧ n ≤ m.length ∧ l.take n = m.take n
theorem agree_get {n : Nat} {l m : List UInt8} (h : agree n l m) {k : Nat} (hk : k < n) : l[k]? = m[k]? := by
  have : (l.take n)[k]? = (m.take n)[k]? := by rw [h.2.2]
  rwa [List.getElem?_take, List.getElem?_take, if_pos hk, if_pos hk] at this
theorem agree_at {n : Nat} {l m : List UInt8} (h : agree n l m) {k : Nat} (hk : k < n) (h1 : k < l.length) (h2 : k < m.length) : l[k] = m[k] := by
  have := agree_get h hk
  rw [List.getElem?_eq_getElem h1, List.getElem?_eq_getElem h2] at this
  injection this
theorem agree_cut {n : Nat} {l m : List UInt8} (h : agree n l m) {i j : Nat} (hj : j ≤ n) : cut l i j = cut m i j := by
  unfold cut
  have : l.take j = m.take j := by
    have e : ∀ x : List UInt8, (x.take n).take j = x.take j := fun x => by rw [List.take_take]; congr 1; omega
    rw [← e l, ← e m, h.2.2]
  rw [this]
theorem agree_run {n : Nat} {l m : List UInt8} (h : agree n l m) (p : UInt8 → Bool) {k : Nat} (hr : run p l k < n) : run p m k = run p l k := by
  have hl := h.1; have hm := h.2.1
  refine run_is (run_ge p l k) (fun i hi h1 h2 => ?_) (by omega) (fun hj => ?_)
  · rw [← agree_at h (k := i) (by omega) (by omega) hi]
    exact run_all h1 h2 (by omega)
  · rw [← agree_at h hr (by omega) hj]
    exact run_stop (by omega)
theorem agree_val {n : Nat} {l m : List UInt8} (h : agree n l m) {i k : Nat} {v : ByteArray} (hv : valG l i = some (v, k)) (hk : k < n) : valG m i = some (v, k) := by
  have hl := h.1; have hm := h.2.1
  have hb := valG_bd hv
  unfold valG at hv ⊢
  split at hv
  · rename_i hi
    have him : i < m.length := by omega
    rw [dif_pos him, ← agree_at h (k := i) (by omega) hi him]
    split at hv
    · rename_i hq
      rw [if_pos hq]
      split at hv
      · rename_i hr
        injection hv with hv; injection hv with h1 h2
        have e := agree_run h (· != l[i]) (k := i + 1) (by omega)
        rw [e, if_pos (by omega), ← h1, ← h2, agree_cut h (by omega)]
      · cases hv
    · rename_i hq
      rw [if_neg hq]
      injection hv with hv; injection hv with h1 h2
      have e := agree_run h stopV (k := i) (by omega)
      rw [e, ← h1, ← h2, agree_cut h (by omega)]
  · cases hv
theorem agree_atr {n : Nat} {l m : List UInt8} (h : agree n l m) {i k : Nat} {a : At} (hi : i < l.length) (ha : atr l i = some (a, k)) (hk : k < n) : atr m i = some (a, k) := by
  have hl := h.1; have hm := h.2.1
  have h1' := run_le stopA l (i + 1) (by omega)
  have h2 := run_ge spC l (run stopA l (i + 1))
  have hb := atr_bd hi ha
  unfold atr at ha ⊢
  split at ha
  · rename_i e
    have hq := (List.getElem?_eq_some_iff.1 e).1
    cases hv : valG l (skp l (skp l (run stopA l (i + 1)) + 1)) with
    | none => rw [hv] at ha; cases ha
    | some v =>
      obtain ⟨v, k'⟩ := v
      rw [hv] at ha
      injection ha with ha; injection ha with h3 h4
      simp only at h4
      subst h4
      have h5 := valG_bd hv
      have h6 := run_ge spC l (skp l (run stopA l (i + 1)) + 1)
      simp only [skp] at *
      have e1 := agree_run h stopA (k := i + 1) (by omega)
      have e2 := agree_run h spC (k := run stopA l (i + 1)) (by omega)
      have e3 := agree_run h spC (k := run spC l (run stopA l (i + 1)) + 1) (by omega)
      rw [e1, e2, ← agree_get h (k := run spC l (run stopA l (i + 1))) (by omega), if_pos e, e3, agree_val h hv hk, ← agree_cut h (i := i) (j := run stopA l (i + 1)) (by omega)]
      simp only [Option.map_some]
      rw [← h3]
  · rename_i e
    injection ha with ha; injection ha with h3 h4
    simp only [skp] at *
    have e1 := agree_run h stopA (k := i + 1) (by omega)
    have e2 := agree_run h spC (k := run stopA l (i + 1)) (by omega)
    rw [e1, e2, ← agree_get h (k := run spC l (run stopA l (i + 1))) (by omega), if_neg e, ← agree_cut h (i := i) (j := run stopA l (i + 1)) (by omega), ← h3, ← h4]
theorem agree_tg {n : Nat} {l m : List UInt8} (h : agree n l m) {sf : Bool} {as0 : List At} : ∀ {f i : Nat} {acc : List At}, i ≤ l.length → tg l f i acc = some (as0, sf, n) → tg m f i acc = some (as0, sf, n)
  | 0, _, _, _, ht => by cases ht
  | f + 1, i, acc, hi, ht => by
    have hb := tg_bd hi ht
    have h1 := run_ge spC l i
    have h1' := run_le spC l i hi
    unfold tg at ht ⊢
    split at ht
    · cases ht
    · rename_i hne
      have hlt : run spC l i < l.length := by
        rcases Nat.lt_or_ge (run spC l i) l.length with h2 | h2
        · exact h2
        · exact absurd (List.getElem?_eq_none h2) hne
      have key : run spC l i < n := by
        split at ht
        · injection ht with h; injection h with _ h; injection h with _ h; simp only [skp] at *; omega
        · split at ht
          · split at ht
            · injection ht with h; injection h with _ h; injection h with _ h; simp only [skp] at *; omega
            · have := tg_bd (by simp only [skp] at *; omega) ht
              simp only [skp] at *; omega
          · cases ha : atr l (skp l i) with
            | none => rw [ha] at ht; cases ht
            | some r =>
              obtain ⟨a, k⟩ := r
              rw [ha] at ht
              have h2 := atr_bd hlt ha
              have := tg_bd h2.2 ht
              simp only [skp] at *; omega
      have e1 : skp m i = skp l i := agree_run h spC (k := i) key
      have e2 := agree_get h (k := skp l i) key
      rw [e1, ← e2, if_neg hne]
      split at ht
      · rename_i e; rw [if_pos e]; exact ht
      · rename_i e
        rw [if_neg e]
        split at ht
        · rename_i e3
          rw [if_pos e3]
          split at ht
          · rename_i e4
            have hq := (List.getElem?_eq_some_iff.1 e4).1
            have hn : skp l i + 2 = n := by injection ht with h; injection h with _ h; injection h with _ h
            rw [← agree_get h (k := skp l i + 1) (by omega), if_pos e4]; exact ht
          · rename_i e4
            have hb2 := tg_bd (by simp only [skp] at *; omega) ht
            rw [← agree_get h (k := skp l i + 1) (by omega), if_neg e4]
            exact agree_tg h (by simp only [skp] at *; omega) ht
        · rename_i e3
          rw [if_neg e3]
          cases ha : atr l (skp l i) with
          | none => rw [ha] at ht; cases ht
          | some r =>
            obtain ⟨a, k⟩ := r
            rw [ha] at ht
            have h2 := atr_bd hlt ha
            have h3 := tg_bd h2.2 ht
            rw [agree_atr h hlt ha (by omega)]
            exact agree_tg h h2.2 ht
end Go.Proofs.YtceelfomgcbkiaaGreatDoor.T
