/-
  Plain functions on lists of bytes for layer 3 (words): parting a text by its blanks, joining, one word once. No program stands here.
-/
import Derived.WalkKit
import Derived.Lib.Join
namespace Go.Proofs.Ytgnfianpjhhofaa.W
open Go.RowKit

/-- Is the number one of the five blanks? -/
def spI (n : Int) : Bool := decide (n = 9 ∨ n = 10 ∨ n = 12 ∨ n = 13 ∨ n = 32)
def spC (c : UInt8) : Bool := spI (c.toNat : Int)
def nspC (c : UInt8) : Bool := !spC c
def mkB (l : List UInt8) : ByteArray := ⟨l.toArray⟩
theorem mkB_list (l : List UInt8) : (mkB l).data.toList = l := by simp [mkB]
theorem mkB_of (s : ByteArray) : mkB s.data.toList = s := by cases s; simp [mkB]
theorem mkB_inj {a b : List UInt8} (h : mkB a = mkB b) : a = b := by rw [← mkB_list a, h, mkB_list]
theorem mkB_size (l : List UInt8) : (mkB l).size = l.length := by show l.toArray.size = _; simp
theorem size_list (s : ByteArray) : s.data.toList.length = s.size := by simp
theorem mkB_app (a b : List UInt8) : mkB a ++ mkB b = mkB (a ++ b) := by
  apply ByteArray.ext; simp [mkB]

/-- The words of a text, what stands ahead of it in the word that is read being acc. -/
def splG (acc : List UInt8) : List UInt8 → List (List UInt8)
  | [] => if acc = [] then [] else [acc]
  | c :: l => if spC c = true then (if acc = [] then splG [] l else acc :: splG [] l) else splG (acc ++ [c]) l
def nxW (l : List UInt8) : List UInt8 := (l.dropWhile spC).takeWhile nspC
def nxR (l : List UInt8) : List UInt8 := (l.dropWhile spC).dropWhile nspC
def spl (s : ByteArray) : List ByteArray := (splG [] s.data.toList).map mkB

theorem splG_word : ∀ (l acc : List UInt8), acc ≠ [] → splG acc l = (acc ++ l.takeWhile nspC) :: splG [] (l.dropWhile nspC)
  | [], acc, h => by simp [splG, h]
  | c :: l, acc, h => by
    by_cases hc : spC c = true
    · have hn : nspC c = false := by simp [nspC, hc]
      rw [List.takeWhile_cons_of_neg (by simp [hn]), List.dropWhile_cons_of_neg (by simp [hn])]
      simp [splG, hc, h]
    · have hn : nspC c = true := by simp [nspC, hc]
      rw [List.takeWhile_cons_of_pos hn, List.dropWhile_cons_of_pos hn]
      simp only [splG, if_neg hc]
      rw [splG_word l (acc ++ [c]) (by simp)]
      simp
theorem splG_blank : ∀ l : List UInt8, splG [] l = splG [] (l.dropWhile spC)
  | [] => rfl
  | c :: l => by
    by_cases hc : spC c = true
    · rw [List.dropWhile_cons_of_pos hc, ← splG_blank l]; simp [splG, hc]
    · rw [List.dropWhile_cons_of_neg hc]
theorem dw_head {p : UInt8 → Bool} : ∀ (l : List UInt8) c r, l.dropWhile p = c :: r → p c = false
  | [], c, r, h => by simp at h
  | x :: l, c, r, h => by
    by_cases hx : p x = true
    · rw [List.dropWhile_cons_of_pos hx] at h; exact dw_head l c r h
    · rw [List.dropWhile_cons_of_neg hx] at h; injection h with h _; subst h; simpa using hx
theorem splG_none (l : List UInt8) (h : nxW l = []) : splG [] l = [] := by
  rw [splG_blank]
  cases hd : l.dropWhile spC with
  | nil => rfl
  | cons c r =>
    exfalso
    have hc := dw_head _ _ _ hd
    unfold nxW at h
    rw [hd, List.takeWhile_cons_of_pos (by simp [nspC, hc])] at h
    cases h
theorem splG_some (l : List UInt8) (h : nxW l ≠ []) : splG [] l = nxW l :: splG [] (nxR l) := by
  rw [splG_blank]
  unfold nxW nxR at *
  cases hd : l.dropWhile spC with
  | nil => rw [hd] at h; exact absurd rfl h
  | cons c r =>
    have hc := dw_head _ _ _ hd
    have hn : nspC c = true := by simp [nspC, hc]
    rw [List.takeWhile_cons_of_pos hn, List.dropWhile_cons_of_pos hn]
    simp only [splG, hc, if_neg Bool.false_ne_true, List.nil_append]
    rw [splG_word r [c] (by simp)]
    rfl
theorem nx_len (l : List UInt8) : (nxW l).length + (nxR l).length ≤ l.length := by
  unfold nxW nxR
  have h1 := congrArg List.length (List.takeWhile_append_dropWhile (p := nspC) (l := l.dropWhile spC))
  have h2 := congrArg List.length (List.takeWhile_append_dropWhile (p := spC) (l := l))
  rw [List.length_append] at h1 h2; omega

/-- A cut of a text. -/
theorem ext_list (s : ByteArray) (i j : Nat) : (s.extract i j).data.toList = (s.data.toList.take j).drop i := by
  rw [ByteArray.data_extract, Array.toList_extract, List.extract_eq_take_drop, List.drop_take]
theorem eq_of_list {a b : ByteArray} (h : a.data.toList = b.data.toList) : a = b := by
  rw [← mkB_of a, h, mkB_of b]
theorem dw_all {p : UInt8 → Bool} : ∀ (l m : List UInt8), (∀ c ∈ l, p c = true) → (∀ c, m.head? = some c → p c = false) → (l ++ m).dropWhile p = m ∧ (l ++ m).takeWhile p = l
  | [], m, _, h => by
    cases m with
    | nil => exact ⟨rfl, rfl⟩
    | cons c m => have := h c rfl; simp [this]
  | c :: l, m, h, h2 => by
    have ih := dw_all l m (fun c hc => h c (by simp [hc])) h2
    rw [List.cons_append, List.dropWhile_cons_of_pos (h c (by simp)), List.takeWhile_cons_of_pos (h c (by simp)), ih.1, ih.2]
    exact ⟨rfl, rfl⟩
theorem nx_of (s : ByteArray) (i m : Nat) (him : i ≤ m) (hm : m ≤ s.size) (h1 : ∀ j (h : j < s.size), j < i → spC s[j] = true) (h2 : ∀ h : i < s.size, spC s[i] = false)
    (h3 : ∀ j (h : j < s.size), i ≤ j → j < m → spC s[j] = false) (h4 : ∀ h : m < s.size, spC s[m] = true) :
    s.extract i m = mkB (nxW s.data.toList) ∧ s.extract m s.size = mkB (nxR s.data.toList) := by
  have hsz : s.data.toList.length = s.size := by simp
  have key : s.data.toList.dropWhile spC = s.data.toList.drop i := by
    have := (dw_all (p := spC) (s.data.toList.take i) (s.data.toList.drop i) (by
      intro c hc
      obtain ⟨k, hk, rfl⟩ := List.mem_iff_getElem.1 hc
      simp at hk
      rw [List.getElem_take]
      exact h1 k (by omega) (by omega)) (by
      intro c hc
      rw [List.head?_eq_getElem?] at hc
      obtain ⟨hk, rfl⟩ := List.getElem?_eq_some_iff.1 hc
      simp at hk
      rw [List.getElem_drop]
      exact h2 (by omega))).1
    rwa [List.take_append_drop] at this
  have key2 : (s.data.toList.drop i).takeWhile nspC = (s.data.toList.take m).drop i ∧ (s.data.toList.drop i).dropWhile nspC = s.data.toList.drop m := by
    have hsplit : s.data.toList.drop i = (s.data.toList.take m).drop i ++ s.data.toList.drop m := by
      rw [← List.drop_append_of_le_length (by simp; omega), List.take_append_drop]
    have := dw_all (p := nspC) ((s.data.toList.take m).drop i) (s.data.toList.drop m) (by
      intro c hc
      obtain ⟨k, hk, rfl⟩ := List.mem_iff_getElem.1 hc
      simp at hk
      simp only [List.getElem_drop, List.getElem_take]
      have := h3 (i + k) (by omega) (by omega) (by omega)
      show (!spC _) = true
      rw [show spC (s.data.toList[i + k]'(by simp; omega)) = false from this]; rfl) (by
      intro c hc
      rw [List.head?_eq_getElem?] at hc
      obtain ⟨hk, rfl⟩ := List.getElem?_eq_some_iff.1 hc
      simp at hk
      rw [List.getElem_drop]
      have := h4 (by omega)
      show (!spC _) = false
      rw [show spC (s.data.toList[m + 0]'(by simp; omega)) = true from this]; rfl)
    rw [hsplit]
    exact ⟨this.2, this.1⟩
  constructor
  · apply eq_of_list
    rw [ext_list, mkB_list]
    unfold nxW
    rw [key, key2.1]
  · apply eq_of_list
    rw [ext_list, mkB_list, ← hsz, List.take_length]
    unfold nxR
    rw [key, key2.2]

/-! ### the same on texts -/
def nxWs (s : ByteArray) : ByteArray := mkB (nxW s.data.toList)
def nxRs (s : ByteArray) : ByteArray := mkB (nxR s.data.toList)
theorem nxs_len (s : ByteArray) : (nxWs s).size + (nxRs s).size ≤ s.size := by
  unfold nxWs nxRs; rw [mkB_size, mkB_size, ← size_list s]; exact nx_len _
theorem spl_none (s : ByteArray) (h : (nxWs s).size = 0) : spl s = [] := by
  unfold nxWs at h; rw [mkB_size] at h
  unfold spl
  rw [splG_none _ (List.eq_nil_of_length_eq_zero h)]; rfl
theorem spl_some (s : ByteArray) (h : (nxWs s).size ≠ 0) : spl s = nxWs s :: spl (nxRs s) := by
  unfold nxWs at h; rw [mkB_size] at h
  unfold spl nxWs nxRs
  rw [splG_some _ (fun e => h (by rw [e]; rfl)), mkB_list]; rfl

/-! ### no word is empty, and none has a blank in it -/
theorem splG_ok : ∀ (l acc : List UInt8), (∀ c ∈ acc, spC c = false) → ∀ x ∈ splG acc l, x ≠ [] ∧ ∀ c ∈ x, spC c = false
  | [], acc, ha, x, hx => by
    unfold splG at hx
    split at hx
    · cases hx
    · rename_i h; simp at hx; subst hx; exact ⟨h, ha⟩
  | c :: l, acc, ha, x, hx => by
    unfold splG at hx
    split at hx
    · split at hx
      · exact splG_ok l [] (by simp) x hx
      · rename_i h
        rcases List.mem_cons.1 hx with rfl | hx
        · exact ⟨h, ha⟩
        · exact splG_ok l [] (by simp) x hx
    · rename_i hc
      refine splG_ok l (acc ++ [c]) ?_ x hx
      intro d hd
      rcases List.mem_append.1 hd with h | h
      · exact ha d h
      · simp at h; subst h; simpa using hc
theorem splG_solid : ∀ (x l acc : List UInt8), (∀ c ∈ x, spC c = false) → splG acc (x ++ l) = splG (acc ++ x) l
  | [], l, acc, _ => by simp
  | c :: x, l, acc, h => by
    have hc := h c (by simp)
    rw [List.cons_append]
    rw [show splG acc (c :: (x ++ l)) = splG (acc ++ [c]) (x ++ l) by simp [splG, hc]]
    rw [splG_solid x l (acc ++ [c]) (fun d hd => h d (by simp [hd]))]
    simp
theorem sp32 : spC 32 = true := by decide
/-- What was split, joined and split again, is the same. -/
theorem splG_join : ∀ L : List (List UInt8), (∀ x ∈ L, x ≠ [] ∧ ∀ c ∈ x, spC c = false) → splG [] (Lib.join L [32]) = L
  | [], _ => rfl
  | [x], h => by
    have hx := h x (by simp)
    have := splG_solid x [] [] hx.2
    simp only [List.append_nil, List.nil_append] at this
    rw [Lib.join_one, this]
    simp [splG, hx.1]
  | x :: y :: r, h => by
    have hx := h x (by simp)
    have hj : Lib.join (x :: y :: r) [32] = x ++ (32 :: Lib.join (y :: r) [32]) := by
      simp [Lib.join, List.intercalate]
    rw [hj, splG_solid x _ [] hx.2, List.nil_append]
    rw [show splG x (32 :: Lib.join (y :: r) [32]) = x :: splG [] (Lib.join (y :: r) [32]) by simp [splG, sp32, hx.1]]
    rw [splG_join (y :: r) (fun z hz => h z (by simp [hz]))]

def jnS (L : List ByteArray) : ByteArray := mkB (Lib.join (L.map (·.data.toList)) [32])
theorem map_list (L : List (List UInt8)) : (L.map mkB).map (·.data.toList) = L := by
  rw [List.map_map]; conv => rhs; rw [← List.map_id L]
  apply List.map_congr_left; intro x _; exact mkB_list x
theorem spl_join (s : ByteArray) : spl (jnS (spl s)) = spl s := by
  unfold jnS spl
  rw [mkB_list, map_list, splG_join _ (splG_ok _ _ (by simp))]
theorem spl_mem_size (s : ByteArray) : ∀ x ∈ spl s, x.size ≠ 0 := by
  intro x hx
  obtain ⟨y, hy, rfl⟩ := List.mem_map.1 hx
  rw [mkB_size]
  exact fun h => (splG_ok _ _ (by simp) y hy).1 (List.eq_nil_of_length_eq_zero h)

/-! ### lengths -/
theorem splG_len : ∀ (l acc : List UInt8), (splG acc l).length ≤ l.length + (if acc = [] then 0 else 1) ∧ Lib.lens (splG acc l) ≤ l.length + acc.length
  | [], acc => by unfold splG; split <;> simp_all [Lib.lens]
  | c :: l, acc => by
    unfold splG
    split
    · split
      · rename_i h; subst h
        have := splG_len l []; simp at this ⊢; omega
      · rename_i h
        have := splG_len l []; simp [Lib.lens] at this ⊢; omega
    · have := splG_len l (acc ++ [c]); simp at this; simp
      constructor
      · split <;> omega
      · omega
theorem spl_len (s : ByteArray) : (spl s).length ≤ s.size := by
  unfold spl
  have := (splG_len s.data.toList []).1
  rw [List.length_map]; simp at this; exact this
theorem jn_len (L : List (List UInt8)) : (Lib.join L [32]).length ≤ Lib.lens L + L.length := by
  cases L with
  | nil => simp [Lib.join_nil]
  | cons x r => rw [Lib.join_length]; simp; omega
theorem jnS_len (L : List ByteArray) (k : Nat) (h : ∀ s ∈ L, s.size ≤ k) : (jnS L).size ≤ (k + 1) * L.length := by
  unfold jnS; rw [mkB_size]
  refine Nat.le_trans (jn_len _) ?_
  rw [List.length_map]
  have : Lib.lens (L.map (·.data.toList)) ≤ k * L.length := by
    induction L with
    | nil => simp [Lib.lens]
    | cons x r ih =>
      have h1 := h x (by simp)
      have h2 := ih (fun s hs => h s (by simp [hs]))
      simp [Lib.lens, Nat.mul_add] at h2 ⊢
      omega
  rw [Nat.add_mul]; omega
theorem jnS_spl (s : ByteArray) : (jnS (spl s)).size ≤ 2 * s.size := by
  unfold jnS spl; rw [mkB_size, map_list]
  refine Nat.le_trans (jn_len _) ?_
  have := splG_len s.data.toList []
  simp at this; omega

/-! ### in a list; each once -/
theorem list_inj {a b : ByteArray} : a.data.toList = b.data.toList ↔ a = b := ⟨eq_of_list, fun h => by rw [h]⟩
def hasW (L : List ByteArray) (x : ByteArray) : Bool := decide (x.data.toList ∈ L.map (·.data.toList))
theorem hasW_iff (L : List ByteArray) (x : ByteArray) : hasW L x = true ↔ x ∈ L := by
  unfold hasW
  rw [decide_eq_true_iff, List.mem_map]
  exact ⟨fun ⟨y, h1, h2⟩ => (list_inj.1 h2) ▸ h1, fun h => ⟨x, h, rfl⟩⟩
theorem hasW_not (L : List ByteArray) (x : ByteArray) : hasW L x = false ↔ x ∉ L := by
  rw [← hasW_iff]; cases hasW L x <;> simp
theorem hasW_nil (x : ByteArray) : hasW [] x = false := by simp [hasW]
theorem hasW_same (L : List ByteArray) (x : ByteArray) : hasW (x :: L) x = true := by simp [hasW_iff]
theorem hasW_other (L : List ByteArray) {x y : ByteArray} (h : y ≠ x) : hasW (y :: L) x = hasW L x := by rw [Bool.eq_iff_iff, hasW_iff, hasW_iff]; simp [Ne.symm h]
def oncG (acc : List ByteArray) : List ByteArray → List ByteArray
  | [] => acc
  | x :: l => if hasW acc x = true then oncG acc l else oncG (acc ++ [x]) l
def onc (L : List ByteArray) : List ByteArray := oncG [] L
theorem oncG_len : ∀ (l acc : List ByteArray), (oncG acc l).length ≤ acc.length + l.length
  | [], acc => by simp [oncG]
  | x :: l, acc => by
    unfold oncG; split
    · have := oncG_len l acc; simp; omega
    · have := oncG_len l (acc ++ [x]); simp at this ⊢; omega
theorem onc_len (L : List ByteArray) : (onc L).length ≤ L.length := by have := oncG_len L []; simpa [onc] using this
theorem oncG_nodup : ∀ (l acc : List ByteArray), acc.Nodup → (oncG acc l).Nodup
  | [], acc, h => h
  | x :: l, acc, h => by
    unfold oncG; split
    · exact oncG_nodup l acc h
    · rename_i hx
      refine oncG_nodup l _ ?_
      rw [List.nodup_append]
      refine ⟨h, by simp, ?_⟩
      intro a ha b hb
      simp at hb; subst hb
      intro e; subst e
      exact hx ((hasW_iff _ _).2 ha)
theorem oncG_id : ∀ (l acc : List ByteArray), (acc ++ l).Nodup → oncG acc l = acc ++ l
  | [], acc, _ => by simp [oncG]
  | x :: l, acc, h => by
    have hx : hasW acc x = false := by
      rw [List.nodup_append] at h
      rw [hasW_not]
      intro hm
      exact h.2.2 x hm x (by simp) rfl
    unfold oncG
    rw [if_neg (by rw [hx]; exact Bool.false_ne_true), oncG_id l (acc ++ [x]) (by simpa using h)]
    simp
theorem onc_onc (L : List ByteArray) : onc (onc L) = onc L := by
  have h := oncG_nodup L [] List.nodup_nil
  have := oncG_id (onc L) [] (by simpa [onc] using h)
  simpa [onc] using this
theorem oncG_size : ∀ (l acc : List ByteArray) (k : Nat), (∀ x ∈ acc, x.size ≤ k) → (∀ x ∈ l, x.size ≤ k) → ∀ x ∈ oncG acc l, x.size ≤ k
  | [], acc, k, h, _ => h
  | y :: l, acc, k, h, h2 => by
    unfold oncG; split
    · exact oncG_size l acc k h (fun x hx => h2 x (by simp [hx]))
    · refine oncG_size l _ k ?_ (fun x hx => h2 x (by simp [hx]))
      intro x hx
      rcases List.mem_append.1 hx with hx | hx
      · exact h x hx
      · simp at hx; subst hx; exact h2 _ (by simp)
theorem spl_size (s : ByteArray) : ∀ x ∈ spl s, x.size ≤ s.size := by
  intro x hx
  obtain ⟨y, hy, rfl⟩ := List.mem_map.1 hx
  rw [mkB_size]
  have h1 := (splG_len s.data.toList []).2
  have h2 : y.length ≤ Lib.lens (splG [] s.data.toList) := by
    generalize splG [] s.data.toList = L at hy
    induction L with
    | nil => cases hy
    | cons z r ih =>
      rcases List.mem_cons.1 hy with rfl | hy
      · simp [Lib.lens]
      · have := ih hy; simp [Lib.lens] at this ⊢; omega
  simp at h1; omega
end Go.Proofs.Ytgnfianpjhhofaa.W
