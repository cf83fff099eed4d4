/-
  The walk of the document's own Trim: a text is cut at its front, then at its end, byte by byte.
-/
import Derived.Test.YtdljjfeojccidaaITrims
namespace Go.Proofs.Ytdljjfeojccidaa.I
open Go.RowKit

def Cut1 (s t : ByteArray) : Prop := ∃ k, k ≤ s.size ∧ t = s.extract k s.size ∧ ∀ j (h : j < s.size), j < k → spC s[j] = true
def Cut2 (s t : ByteArray) : Prop := ∃ k m, k ≤ m ∧ m ≤ s.size ∧ t = s.extract k m ∧ (∀ j (h : j < s.size), j < k → spC s[j] = true) ∧ (∀ j (h : j < s.size), m ≤ j → spC s[j] = true) ∧ (∀ h : k < m, ∀ h2 : k < s.size, spC s[k] = false)

theorem ext_size (s : ByteArray) (i j : Nat) (hj : j ≤ s.size) : (s.extract i j).size = j - i := by
  rw [ByteArray.size_extract]; omega
theorem ext_get (s : ByteArray) (i j q : Nat) (h : q < (s.extract i j).size) (h2 : i + q < s.size) : (s.extract i j)[q] = s[i + q] := by
  rw [ByteArray.getElem_extract]
theorem ext_ext (s : ByteArray) (i j a b : Nat) (hij : i ≤ j) (hb : b ≤ j - i) : (s.extract i j).extract a b = s.extract (i + a) (i + b) := by
  rw [ByteArray.extract_extract]; congr 1; omega
theorem get_of {s t : ByteArray} (e : t = s) (q : Nat) (h : q < t.size) (h2 : q < s.size) : t[q] = s[q] := by subst e; rfl
theorem get_at {s : ByteArray} {a b : Nat} (e : a = b) (h : a < s.size) (h2 : b < s.size) : s[a] = s[b] := by subst e; rfl

theorem cut1_start (s : ByteArray) : Cut1 s s := ⟨0, Nat.zero_le _, by
  apply ByteArray.ext
  rw [ByteArray.data_extract]
  exact Array.extract_size.symm, fun _ _ h => absurd h (Nat.not_lt_zero _)⟩
theorem cut1_size {s t : ByteArray} (h : Cut1 s t) : t.size ≤ s.size := by
  obtain ⟨k, hk, rfl, _⟩ := h; rw [ext_size _ _ _ (Nat.le_refl _)]; omega
theorem cut2_size {s t : ByteArray} (h : Cut2 s t) : t.size ≤ s.size := by
  obtain ⟨k, m, _, hm, rfl, _⟩ := h; rw [ext_size _ _ _ hm]; omega
theorem cut1_step {s t : ByteArray} (h : Cut1 s t) (h0 : 0 < t.size) (hb : spC t[0] = true) : Cut1 s (t.extract 1 t.size) := by
  obtain ⟨k, hk, rfl, ha⟩ := h
  have hz : (s.extract k s.size).size = s.size - k := ext_size _ _ _ (Nat.le_refl _)
  rw [ext_get s k s.size 0 h0 (by omega)] at hb
  refine ⟨k + 1, by omega, ?_, ?_⟩
  · rw [hz, ext_ext _ _ _ _ _ hk (Nat.le_refl _)]; congr 1; omega
  · intro j h hj
    rcases Nat.lt_or_eq_of_le (Nat.le_of_lt_succ hj) with h1 | h1
    · exact ha j h h1
    · subst h1; exact hb
theorem cut1_stop {s t : ByteArray} (h : Cut1 s t) (hb : ∀ h : 0 < t.size, spC t[0] = false) : Cut2 s t := by
  obtain ⟨k, hk, rfl, ha⟩ := h
  have hz : (s.extract k s.size).size = s.size - k := ext_size _ _ _ (Nat.le_refl _)
  refine ⟨k, s.size, hk, Nat.le_refl _, rfl, ha, fun _ _ _ => by omega, fun h1 h2 => ?_⟩
  have := hb (by omega)
  rw [ext_get s k s.size 0 (by omega) (by omega)] at this
  exact this
theorem cut2_step {s t : ByteArray} (h : Cut2 s t) (h0 : 0 < t.size) (hb : spC (t[t.size - 1]'(by omega)) = true) : Cut2 s (t.extract 0 (t.size - 1)) := by
  obtain ⟨k, m, hkm, hm, rfl, ha, hc, hd⟩ := h
  have hz : (s.extract k m).size = m - k := ext_size _ _ _ hm
  rw [ext_get s k m _ (by omega) (by omega)] at hb
  refine ⟨k, m - 1, by omega, by omega, ?_, ha, ?_, fun _ h2 => hd (by omega) h2⟩
  · rw [hz, ext_ext _ _ _ _ _ hkm (by omega)]; congr 1; omega
  · intro j h hj
    rcases Nat.lt_or_ge j m with h1 | h1
    · rw [get_at (show j = k + ((s.extract k m).size - 1) by omega) h (by omega)]; exact hb
    · exact hc j h h1
theorem cut2_stop {s t : ByteArray} (h : Cut2 s t) (hb : ∀ h : 0 < t.size, spC (t[t.size - 1]'(by omega)) = false) : t = trS s := by
  obtain ⟨k, m, hkm, hm, rfl, ha, hc, hd⟩ := h
  have hz : (s.extract k m).size = m - k := ext_size _ _ _ hm
  refine trS_of s k m hkm hm ha hc (fun h => hd h (by omega)) (fun h => ?_)
  have h2 := hb (by omega)
  rw [ext_get s k m _ (by omega) (by omega), get_at (show k + ((s.extract k m).size - 1) = m - 1 by omega) (by omega) (by omega)] at h2
  exact h2

def strOf : Value → ByteArray | .string s => s | _ => ByteArray.empty

end Go.Proofs.Ytdljjfeojccidaa.I
