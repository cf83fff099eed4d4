/-
  How many attributes a token of a text may have, and how many tokens a text.
-/
import Derived.Test.YtceelfomgcbkiaaGreatDoorLRowZ
import Derived.Test.YtceelfomgcbkiaaGreatDoorTRreadZ
namespace Go.Proofs.YtceelfomgcbkiaaGreatDoor
open Go.RowKit T
open Go.Proofs.YtceelfomgcbkiaaGreatDoor.A (At addL)

theorem tgl_len {l : List UInt8} : ∀ {f i : Nat} {acc ys : List At} {sf : Bool} {n : Nat}, tg l f i acc = some (ys, sf, n) → ys.length ≤ acc.length + f
  | 0, _, _, _, _, _, h => by cases h
  | f + 1, i, acc, ys, sf, n, h => by
    rw [tg_step] at h
    split at h
    · cases h
    · split at h
      · injection h with h; injection h with h1 _; rw [← h1]; omega
      · split at h
        · split at h
          · injection h with h; injection h with h1 _; rw [← h1]; omega
          · have := tgl_len h; omega
        · split at h
          · cases h
          · have := tgl_len h
            have h2 := add_len acc ‹At›
            omega
theorem rdl_len (s : ByteArray) : (rdT s.data.toList).attrs.length ≤ s.size + 1 := by
  unfold rdT
  split
  · split
    · exact Nat.zero_le _
    · rename_i h
      split
      · exact Nat.zero_le _
      · have := tgl_len h
        rw [C.size_list] at this
        show _ ≤ _
        simpa using this
  · exact Nat.zero_le _
theorem mkT_len (s : ByteArray) (f : Bool) : (mkT s.data.toList f).attrs.length ≤ s.size + 1 := by
  unfold mkT
  split
  · exact rdl_len s
  · exact Nat.zero_le _
theorem nxD_len (f : Bool) : ∀ (k : Nat) (s : ByteArray), (nxD f k s).1.attrs.length ≤ s.size + 1
  | 0, _ => Nat.zero_le _
  | k + 1, s => by
    unfold nxD
    split
    · exact Nat.zero_le _
    · split
      · exact Nat.zero_le _
      · split
        · exact mkT_len s f
        · have := nxD_len f k (s.extract (mkN s.data.toList f) s.size)
          rw [ByteArray.size_extract] at this
          omega
theorem nxL_len (s last : ByteArray) (st : Int) (f : Bool) : (nxL s last st f).1.attrs.length ≤ s.size + 1 := by
  unfold nxL
  split
  · exact nxD_len f _ s
  · unfold nxT
    split
    · exact Nat.zero_le _
    · split
      · exact rdl_len s
      · exact Nat.zero_le _
theorem nxL_size (s last : ByteArray) (st : Int) (f : Bool) : (nxL s last st f).2.size ≤ s.size := by
  obtain ⟨⟨k, hk, e⟩, _⟩ := whole_L s last st f
  rw [e, ext_sz s hk]; omega
theorem allD_len : ∀ (k : Nat) (s : ByteArray), (allD k s).length ≤ k
  | 0, _ => Nat.le_refl _
  | k + 1, s => by
    unfold allD
    rw [List.length_cons]
    split
    · simp
    · have := allD_len k (nxL s ⟨#[]⟩ 0 false).2; omega
theorem allD_attrs : ∀ (k : Nat) (s : ByteArray), s.size ≤ 10000 → ∀ t ∈ allD k s, t.attrs.length ≤ 1000000
  | 0, _, _, t, h => by cases h
  | k + 1, s, hs, t, h => by
    unfold allD at h
    rcases List.mem_cons.1 h with rfl | h
    · have := nxL_len s ⟨#[]⟩ 0 false; omega
    · split at h
      · cases h
      · exact allD_attrs k _ (Nat.le_trans (nxL_size _ _ _ _) hs) t h
end Go.Proofs.YtceelfomgcbkiaaGreatDoor
