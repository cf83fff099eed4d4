/-
  The walks of Lower, and of the document's own: bytes are copied out of the text, turned one by one, and made a text again.
-/
import Derived.Test.YtdljjfeojccidaaIRtrim
import Derived.Laws.IdiomStrings
namespace Go.Proofs.Ytdljjfeojccidaa.I
open Go.RowKit

/-- The first n cells of block B hold these bytes, and may be written. -/
def Row (w : World) (B n : Nat) (f : Nat → Int) : Prop := ∀ j, j < n → w.cell? ⟨B, j, none⟩ = some (.int .u8 (f j)) ∧ w.frozen? ⟨B, j, none⟩ = false

/-- The byte at j. -/
def byteAt (s : ByteArray) (j : Nat) : Int := ((s.data.toList.getD j 0).toNat : Int)
theorem byteAt_bd (s : ByteArray) (j : Nat) : 0 ≤ byteAt s j ∧ byteAt s j ≤ 255 := by
  have := (s.data.toList.getD j 0).toNat_lt
  unfold byteAt; omega
theorem byteAt_eq (s : ByteArray) (k : Nat) (h : k < s.size) : byteAt s k = (s[k].toNat : Int) := by
  unfold byteAt
  rw [List.getD_eq_getElem?_getD, List.getElem?_eq_getElem (by simpa using h)]; rfl
/-- The bytes of s, the first k of them small. -/
def part (s : ByteArray) (k j : Nat) : Int := if j < k then smI (byteAt s j) else byteAt s j

theorem part_at (s : ByteArray) (k : Nat) : part s k k = byteAt s k := by
  unfold part; rw [if_neg (Nat.lt_irrefl _)]

/-- What '[]byte(s)' makes. -/
theorem made (s : ByteArray) (w : World) : ∃ (cap : Nat) (C : Array Value),
    (convert 9 50 (.string s)).run Try.prog w = .ok (.slice (some ⟨w.heap.size, 0, none⟩) s.size cap) (w.drew.alloc (.cells C 5 (C.size, C.size + 1))) ∧
    s.size ≤ C.size ∧ ∀ j, j < s.size → C[j]? = some (.int .u8 (part s 0 j)) := by
  refine ⟨_, _, run_bytes_of_string (P := Try.prog) w 9 50 5 s Try.underlying9 Try.underlying50 Try.underlying5, ?_, ?_⟩
  · show s.data.size ≤ _
    simp [bytesRow]
  · intro j hj
    rw [bytesRow_at s _ j hj]
    unfold part
    rw [if_neg (Nat.not_lt_zero _), byteAt_eq s j hj]; rfl

theorem row_start (w : World) (n : Nat) (f : Nat → Int) (C : Array Value) (hn : n ≤ C.size) (h : ∀ j, j < n → C[j]? = some (.int .u8 (f j))) (t : TypeId) :
    Row (w.alloc (.cells C t (C.size, C.size + 1))) w.heap.size n f := fun j hj => by
  refine ⟨(World.cell?_alloc_mark w C t _ j).trans (h j hj), ?_⟩
  rw [World.frozen?_alloc_mark, decide_eq_false (by omega)]; rfl

theorem row_store {w : World} {B n k : Nat} {s : ByteArray} (h : Row w B n (part s k)) (hk : k < n) (v : Int) (hv : v = smI (byteAt s k)) :
    Row (w.setCell ⟨B, k, none⟩ (.int .u8 v)) B n (part s (k + 1)) := fun j hj => by
  rw [World.frozen?_setCell]
  refine ⟨?_, (h j hj).2⟩
  by_cases e : j = k
  · subst e
    rw [World.cell?_setCell_same _ _ _ (h j hj).1, hv]
    unfold part; rw [if_pos (Nat.lt_succ_self _)]
  · rw [World.cell?_setCell_other _ _ _ _ (by intro x; injection x with _ x; exact e x.symm), (h j hj).1]
    unfold part
    by_cases g : j < k
    · rw [if_pos g, if_pos (by omega)]
    · rw [if_neg g, if_neg (by omega)]

/-- What is not turned needs no store. -/
theorem row_skip {w : World} {B n k : Nat} {s : ByteArray} (h : Row w B n (part s k)) (hv : byteAt s k = smI (byteAt s k)) :
    Row w B n (part s (k + 1)) := fun j hj => by
  refine ⟨?_, (h j hj).2⟩
  rw [(h j hj).1]
  unfold part
  by_cases e : j = k
  · subst e
    rw [if_neg (Nat.lt_irrefl _), if_pos (Nat.lt_succ_self _), ← hv]
  · by_cases g : j < k
    · rw [if_pos g, if_pos (by omega)]
    · rw [if_neg g, if_neg (by omega)]

/-- What 'string(b)' makes of it. -/
theorem row_back {w : World} {B : Nat} {s : ByteArray} (h : Row w B s.size (part s s.size)) (cap : Nat) :
    (convert 50 9 (.slice (some ⟨B, 0, none⟩) s.size cap)).run Try.prog w = .ok (.string (lowS s)) w := by
  have hl : (lowL s.data.toList).length = s.size := by simp [lowL]
  have := run_convert_bytes_back (P := Try.prog) w 50 9 5 ⟨B, 0, none⟩ cap (lowL s.data.toList) Try.underlying50 Try.underlying5 Try.underlying9 (fun j hj => by
    have hj' : j < s.size := by omega
    have e : (Addr.add ⟨B, 0, none⟩ j) = ⟨B, j, none⟩ := by simp [Addr.add]; exact fun h => h.symm
    rw [e, (h j hj').1]
    unfold part
    rw [if_pos hj', byteAt_eq s j hj', ← lowB_nat]
    simp only [lowL, List.getElem_map]; rfl)
  rw [hl] at this
  exact this

set_option maxHeartbeats 800000 in
theorem lower_any (s : ByteArray) (w : World) (hs : s.size ≤ maxLen) :
    Calls Try.prog 41 #[.string s] w fun e w' => e = .returned (.string (lowS s)) ∧ Below w.heap.size w w' := by
  unfold maxLen at hs
  obtain ⟨cap, C, hconv, hC, hcells⟩ := made s w
  have HC := Lib.hid hcells; clear hcells
  go_enter Try.func41, Try.ntmps41
  go_wp2
  clear hconv
  go_loopw [10] (fun i wr => ∃ k : Nat, k ≤ s.size ∧ i = .int .i64 k ∧ Row wr w.heap.size s.size (part s k) ∧ Below w.heap.size w wr) (fun i _ => s.size - (intOf i).toNat)
  case atStart => exact ⟨0, Nat.zero_le _, rfl, row_start w s.size _ C hC HC.out 5, ((Below.refl _ _).alloc (Nat.le_refl _) _).drew⟩
  case round =>
    obtain ⟨k, hk, rfl, hrow, hbel⟩ := hrel
    by_cases hlt : k < s.size
    · obtain ⟨hcell, hfree⟩ := hrow k hlt
      rw [part_at] at hcell
      obtain ⟨hb0, hb1⟩ := byteAt_bd s k
      have HN := Lib.hid (row_store hrow hlt _ rfl)
      have HB := Lib.hid hbel
      clear hrow hbel
      go_wp2_with (go_at_call 39; refine (small_any _ _ hb0 hb1).mono ?_; rintro e w' ⟨rfl, rfl⟩)
      go_roundw
      case rel => exact ⟨k + 1, by omega, by go_num, HN.out, HB.out.setCell (Nat.le_refl _) _⟩
      case measure => simp [intOf]; omega
    · obtain rfl : k = s.size := by omega
      have hback := row_back hrow cap
      have HB := Lib.hid hbel
      clear hrow hbel
      go_wp2
      go_ret
      exact ⟨rfl, HB.out⟩

set_option maxHeartbeats 1600000 in
theorem rlower_any (s : ByteArray) (w : World) (hs : s.size ≤ maxLen) :
    Calls Try.prog 44 #[.string s] w fun e w' => e = .returned (.string (lowS s)) ∧ Below w.heap.size w w' := by
  unfold maxLen at hs
  obtain ⟨cap, C, hconv, hC, hcells⟩ := made s w
  have HC := Lib.hid hcells; clear hcells
  go_enter Try.func44, Try.ntmps44
  go_wp2
  clear hconv
  go_loopw [4] (fun i wr => ∃ k : Nat, k ≤ s.size ∧ i = .int .i64 k ∧ Row wr w.heap.size s.size (part s k) ∧ Below w.heap.size w wr) (fun i _ => s.size - (intOf i).toNat)
  case atStart => exact ⟨0, Nat.zero_le _, rfl, row_start w s.size _ C hC HC.out 5, ((Below.refl _ _).alloc (Nat.le_refl _) _).drew⟩
  case round =>
    obtain ⟨k, hk, rfl, hrow, hbel⟩ := hrel
    by_cases hlt : k < s.size
    · obtain ⟨hcell, hfree⟩ := hrow k hlt
      rw [part_at] at hcell
      obtain ⟨hb0, hb1⟩ := byteAt_bd s k
      by_cases ha : 65 ≤ byteAt s k
      · by_cases hz : byteAt s k ≤ 90
        · have HN := Lib.hid (row_store hrow hlt (byteAt s k + 32) (by unfold smI; rw [if_pos ⟨ha, hz⟩]))
          have HB := Lib.hid hbel
          clear hrow hbel
          go_wp2
          go_roundw
          case rel => exact ⟨k + 1, by omega, by go_num, HN.out, HB.out.setCell (Nat.le_refl _) _⟩
          case measure => simp [intOf]; omega
        · have HN := Lib.hid (row_skip hrow (by unfold smI; rw [if_neg (by omega)]))
          have HB := Lib.hid hbel
          clear hrow hbel
          go_wp2
          go_roundw
          case rel => exact ⟨k + 1, by omega, by go_num, HN.out, HB.out⟩
          case measure => simp [intOf]; omega
      · have HN := Lib.hid (row_skip hrow (by unfold smI; rw [if_neg (by omega)]))
        have HB := Lib.hid hbel
        clear hrow hbel
        go_wp2
        go_roundw
        case rel => exact ⟨k + 1, by omega, by go_num, HN.out, HB.out⟩
        case measure => simp [intOf]; omega
    · obtain rfl : k = s.size := by omega
      have hback := row_back hrow cap
      have HB := Lib.hid hbel
      clear hrow hbel
      go_wp2
      go_ret
      exact ⟨rfl, HB.out⟩
end Go.Proofs.Ytdljjfeojccidaa.I
