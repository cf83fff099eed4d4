/-
  The walk of Decode.
-/
import Derived.Test.YtljpiamlbdknlaaDoorCount
import Derived.Laws.IdiomStrings
import Derived.Laws.BytesString
namespace Go.Proofs.YtljpiamlbdknlaaDoor
open Go.RowKit Go.Lib

/-- The bytes of a slice, whatever slice. -/
def BytesAt (w : World) (a : Option Addr) (l : List UInt8) : Prop := (a = none ∧ l = []) ∨ ∃ x, a = some x ∧ ∀ j (hj : j < l.length), w.cell? (x.add j) = some (.int .u8 (l[j].toNat : Int))

theorem to_text {w : World} {a : Option Addr} {l : List UInt8} (h : BytesAt w a l) (cap : Nat) :
    (convert 22 9 (.slice a l.length cap)).run Tryd.prog w = .ok (.string ⟨l.toArray⟩) w := by
  rcases h with ⟨rfl, rfl⟩ | ⟨x, rfl, hc⟩
  · rw [show ([] : List UInt8).length = 0 from rfl, run_convert_bytes_string w 22 9 5 none 0 cap Tryd.underlying22 Tryd.underlying5 Tryd.underlying9]
    rfl
  · exact run_convert_bytes_back w 22 9 5 x cap l Tryd.underlying22 Tryd.underlying5 Tryd.underlying9 hc

theorem ret_str {a b : ByteArray} (h : a = b) : Ending.returned (.string a) = .returned (.string b) := by rw [h]
theorem encode_rune (l : List UInt8) (hne : l ≠ []) : encodeRune (runeOf l) = (stepL l).1 := by
  unfold runeOf stepL
  by_cases h : (oneL l).2 = false ∨ l.head? = some 0
  · rw [if_pos h, if_pos h]; rfl
  · rw [if_neg h, if_neg h]
    by_cases h2 : l.head? = some 13
    · rw [if_pos h2, if_pos h2]; rfl
    · rw [if_neg h2, if_neg h2]
      rcases oneL_shape l hne with ⟨h3, h4⟩ | ⟨h3, _⟩
      · rw [encode_decode l hne h4, h3]
      · exact absurd (.inl h3) h
theorem runeOf_bd (l : List UInt8) : -2147483648 ≤ runeOf l ∧ runeOf l ≤ 2147483647 := by
  unfold runeOf
  have := decodeL_rune l
  split
  · omega
  · split <;> omega
theorem rune_cells (l : List UInt8) (hne : l ≠ []) : Lib.runeCells (runeOf l) = Lib.byteCells (stepL l).1 := by
  rw [← Lib.byteCells_encodeRune, encode_rune l hne]
theorem byteCells_app (a b : List UInt8) : Lib.byteCells a ++ Lib.byteCells b = Lib.byteCells (a ++ b) := by simp [Lib.byteCells]
theorem stepL_len (l : List UInt8) (hne : l ≠ []) : (stepL l).1.length ≤ 3 * (stepL l).2 := by
  have h1 := oneL_pos l
  have h2 := oneL_le l hne
  unfold stepL
  split
  · simp; omega
  · split
    · simp only [List.length_cons, List.length_nil]; split <;> omega
    · simp only [List.length_take]; omega

theorem heap_lt {w : World} {b : Nat} {o : Obj} (h : w.heap[b]? = some o) : b < w.heap.size := (Array.getElem?_eq_some_iff.1 h).1
/-- A builder stays one where what was there stands. -/
theorem built_at {T e : TypeId} {B b : Nat} {p : Value} {bs : List Value} {W W' : World} (h : Lib.BuilderAtF T e B b p bs W) (hb : Below W.heap.size W W') : Lib.BuilderAtF T e B b p bs W' := by
  obtain ⟨hB, v, hbk, ⟨hl, hown⟩, hne⟩ := h
  refine ⟨hB, v, (hb.block b (heap_lt hbk)).trans hbk, ⟨hl, ?_⟩, hne⟩
  rcases hown with h | ⟨g, cap, cur, fz, h1, h2, h3, h4⟩
  · exact .inl h
  · exact .inr ⟨g, cap, cur, fz, h1, h2, (hb.block g (heap_lt h3)).trans h3, h4⟩
theorem built {T e : TypeId} {B b : Nat} {bs : List Value} {W W' : World} (h : Lib.IsBuilderF T e B b bs W) (hb : Below W.heap.size W W') : Lib.IsBuilderF T e B b bs W' :=
  h.elim (fun x => .inl (built_at x hb)) (fun x => .inr (built_at x hb))

set_option maxHeartbeats 2000000 in
theorem decode_any (a : Option Addr) (cap : Nat) (l : List UInt8) (w : World) (hT : Tabs w) (hl : l.length ≤ 1000000) (hA : BytesAt w a l) :
    Calls Tryd.prog 7 #[.slice a l.length cap] w fun e w' => e = .returned (.string ⟨(decL l).toArray⟩) ∧ Below w.heap.size w w' := by
  have hconv := to_text hA cap
  clear hA
  have hsz : (ByteArray.mk l.toArray).size = l.length := by show l.toArray.size = _; simp
  have hlist : (ByteArray.mk l.toArray).data.toList = l := by simp
  have hV := valid_any ⟨l.toArray⟩ w hT (by rw [hsz]; unfold maxLen; omega)
  rw [hlist] at hV
  have hEq := decL_eq l
  have HT := Lib.hid hT
  have HS := Lib.hid hsz
  have HLI := Lib.hid hlist
  clear hT hsz hlist
  generalize hs : ByteArray.mk l.toArray = s at *
  have HSL := Lib.hid hs
  clear hs
  by_cases hok : okU l = true
  · rw [hok] at hV
    have HE := Lib.hid (hEq.2 hok)
    clear hEq hok
    go_enter Tryd.func7, Tryd.ntmps7
    go_wp2_with (go_at_call 9; refine hV.mono ?_; rintro e w1 ⟨rfl, hb⟩; have HB := Lib.hid hb; clear hb)
    go_ret
    exact ⟨ret_str (by rw [HE.out]; exact HSL.out.symm), HB.out⟩
  · have hok1 : okU l = false := by simpa using hok
    rw [hok1] at hV
    clear hEq hok hok1
    go_enter Tryd.func7, Tryd.ntmps7
    go_wp2_with fail
    refine hV.mono ?_
    rintro e w1 ⟨rfl, hb⟩
    have HB1 := Lib.hid hb
    clear hb hV hconv
    go_wp2_with fail
    have hbk : (w1.alloc (.cells #[.pointer none, .slice none 0 0] 34)).heap[w1.heap.size]? = some (.cells #[.pointer none, .slice none 0 0] 34 (0, 0)) := by
      show (w1.heap.push _)[w1.heap.size]? = _
      simp
    have hG := Tryd.Builder_Grow_fresh w1.heap.size w1.heap.size s.size (w1.alloc (.cells #[.pointer none, .slice none 0 0] 34)) (Nat.le_refl _) hbk (by simp) (by rw [HS.out]; omega)
    refine hG.mono ?_
    rintro e w2 ⟨rfl, hbu, hb2⟩
    have HB2 : Hid (Below w1.heap.size w1 w2) := Lib.hid (((Below.refl _ _).alloc (Nat.le_refl _) _).trans hb2)
    have HU : Hid (Lib.IsBuilderF 34 5 w1.heap.size w1.heap.size (Lib.byteCells []) w2) := Lib.hid (Lib.IsBuilderF.of (.inr hbu))
    clear hG hbk hbu hb2
    have HT1 : Hid (Tabs w1 ∧ 1 < w1.heap.size) := Lib.hid ⟨tabs_below HT.out HB1.out (tabs_size HT.out), Nat.lt_of_lt_of_le (tabs_size HT.out) HB1.out.size⟩
    go_wp2
    go_loopw [3] (fun t wr => ∃ (u : ByteArray) (acc : List UInt8), t = .string u ∧ acc.length + 3 * u.size ≤ 3 * l.length ∧ decL l = acc ++ decL u.data.toList ∧ Lib.IsBuilderF 34 5 w1.heap.size w1.heap.size (Lib.byteCells acc) wr ∧ Below w1.heap.size w1 wr) (fun t _ => (textOf t).size)
    case atStart => exact ⟨s, [], rfl, by rw [HS.out]; simp, by rw [HLI.out]; rfl, HU.out, HB2.out⟩
    case round =>
      obtain ⟨u, acc, rfl, hlen, hdec, hbu, hbel⟩ := hrel
      have HW : Hid (Tabs wr) := Lib.hid (tabs_below HT1.out.1 hbel HT1.out.2)
      have HB := Lib.hid hbel
      have HD := Lib.hid hdec
      have HUb := Lib.hid hbu
      clear hbel hdec hbu HU HB2
      by_cases h0 : 0 < u.size
      · have hne := list_ne u h0
        have h2 := stepL_pos u.data.toList
        have h3 := stepL_le u.data.toList hne
        rw [size_list] at h3
        have h4 := stepL_len u.data.toList hne
        have hr := runeOf_bd u.data.toList
        have H1 := Lib.hid (decL_step u.data.toList hne)
        have HR := Lib.hid (rune_cells u.data.toList hne)
        obtain ⟨e1, e2⟩ := ext_list u (stepL u.data.toList).2 h3
        have E1 := Lib.hid e1
        have E2 := Lib.hid e2
        have hF := first_any u wr HW.out h0 (by unfold maxLen; omega)
        unfold FirstPost at hF
        clear hne e1 e2
        generalize (stepL u.data.toList).2 = n at *
        generalize (stepL u.data.toList).1 = p at *
        generalize runeOf u.data.toList = r at *
        go_wp2_with fail
        refine hF.mono ?_
        rintro e w3 ⟨rfl, hb3⟩
        have HB3 := Lib.hid hb3
        clear hF hb3
        go_wp2_with fail
        have hz3 : w1.heap.size ≤ w3.heap.size := Nat.le_trans HB.out.size HB3.out.size
        have hWr := Tryd.Builder_WriteRune_k w1.heap.size w1.heap.size (Lib.byteCells acc) r hr.1 hr.2 w3 (built HUb.out HB3.out) (by rw [Lib.byteCells_length]; omega) hz3
        rw [HR.out, byteCells_app] at hWr
        refine hWr.mono ?_
        rintro e w4 ⟨rfl, hbu4, hb4, _⟩
        have HB4 : Hid (Below w1.heap.size w1 w4) := Lib.hid ((HB.out.trans (HB3.out.mono HB.out.size)).trans hb4)
        have HU4 := Lib.hid hbu4
        clear hWr hbu4 hb4 hz3
        go_wp2
        go_roundw
        case rel => exact ⟨_, acc ++ p, rfl, by rw [E2.out, List.length_append]; omega, by rw [E1.out, HD.out, H1.out, List.append_assoc], .inr HU4.out, HB4.out⟩
        case measure => show (u.extract n u.size).size < u.size; rw [E2.out]; omega
      · have hl0 : u.data.toList = [] := by
          apply List.eq_nil_of_length_eq_zero; rw [size_list]; omega
        have HF : Hid (decL l = acc) := Lib.hid (by rw [HD.out, hl0, decL_nil, List.append_nil])
        clear hl0
        go_wp2_with fail
        refine (Tryd.Builder_String_any_k w1.heap.size w1.heap.size acc wr HUb.out HB.out.size).mono ?_
        rintro e w5 ⟨rfl, _, hb5, _⟩
        have HB5 : Hid (Below w.heap.size w w5) := Lib.hid (HB1.out.trans (((HB.out.trans hb5)).mono HB1.out.size))
        clear hb5
        go_wp2
        go_ret
        exact ⟨ret_str (by rw [HF.out]), HB5.out⟩
end Go.Proofs.YtljpiamlbdknlaaDoor
