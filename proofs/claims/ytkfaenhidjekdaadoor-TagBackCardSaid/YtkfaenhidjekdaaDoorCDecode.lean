/-
  The walk of Decode.
-/
import Derived.Test.YtkfaenhidjekdaaDoorCRread
import Derived.Lib.IndexLaws
namespace Go.Proofs.YtkfaenhidjekdaaDoor.C
open Go.RowKit Go.Lib

def textOf : Value → ByteArray | .string s => s | _ => ByteArray.empty
def stepR (l : List UInt8) (value : Bool) : Ref := if (rd l value).2 = 0 then (⟨#[38]⟩, 1) else rd l value
theorem stepR_ok (l : List UInt8) (value : Bool) (h : l ≠ []) : 1 ≤ (stepR l value).2 ∧ (stepR l value).2 ≤ l.length ∧ (stepR l value).1.size ≤ 4 * (stepR l value).2 := by
  have hl : 1 ≤ l.length := by
    rcases Nat.eq_zero_or_pos l.length with h0 | h0
    · exact absurd (List.eq_nil_of_length_eq_zero h0) h
    · exact h0
  unfold stepR
  split
  · exact ⟨Nat.le_refl _, hl, by show (1 : Nat) ≤ 4 * 1; omega⟩
  · rename_i hn
    rcases okR_rd l value with ⟨h0, _⟩ | ⟨h1, h2, h3⟩
    · exact absurd h0 hn
    · exact ⟨by omega, h2, by omega⟩
theorem dec_at (value : Bool) (U : List UInt8) (a : Nat) (h : U[a]? = some 38) (hpre : ∀ k, k < a → U[k]? ≠ some 38) :
    dec value U = (U.take a ++ (stepR (U.drop a) value).1.data.toList) ++ dec value (U.drop (a + (stepR (U.drop a) value).2)) := by
  have ha : a < U.length := (List.getElem?_eq_some_iff.1 h).1
  have hd : U.drop a = 38 :: U.drop (a + 1) := by
    rw [List.drop_eq_getElem_cons ha]
    rw [(List.getElem?_eq_some_iff.1 h).2]
  have h1 : dec value U = U.take a ++ dec value (U.drop a) := by
    conv => lhs; rw [← List.take_append_drop a U]
    refine dec_plain value _ _ ?_
    intro c hc e
    obtain ⟨k, hk, rfl⟩ := List.mem_iff_getElem.1 hc
    rw [List.length_take] at hk
    rw [List.getElem_take] at e
    exact hpre k (by omega) (by rw [List.getElem?_eq_getElem (by omega), e])
  rw [h1, List.append_assoc]
  congr 1
  unfold stepR
  by_cases hr : (rd (U.drop a) value).2 = 0
  · rw [if_pos hr, hd] at *
    rw [dec_keep value 38 _ hr]
    rfl
  · rw [if_neg hr, dec_ref value _ hr, List.drop_drop]
theorem dec_none (value : Bool) (U : List UInt8) (h : indexByte U 38 = -1) : dec value U = U := by
  refine dec_same value U ?_
  intro c hc e
  obtain ⟨k, hk, rfl⟩ := List.mem_iff_getElem.1 hc
  exact indexByte_none h k (by rw [List.getElem?_eq_getElem hk, e])
theorem heap_lt {w : World} {b : Nat} {o : Obj} (h : w.heap[b]? = some o) : b < w.heap.size := (Array.getElem?_eq_some_iff.1 h).1
theorem built_at {T e : TypeId} {B b : Nat} {p : Value} {bs : List Value} {W W' : World} (h : Lib.BuilderAtF T e B b p bs W) (hb : Below W.heap.size W W') : Lib.BuilderAtF T e B b p bs W' := by
  obtain ⟨hB, v, hbk, ⟨hl, hown⟩, hne⟩ := h
  refine ⟨hB, v, (hb.block b (heap_lt hbk)).trans hbk, ⟨hl, ?_⟩, hne⟩
  rcases hown with h | ⟨g, cap, cur, fz, h1, h2, h3, h4⟩
  · exact .inl h
  · exact .inr ⟨g, cap, cur, fz, h1, h2, (hb.block g (heap_lt h3)).trans h3, h4⟩
theorem built {T e : TypeId} {B b : Nat} {bs : List Value} {W W' : World} (h : Lib.IsBuilderF T e B b bs W) (hb : Below W.heap.size W W') : Lib.IsBuilderF T e B b bs W' :=
  h.elim (fun x => .inl (built_at x hb)) (fun x => .inr (built_at x hb))
theorem str_cells (l : List UInt8) (s : ByteArray) : byteCells l ++ strCells s = byteCells (l ++ s.data.toList) := by simp [byteCells, strCells]
def decS (value : Bool) (s : ByteArray) : ByteArray := mkB (dec value s.data.toList)

set_option maxHeartbeats 6400000 in
theorem decode_any (s : ByteArray) (value : Bool) (w : World) (hT : StAt w) (hs : s.size ≤ 10000) :
    Calls Tryd.prog 52 #[.string s, .bool value] w fun e w' => e = .returned (.string (decS value s)) ∧ Below w.heap.size w w' := by
  have HT := Lib.hid hT
  clear hT
  have HI : Hid (∀ (u : ByteArray) (W : World), Calls Tryd.prog 35 #[.string u, .int .u8 38] W fun e w' => e = .returned (.int .i64 (indexByte u.data.toList 38)) ∧ w' = W) := Lib.hid (fun u W => Tryd.strings_IndexByte u 38 W)
  go_enter Tryd.func52, Tryd.ntmps52
  go_wp2_with fail
  have HU0 := Lib.hid (IsBuilderF.of (fresh_isBuilder 62 5 w))
  have HB0 := Lib.hid ((Below.refl w.heap.size w).alloc (Nat.le_refl _) (.cells #[.pointer none, .slice none 0 0] 62))
  generalize w.alloc (.cells #[.pointer none, .slice none 0 0] 62) = w1 at *
  refine (HI.out s w1).mono ?_
  rintro e w' ⟨rfl, rfl⟩
  go_wp2_with fail
  go_loopw [0, 6] (fun t i wr => ∃ (u : ByteArray) (acc : List UInt8), t = .string u ∧ i = .int .i64 (indexByte u.data.toList 38) ∧ acc.length + 4 * u.size ≤ 4 * s.size ∧ dec value s.data.toList = acc ++ dec value u.data.toList ∧ IsBuilderF 62 5 w.heap.size w.heap.size (byteCells acc) wr ∧ Below w.heap.size w wr) (fun t _ _ => (textOf t).size)
  case atStart => exact ⟨s, [], rfl, rfl, by simp, rfl, HU0.out, HB0.out⟩
  case round =>
    obtain ⟨u, acc, rfl, rfl, hlen, hdec, hbu, hbel⟩ := hrel
    have HD := Lib.hid hdec
    have HU := Lib.hid hbu
    have HB := Lib.hid hbel
    clear hdec hbu hbel
    have hge := indexByte_ge u.data.toList 38
    by_cases hneg : 0 ≤ indexByte u.data.toList 38
    · obtain ⟨a, ha⟩ : ∃ a : Nat, indexByte u.data.toList 38 = (a : Int) := ⟨(indexByte u.data.toList 38).toNat, by omega⟩
      obtain ⟨h38, hpre⟩ := indexByte_some ha
      have hau : a < u.size := by
        have := (List.getElem?_eq_some_iff.1 h38).1
        rw [size_list] at this; exact this
      have hne : u.data.toList.drop a ≠ [] := fun e => by
        have := congrArg List.length e
        rw [List.length_drop, size_list] at this
        simp at this; omega
      obtain ⟨k1, k2, k3⟩ := stepR_ok _ value hne
      rw [List.length_drop, size_list] at k2
      have HS := Lib.hid (HD.out.trans (congrArg (acc ++ ·) (dec_at value _ a h38 hpre)))
      have HR := Lib.hid (read_any (u.extract a u.size) value wr (HT.out.below HB.out) (by rw [ByteArray.size_extract]; omega))
      rw [ext_tail] at HR
      have hst : stepR (u.data.toList.drop a) value = if (rd (u.data.toList.drop a) value).2 = 0 then (⟨#[38]⟩, 1) else rd (u.data.toList.drop a) value := rfl
      have HH := Lib.hid (ext_list u 0 a)
      have hsa : (u.extract 0 a).size = a := by rw [ByteArray.size_extract]; omega
      have HSA := Lib.hid hsa
      have HX : Hid (∀ n, a + n ≤ u.size → (u.extract (a + n) u.size).data.toList = u.data.toList.drop (a + n) ∧ (u.extract (a + n) u.size).size = u.size - (a + n)) := Lib.hid (fun n hn => ⟨ext_tail _ _, by rw [ByteArray.size_extract]; omega⟩)
      clear h38 hpre hne hneg hge hsa
      have HAi := Lib.hid ha
      rw [ha]
      clear ha
      generalize rd (u.data.toList.drop a) value = R at *
      have HW : Hid (∀ (l : List UInt8) (v : ByteArray) (W : World), IsBuilderF 62 5 w.heap.size w.heap.size (byteCells l) W → w.heap.size ≤ W.heap.size → l.length + v.size ≤ 1000000 → Calls Tryd.prog 56 #[.pointer (some ⟨w.heap.size, 0, none⟩), .string v] W fun e w' => e = .returned (.tuple #[.int .i64 v.size, .nilIface]) ∧ IsBuilderF 62 5 w.heap.size w.heap.size (byteCells (l ++ v.data.toList)) w' ∧ Below w.heap.size W w') := Lib.hid (fun l v W h1 h2 h3 => by
        refine (Tryd.Builder_WriteString_k w.heap.size w.heap.size (byteCells l) v W h1 (by rw [byteCells_length]; omega) h2).mono ?_
        rintro e w' ⟨he, hb, hbel, _⟩
        rw [str_cells] at hb
        exact ⟨he, .inr hb, hbel⟩)
      have hsz2 : (u.extract 0 a).size ≤ 10000 := by rw [HSA.out]; omega
      obtain ⟨T, n⟩ := R
      by_cases hz : n = 0
      · subst hz
        rw [if_pos rfl] at hst
        rw [hst] at HS k1 k2 k3
        clear hst
        unfold RefPost at HR
        simp only [] at HS k1 k2 k3 HR
        go_wp2_with fail
        refine HR.out.mono ?_
        rintro e w2 ⟨rfl, hb⟩
        have HB2 := Lib.hid (HB.out.trans (hb.mono HB.out.size))
        have HU2 := Lib.hid (built HU.out hb)
        clear hb HR
        go_wp2_with fail
        refine (HW.out acc (u.extract 0 a) w2 HU2.out HB2.out.size (by omega)).mono ?_
        rw [HH.out, List.drop_zero]
        rintro e w3 ⟨rfl, hu3, hb⟩
        have HB3 := Lib.hid (HB2.out.trans hb)
        have HU3 := Lib.hid hu3
        clear hb hu3
        go_wp2_with fail
        refine (HW.out (acc ++ u.data.toList.take a) ⟨#[38]⟩ w3 HU3.out HB3.out.size (by rw [List.length_append, List.length_take, size_list]; have : (ByteArray.mk #[38]).size = 1 := rfl; omega)).mono ?_
        rintro e w4 ⟨rfl, hu4, hb⟩
        have HB4 := Lib.hid (HB3.out.trans hb)
        have HU4 := Lib.hid hu4
        clear hb hu4
        go_wp2_with fail
        obtain ⟨q, hq⟩ : ∃ q, indexByte (u.extract (a + 1) u.size).data.toList 38 = q := ⟨_, rfl⟩
        have HIq := HI.out (u.extract (a + 1) u.size) w4
        rw [hq] at HIq
        have HQ := Lib.hid hq
        clear hq
        refine HIq.mono ?_
        rintro e w5 ⟨rfl, rfl⟩
        clear HIq
        go_wp2
        go_roundw
        case rel => exact ⟨u.extract (a + 1) u.size, (acc ++ u.data.toList.take a) ++ (ByteArray.mk #[38]).data.toList, rfl, by rw [HQ.out], by rw [(HX.out 1 (by omega)).2, List.length_append, List.length_append, List.length_take, size_list, size_list]; have : (ByteArray.mk #[38]).size = 1 := rfl; omega, by rw [(HX.out 1 (by omega)).1]; exact HS.out.trans (by simp), HU4.out, HB4.out⟩
        case measure => show (u.extract (a + 1) u.size).size < u.size; rw [(HX.out 1 (by omega)).2]; omega
      · rw [if_neg hz] at hst
        rw [hst] at HS k1 k2 k3
        clear hst
        unfold RefPost at HR
        simp only [] at HS k1 k2 k3 HR
        have n0 : ((n : Int) == 0) = false := by rw [beq_eq_false_iff_ne]; omega
        clear hz
        go_wp2_with fail
        refine HR.out.mono ?_
        rintro e w2 ⟨rfl, hb⟩
        have HB2 := Lib.hid (HB.out.trans (hb.mono HB.out.size))
        have HU2 := Lib.hid (built HU.out hb)
        clear hb HR
        go_wp2_with fail
        refine (HW.out acc (u.extract 0 a) w2 HU2.out HB2.out.size (by omega)).mono ?_
        rw [HH.out, List.drop_zero]
        rintro e w3 ⟨rfl, hu3, hb⟩
        have HB3 := Lib.hid (HB2.out.trans hb)
        have HU3 := Lib.hid hu3
        clear hb hu3
        go_wp2_with fail
        refine (HW.out (acc ++ u.data.toList.take a) T w3 HU3.out HB3.out.size (by rw [List.length_append, List.length_take, size_list]; omega)).mono ?_
        rintro e w4 ⟨rfl, hu4, hb⟩
        have HB4 := Lib.hid (HB3.out.trans hb)
        have HU4 := Lib.hid hu4
        clear hb hu4
        go_wp2_with fail
        obtain ⟨q, hq⟩ : ∃ q, indexByte (u.extract (a + n) u.size).data.toList 38 = q := ⟨_, rfl⟩
        have HIq := HI.out (u.extract (a + n) u.size) w4
        rw [hq] at HIq
        have HQ := Lib.hid hq
        clear hq
        refine HIq.mono ?_
        rintro e w5 ⟨rfl, rfl⟩
        clear HIq
        go_wp2
        go_roundw
        case rel => exact ⟨u.extract (a + n) u.size, (acc ++ u.data.toList.take a) ++ (T).data.toList, rfl, by rw [HQ.out], by rw [(HX.out n (by omega)).2, List.length_append, List.length_append, List.length_take, size_list, size_list]; omega, by rw [(HX.out n (by omega)).1]; exact HS.out.trans (by simp), HU4.out, HB4.out⟩
        case measure => show (u.extract (a + n) u.size).size < u.size; rw [(HX.out n (by omega)).2]; omega
    · have hm : indexByte u.data.toList 38 = -1 := by omega
      have HF : Hid (acc ++ u.data.toList = dec value s.data.toList) := Lib.hid (by rw [HD.out, dec_none value _ hm])
      have HAi := Lib.hid hm
      rw [hm]
      clear hm hge hneg
      go_wp2_with fail
      refine (Tryd.Builder_WriteString_k w.heap.size w.heap.size (byteCells acc) u wr HU.out (by rw [byteCells_length]; omega) HB.out.size).mono ?_
      rintro e w2 ⟨rfl, hb, hbel, _⟩
      rw [str_cells] at hb
      have HU2 : Hid (IsBuilderF 62 5 w.heap.size w.heap.size (byteCells (acc ++ u.data.toList)) w2) := Lib.hid (.inr hb)
      have HB2 := Lib.hid (HB.out.trans hbel)
      clear hb hbel
      go_wp2_with fail
      refine (Tryd.Builder_String_any_k w.heap.size w.heap.size (acc ++ u.data.toList) w2 HU2.out HB2.out.size).mono ?_
      rintro e w3 ⟨rfl, _, hb, _⟩
      have HB3 := Lib.hid (HB2.out.trans hb)
      clear hb
      go_wp2
      go_ret
      exact ⟨ret_str (by rw [HF.out]; rfl), HB3.out⟩
end Go.Proofs.YtkfaenhidjekdaaDoor.C
