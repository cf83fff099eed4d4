/-
  The walks of the three laws on charref.
-/
import Derived.Test.YtphplpkmimckkaaDoorAwake
import Derived.Lib.ReplaceLaws
import Derived.Lib.IndexBytes
namespace Go.Proofs.YtphplpkmimckkaaDoor
open Go.RowKit Go.Lib

theorem eqI (n : Int) : (n == n) = true := by simp
set_option maxHeartbeats 3200000 in
theorem tells_walk (name : ByteArray) (n : Int) (s : ByteArray) (value : Bool) (w : World) (hT : StAt w) (wn : name.size ≤ maxLen) (ws : s.size ≤ maxLen) (h1 : -9223372036854775808 ≤ n) (h2 : n ≤ 9223372036854775807) :
    Calls Tryd.prog 3 #[.string name, .int .i64 n, .string s, .bool value] w fun e w' => e = .returned (.bool true) ∧ Below w.heap.size w w' := by
  unfold maxLen at wn ws
  have HT := Lib.hid hT
  clear hT
  have HA : Hid (∀ W, Below w.heap.size w W → Calls Tryd.prog 6 #[] W fun e w' => e = .returned (.bool true) ∧ Below W.heap.size W w') := Lib.hid (fun W hb => awake_any W (HT.out.below hb))
  by_cases h40 : 40 < name.size
  · have h5 : (40 : Int) < name.size := by omega
    clear h40
    go_enter Tryd.func3, Tryd.ntmps3
    go_wp2_with fail
    refine (HA.out w (Below.refl _ _)).mono ?_
    rintro e w1 ⟨rfl, hb⟩
    have HB := Lib.hid hb
    clear hb
    go_wp2
    go_ret
    exact ⟨rfl, HB.out⟩
  have h5 : ¬ (40 : Int) < name.size := by omega
  clear h40
  by_cases h300 : 300 < s.size
  · have h6 : (300 : Int) < s.size := by omega
    clear h300
    go_enter Tryd.func3, Tryd.ntmps3
    go_wp2_with fail
    refine (HA.out w (Below.refl _ _)).mono ?_
    rintro e w1 ⟨rfl, hb⟩
    have HB := Lib.hid hb
    clear hb
    go_wp2
    go_ret
    exact ⟨rfl, HB.out⟩
  have h6 : ¬ (300 : Int) < s.size := by omega
  have hs : s.size ≤ 10000 := by omega
  clear h300
  have HN1 : Hid (∀ W, Calls Tryd.prog 7 #[.string name] W fun e w' => e = .returned (.tuple #[.string (nmTx name.data.toList), .bool (nmOk name.data.toList)]) ∧ Below W.heap.size W w') := Lib.hid (fun W => named_any name W (by omega))
  have HN2 : Hid (∀ W, Calls Tryd.prog 8 #[.string name] W fun e w' => e = .returned (.tuple #[.string (nmTx name.data.toList), .bool (nmOk name.data.toList)]) ∧ Below W.heap.size W w') := Lib.hid (fun W => rnamed_any name W)
  have HR1 : Hid (∀ W, Below w.heap.size w W → Calls Tryd.prog 9 #[.string s, .bool value] W fun e w' => e = .returned (.tuple #[.string (rd s.data.toList value).1, .int .i64 (rd s.data.toList value).2]) ∧ Below W.heap.size W w') := Lib.hid (fun W hb => read_any s value W (HT.out.below hb) (by omega))
  have HR2 : Hid (∀ W, Calls Tryd.prog 10 #[.string s, .bool value] W fun e w' => e = .returned (.tuple #[.string (rd s.data.toList value).1, .int .i64 (rd s.data.toList value).2]) ∧ Below W.heap.size W w') := Lib.hid (fun W => rread_any s value W (by omega))
  have HM1 : Hid (∀ W, Below w.heap.size w W → Calls Tryd.prog 11 #[.int .i64 n] W fun e w' => e = .returned (.string (numS n)) ∧ W = w') := Lib.hid (fun W hb => numbered_any n W (HT.out.below hb) h1 h2)
  have HM2 : Hid (∀ W, Calls Tryd.prog 12 #[.int .i64 n] W fun e w' => e = .returned (.string (numS n)) ∧ Below W.heap.size W w') := Lib.hid (fun W => rnumbered_any n W h1 h2)
  generalize nmTx name.data.toList = A at *
  generalize nmOk name.data.toList = B at *
  generalize (rd s.data.toList value).1 = T at *
  generalize (rd s.data.toList value).2 = k at *
  generalize numS n = M at *
  go_enter Tryd.func3, Tryd.ntmps3
  go_wp2_with fail
  refine (HN1.out w).mono ?_
  rintro e w1 ⟨rfl, hb⟩
  have HB1 := Lib.hid hb
  clear hb
  go_wp2_with fail
  refine (HN2.out w1).mono ?_
  rintro e w2 ⟨rfl, hb⟩
  have HB2 := below_step HB1 hb
  clear hb
  go_wp2_with fail
  refine (HR1.out w2 HB2.out).mono ?_
  rintro e w3 ⟨rfl, hb⟩
  have HB3 := below_step HB2 hb
  clear hb
  go_wp2_with fail
  refine (HR2.out w3).mono ?_
  rintro e w4 ⟨rfl, hb⟩
  have HB4 := below_step HB3 hb
  clear hb
  go_wp2_with fail
  refine (HM1.out w4 HB4.out).mono ?_
  rintro e w5 ⟨rfl, rfl⟩
  go_wp2_with fail
  refine (HM2.out w4).mono ?_
  rintro e w6 ⟨rfl, hb⟩
  have HB6 := below_step HB4 hb
  clear hb
  go_wp2_with fail
  refine (HA.out w6 HB6.out).mono ?_
  rintro e w7 ⟨rfl, hb⟩
  have HB7 := below_step HB6 hb
  clear hb
  go_wp2
  go_ret
  exact ⟨rfl, HB7.out⟩

set_option maxHeartbeats 3200000 in
theorem decodes_walk (s : ByteArray) (value : Bool) (w : World) (hT : StAt w) (ws : s.size ≤ maxLen) :
    Calls Tryd.prog 4 #[.string s, .bool value] w fun e w' => e = .returned (.bool true) ∧ Below w.heap.size w w' := by
  unfold maxLen at ws
  have HT := Lib.hid hT
  clear hT
  have HA : Hid (∀ W, Below w.heap.size w W → Calls Tryd.prog 6 #[] W fun e w' => e = .returned (.bool true) ∧ Below W.heap.size W w') := Lib.hid (fun W hb => awake_any W (HT.out.below hb))
  by_cases h300 : 300 < s.size
  · have h6 : (300 : Int) < s.size := by omega
    clear h300
    go_enter Tryd.func4, Tryd.ntmps4
    go_wp2_with fail
    refine (HA.out w (Below.refl _ _)).mono ?_
    rintro e w1 ⟨rfl, hb⟩
    have HB := Lib.hid hb
    clear hb
    go_wp2
    go_ret
    exact ⟨rfl, HB.out⟩
  have h6 : ¬ (300 : Int) < s.size := by omega
  have hs : s.size ≤ 10000 := by omega
  clear h300
  have HD1 := Lib.hid (decode_any s value w HT.out hs)
  have HD2 := Lib.hid (fun W => rdecode_any s value W hs)
  generalize decS value s = D at *
  go_enter Tryd.func4, Tryd.ntmps4
  go_wp2_with fail
  refine HD1.out.mono ?_
  rintro e w1 ⟨rfl, hb⟩
  have HB1 := Lib.hid hb
  clear hb
  go_wp2_with fail
  refine (HD2.out w1).mono ?_
  rintro e w2 ⟨rfl, hb⟩
  have HB2 := below_step HB1 hb
  clear hb
  go_wp2_with fail
  refine (HA.out w2 HB2.out).mono ?_
  rintro e w7 ⟨rfl, hb⟩
  have HB7 := below_step HB2 hb
  clear hb
  go_wp2
  go_ret
  exact ⟨rfl, HB7.out⟩

/-! ### each & made a + -/
def plusL (l : List UInt8) : List UInt8 := l.map fun c => if c = 38 then 43 else c
theorem plus_none (l : List UInt8) (h : indexByte l 38 = -1) : plusL l = l := by
  unfold plusL
  conv => rhs; rw [← List.map_id l]
  apply List.map_congr_left
  intro c hc
  rw [if_neg]; rfl
  intro e
  obtain ⟨k, hk, rfl⟩ := List.mem_iff_getElem.1 hc
  exact indexByte_none h k (by rw [List.getElem?_eq_getElem hk, e])
theorem plus_some (l : List UInt8) (i : Nat) (h : indexByte l 38 = i) : plusL l = l.take i ++ [43] ++ plusL (l.drop (i + 1)) := by
  obtain ⟨h1, h2⟩ := indexByte_some h
  have hi : i < l.length := (List.getElem?_eq_some_iff.1 h1).1
  have e1 : l = l.take i ++ (38 :: l.drop (i + 1)) := by
    conv => lhs; rw [← List.take_append_drop i l]
    rw [List.drop_eq_getElem_cons hi, (List.getElem?_eq_some_iff.1 h1).2]
  have e2 : plusL (l.take i) = l.take i := by
    refine plus_none _ ?_
    have hge := indexByte_ge (l.take i) 38
    by_cases hn : indexByte (l.take i) 38 = -1
    · exact hn
    · exfalso
      obtain ⟨j, hj⟩ : ∃ j : Nat, indexByte (l.take i) 38 = j := ⟨(indexByte (l.take i) 38).toNat, by omega⟩
      have h3 := (indexByte_some hj).1
      have hji : j < (l.take i).length := (List.getElem?_eq_some_iff.1 h3).1
      rw [List.length_take] at hji
      rw [List.getElem?_take, if_pos (by omega)] at h3
      exact h2 j (by omega) h3
  conv => lhs; rw [e1]
  unfold plusL at e2 ⊢
  rw [List.map_append, e2, List.map_cons, if_pos rfl]
  simp
theorem replaceK_plus : ∀ (m : Nat) (l : List UInt8), l.length ≤ m → replaceK [38] [43] (count l [38]) l = plusL l
  | m, l, hm => by
    have hge := indexByte_ge l 38
    by_cases hn : indexByte l 38 = -1
    · rw [count_miss (by rw [index_one]; exact hn), plus_none l hn]; rfl
    · obtain ⟨i, hi⟩ : ∃ i : Nat, indexByte l 38 = i := ⟨(indexByte l 38).toNat, by omega⟩
      have hil : i < l.length := (List.getElem?_eq_some_iff.1 (indexByte_some hi).1).1
      have hix : index l [38] = i := by rw [index_one]; exact hi
      rw [count_hit (by simp) hix, plus_some l i hi, Nat.add_comm, replaceK_hit _ _ _ _ _ hix]
      match m with
      | 0 => omega
      | m + 1 =>
        rw [replaceK_plus m (l.drop (i + [38].length)) (by rw [List.length_drop]; simp; omega)]
        rfl
theorem replaceAll_plus (l : List UInt8) : replaceAll l [38] [43] = plusL l := by
  unfold replaceAll replace replaceNum
  rw [if_neg (by decide), if_pos (.inl (by omega))]
  exact replaceK_plus l.length l (Nat.le_refl _)
theorem plus_no (l : List UInt8) : ∀ c ∈ plusL l, c ≠ 38 := by
  intro c hc
  obtain ⟨d, _, rfl⟩ := List.mem_map.1 hc
  split
  · decide
  · assumption
end Go.Proofs.YtphplpkmimckkaaDoor
