/-
  slices.Insert at numbers: one number more, in a list of the caller's own.
-/
import Derived.Test.YtkkngflpmdcfjaaYWith
import Derived.Test.YtkkngflpmdcfjaaNSmall
import Derived.Shelf.Spec.SlicesInsert
import Derived.Shelf.Spec.SlicesInsertGrow
namespace Go.Proofs.Ytkkngflpmdcfjaa
open Go.RowKit

def insR : Go.Shelf.Ren := ⟨fun | 21 => 127 | 27 => 155 | 28 => 156 | 35 => 170 | 39 => 173 | n => n, fun | 0 => 0 | 3 => 3 | 4 => 4 | 22 => 29 | n => n, fun n => n⟩
theorem insL : Go.Proofs.Lays2.n21 Try.prog insR := {
  mixed := by kernel_rfl
  f21 := Try.func127.trans (congrArg some (by kernel_rfl))
  f27 := Try.func155.trans (congrArg some (by kernel_rfl))
  f28 := Try.func156.trans (congrArg some (by kernel_rfl))
  f35 := Try.func170.trans (congrArg some (by kernel_rfl))
  f39 := Try.func173.trans (congrArg some (by kernel_rfl))
  t0 := Try.underlying0
  a0 := Try.isAgg0
  z0 := Try.sizeOf0
  v0 := Try.zeroValue0
  t3 := Try.underlying3
  a3 := Try.isAgg3
  z3 := Try.sizeOf3
  v3 := Try.zeroValue3
  t4 := Try.underlying4
  a4 := Try.isAgg4
  z4 := Try.sizeOf4
  v4 := Try.zeroValue4
  t22 := Try.underlying29
  a22 := Try.isAgg29
  z22 := Try.sizeOf29
  v22 := Try.zeroValue29
  i3 := by kernel_rfl }

theorem setCells_row {t : TypeId} {g : Nat} : ∀ (vs : List Value) (o : Nat) (w : World) (cur : Array Value), w.heap[g]? = some (.cells cur t (0, 0)) → o + vs.length ≤ cur.size →
    (w.setCells g o vs).heap[g]? = some (.cells (cur.toList.take o ++ vs ++ cur.toList.drop (o + vs.length)).toArray t (0, 0))
  | [], o, w, cur, h, _ => by
    show w.heap[g]? = _
    rw [h]; simp
  | v :: vs, o, w, cur, h, hl => by
    simp only [List.length_cons] at hl ⊢
    have h1 := heap_setCell_same w g o cur t v h
    have ih := setCells_row vs (o + 1) _ _ h1 (by rw [Array.size_setIfInBounds]; omega)
    show ((w.setCell ⟨g, o, none⟩ v).setCells g (o + 1) vs).heap[g]? = _
    rw [ih]
    have e : (cur.setIfInBounds o v).toList = cur.toList.set o v := by simp
    rw [e]
    have hlt : o < cur.toList.length := by simp; omega
    rw [List.take_add_one, List.take_set_of_le (Nat.le_refl _), List.getElem?_set_self hlt, List.drop_set_of_lt (by omega)]
    simp [Nat.add_assoc, Nat.add_comm 1]
theorem setCells_size {g : Nat} : ∀ (vs : List Value) (o : Nat) (w : World), (w.setCells g o vs).heap.size = w.heap.size
  | [], _, _ => rfl
  | v :: vs, o, w => by
    show ((w.setCell ⟨g, o, none⟩ v).setCells g (o + 1) vs).heap.size = _
    rw [setCells_size vs]; simp
theorem setCells_grown {g : Nat} : ∀ (vs : List Value) (o : Nat) (w : World), w.grownBy (w.setCells g o vs) (some g)
  | [], _, w => World.grownBy.refl w _
  | v :: vs, o, w => by
    have hb := (Below.refl 0 w).setCell (p := ⟨g, o, none⟩) (Nat.zero_le _) v
    have h1 : w.grownBy (w.setCell ⟨g, o, none⟩ v) (some g) := ⟨hb.os, hb.tape, hb.output, hb.size, fun k _ hn => heap_setCell_other w ⟨g, o, none⟩ k _ (fun e => hn (by rw [e]))⟩
    exact h1.trans (setCells_grown vs (o + 1) _)
theorem tl_arr (l : List Value) : l.toArray.toList = l := rfl
/-- A row of which the cells are known. -/
theorem kr_of {w : World} {g n c : Nat} {cur : Array Value} {xs : List Int} (hg : w.heap[g]? = some (.cells cur 3 (0, 0))) (hn : n = xs.length) (hc : n ≤ c) (hm : c ≤ maxLen) (hs : cur.size = c) (ht : cur.toList.take n = xs.map (Value.int .i64)) (hok : ∀ u ∈ cur.toList, ∃ z, u = .int .i64 z) :
    KR w (.slice (some ⟨g, 0, none⟩) n c) xs := by
  subst hn
  refine ⟨⟨by simp, .inr ⟨g, c, cur, rfl, Nat.zero_le _, hg, hc, hm, by omega, by rw [Nat.mul_one]; exact ht⟩⟩, fun g' c' t' fz hg' hc' j u hu => ?_⟩
  cases hg'
  rw [hg] at hc'
  cases hc'
  exact hok u (by rw [Array.mem_toList_iff]; exact Array.mem_of_getElem? hu)
theorem KR.cur {w : World} {g n c : Nat} {xs : List Int} (h : KR w (.slice (some ⟨g, 0, none⟩) n c) xs) : ∃ cur, w.heap[g]? = some (.cells cur 3 (0, 0)) ∧ n = xs.length ∧ n ≤ c ∧ c ≤ maxLen ∧ cur.size = c ∧ cur.toList.take n = xs.map (Value.int .i64) ∧ ∀ u ∈ cur.toList, ∃ z, u = .int .i64 z := by
  have hn := h.len.1
  subst hn
  rcases h.1.2 with ⟨e, _⟩ | ⟨g', cap, cur, e, _, hg, hn, hm, hs, ht⟩
  · cases e
  · injection e with e1 e2 e3
    cases e1
    subst e3
    refine ⟨cur, hg, rfl, hn, hm, by omega, by simpa using ht, fun u hu => ?_⟩
    obtain ⟨j, hj, rfl⟩ := List.mem_iff_getElem.1 hu
    exact h.2 g cur _ _ rfl hg j _ (by simp)
theorem zero_ints (k : Nat) : ∀ u ∈ (Builtin.zeroCells (Value.int .i64 0).cells k).toList, ∃ z, u = .int .i64 z := fun u hu => by
  rw [Array.mem_toList_iff] at hu
  obtain ⟨j, hj⟩ := Array.getElem?_of_mem hu
  have := zero_at _ _ _ _ hj
  exact zero_iok _ _ this |>.elim fun z hz => ⟨z, hz⟩
theorem zero_size (k : Nat) : (Builtin.zeroCells (Value.int .i64 0).cells k).size = k := by
  unfold Builtin.zeroCells
  rw [Array.size_map, Array.size_range]
  show k * 1 = k; omega
def RetIn (v : Value) (xs : List Int) (w : World) (e : Ending) (w' : World) : Prop :=
  ∃ v', e = .returned v' ∧ KR w' v' xs ∧ (∀ g, v'.ownBlock = some g → v.ownBlock = some g ∨ w.heap.size ≤ g) ∧ w.grownBy w' v.ownBlock
theorem ints_mem (xs : List Int) : ∀ u ∈ xs.map (Value.int .i64), ∃ z, u = .int .i64 z := fun u hu => by
  obtain ⟨z, _, rfl⟩ := List.mem_map.1 hu; exact ⟨z, rfl⟩

set_option maxRecDepth 100000 in
theorem insert_any (v : Value) (xs : List Int) (i : Nat) (x : Int) (vb : Nat) (w : World) (hK : KR w v xs) (hi : i ≤ xs.length) (hl : xs.length ≤ 1000000) (hlit : w.heap[vb]? = some (.cells #[.int .i64 x] 3 (0, 0))) (hne : v.ownBlock ≠ some vb) :
    Calls Try.prog 127 #[v, .int .i64 i, .slice (some ⟨vb, 0, none⟩) 1 1] w (RetIn v (xs.take i ++ x :: xs.drop i) w) := by
  have hvs : ∀ j u, ([Value.int .i64 x] : List Value)[j]? = some u → w.cell? ⟨vb, 0 + j, none⟩ = some u := fun j u hu => by
    rw [cell_of_row w vb (0 + j) _ _ (0, 0) hlit, Nat.zero_add]; simpa using hu
  have h1v : ∀ u ∈ ([Value.int .i64 x] : List Value), u.oneCell' = true := fun u hu => by simp at hu; subst hu; rfl
  obtain ⟨a, cap, rfl, hnc, hm, hnone, hsome⟩ := hK.form
  cases a with
  | none =>
    have h0 := hnone rfl
    subst h0
    have hx : xs = [] := List.eq_nil_of_length_eq_zero (by omega)
    subst hx
    have hi0 : i = 0 := by simpa using hi
    subst hi0
    refine (Any2.slices_Insert_int_end_grow insL none 0 0 vb 0 1 1 [] [.int .i64 x] w (by omega) (by omega) (by omega) (by omega) rfl rfl (fun _ => rfl) (fun a h => by cases h) hvs h1v).mono ?_
    rintro e w' ⟨rfl, rfl⟩
    have hge := grownCap_ge w 1 0 3
    have hle := grownCap_le_maxLen w 1 0 3 (by unfold maxLen; omega)
    refine ⟨_, rfl, kr_of (heap_alloc_new w.drew _) rfl hge hle ?_ ?_ ?_, fun g hg => .inr (by cases hg; exact Nat.le_refl _), ?_⟩
    · rw [Array.size_append, zero_size]
      show 1 + (grownCap w 1 0 3 - 1) = grownCap w 1 0 3
      omega
    · rw [Array.toList_append]
      rfl
    · intro u hu
      rw [Array.toList_append, List.mem_append] at hu
      rcases hu with hu | hu
      · simp at hu; exact ⟨x, hu⟩
      · exact zero_ints _ u hu
    · exact ⟨rfl, rfl, rfl, by simp, fun k hk _ => Below.heap_alloc w.drew _ _ hk⟩
  | some ad =>
    obtain ⟨g, rfl, hgl, _⟩ := hsome ad rfl
    clear hnone hsome
    obtain ⟨cur, hg, _, _, _, hs, ht, hok⟩ := hK.cur
    have hm' : cap ≤ 9223372036854775807 := by unfold maxLen at hm; omega
    have hcl : (xs.map (Value.int .i64)).length = xs.length := by simp
    have hgv : vb ≠ g := fun e => hne (by rw [e]; rfl)
    have hcs : ∀ j u, (xs.map (Value.int .i64))[j]? = some u → w.cell? ⟨g, 0 + j, none⟩ = some u := fun j u hu => by
      rw [cell_of_row w g (0 + j) _ _ (0, 0) hg, Nat.zero_add]
      rw [← ht, List.getElem?_take] at hu
      split at hu
      · simpa using hu
      · cases hu
    have h1c : ∀ u ∈ xs.map (Value.int .i64), u.oneCell' = true := fun u hu => by obtain ⟨z, rfl⟩ := ints_mem xs u hu; rfl
    have hin : ∀ j, j < cap → (w.cell? ⟨g, j, none⟩).isSome = true ∧ w.frozen? ⟨g, j, none⟩ = false := fun j hj => by
      rw [cell_of_row w g j _ _ (0, 0) hg]
      exact ⟨by simp; omega, frozen_of_row w g j _ _ hg⟩
    have htk : ∀ k, k ≤ xs.length → cur.toList.take k = (xs.map (Value.int .i64)).take k := fun k hk => by
      rw [← ht, List.take_take, Nat.min_eq_left hk]
    rcases Nat.lt_or_ge i xs.length with hlt | hge
    · rcases Nat.lt_or_ge cap (xs.length + 1) with hroom | hroom
      · have H : Calls Try.prog 127 #[.slice (some ⟨g, 0, none⟩) xs.length cap, .int .i64 i, .slice (some ⟨vb, 0, none⟩) 1 1] w fun e w' => e = .returned (.slice (some ⟨w.heap.size, 0, none⟩) (xs.length + 1) (grownCap w (xs.length + 1) cap 3)) ∧
            w' = ((((w.alloc (.cells (((xs.map (Value.int .i64)).take i).toArray ++ Builtin.zeroCells (Value.int .i64 0).cells (xs.length + 1 - i) ++ Builtin.zeroCells (Value.int .i64 0).cells (grownCap w (xs.length + 1) cap 3 - (xs.length + 1))) 3)).drew.setCells w.heap.size i [Value.int .i64 x]).drew).setCells w.heap.size (i + 1) ((xs.map (Value.int .i64)).drop i)) :=
          Any2.slices_Insert_int_grow insL g 0 xs.length cap i vb 0 1 1 (xs.map (Value.int .i64)) [.int .i64 x] w hlt (by omega) hnc hroom (by omega) hcl rfl hcs hvs h1c h1v
        refine H.mono ?_
        clear H
        rintro e w' ⟨rfl, rfl⟩
        have hge := grownCap_ge w (xs.length + 1) cap 3
        have hle := grownCap_le_maxLen w (xs.length + 1) cap 3 (by unfold maxLen; omega)
        generalize grownCap w (xs.length + 1) cap 3 = C at *
        obtain ⟨c0, hc0⟩ : ∃ c0, c0 = ((xs.map (Value.int .i64)).take i).toArray ++ Builtin.zeroCells (Value.int .i64 0).cells (xs.length + 1 - i) ++ Builtin.zeroCells (Value.int .i64 0).cells (C - (xs.length + 1)) := ⟨_, rfl⟩
        have hz0 : c0.size = C := by
          rw [hc0, Array.size_append, Array.size_append, zero_size, zero_size, List.size_toArray, List.length_take, hcl]
          omega
        have hok0 : ∀ u ∈ c0.toList, ∃ z, u = .int .i64 z := fun u hu => by
          rw [hc0, Array.toList_append, Array.toList_append, List.mem_append, List.mem_append] at hu
          rcases hu with (hu | hu) | hu
          · exact ints_mem xs u (List.mem_of_mem_take (by simpa using hu))
          · exact zero_ints _ u hu
          · exact zero_ints _ u hu
        have ht0 : c0.toList.take i = (xs.map (Value.int .i64)).take i := by
          rw [hc0, Array.toList_append, Array.toList_append, List.append_assoc]
          exact List.take_left' (by simp; omega)
        have hw0 : (w.alloc (.cells c0 3)).heap[w.heap.size]? = some (.cells c0 3 (0, 0)) := heap_alloc_new w _
        have hw1 := setCells_row [Value.int .i64 x] i (w.alloc (.cells c0 3)).drew c0 hw0 (by simp; omega)
        have hw2 := setCells_row ((xs.map (Value.int .i64)).drop i) (i + 1) (((w.alloc (.cells c0 3)).drew.setCells w.heap.size i [Value.int .i64 x]).drew) _ hw1 (by simp; omega)
        have hb0 : w.grownBy (w.alloc (.cells c0 3)) none := ⟨rfl, rfl, rfl, by simp, fun k hk _ => Below.heap_alloc w _ _ hk⟩
        rw [← hc0]
        refine ⟨_, rfl, kr_of hw2 (by simp; omega) hge hle (by simp; omega) ?_ (fun u hu => ?_), fun k hk => .inr (by cases hk; exact Nat.le_refl _), ?_⟩
        · have e1 : (c0.toList.take i ++ [Value.int .i64 x] ++ c0.toList.drop (i + [Value.int .i64 x].length)).toArray.toList.take (i + 1) = (xs.map (Value.int .i64)).take i ++ [Value.int .i64 x] := by
            rw [tl_arr, ht0]
            exact List.take_left' (by simp; omega)
          rw [tl_arr, e1, List.take_left' (by simp; omega)]
          simp
        · rw [tl_arr, List.mem_append, List.mem_append] at hu
          rcases hu with (hu | hu) | hu
          · have hu2 := List.mem_of_mem_take hu
            rw [tl_arr, List.mem_append, List.mem_append] at hu2
            rcases hu2 with (hu2 | hu2) | hu2
            · exact hok0 u (List.mem_of_mem_take hu2)
            · simp at hu2; exact ⟨x, hu2⟩
            · exact hok0 u (List.mem_of_mem_drop hu2)
          · exact ints_mem xs u (List.mem_of_mem_drop hu)
          · have hu2 := List.mem_of_mem_drop hu
            rw [tl_arr, List.mem_append, List.mem_append] at hu2
            rcases hu2 with (hu2 | hu2) | hu2
            · exact hok0 u (List.mem_of_mem_take hu2)
            · simp at hu2; exact ⟨x, hu2⟩
            · exact hok0 u (List.mem_of_mem_drop hu2)
        · have g1 := setCells_grown (g := w.heap.size) [Value.int .i64 x] i (w.alloc (.cells c0 3)).drew
          have g2 := setCells_grown (g := w.heap.size) ((xs.map (Value.int .i64)).drop i) (i + 1) (((w.alloc (.cells c0 3)).drew.setCells w.heap.size i [Value.int .i64 x]).drew)
          refine ⟨g2.os.trans g1.os, g2.tape.trans g1.tape, g2.output.trans g1.output, Nat.le_trans hb0.size (Nat.le_trans g1.size g2.size), fun k hk _ => ?_⟩
          have hne' : k ≠ w.heap.size := by omega
          have s1 : k < (w.alloc (.cells c0 3)).heap.size := by simp; omega
          exact ((g2.block k (Nat.lt_of_lt_of_le s1 g1.size) (fun e => by cases e; exact hne' rfl)).trans (g1.block k s1 (fun e => by cases e; exact hne' rfl))).trans (hb0.block k hk (fun e => by cases e))
      · have H : Calls Try.prog 127 #[.slice (some ⟨g, 0, none⟩) xs.length cap, .int .i64 i, .slice (some ⟨vb, 0, none⟩) 1 1] w fun e w' => e = .returned (.slice (some ⟨g, 0, none⟩) (xs.length + 1) cap) ∧
            w' = (w.drew.setCells g (0 + (i + 1)) ((xs.map (Value.int .i64)).drop i)).setCells g (0 + i) [Value.int .i64 x] :=
          Any2.slices_Insert_int_shift insL g 0 xs.length cap i vb 0 1 1 (xs.map (Value.int .i64)) [.int .i64 x] w hlt (by omega) hroom hm' hgv hcl rfl hcs (fun j hj => by rw [Nat.zero_add]; exact (hin j (by omega)).1) (fun j hj => by rw [Nat.zero_add]; exact (hin j (by omega)).2) hvs h1c h1v
            3 3 1 cap (by unfold World.shape?; rw [hlit]; rfl) (by unfold World.shape?; rw [hg]; show some (_, cur.size) = _; rw [show cur.size = cap by omega]) (by omega) (frozen_of_row w vb 0 _ _ hlit) (frozen_of_row w vb 1 _ _ hlit)
        refine H.mono ?_
        clear H
        rintro e w' ⟨rfl, rfl⟩
        rw [Nat.zero_add, Nat.zero_add]
        have hs' : cur.size = cap := by omega
        have hw1 := setCells_row ((xs.map (Value.int .i64)).drop i) (i + 1) w.drew cur hg (by simp; omega)
        have hw2 := setCells_row [Value.int .i64 x] i (w.drew.setCells g (i + 1) ((xs.map (Value.int .i64)).drop i)) _ hw1 (by simp; omega)
        have hd1 : (cur.toList.take (i + 1) ++ (xs.map (Value.int .i64)).drop i ++ cur.toList.drop (i + 1 + ((xs.map (Value.int .i64)).drop i).length)).drop (i + [Value.int .i64 x].length) = (xs.map (Value.int .i64)).drop i ++ cur.toList.drop (i + 1 + ((xs.map (Value.int .i64)).drop i).length) := by
          rw [List.append_assoc]
          exact List.drop_left' (by simp; omega)
        have hd2 : (cur.toList.take (i + 1) ++ (xs.map (Value.int .i64)).drop i ++ cur.toList.drop (i + 1 + ((xs.map (Value.int .i64)).drop i).length)).take i = (xs.map (Value.int .i64)).take i := by
          rw [List.append_assoc, List.take_append_of_le_length (by simp; omega), List.take_take, Nat.min_eq_left (by omega), htk i (by omega)]
        rw [tl_arr, hd1, hd2] at hw2
        refine ⟨_, rfl, kr_of hw2 (by simp; omega) (by omega) hm (by simp; omega) ?_ (fun u hu => ?_), fun k hk => .inl hk, ?_⟩
        · rw [tl_arr]
          have e2 : (xs.map (Value.int .i64)).take i ++ [Value.int .i64 x] ++ ((xs.map (Value.int .i64)).drop i ++ cur.toList.drop (i + 1 + ((xs.map (Value.int .i64)).drop i).length)) = ((xs.map (Value.int .i64)).take i ++ [Value.int .i64 x] ++ (xs.map (Value.int .i64)).drop i) ++ cur.toList.drop (i + 1 + ((xs.map (Value.int .i64)).drop i).length) := by simp
          rw [e2, List.take_left' (by simp; omega)]
          simp
        · rw [tl_arr, List.mem_append, List.mem_append, List.mem_append] at hu
          rcases hu with (hu | hu) | (hu | hu)
          · exact ints_mem xs u (List.mem_of_mem_take hu)
          · simp at hu; exact ⟨x, hu⟩
          · exact ints_mem xs u (List.mem_of_mem_drop hu)
          · exact hok u (List.mem_of_mem_drop hu)
        · have g1 := setCells_grown (g := g) ((xs.map (Value.int .i64)).drop i) (i + 1) w.drew
          have g2 := setCells_grown (g := g) [Value.int .i64 x] i (w.drew.setCells g (i + 1) ((xs.map (Value.int .i64)).drop i))
          exact ⟨g2.os.trans g1.os, g2.tape.trans g1.tape, g2.output.trans g1.output, Nat.le_trans g1.size g2.size, fun k hk hn => (g2.block k (Nat.lt_of_lt_of_le hk g1.size) hn).trans (g1.block k hk hn)⟩
    · have : i = xs.length := by omega
      subst this
      rw [List.take_length, List.drop_length]
      rcases Nat.lt_or_ge cap (xs.length + 1) with hroom | hroom
      · have H : Calls Try.prog 127 #[.slice (some ⟨g, 0, none⟩) xs.length cap, .int .i64 xs.length, .slice (some ⟨vb, 0, none⟩) 1 1] w fun e w' => e = .returned (.slice (some ⟨w.heap.size, 0, none⟩) (xs.length + 1) (grownCap w (xs.length + 1) cap 3)) ∧
            w' = w.drew.alloc (.cells ((xs.map (Value.int .i64) ++ [Value.int .i64 x]).toArray ++ Builtin.zeroCells (Value.int .i64 0).cells (grownCap w (xs.length + 1) cap 3 - (xs.length + 1))) 3) :=
          Any2.slices_Insert_int_end_grow insL (some ⟨g, 0, none⟩) xs.length cap vb 0 1 1 (xs.map (Value.int .i64)) [.int .i64 x] w (by omega) hnc hroom (by omega) hcl rfl (fun h => by cases h) (fun a ha j u hu => by
            cases ha
            have ea : (⟨g, 0, none⟩ : Addr).add j = ⟨g, 0 + j, none⟩ := by unfold Addr.add; split <;> simp_all
            rw [ea]; exact hcs j u hu) hvs h1v
        refine H.mono ?_
        clear H
        rintro e w' ⟨rfl, rfl⟩
        have hge := grownCap_ge w (xs.length + 1) cap 3
        have hle := grownCap_le_maxLen w (xs.length + 1) cap 3 (by unfold maxLen; omega)
        generalize grownCap w (xs.length + 1) cap 3 = C at *
        refine ⟨_, rfl, kr_of (heap_alloc_new w.drew _) (by simp) hge hle (by rw [Array.size_append, zero_size, List.size_toArray]; simp; omega) ?_ (fun u hu => ?_), fun k hk => .inr (by cases hk; exact Nat.le_refl _), ⟨rfl, rfl, rfl, by simp, fun k hk _ => Below.heap_alloc w.drew _ _ hk⟩⟩
        · rw [Array.toList_append, tl_arr, List.take_left' (by simp)]
          simp
        · rw [Array.toList_append, tl_arr, List.mem_append, List.mem_append] at hu
          rcases hu with (hu | hu) | hu
          · exact ints_mem xs u hu
          · simp at hu; exact ⟨x, hu⟩
          · exact zero_ints _ u hu
      · have H : Calls Try.prog 127 #[.slice (some ⟨g, 0, none⟩) xs.length cap, .int .i64 xs.length, .slice (some ⟨vb, 0, none⟩) 1 1] w fun e w' => e = .returned (.slice (some ⟨g, 0, none⟩) (xs.length + 1) cap) ∧
            w' = w.setCells g (0 + xs.length) [Value.int .i64 x] :=
          Any2.slices_Insert_int_end_room insL g 0 xs.length cap vb 0 1 1 [.int .i64 x] w (by omega) hroom hm' rfl (fun j hj => by rw [Nat.zero_add]; exact (hin _ (by omega)).1) (fun j hj => by rw [Nat.zero_add]; exact (hin _ (by omega)).2) hvs h1v
        refine H.mono ?_
        clear H
        rintro e w' ⟨rfl, rfl⟩
        rw [Nat.zero_add]
        have hw1 := setCells_row [Value.int .i64 x] xs.length w cur hg (by simp; omega)
        refine ⟨_, rfl, kr_of hw1 (by simp) (by omega) hm (by simp; omega) ?_ (fun u hu => ?_), fun k hk => .inl hk, setCells_grown _ _ _⟩
        · rw [tl_arr, List.take_left' (by simp; omega), htk _ (Nat.le_refl _), ← hcl, List.take_length]
          simp
        · rw [tl_arr, List.mem_append, List.mem_append] at hu
          rcases hu with (hu | hu) | hu
          · exact hok u (List.mem_of_mem_take hu)
          · simp at hu; exact ⟨x, hu⟩
          · exact hok u (List.mem_of_mem_drop hu)
end Go.Proofs.Ytkkngflpmdcfjaa
