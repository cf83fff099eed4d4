/-
  Lists of numbers in memory: append onto them, Grow, Concat, one more behind a list (behind).
-/
import Derived.Test.YtkkngflpmdcfjaaNRead
import Derived.Lib.AppendZeros
import Derived.OwnWalk
namespace Go.Proofs.Ytkkngflpmdcfjaa
open Go.RowKit

theorem int_info : (Try.prog.info? 3).map (fun i => (i.zero, i.size, i.bytes)) = some (some (.int .i64 0), 1, 8) := by kernel_rfl
def IntsAt (w : World) (a : Option Addr) (l : List Int) : Prop :=
  l ≠ [] → ∃ b off, a = some ⟨b, off, none⟩ ∧ b < w.heap.size ∧ ∀ j (h : j < l.length), w.cell? ⟨b, off + j, none⟩ = some (.int .i64 l[j])
theorem IntsAt.nil (w : World) (a : Option Addr) : IntsAt w a [] := fun h => absurd rfl h
theorem IntsAt.kept {w w' : World} {a : Option Addr} {l : List Int} (h : IntsAt w a l) (hs : w.heap.size ≤ w'.heap.size) (hb : ∀ b off, a = some ⟨b, off, none⟩ → w'.heap[b]? = w.heap[b]?) : IntsAt w' a l := fun hne => by
  obtain ⟨b, off, rfl, hlt, hc⟩ := h hne
  exact ⟨b, off, rfl, Nat.lt_of_lt_of_le hlt hs, fun j hj => (World.cell?_of_block (a := ⟨b, off + j, none⟩) (hb b off rfl)).trans (hc j hj)⟩
theorem IntsAt.below {w w' : World} {a : Option Addr} {l : List Int} (h : IntsAt w a l) (hb : Below w.heap.size w w') : IntsAt w' a l := fun hne => by
  obtain ⟨b, off, rfl, hlt, hc⟩ := h hne
  exact ⟨b, off, rfl, Nat.lt_of_lt_of_le hlt hb.size, fun j hj => (hb.cell (p := ⟨b, off + j, none⟩) hlt).trans (hc j hj)⟩
theorem KR.ints {w : World} {a : Option Addr} {n c : Nat} {xs : List Int} (h : KR w (.slice a n c) xs) : IntsAt w a xs := fun hne => by
  obtain ⟨a', cap, hv, hle, hm, hnone, hc⟩ := h.form
  injection hv with e1 e2 e3
  subst e1 e3
  cases a with
  | none => have := hnone rfl; exact absurd (List.eq_nil_of_length_eq_zero (by omega)) hne
  | some ad =>
    obtain ⟨g, rfl, hg, hc, _⟩ := hc ad rfl
    exact ⟨g, 0, rfl, hg, fun j hj => by rw [Nat.zero_add]; exact hc j hj⟩
theorem KR.len {w : World} {a : Option Addr} {n c : Nat} {xs : List Int} (h : KR w (.slice a n c) xs) : n = xs.length ∧ xs.length ≤ c := by
  obtain ⟨a', cap, hv, hle, hm, hnone, hc⟩ := h.form
  injection hv with e1 e2 e3
  subst e3
  exact ⟨e2, hle⟩
theorem KR.nil (w : World) : KR w (.slice none 0 0) [] := ⟨World.ownsRow_nil w _ _ _, okRow_none⟩
theorem KR.lt {w : World} {v : Value} {xs : List Int} (h : KR w v xs) : ∀ k, v.ownBlock = some k → k < w.heap.size := fun k hk => (h.1.lt k hk).2
theorem ints_news {w : World} {b off : Nat} {m : List Int} (h : ∀ j (hj : j < m.length), w.cell? ⟨b, off + j, none⟩ = some (.int .i64 m[j])) : ∀ j u, (m.map (Value.int .i64))[j]? = some u → w.cell? ((⟨b, off, none⟩ : Addr).add j) = some u := by
  intro j u hu
  rw [List.getElem?_map] at hu
  cases hm : m[j]? with
  | none => rw [hm] at hu; cases hu
  | some z =>
    rw [hm] at hu
    obtain ⟨hj, e⟩ := List.getElem?_eq_some_iff.1 hm
    have := h j hj
    rw [e] at this
    show w.cell? ((⟨b, off, none⟩ : Addr).add j) = some u
    have ea : (⟨b, off, none⟩ : Addr).add j = ⟨b, off + j, none⟩ := by unfold Addr.add; split <;> simp_all
    rw [ea, this]; exact hu
theorem ints_one (m : List Int) : ∀ u ∈ m.map (Value.int .i64), u.oneCell' = true := by
  intro u hu; obtain ⟨z, _, rfl⟩ := List.mem_map.1 hu; rfl
theorem ints_ok (m : List Int) : ∀ j u, (m.map (Value.int .i64))[j]? = some u → iOk (j % 1) u := by
  intro j u hu
  rw [List.getElem?_map] at hu
  cases hm : m[j]? with
  | none => rw [hm] at hu; cases hu
  | some z => rw [hm] at hu; exact ⟨z, by simpa using hu.symm⟩
theorem zero_iok : ∀ j u, (Value.int .i64 0).cells[j]? = some u → iOk j u := by
  intro j u h
  match j, h with
  | 0, h => exact ⟨0, by simpa [Value.cells] using h.symm⟩
  | j + 1, h => simp [Value.cells] at h
theorem run_append_ints (w : World) (ty : TypeId) (v : Value) (xs : List Int) (hK : KR w v xs) (A : Option Addr) (c : Nat) (m : List Int) (hm : IntsAt w A m) (h : xs.length + m.length ≤ 3000000) :
    ∃ v' w', (Builtin.append_ #[29, 29] ty #[v, .slice A m.length c]).run Try.prog w = .ok v' w' ∧ KR w' v' (xs ++ m) ∧ w.grownBy w' v.ownBlock ∧ (v'.ownBlock = v.ownBlock ∨ v'.ownBlock = some w.heap.size) := by
  obtain ⟨i0, hi, hz0, hz1, hz2⟩ := info_parts int_info
  have key : ∀ (ad : Addr) (b off : Nat), ad = ⟨b, off, none⟩ → (∀ j (hj : j < m.length), w.cell? ⟨b, off + j, none⟩ = some (.int .i64 m[j])) → _ := fun ad b off e hc =>
    run_append_ok (P := Try.prog) w iOk 0 29 ty 3 i0 _ 1 8 Try.underlying29 hi hz0 hz1 hz2 rfl (by omega) zero_iok v xs.length _ hK.1 hK.2 ad m.length c (m.map (Value.int .i64)) (by simp) (by subst e; exact ints_news hc) (ints_one m) (ints_ok m) (by unfold maxLen; omega) (by omega) (Nat.zero_le _)
  by_cases hne : m = []
  · subst hne
    cases A with
    | none => exact ⟨v, w, run_append_ok_none w _ ty _ i0 0 1 Try.underlying29 hi v _ _ hK.1 c, by rw [List.append_nil]; exact hK, World.grownBy.refl w _, .inl rfl⟩
    | some ad =>
      obtain ⟨v', w', hrun, h2, h3, h4, h5⟩ := run_append_ok (P := Try.prog) w iOk 0 29 ty 3 i0 _ 1 8 Try.underlying29 hi hz0 hz1 hz2 rfl (by omega) zero_iok v xs.length _ hK.1 hK.2 ad 0 c [] rfl (fun j u hu => by simp at hu) (fun u hu => by simp at hu) (fun j u hu => by simp at hu) (by unfold maxLen; omega) (by omega) (Nat.zero_le _)
      exact ⟨v', w', hrun, ⟨by simpa using h2, h3⟩, h4, h5⟩
  · obtain ⟨b, off, rfl, hlt, hc⟩ := hm hne
    obtain ⟨v', w', hrun, h2, h3, h4, h5⟩ := key _ b off rfl hc
    exact ⟨v', w', hrun, ⟨by rw [List.length_append, List.map_append]; exact h2, h3⟩, h4, h5⟩
theorem wpList_append_ints (w : World) {ops : Array Oper} {rest : List Oper} {o : Oper} {a : Act} {Q : Exit → Act → World → Prop} (hgd : o.guard = none) (s x : Operand)
    (ho : o.op = .call { callee := .builtin .append, args := #[s, x], argTypes := #[29, 29] })
    (v : Value) (xs : List Int) (hs : a.eval s = v) (hK0 : KR w v xs) (A : Option Addr) (c : Nat) (m : List Int) (hx : a.eval x = .slice A m.length c) (hm : IntsAt w A m)
    (h : xs.length + m.length ≤ 3000000)
    (hK : ∀ v' w', KR w' v' (xs ++ m) → w.grownBy w' v.ownBlock → (v'.ownBlock = v.ownBlock ∨ v'.ownBlock = some w.heap.size) → wpList Try.prog ops Q rest (a.put o.dst v') w') :
    wpList Try.prog ops Q (o :: rest) a w := by
  refine wpList_plain hgd fun K hK' => ?_
  obtain ⟨v', w', hr, h2, h3, h4⟩ := run_append_ints w o.type v xs hK0 A c m hm h
  unfold Oper.wp execOp
  simp only [ho, resolve, invoke, builtin, Sem.run_bind, Sem.run_pure, Result.andThen_ok, List.map_toArray, List.map_cons, List.map_nil, hs, hx, hr]
  exact hK' _ _ (hK v' w' h2 h3 h4)
/-- One number, as it is laid ahead of append. -/
theorem one_int (w : World) (z : Int) : IntsAt (w.alloc (.cells #[.int .i64 z] 3)) (some ⟨w.heap.size, 0, none⟩) [z] := fun _ =>
  ⟨w.heap.size, 0, rfl, by simp, fun j hj => by
    obtain rfl : j = 0 := by simp at hj; omega
    simp [go_sem]⟩
theorem KR.below {w w' : World} {v : Value} {xs : List Int} (h : KR w v xs) (hb : Below w.heap.size w w') : KR w' v xs := h.kept fun g hg => hb.block g (h.lt g hg)
theorem KR.alloc {w : World} {v : Value} {xs : List Int} (h : KR w v xs) (o : Obj) : KR (w.alloc o) v xs := h.below (below_box w o)
/-- A beginning of a list, in the same row. -/
theorem KR.front {w : World} {a : Option Addr} {n c : Nat} {xs ys : List Int} (h : KR w (.slice a n c) (xs ++ ys)) : KR w (.slice a xs.length c) xs := by
  obtain ⟨e, _⟩ := h.len
  refine ⟨⟨by simp, ?_⟩, ?_⟩
  · rcases h.1.2 with ⟨e2, e3⟩ | ⟨g, cap, cur, e2, h1, h2, h3, h4, h5, h6⟩
    · left
      simp at e3
      obtain ⟨rfl, rfl⟩ := e3
      injection e2 with e1 e2 e4
      subst e1 e4
      exact ⟨rfl, rfl⟩
    · injection e2 with e1 e2 e4
      subst e1 e4
      refine .inr ⟨g, c, cur, rfl, h1, h2, by simp at h3; omega, h4, h5, ?_⟩
      have : (cur.toList.take ((xs ++ ys).length * 1)).take (xs.length * 1) = ((xs ++ ys).map (Value.int .i64)).take (xs.length * 1) := by rw [h6]
      rw [List.take_take] at this
      simp only [List.length_append, Nat.mul_one, List.map_append] at this ⊢
      rw [show min xs.length (xs.length + ys.length) = xs.length by omega] at this
      rw [this, List.take_append_of_le_length (by simp), List.take_of_length_le (by simp)]
  · intro g c' t fz hg
    cases a with
    | none => cases hg
    | some ad => exact h.2 g c' t fz hg
/-- A store into the spare room. -/
theorem KR.spare {w : World} {g n c : Nat} {xs : List Int} (h : KR w (.slice (some ⟨g, 0, none⟩) n c) xs) (j : Nat) (hj : xs.length ≤ j) (z : Int) :
    KR (w.setCell ⟨g, j, none⟩ (.int .i64 z)) (.slice (some ⟨g, 0, none⟩) n c) xs ∧ w.grownBy (w.setCell ⟨g, j, none⟩ (.int .i64 z)) (some g) := by
  have h1 := h.1
  rw [show n = xs.length from h.len.1] at h1 ⊢
  obtain ⟨s1, s2⟩ := h1.stored j (.int .i64 z)
  refine ⟨⟨?_, ?_⟩, s2⟩
  · rw [List.set_eq_of_length_le (by simpa using hj)] at s1; exact s1
  · intro g' c' t fz hg hc i u hu
    simp only [Value.ownBlock, Option.some.injEq] at hg
    subst hg
    obtain ⟨cur, hcur⟩ : ∃ cur, w.heap[g]? = some (.cells cur 3 (0, 0)) := by
      rcases h1.2 with ⟨e2, _⟩ | ⟨g2, cap, cur, e2, _, hh, _⟩
      · cases e2
      · injection e2 with e1; cases e1; exact ⟨cur, hh⟩
    rw [heap_setCell_same w g j cur _ (.int .i64 z) hcur] at hc
    cases hc
    rw [Array.getElem?_setIfInBounds] at hu
    split at hu
    · split at hu
      · exact ⟨z, by simpa using hu.symm⟩
      · cases hu
    · exact h.2 g cur _ _ rfl hcur i u hu
end Go.Proofs.Ytkkngflpmdcfjaa
