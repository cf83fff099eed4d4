/-
  Lists that grow: the law of append at attributes; the walks of own and Add, and of the document's own Add.
-/
import Derived.Test.YtkkngflpmdcfjaaAFind
namespace Go.Proofs.Ytkkngflpmdcfjaa.A
open Go.RowKit

theorem run_append_nil_any (w : World) (base : Nat) (t ty e : TypeId) (i : TypeInfo) (size : Nat) (ht : Try.prog.underlying t = some (.slice e)) (hi : Try.prog.info? e = some i)
    (v : Value) (n : Nat) (xs : List Value) (hown : w.ownsRow base e size v n xs) (c : Nat) : (Builtin.append_ #[t, t] ty #[v, .slice none 0 c]).run Try.prog w = .ok v w := by
  rcases hown.2 with ⟨rfl, rfl⟩ | ⟨g, cap, cur, rfl, _, _, hnc, _⟩
  · simp [Builtin.append_, run_underlying ht, sizeOf, typeInfo, hi, Builtin.lenOf, Builtin.firstCells]
  · simp [Builtin.append_, run_underlying ht, sizeOf, typeInfo, hi, Builtin.lenOf, Builtin.firstCells, hnc, storeCells]
theorem attrs_news {w : World} {b off : Nat} {m : List At} (h : ∀ j (h : j < m.length), w.cell? ⟨b, off + j * 2, none⟩ = some (.string m[j].1) ∧ w.cell? ⟨b, off + j * 2 + 1, none⟩ = some (.string m[j].2)) :
    ∀ j u, (clA m)[j]? = some u → w.cell? ((⟨b, off, none⟩ : Addr).add j) = some u := by
  intro j u hu
  have hl := (List.getElem?_eq_some_iff.1 hu).1
  rw [clA_len] at hl
  have hadd : (⟨b, off, none⟩ : Addr).add j = ⟨b, off + j, none⟩ := by unfold Addr.add; split <;> simp_all
  rw [hadd]
  have hp : j = (j / 2) * 2 ∨ j = (j / 2) * 2 + 1 := by omega
  obtain ⟨c1, c2⟩ := h (j / 2) (by omega)
  obtain ⟨d1, d2⟩ := clA_at m (j / 2) (by omega)
  rcases hp with hp | hp
  · rw [hp, d1] at hu
    rw [hp, c1]; exact hu
  · rw [hp, d2] at hu
    rw [hp, ← Nat.add_assoc, c2]; exact hu
/-- append of attributes, none among them too. -/
theorem run_append_attrs (w : World) (base : Nat) (ty : TypeId) (v : Value) (l : List At) (hown : w.ownsRow base 115 2 v l.length (clA l)) (A : Option Addr) (c : Nat) (m : List At) (hm : AttrsAt w A m)
    (h : l.length + m.length ≤ 3000000) (hbase : base ≤ w.heap.size) :
    ∃ v' w', (Builtin.append_ #[64, 64] ty #[v, .slice A m.length c]).run Try.prog w = .ok v' w' ∧ w'.ownsRow base 115 2 v' (l ++ m).length (clA (l ++ m)) ∧ w.grownBy w' v.ownBlock ∧ (v'.ownBlock = v.ownBlock ∨ v'.ownBlock = some w.heap.size) := by
  obtain ⟨i0, hi, hz0, hz1, hz2⟩ := info_parts attr_info
  rw [clA_app, List.length_append]
  by_cases hne : m = []
  · subst hne
    cases A with
    | none => exact ⟨v, w, run_append_nil_any w base _ ty _ i0 2 Try.underlying64 hi v _ _ hown c, by simpa [clA] using hown, World.grownBy.refl w _, .inl rfl⟩
    | some ad =>
      obtain ⟨v', w', hrun, h2, h3, _, h5⟩ := run_append_own_at (P := Try.prog) w base _ ty _ i0 _ 2 32 Try.underlying64 hi hz0 hz1 hz2 rfl (by omega) v _ _ hown ad 0 c [] rfl (fun j u hu => by simp at hu) (fun u hu => by simp at hu) (by unfold maxLen; omega) (by omega) hbase
      exact ⟨v', w', hrun, h2, h3, h5⟩
  · obtain ⟨b, off, rfl, hlt, hc⟩ := hm hne
    obtain ⟨v', w', hrun, h2, h3, _, h5⟩ := run_append_own_at (P := Try.prog) w base _ ty _ i0 _ 2 32 Try.underlying64 hi hz0 hz1 hz2 rfl (by omega) v _ _ hown ⟨b, off, none⟩ m.length c (clA m) (clA_len m) (attrs_news hc) (clA_one m) (by unfold maxLen; omega) (by omega) hbase
    exact ⟨v', w', hrun, h2, h3, h5⟩
theorem wpList_append_attrs (w : World) {ops : Array Oper} {rest : List Oper} {o : Oper} {a : Act} {Q : Exit → Act → World → Prop} (hgd : o.guard = none) (s x : Operand)
    (ho : o.op = .call { callee := .builtin .append, args := #[s, x], argTypes := #[64, 64] })
    (base : Nat) (v : Value) (l : List At) (hs : a.eval s = v) (hown : w.ownsRow base 115 2 v l.length (clA l)) (A : Option Addr) (c : Nat) (m : List At) (hx : a.eval x = .slice A m.length c) (hm : AttrsAt w A m)
    (h : l.length + m.length ≤ 3000000) (hbase : base ≤ w.heap.size)
    (hK : ∀ v' w', w'.ownsRow base 115 2 v' (l ++ m).length (clA (l ++ m)) → w.grownBy w' v.ownBlock → wpList Try.prog ops Q rest (a.put o.dst v') w') :
    wpList Try.prog ops Q (o :: rest) a w := by
  refine wpList_plain hgd fun K hK' => ?_
  obtain ⟨v', w', hr, h2, h3, _⟩ := run_append_attrs w base o.type v l hown A c m hm h hbase
  unfold Oper.wp execOp
  simp only [ho, resolve, invoke, builtin, Sem.run_bind, Sem.run_pure, Result.andThen_ok, List.map_toArray, List.map_cons, List.map_nil, hs, hx, hr]
  exact hK' _ _ (hK v' w' h2 h3)
/-- One attribute, as it is laid ahead of append. -/
theorem one_attrs (w : World) (x : At) : AttrsAt (w.alloc (.cells #[.string x.1, .string x.2] 115)) (some ⟨w.heap.size, 0, none⟩) [x] := fun _ =>
  ⟨w.heap.size, 0, rfl, by simp, fun j hj => by
    obtain rfl : j = 0 := by simp at hj; omega
    exact ⟨by simp [go_sem], by simp [go_sem]⟩⟩

theorem own_base {w : World} {base base' : Nat} {e : TypeId} {size : Nat} {v : Value} {n : Nat} {xs : List Value} (h : w.ownsRow base' e size v n xs) (hb : base ≤ base') : w.ownsRow base e size v n xs := by
  refine ⟨h.1, ?_⟩
  rcases h.2 with hn | ⟨g, cap, cur, rfl, hb2, rest⟩
  · exact .inl hn
  · exact .inr ⟨g, cap, cur, rfl, Nat.le_trans hb hb2, rest⟩
theorem boxed (w : World) (x : At) : (w.alloc (.cells #[.string x.1, .string x.2] 115)).cell? ⟨w.heap.size, 0, none⟩ = some (.string x.1) ∧ (w.alloc (.cells #[.string x.1, .string x.2] 115)).cell? ⟨w.heap.size, 1, none⟩ = some (.string x.2) := by
  constructor <;> simp [go_sem]
theorem cell_keep {w w1 : World} {B o : Nat} {u : Value} (hb : Below w.heap.size w w1) (h : w.cell? ⟨B, o, none⟩ = some u) : w1.cell? ⟨B, o, none⟩ = some u :=
  (hb.cell (p := ⟨B, o, none⟩) (World.block_lt_of_cell? w _ h)).trans h
theorem grown_below {b : Nat} {w w1 w2 : World} {v : Value} {base n size : Nat} {e : TypeId} {xs : List Value} (h : Below b w w1) (hb : b ≤ base) (hs : b ≤ w1.heap.size) (hown : w1.ownsRow base e size v n xs) (hg : w1.grownBy w2 v.ownBlock) : Below b w w2 :=
  h.grown hg hs (fun k hk => Nat.le_trans hb (hown.lt k hk).1)

/-- The world behind a boxed attribute and an empty list of the call's own. -/
def W2 (w : World) (x : At) : World := (w.alloc (.cells #[.string x.1, .string x.2] 115)).alloc (.cells #[] 115)
theorem w2_size (w : World) (x : At) : (W2 w x).heap.size = w.heap.size + 2 := by simp [W2]
theorem w2_own (w : World) (x : At) : (W2 w x).ownsRow (w.heap.size + 1) 115 2 (.slice (some ⟨w.heap.size + 1, 0, none⟩) 0 0) ([] : List At).length (clA []) := by
  have h := World.ownsRow_lit (base := w.heap.size + 1) (e := 115) (size := 2) (w.alloc (.cells #[.string x.1, .string x.2] 115)) #[] 0 (by simp) (Nat.zero_le _) rfl
  have e : (w.alloc (.cells #[.string x.1, .string x.2] 115)).heap.size = w.heap.size + 1 := by simp
  rw [e] at h; exact h
theorem w2_below (w : World) (x : At) : Below w.heap.size w (W2 w x) := ((Below.refl _ _).alloc (Nat.le_refl _) _).alloc (by simp) _
theorem w2_cells (w : World) (x : At) : (W2 w x).cell? ⟨w.heap.size, 0, none⟩ = some (.string x.1) ∧ (W2 w x).cell? ⟨w.heap.size, 1, none⟩ = some (.string x.2) := by
  obtain ⟨h1, h2⟩ := boxed w x
  exact ⟨(World.cell?_alloc_lt _ _ _ (by simp)).trans h1, (World.cell?_alloc_lt _ _ _ (by simp)).trans h2⟩
theorem own_cell {w0 w1 : World} {v : Value} {base n size B o : Nat} {e : TypeId} {xs : List Value} {u : Value} (hown : w0.ownsRow base e size v n xs) (hg : w0.grownBy w1 v.ownBlock) (hB : B < base) (h : w0.cell? ⟨B, o, none⟩ = some u) : w1.cell? ⟨B, o, none⟩ = some u :=
  hg.cell h (fun e => by have := (hown.lt B e.symm).1; omega)

end Go.Proofs.Ytkkngflpmdcfjaa.A
