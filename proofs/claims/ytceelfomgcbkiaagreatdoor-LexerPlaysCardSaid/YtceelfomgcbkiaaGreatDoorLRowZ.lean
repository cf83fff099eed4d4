/-
  Lists of tokens in memory: append onto them.
-/
import Derived.Test.YtceelfomgcbkiaaGreatDoorNRowZ
import Derived.Test.YtceelfomgcbkiaaGreatDoorLNextWZ
namespace Go.Proofs.YtceelfomgcbkiaaGreatDoor
open Go.RowKit
open Go.Proofs.YtceelfomgcbkiaaGreatDoor.A (At AttrsAt)

/-- A token, and where its attributes lie. -/
abbrev TA := LTok × Option Addr × Nat
def tkL (x : TA) : List Value := [.int .i64 x.1.kind, .string x.1.name, .slice x.2.1 x.1.attrs.length x.2.2, .bool x.1.self, .string x.1.data]
def clT (l : List TA) : List Value := l.flatMap tkL
theorem clT_len : ∀ l : List TA, (clT l).length = l.length * 5
  | [] => rfl
  | a :: l => by
    have := clT_len l
    unfold clT at this ⊢
    rw [List.flatMap_cons, List.length_append, this, List.length_cons]
    show 5 + _ = _
    omega
theorem clT_snoc (l : List TA) (x : TA) : clT (l ++ [x]) = clT l ++ tkL x := by unfold clT; rw [List.flatMap_append]; simp
def tOk (j : Nat) (u : Value) : Prop :=
  (j = 0 → ∃ n, u = .int .i64 n) ∧ (j = 1 → ∃ s, u = .string s) ∧ (j = 2 → ∃ a n c, u = .slice a n c) ∧ (j = 3 → ∃ b, u = .bool b) ∧ (j = 4 → ∃ s, u = .string s)
theorem tk_ok (x : TA) : ∀ j u, (tkL x)[j]? = some u → tOk (j % 5) u := by
  intro j u hu
  have hj : j < 5 := (List.getElem?_eq_some_iff.1 hu).1
  rw [Nat.mod_eq_of_lt hj]
  match j, hj with
  | 0, _ => simp [tkL] at hu; subst hu; simp [tOk]
  | 1, _ => simp [tkL] at hu; subst hu; simp [tOk]
  | 2, _ => simp [tkL] at hu; subst hu; simp [tOk]
  | 3, _ => simp [tkL] at hu; subst hu; simp [tOk]
  | 4, _ => simp [tkL] at hu; subst hu; simp [tOk]
theorem tk_one (x : TA) : ∀ u ∈ tkL x, u.oneCell' = true := by
  intro u hu
  simp [tkL] at hu
  rcases hu with rfl | rfl | rfl | rfl | rfl <;> rfl
def zeroT : Value := .agg #[.int .i64 0, .string ⟨#[]⟩, .slice none 0 0, .bool false, .string ⟨#[]⟩]
theorem zero_tok : ∀ j u, zeroT.cells[j]? = some u → tOk j u := by
  intro j u hu
  have e : zeroT.cells = (tkL (endL, none, 0)).toArray := rfl
  rw [e] at hu
  have hu' : (tkL (endL, none, 0))[j]? = some u := by simpa using hu
  have hj : j < 5 := (List.getElem?_eq_some_iff.1 hu').1
  have := tk_ok _ j u hu'
  rwa [Nat.mod_eq_of_lt hj] at this
theorem token_info : (Tryz.prog.info? 34).map (fun i => (i.zero, i.size, i.bytes)) = some (some zeroT, 5, 72) := by kernel_rfl
def TR (w : World) (v : Value) (l : List TA) : Prop := w.ownsRow 0 34 5 v l.length (clT l) ∧ okRow w tOk 5 v
theorem TR.nil (w : World) : TR w (.slice none 0 0) [] := ⟨World.ownsRow_nil w _ _ _, okRow_none⟩
theorem TR.kind {w : World} {v : Value} {l : List TA} (h : TR w v l) {g : Nat} (hg : v.ownBlock = some g) : ∃ c, w.heap[g]? = some (.cells c 34 (0, 0)) := by
  rcases h.1.2 with ⟨rfl, _⟩ | ⟨g', cap, cur, rfl, _, hh, _⟩
  · cases hg
  · simp only [Value.ownBlock, Option.some.injEq] at hg; subst hg; exact ⟨cur, hh⟩
theorem TR.lt {w : World} {v : Value} {l : List TA} (h : TR w v l) {g : Nat} (hg : v.ownBlock = some g) : g < w.heap.size := by
  obtain ⟨c, hc⟩ := h.kind hg
  exact (Array.getElem?_eq_some_iff.1 hc).1
theorem TR.slice {w : World} {v : Value} {l : List TA} (h : TR w v l) : ∃ a c, v = .slice a l.length c ∧ l.length ≤ c := by
  rcases h.1.2 with ⟨rfl, h0⟩ | ⟨g', cap, cur, rfl, _, _, hn, _⟩
  · exact ⟨none, 0, by rw [h0], by rw [h0]; exact Nat.le_refl _⟩
  · exact ⟨_, cap, rfl, hn⟩
theorem TR.kept {w w' : World} {v : Value} {l : List TA} (h : TR w v l) (hb : ∀ g, v.ownBlock = some g → w'.heap[g]? = w.heap[g]?) : TR w' v l := by
  refine ⟨⟨h.1.1, ?_⟩, h.2.kept hb⟩
  rcases h.1.2 with hn | ⟨g, cap, cur, rfl, hb2, hg, rest⟩
  · exact .inl hn
  · exact .inr ⟨g, cap, cur, rfl, hb2, (hb g rfl).trans hg, rest⟩
theorem TR.below {w w' : World} {v : Value} {l : List TA} (h : TR w v l) (hb : Below w.heap.size w w') : TR w' v l := h.kept fun _ hg => hb.block _ (h.lt hg)
/-- A lexer's block is not a list's. -/
theorem TR.ne {w : World} {v : Value} {l : List TA} {B : Nat} {s : ByteArray} (h : TR w v l) (hL : LB 43 w B s) : v.ownBlock ≠ some B := fun e => by
  obtain ⟨c, hc⟩ := h.kind e
  have := hc.symm.trans hL
  simp at this
theorem TR.grown {w w' : World} {v : Value} {l : List TA} {B : Nat} {s : ByteArray} (h : TR w v l) (hL : LB 43 w B s) (hg : w.grownBy w' (some B)) : TR w' v l :=
  h.kept fun g hv => hg.block g (h.lt hv) (fun e => h.ne hL (by rw [hv, e]))
/-- Attributes do not lie in a row of tokens. -/
theorem TR.apart {w : World} {v : Value} {l : List TA} (h : TR w v l) {b off : Nat} {m : List At} (hA : AttrsAt w (some ⟨b, off, none⟩) m) (hm : m ≠ []) : v.ownBlock ≠ some b := fun e => by
  obtain ⟨c, hc⟩ := h.kind e
  obtain ⟨b2, off2, e2, hlt, hcl⟩ := hA hm
  cases e2
  have h0 : 0 < m.length := List.length_pos_iff.2 hm
  have h1 := (hcl 0 h0).1
  have h2 := (hcl 0 h0).2
  rw [cell_of_row w b _ _ _ (0, 0) hc] at h1 h2
  have k1 := h.2 b c _ _ e hc _ _ h1
  have k2 := h.2 b c _ _ e hc _ _ h2
  have hlt5 : off % 5 < 5 := Nat.mod_lt _ (by omega)
  have e1 : (off + 0 * 2) % 5 = off % 5 := by simp
  have e2 : (off + 0 * 2 + 1) % 5 = (off % 5 + 1) % 5 := by omega
  rw [e1] at k1
  rw [e2] at k2
  unfold tOk at k1 k2
  obtain h5 | h5 | h5 | h5 | h5 : off % 5 = 0 ∨ off % 5 = 1 ∨ off % 5 = 2 ∨ off % 5 = 3 ∨ off % 5 = 4 := by omega
  · obtain ⟨n, hn⟩ := k1.1 h5; cases hn
  · obtain ⟨a, n, cc, hn⟩ := k2.2.2.1 (by rw [h5]); cases hn
  · obtain ⟨a, n, cc, hn⟩ := k1.2.2.1 h5; cases hn
  · obtain ⟨b, hn⟩ := k1.2.2.2.1 h5; cases hn
  · obtain ⟨n, hn⟩ := k2.1 (by rw [h5]); cases hn
theorem attrs_row {w w' : World} {v : Value} {l : List TA} (h : TR w v l) {a : Option Addr} {m : List At} (hA : AttrsAt w a m) (hg : w.grownBy w' v.ownBlock) : AttrsAt w' a m := fun hne => by
  obtain ⟨b, off, rfl, hlt, hc⟩ := hA hne
  have hk := hg.block b hlt (fun e => h.apart hA hne e.symm)
  exact ⟨b, off, rfl, Nat.lt_of_lt_of_le hlt hg.size, fun j hj => ⟨(World.cell?_of_block (a := ⟨b, off + j * 2, none⟩) hk).trans (hc j hj).1, (World.cell?_of_block (a := ⟨b, off + j * 2 + 1, none⟩) hk).trans (hc j hj).2⟩⟩
/-- The attributes of all of them. -/
def AtsT (w : World) (l : List TA) : Prop := ∀ x ∈ l, AttrsAt w x.2.1 x.1.attrs ∧ x.1.attrs.length ≤ x.2.2
theorem tk_news {w : World} {b : Nat} {x : TA} (h : w.heap[b]? = some (.cells (tkL x).toArray 34 (0, 0))) : ∀ j u, (tkL x)[j]? = some u → w.cell? ((⟨b, 0, none⟩ : Addr).add j) = some u := by
  intro j u hu
  have ea : (⟨b, 0, none⟩ : Addr).add j = ⟨b, 0 + j, none⟩ := by unfold Addr.add; split <;> simp_all
  rw [ea, Nat.zero_add, cell_of_row w b j _ _ (0, 0) h]
  simpa using hu
theorem run_append_tok (w : World) (ty : TypeId) (v : Value) (l : List TA) (hK : TR w v l) (b : Nat) (x : TA) (hx : w.heap[b]? = some (.cells (tkL x).toArray 34 (0, 0))) (h : l.length ≤ 1000000) :
    ∃ v' w', (Builtin.append_ #[39, 39] ty #[v, .slice (some ⟨b, 0, none⟩) 1 1]).run Tryz.prog w = .ok v' w' ∧ TR w' v' (l ++ [x]) ∧ w.grownBy w' v.ownBlock ∧ (v'.ownBlock = v.ownBlock ∨ v'.ownBlock = some w.heap.size) := by
  obtain ⟨i0, hi, hz0, hz1, hz2⟩ := info_parts token_info
  obtain ⟨v', w', hrun, h2, h3, h4, h5⟩ := run_append_ok (P := Tryz.prog) w tOk 0 39 ty 34 i0 _ 5 72 Tryz.underlying39 hi hz0 hz1 hz2 rfl (by omega) zero_tok v l.length _ hK.1 hK.2 ⟨b, 0, none⟩ 1 1 (tkL x) rfl (tk_news hx) (tk_one x) (tk_ok x) (by unfold maxLen; omega) (by omega) (Nat.zero_le _)
  exact ⟨v', w', hrun, ⟨by rw [List.length_append, clT_snoc]; exact h2, h3⟩, h4, h5⟩
theorem wpList_append_tok (w : World) {ops : Array Oper} {rest : List Oper} {o : Oper} {a : Act} {Q : Exit → Act → World → Prop} (hgd : o.guard = none) (s x : Operand)
    (ho : o.op = .call { callee := .builtin .append, args := #[s, x], argTypes := #[39, 39] })
    (v : Value) (l : List TA) (hs : a.eval s = v) (hK0 : TR w v l) (b : Nat) (y : TA) (hx : a.eval x = .slice (some ⟨b, 0, none⟩) 1 1) (hy : w.heap[b]? = some (.cells (tkL y).toArray 34 (0, 0)))
    (h : l.length ≤ 1000000)
    (hK : ∀ v' w', TR w' v' (l ++ [y]) → w.grownBy w' v.ownBlock → (v'.ownBlock = v.ownBlock ∨ v'.ownBlock = some w.heap.size) → wpList Tryz.prog ops Q rest (a.put o.dst v') w') :
    wpList Tryz.prog ops Q (o :: rest) a w := by
  refine wpList_plain hgd fun K hK' => ?_
  obtain ⟨v', w', hr, h2, h3, h4⟩ := run_append_tok w o.type v l hK0 b y hy h
  unfold Oper.wp execOp
  simp only [ho, resolve, invoke, builtin, Sem.run_bind, Sem.run_pure, Result.andThen_ok, List.map_toArray, List.map_cons, List.map_nil, hs, hx, hr]
  exact hK' _ _ (hK v' w' h2 h3 h4)
/-- All tokens, as they come in the state Data. -/
def allD : Nat → ByteArray → List LTok
  | 0, _ => []
  | k + 1, s => (nxL s ⟨#[]⟩ 0 false).1 :: (if (nxL s ⟨#[]⟩ 0 false).1.kind = 0 then [] else allD k (nxL s ⟨#[]⟩ 0 false).2)
theorem allD_end {k : Nat} {s s2 : ByteArray} {t : LTok} (h : nxL s ⟨#[]⟩ 0 false = (t, s2)) (h0 : t.kind = 0) : allD (k + 1) s = [t] := by unfold allD; rw [h, if_pos h0]
theorem allD_more {k : Nat} {s s2 : ByteArray} {t : LTok} (h : nxL s ⟨#[]⟩ 0 false = (t, s2)) (h0 : t.kind ≠ 0) : allD (k + 1) s = t :: allD k s2 := by
  conv => lhs; unfold allD
  rw [h, if_neg h0]
/-- What a function that hands back a list of tokens leaves. -/
def RetAll (r : List LTok) (w : World) (e : Ending) (w' : World) : Prop :=
  ∃ a c acc, r = acc.map (·.1) ∧ e = .returned (.slice a acc.length c) ∧ acc.length ≤ c ∧ TR w' (.slice a acc.length c) acc ∧ AtsT w' acc ∧ Below w.heap.size w w'
end Go.Proofs.YtceelfomgcbkiaaGreatDoor
