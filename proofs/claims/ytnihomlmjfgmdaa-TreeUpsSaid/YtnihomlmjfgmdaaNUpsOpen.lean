/-
  A list of operations as an argument: what is read of it.
-/
import Derived.Test.YtnihomlmjfgmdaaNOpen
namespace Go.Proofs.Ytnihomlmjfgmdaa
open Go.RowKit Go.ChangeShapes Go.WideShapes Go.Deep Go.Joins

/-- An operation. -/
structure Oq where
  d : Int
  a : Int
  b : Int
  c : Int
  x : Nd
def Oq.cells (o : Oq) : List Value := .int .i64 o.d :: .int .i64 o.a :: .int .i64 o.b :: .int .i64 o.c :: o.x.cells
def OpAt (w : World) (b o : Nat) (x : Oq) : Prop := ∀ k, k < 11 → w.cell? ⟨b, o + k, none⟩ = x.cells[k]?
theorem OpAt.below {w w' : World} {b o : Nat} {x : Oq} (h : OpAt w b o x) (hlt : b < w.heap.size) (hb : Below w.heap.size w w') : OpAt w' b o x := fun k hk => (hb.cell (p := ⟨b, o + k, none⟩) hlt).trans (h k hk)
theorem OpAt.c11 {w : World} {b o : Nat} {x : Oq} (h : OpAt w b o x) : w.cell? ⟨b, o, none⟩ = some (.int .i64 x.d) ∧ w.cell? ⟨b, o + 1, none⟩ = some (.int .i64 x.a) ∧ w.cell? ⟨b, o + 2, none⟩ = some (.int .i64 x.b) ∧ w.cell? ⟨b, o + 3, none⟩ = some (.int .i64 x.c) ∧ w.cell? ⟨b, o + 4, none⟩ = some (.int .i64 x.x.kind) ∧ w.cell? ⟨b, o + 5, none⟩ = some (.int .i64 x.x.space) ∧ w.cell? ⟨b, o + 6, none⟩ = some (.string x.x.name) ∧ w.cell? ⟨b, o + 7, none⟩ = some x.x.av ∧ w.cell? ⟨b, o + 8, none⟩ = some (.string x.x.data) ∧ w.cell? ⟨b, o + 9, none⟩ = some (.int .i64 x.x.up) ∧ w.cell? ⟨b, o + 10, none⟩ = some x.x.kv :=
  ⟨h 0 (by omega), h 1 (by omega), h 2 (by omega), h 3 (by omega), h 4 (by omega), h 5 (by omega), h 6 (by omega), h 7 (by omega), h 8 (by omega), h 9 (by omega), h 10 (by omega)⟩
def ReadO (w : World) (v : Value) (l : List Oq) : Prop :=
  ∃ a cap, v = .slice a l.length cap ∧ (l ≠ [] → ∃ b off, a = some ⟨b, off, none⟩ ∧ b < w.heap.size ∧ ∀ i (h : i < l.length), OpAt w b (off + i * 11) l[i]) ∧ ∀ i (h : i < l.length), ReadK w l[i].x

section
variable {H : Type} {enc : TypeId × Value → H} {w : World} {base : Nat} {held : Bool}
theorem op_of {fuel : Nat} {cs : List Value} {x : DataW H × List MemPlace} (h : DataW.trod enc Try.prog w base (fun _ => true) held fuel 32 cs = some x) : ∃ y : Oq, cs = y.cells ∧ ReadK w y.x ∧ sizedN y.x := by
  obtain ⟨xs, n, _, hx, hl, hlen, hg⟩ := DataW.trod_struct Try.underlying32 h
  have hC : Try.prog.cellsOf 32 = 11 := by kernel_rfl
  have hk : Try.prog.cellsOf 3 = 1 := by kernel_rfl
  have hN : Try.prog.cellsOf 30 = 7 := by kernel_rfl
  match cs, hl.trans hC, xs, hlen with
  | [c0, c1, c2, c3, c4, c5, c6, c7, c8, c9, c10], _, [y0, y1, y2, y3, y4], _ =>
    have h0 : DataW.trod enc Try.prog w base (fun _ => true) held n 3 [c0] = some y0 := by simpa [hk] using hg 0 _ rfl
    have h1 : DataW.trod enc Try.prog w base (fun _ => true) held n 3 [c1] = some y1 := by simpa [hk] using hg 1 _ rfl
    have h2 : DataW.trod enc Try.prog w base (fun _ => true) held n 3 [c2] = some y2 := by simpa [hk] using hg 2 _ rfl
    have h3 : DataW.trod enc Try.prog w base (fun _ => true) held n 3 [c3] = some y3 := by simpa [hk] using hg 3 _ rfl
    have h4 : DataW.trod enc Try.prog w base (fun _ => true) held n 30 [c4, c5, c6, c7, c8, c9, c10] = some y4 := by simpa [hN] using hg 4 _ rfl
    obtain ⟨z0, e0, _⟩ := DataW.trod_int Try.underlying3 h0
    obtain ⟨z1, e1, _⟩ := DataW.trod_int Try.underlying3 h1
    obtain ⟨z2, e2, _⟩ := DataW.trod_int Try.underlying3 h2
    obtain ⟨z3, e3, _⟩ := DataW.trod_int Try.underlying3 h3
    obtain ⟨y, e4, hr, hs⟩ := node_of h4
    simp at e0 e1 e2 e3
    subst e0 e1 e2 e3
    exact ⟨⟨z0, z1, z2, z3, y⟩, by show _ = _ :: _ :: _ :: _ :: y.cells; rw [← e4], hr, hs⟩
theorem ops_of {fuel : Nat} {v : Value} {x : DataW H × List MemPlace} (h : DataW.trod enc Try.prog w base (fun _ => true) held fuel 22 [v] = some x) :
    ∃ l : List Oq, ReadO w v l ∧ l.length ≤ maxLen ∧ ∀ i (h : i < l.length), sizedN l[i].x := by
  rcases open_slice Try.underlying22 h with ⟨hcs, _⟩ | ⟨a, len, cap, m, n, D, Pl, hcs, hb, hl, hm, hmm, hx, hi⟩
  · simp at hcs
    subst hcs
    exact ⟨[], ⟨none, 0, rfl, fun h => absurd rfl h, fun i h => by simp at h⟩, Nat.zero_le _, fun i h => by simp at h⟩
  · simp at hcs
    subst hcs
    have hc : Try.prog.cellsOf 32 = 11 := by kernel_rfl
    have hmc : m = cap := by rw [hmm]; rfl
    have hp : ∀ i, i < m → ∃ p : Oq, (∀ k, k < 11 → w.cell? (a.add (i * 11 + k)) = p.cells[k]?) ∧ ReadK w p.x ∧ sizedN p.x := fun i hlt => by
      obtain ⟨cs', h1, h2⟩ := hi i hlt
      obtain ⟨p, rfl, z0, z1⟩ := op_of h2
      rw [hc] at h1
      obtain ⟨_, hcl, hat⟩ := World.cells?_some h1
      refine ⟨p, fun k hk => ?_, z0, z1⟩
      have := hat k (by omega)
      rw [Go.Deep.add_add] at this; exact this
    haveI : Inhabited Oq := ⟨⟨0, 0, 0, 0, nd0⟩⟩
    obtain ⟨f, hf⟩ := choose_lt hp
    have hlen : ((List.range len).map f).length = len := by simp
    refine ⟨(List.range len).map f, ⟨some a, cap, by rw [hlen], fun hne => ?_, fun i h => ?_⟩, by rw [hlen]; omega, fun i h => ?_⟩
    · have hpos : 0 < len := by
        rcases Nat.eq_zero_or_pos len with h0 | h0
        · subst h0; simp at hne
        · exact h0
      have h0 := (hf 0 (by omega)).1 0 (by omega)
      have h0' : w.cell? (a.add 0) = some (.int .i64 (f 0).d) := h0
      have hbk := World.block_lt_of_cell? w _ h0'
      rcases a with ⟨b, off, path⟩
      have key : path = none := by
        cases path with
        | none => rfl
        | some q =>
          exfalso
          simp [Addr.add, World.cell?] at h0'
          split at h0' <;> cases h0'
      subst key
      have hadd : ∀ i, (⟨b, off, none⟩ : Addr).add i = ⟨b, off + i, none⟩ := fun i => by unfold Addr.add; split <;> simp_all
      refine ⟨b, off, rfl, by rw [hadd] at hbk; exact hbk, fun j hj k hk => ?_⟩
      have hj2 : j < len := by omega
      have := (hf j (by omega)).1 k hk
      rw [hadd] at this
      rw [Nat.add_assoc, this]; simp
    · simp only [List.getElem_map, List.getElem_range]
      exact (hf i (by omega)).2.1
    · simp only [List.getElem_map, List.getElem_range]
      exact (hf i (by omega)).2.2
theorem ops_arg {v : Value} {d : DataW H} {p : List MemPlace} {b0 : Nat} (hv : Value.okWide Try.prog w .any b0 22 v) (h : DataW.Trod enc Try.prog w base (fun _ => true) held 22 v d p) : ∃ l : List Oq, ReadO w v l ∧ l.length ≤ maxLen ∧ ∀ i (h : i < l.length), sizedN l[i].x := by
  obtain ⟨a, len, cap, rfl⟩ := okWide_slice Try.underlying22 hv
  obtain ⟨fuel, hf⟩ := h
  exact ops_of (by simpa [Value.cells] using hf)
end
end Go.Proofs.Ytnihomlmjfgmdaa
