/-
  A tree as an argument, with the room of its lists (order/XOOpen's text without what order reads of it).
-/
import Derived.Test.YtkkngflpmdcfjaaNOpen
namespace Go.Proofs.Ytkkngflpmdcfjaa
open Go.RowKit Go.ChangeShapes Go.WideShapes Go.Deep Go.Joins

section
variable {H : Type} {enc : TypeId × Value → H} {w : World} {base : Nat} {held : Bool}
set_option maxRecDepth 100000 in
theorem ints_ofR {fuel : Nat} {v : Value} {x : DataW H × List MemPlace} (h : DataW.trod enc Try.prog w base (fun _ => true) held fuel 29 [v] = some x) : ∃ (a : Option Addr) (c : Nat) (l : List Int), v = .slice a l.length c ∧ IntsAt w a l ∧ l.length ≤ c := by
  rcases open_ints Try.underlying29 Try.underlying3 (by kernel_rfl) h with ⟨hcs, _⟩ | ⟨a, len, cap, zs, hcs, hb, hl, hm, hz, _, hc, _⟩
  · simp at hcs; subst hcs
    exact ⟨none, 0, [], rfl, IntsAt.nil _ _, Nat.le_refl _⟩
  · simp at hcs; subst hcs
    have hz' : zs.length = cap := by rw [hz]; rfl
    have hlen : (zs.take len).length = len := by rw [List.length_take]; omega
    refine ⟨some a, cap, zs.take len, by rw [hlen], fun hne => ?_, by rw [hlen]; omega⟩
    have hpos : 0 < len := by
      rcases Nat.eq_zero_or_pos len with h0 | h0
      · subst h0; simp at hne
      · exact h0
    have h0 := hc 0 (by omega)
    have hbk := World.block_lt_of_cell? w _ h0
    rcases a with ⟨b, off, path⟩
    have key : path = none := by
      cases path with
      | none => rfl
      | some q =>
        exfalso
        simp [Addr.add, World.cell?] at h0
        split at h0 <;> cases h0
    subst key
    have hadd : ∀ i, (⟨b, off, none⟩ : Addr).add i = ⟨b, off + i, none⟩ := fun i => by unfold Addr.add; split <;> simp_all
    refine ⟨b, off, rfl, by rw [hadd] at hbk; exact hbk, fun j hj => ?_⟩
    have hj2 : j < len := by omega
    have := hc j (by omega)
    rw [hadd] at this
    rw [this, List.getElem_take, List.getD_eq_getElem?_getD, List.getElem?_eq_getElem (by omega)]; rfl
/-- How large what a node holds may be. -/
def roomy : Value → Prop
  | .slice _ n c => n ≤ c
  | _ => True
def sizedR (x : Nd) : Prop := x.name.size ≤ maxLen ∧ x.data.size ≤ maxLen ∧ x.attrs.length ≤ maxLen ∧ roomy x.kv
set_option maxRecDepth 100000 in
theorem node_ofR {fuel : Nat} {cs : List Value} {x : DataW H × List MemPlace} (h : DataW.trod enc Try.prog w base (fun _ => true) held fuel 66 cs = some x) : ∃ y : Nd, cs = y.cells ∧ ReadK w y ∧ sizedR y := by
  obtain ⟨v0, v1, v2, v3, v4, v5, v6, y0, y1, y2, y3, y4, y5, y6, n, rfl, h0, h1, h2, h3, h4, h5, h6⟩ := trod_struct7 Try.underlying66 (by kernel_rfl) (by kernel_rfl) h
  obtain ⟨z0, e0, _⟩ := DataW.trod_int Try.underlying3 h0
  obtain ⟨z1, e1, _⟩ := DataW.trod_int Try.underlying3 h1
  obtain ⟨s2, e2, _, b2⟩ := DataW.trod_string Try.underlying9 h2
  obtain ⟨s4, e4, _, b4⟩ := DataW.trod_string Try.underlying9 h4
  obtain ⟨z5, e5, _⟩ := DataW.trod_int Try.underlying3 h5
  obtain ⟨aa, ac, la, ea, hla, hlm⟩ := attrs_at h3
  obtain ⟨ka, kc, lk, ek, hlk, hkr⟩ := ints_ofR h6
  simp at e0 e1 e2 e4 e5
  subst e0 e1 e2 e4 e5 ea ek
  exact ⟨⟨z0, z1, s2, _, s4, z5, _, lk, la⟩, rfl, ⟨⟨ka, kc, rfl, hlk⟩, aa, ac, rfl, hla⟩, b2, b4, hlm, hkr⟩
set_option maxRecDepth 100000 in
theorem nodes_ofR {fuel : Nat} {v : Value} {x : DataW H × List MemPlace} (h : DataW.trod enc Try.prog w base (fun _ => true) held fuel 22 [v] = some x) :
    ∃ l : List Nd, ReadN w v l ∧ l.length ≤ maxLen ∧ (∀ i (h : i < l.length), sizedR l[i]) ∧ roomy v := by
  rcases open_slice Try.underlying22 h with ⟨hcs, _⟩ | ⟨a, len, cap, m, n, D, Pl, hcs, hb, hl, hm, hmm, hx, hi⟩
  · simp at hcs
    subst hcs
    exact ⟨[], ⟨none, 0, rfl, fun h => absurd rfl h, fun i h => by simp at h⟩, Nat.zero_le _, fun i h => (by simp at h), Nat.le_refl _⟩
  · simp at hcs
    subst hcs
    have hc : Try.prog.cellsOf 66 = 7 := by kernel_rfl
    have hmc : m = cap := by rw [hmm]; rfl
    have hp : ∀ i, i < m → ∃ p : Nd, (∀ k, k < 7 → w.cell? (a.add (i * 7 + k)) = p.cells[k]?) ∧ ReadK w p ∧ sizedR p := fun i hlt => by
      obtain ⟨cs', h1, h2⟩ := hi i hlt
      obtain ⟨p, rfl, z0, z1⟩ := node_ofR h2
      rw [hc] at h1
      obtain ⟨_, hcl, hat⟩ := World.cells?_some h1
      refine ⟨p, fun k hk => ?_, z0, z1⟩
      have := hat k (by omega)
      rw [Go.Deep.add_add] at this; exact this
    haveI : Inhabited Nd := ⟨nd0⟩
    obtain ⟨f, hf⟩ := choose_lt hp
    have hlen : ((List.range len).map f).length = len := by simp
    refine ⟨(List.range len).map f, ⟨some a, cap, by rw [hlen], fun hne => ?_, fun i h => ?_⟩, by rw [hlen]; omega, fun i h => ?_, by show len ≤ cap; omega⟩
    · have hpos : 0 < len := by
        rcases Nat.eq_zero_or_pos len with h0 | h0
        · subst h0; simp at hne
        · exact h0
      have h0 := (hf 0 (by omega)).1 0 (by omega)
      have h0' : w.cell? (a.add 0) = some (.int .i64 (f 0).kind) := h0
      have hbk := World.block_lt_of_cell? w _ h0'
      rcases a with ⟨b, off, path⟩
      have key : path = none := by
        cases path with
        | none => rfl
        | some q =>
          exfalso
          simp [Addr.add, World.cell?] at h0'
          split at h0' <;> cases h0'
      subst key
      have hadd : ∀ i, (⟨b, off, none⟩ : Addr).add i = ⟨b, off + i, none⟩ := fun i => by unfold Addr.add; split <;> simp_all
      refine ⟨b, off, rfl, by rw [hadd] at hbk; exact hbk, fun j hj k hk => ?_⟩
      have hj2 : j < len := by omega
      have := (hf j (by omega)).1 k hk
      rw [hadd] at this
      rw [Nat.add_assoc, this]; simp
    · simp only [List.getElem_map, List.getElem_range]
      exact (hf i (by omega)).2.1
    · simp only [List.getElem_map, List.getElem_range]
      exact (hf i (by omega)).2.2
set_option maxRecDepth 100000 in
theorem tree_argR {b0 : Nat} {v : Value} {d : DataW H} {p : List MemPlace} (hv : Value.okWide Try.prog w .any b0 24 v) (h : DataW.Trod enc Try.prog w base (fun _ => true) held 24 v d p) : ∃ (u : Value) (l : List Nd), v = .agg #[u] ∧ ReadN w u l ∧ l.length ≤ maxLen ∧ (∀ i (h : i < l.length), sizedR l[i]) ∧ roomy u := by
  obtain ⟨cs, rfl, hsz⟩ := okWide_struct Try.underlying24 hv
  obtain ⟨l⟩ := cs
  have hC : Try.prog.cellsOf 24 = 1 := by kernel_rfl
  match l, hsz.trans hC with
  | [c0], _ =>
    obtain ⟨fuel, hf⟩ := h
    have hf' : DataW.trod enc Try.prog w base (fun _ => true) held fuel 24 [c0] = some (d, p) := by simpa [Value.cells] using hf
    obtain ⟨xs, n, _, hx, hl, hlen, hg⟩ := DataW.trod_struct Try.underlying24 hf'
    match xs, hlen with
    | [y0], _ =>
      have h0 := hg 0 _ rfl
      have hk : Try.prog.cellsOf 22 = 1 := by kernel_rfl
      have h1 : DataW.trod enc Try.prog w base (fun _ => true) held n 22 [c0] = some y0 := by simpa [hk] using h0
      obtain ⟨l, a1, a2, a3, a4⟩ := nodes_ofR h1
      exact ⟨c0, l, rfl, a1, a2, a3, a4⟩
end
/-- The kids of a tree, by number. -/
def kidsT (l : List Nd) (i : Nat) : List Int := (l.getD i nd0).kids
end Go.Proofs.Ytkkngflpmdcfjaa
