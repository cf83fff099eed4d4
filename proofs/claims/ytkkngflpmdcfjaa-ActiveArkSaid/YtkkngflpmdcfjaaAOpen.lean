/-
  A slice of attributes, and an attribute, as arguments: what is read of them.
-/
import Derived.Test.YtkkngflpmdcfjaaAMem
import Derived.Deep.Slices
import Derived.Lib.SmallJoins
import Derived.ChangeSame
namespace Go.Proofs.Ytkkngflpmdcfjaa.A
open Go.RowKit Go.ChangeShapes Go.WideShapes Go.Deep Go.Joins

section
variable {H : Type} {enc : TypeId × Value → H} {w : World} {base : Nat} {spare : Nat → Bool} {held : Bool}
set_option maxRecDepth 100000 in
theorem pair_of {n : Nat} {cs : List Value} {x : DataW H × List MemPlace} (h : DataW.trod enc Try.prog w base spare held n 115 cs = some x) : ∃ p : At, cs = [.string p.1, .string p.2] ∧ p.1.size ≤ maxLen ∧ p.2.size ≤ maxLen := by
  obtain ⟨y0, y1, m, _, hl, h0, h1⟩ := trod_struct2 Try.underlying115 h
  have hc : Try.prog.cellsOf 115 = 2 := by kernel_rfl
  have hc9 : Try.prog.cellsOf 9 = 1 := by kernel_rfl
  rw [hc] at hl
  simp only [hc9] at h0 h1
  match cs, hl with
  | [c0, c1], _ =>
    obtain ⟨s0, e0, _, z0⟩ := DataW.trod_string Try.underlying9 h0
    obtain ⟨s1, e1, _, z1⟩ := DataW.trod_string Try.underlying9 h1
    simp at e0 e1
    subst e0 e1
    exact ⟨(s0, s1), rfl, z0, z1⟩
set_option maxRecDepth 100000 in
theorem attrs_of {fuel : Nat} {A : Option Addr} {len cap : Nat} {x : DataW H × List MemPlace} (h : DataW.trod enc Try.prog w base (fun _ => true) held fuel 64 [.slice A len cap] = some x) :
    ∃ l : List At, l.length = len ∧ l.length ≤ cap ∧ l.length ≤ maxLen ∧ AttrsAt w A l ∧ ∀ p ∈ l, p.1.size ≤ maxLen ∧ p.2.size ≤ maxLen := by
  rcases open_slice Try.underlying64 h with ⟨hcs, _⟩ | ⟨a, ln, c, m, n, D, Pl, hcs, hb, hl, hm, hmm, hx, hi⟩
  · simp at hcs
    obtain ⟨rfl, rfl, rfl⟩ := hcs
    exact ⟨[], rfl, Nat.le_refl _, Nat.zero_le _, AttrsAt.nil _ _, by simp⟩
  · simp at hcs
    obtain ⟨rfl, rfl, rfl⟩ := hcs
    have hc : Try.prog.cellsOf 115 = 2 := by kernel_rfl
    have hmc : m = cap := by rw [hmm]; rfl
    have hp : ∀ i, i < m → ∃ p : At, (w.cell? (a.add (i * 2)) = some (.string p.1) ∧ w.cell? (a.add (i * 2 + 1)) = some (.string p.2)) ∧ p.1.size ≤ maxLen ∧ p.2.size ≤ maxLen := fun i hlt => by
      obtain ⟨cs', h1, h2⟩ := hi i hlt
      obtain ⟨p, rfl, z0, z1⟩ := pair_of h2
      rw [hc] at h1
      obtain ⟨_, hcl, hat⟩ := World.cells?_some h1
      refine ⟨p, ⟨?_, ?_⟩, z0, z1⟩
      · have := hat 0 (by omega)
        rw [add_add] at this; exact this
      · have := hat 1 (by omega)
        rw [add_add] at this; exact this
    haveI : Inhabited At := ⟨(ByteArray.empty, ByteArray.empty)⟩
    obtain ⟨f, hf⟩ := choose_lt hp
    refine ⟨(List.range len).map f, by simp, by simp; omega, by simp; omega, fun hne => ?_, ?_⟩
    · have hpos : 0 < len := by
        rcases Nat.eq_zero_or_pos len with h0 | h0
        · subst h0; simp at hne
        · exact h0
      have h0 := (hf 0 (by omega)).1.1
      have hb := World.block_lt_of_cell? w _ h0
      rcases a with ⟨b, off, path⟩
      have key : path = none := by
        cases path with
        | none => rfl
        | some q =>
          exfalso
          simp [Addr.add, World.cell?] at h0
          split at h0 <;> cases h0
      subst key
      have hadd : ∀ i, (⟨b, off, none⟩ : Addr).add i = ⟨b, off + i, none⟩ := fun i => by unfold Addr.add; split <;> simp_all
      refine ⟨b, off, rfl, by rw [hadd] at hb; exact hb, fun j hj => ?_⟩
      have hj2 : j < len := by simpa using hj
      have := (hf j (by omega)).1
      rw [hadd, hadd] at this
      simpa [Nat.add_assoc] using this
    · intro p hp
      obtain ⟨i, hi, rfl⟩ := List.mem_map.1 hp
      exact (hf i (by have := List.mem_range.1 hi; omega)).2
set_option maxRecDepth 100000 in
theorem attr_of {b0 : Nat} {v : Value} {d : DataW H} {p : List MemPlace} (hv : Value.okWide Try.prog w .any b0 115 v) (h : DataW.Trod enc Try.prog w base spare held 115 v d p) :
    ∃ x : At, v = atV x ∧ x.1.size ≤ maxLen ∧ x.2.size ≤ maxLen := by
  obtain ⟨v0, v1, y0, y1, n, rfl, rfl, rfl, h0, h1⟩ := open_agg2 Try.underlying115 (by kernel_rfl) (by kernel_rfl) hv h
  obtain ⟨s0, e0, _, z0⟩ := DataW.trod_string Try.underlying9 h0
  obtain ⟨s1, e1, _, z1⟩ := DataW.trod_string Try.underlying9 h1
  simp at e0 e1
  subst e0 e1
  exact ⟨(s0, s1), rfl, z0, z1⟩
end
end Go.Proofs.Ytkkngflpmdcfjaa.A
