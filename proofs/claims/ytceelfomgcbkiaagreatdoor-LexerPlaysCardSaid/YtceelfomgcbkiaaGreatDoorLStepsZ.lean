/-
  A list of steps as an argument: what is read of it.
-/
import Derived.Test.YtceelfomgcbkiaaGreatDoorLMemZ
import Derived.Deep.Fields
import Derived.Deep.Slices
import Derived.ChangeSlices
import Derived.Lib.SmallJoins
import Derived.ChangeSame
namespace Go.Proofs.YtceelfomgcbkiaaGreatDoor
open Go.RowKit

/-- How a token is asked for. -/
abbrev Sq := Int × ByteArray × Bool
def sqC (x : Sq) : List Value := [.int .i64 x.1, .string x.2.1, .bool x.2.2]
def StepsAt (w : World) (a : Option Addr) (l : List Sq) : Prop :=
  l ≠ [] → ∃ b off, a = some ⟨b, off, none⟩ ∧ b < w.heap.size ∧ ∀ j (h : j < l.length), w.cell? ⟨b, off + j * 3, none⟩ = some (.int .i64 l[j].1) ∧ w.cell? ⟨b, off + j * 3 + 1, none⟩ = some (.string l[j].2.1) ∧ w.cell? ⟨b, off + j * 3 + 2, none⟩ = some (.bool l[j].2.2)
section
open Go.ChangeShapes Go.WideShapes Go.Deep Go.Joins
variable {H : Type} {enc : TypeId × Value → H} {w : World} {base : Nat} {held : Bool}
set_option maxRecDepth 100000 in
theorem step_of {fuel : Nat} {cs : List Value} {x : DataW H × List MemPlace} (h : DataW.trod enc Tryz.prog w base (fun _ => true) held fuel 30 cs = some x) : ∃ y : Sq, cs = sqC y := by
  obtain ⟨xs, n, _, hx, hl, hlen, hg⟩ := DataW.trod_struct Tryz.underlying30 h
  have hC : Tryz.prog.cellsOf 30 = 3 := by kernel_rfl
  have hk : Tryz.prog.cellsOf 3 = 1 := by kernel_rfl
  have hs : Tryz.prog.cellsOf 9 = 1 := by kernel_rfl
  have hb : Tryz.prog.cellsOf 4 = 1 := by kernel_rfl
  match cs, hl.trans hC, xs, hlen with
  | [c0, c1, c2], _, [y0, y1, y2], _ =>
    have h0 : DataW.trod enc Tryz.prog w base (fun _ => true) held n 3 [c0] = some y0 := by simpa [hk] using hg 0 _ rfl
    have h1 : DataW.trod enc Tryz.prog w base (fun _ => true) held n 9 [c1] = some y1 := by simpa [hk, hs] using hg 1 _ rfl
    have h2 : DataW.trod enc Tryz.prog w base (fun _ => true) held n 4 [c2] = some y2 := by simpa [hk, hs, hb] using hg 2 _ rfl
    obtain ⟨z0, e0, _⟩ := DataW.trod_int Tryz.underlying3 h0
    obtain ⟨z1, e1, _⟩ := DataW.trod_string Tryz.underlying9 h1
    obtain ⟨z2, e2, _⟩ := DataW.trod_bool Tryz.underlying4 h2
    simp at e0 e1 e2
    subst e0 e1 e2
    exact ⟨(z0, z1, z2), rfl⟩
set_option maxRecDepth 100000 in
theorem steps_of {fuel : Nat} {v : Value} {x : DataW H × List MemPlace} (h : DataW.trod enc Tryz.prog w base (fun _ => true) held fuel 22 [v] = some x) :
    ∃ a cap, ∃ l : List Sq, v = .slice a l.length cap ∧ l.length ≤ cap ∧ l.length ≤ maxLen ∧ StepsAt w a l := by
  rcases open_slice Tryz.underlying22 h with ⟨hcs, _⟩ | ⟨a, len, cap, m, n, D, Pl, hcs, hb, hl, hm, hmm, hx, hi⟩
  · simp at hcs
    subst hcs
    exact ⟨none, 0, [], rfl, Nat.le_refl _, Nat.zero_le _, fun h => absurd rfl h⟩
  · simp at hcs
    subst hcs
    have hc : Tryz.prog.cellsOf 30 = 3 := by kernel_rfl
    have hmc : m = cap := by rw [hmm]; rfl
    have hp : ∀ i, i < m → ∃ p : Sq, ∀ k, k < 3 → w.cell? (a.add (i * 3 + k)) = (sqC p)[k]? := fun i hlt => by
      obtain ⟨cs', h1, h2⟩ := hi i hlt
      obtain ⟨p, rfl⟩ := step_of h2
      rw [hc] at h1
      obtain ⟨_, hcl, hat⟩ := World.cells?_some h1
      refine ⟨p, fun k hk => ?_⟩
      have := hat k (by omega)
      rw [Go.Deep.add_add] at this; exact this
    haveI : Inhabited Sq := ⟨(0, ByteArray.empty, false)⟩
    obtain ⟨f, hf⟩ := choose_lt hp
    have hlen : ((List.range len).map f).length = len := by simp
    refine ⟨some a, cap, (List.range len).map f, by rw [hlen], by rw [hlen]; omega, by rw [hlen]; omega, fun hne => ?_⟩
    have hpos : 0 < len := by
      rcases Nat.eq_zero_or_pos len with h0 | h0
      · subst h0; simp at hne
      · exact h0
    have h0 := hf 0 (by omega) 0 (by omega)
    have h0' : w.cell? (a.add 0) = some (.int .i64 (f 0).1) := h0
    have hbk := World.block_lt_of_cell? w _ h0'
    rcases a with ⟨b, off, path⟩
    have key : path = none := by
      cases path with
      | none => rfl
      | some q =>
        exfalso
        simp [Addr.add, World.cell?] at h0'
        split at h0' <;> cases h0'
    subst key
    have hadd : ∀ i, (⟨b, off, none⟩ : Addr).add i = ⟨b, off + i, none⟩ := fun i => by unfold Addr.add; split <;> simp_all
    refine ⟨b, off, rfl, by rw [hadd] at hbk; exact hbk, fun j hj => ?_⟩
    have hj2 : j < len := by omega
    have g : ((List.range len).map f)[j] = f j := by simp
    rw [g]
    have k0 := hf j (by omega) 0 (by omega)
    have k1 := hf j (by omega) 1 (by omega)
    have k2 := hf j (by omega) 2 (by omega)
    rw [hadd] at k0 k1 k2
    exact ⟨k0, k1, k2⟩
set_option maxRecDepth 100000 in
theorem steps_arg {v : Value} {d : DataW H} {p : List MemPlace} {b0 : Nat} (hv : Value.okWide Tryz.prog w .any b0 22 v) (h : DataW.Trod enc Tryz.prog w base (fun _ => true) held 22 v d p) :
    ∃ a cap, ∃ l : List Sq, v = .slice a l.length cap ∧ l.length ≤ cap ∧ l.length ≤ maxLen ∧ StepsAt w a l := by
  obtain ⟨a, len, cap, rfl⟩ := okWide_slice Tryz.underlying22 hv
  obtain ⟨fuel, hf⟩ := h
  exact steps_of (by simpa [Value.cells] using hf)
end
end Go.Proofs.YtceelfomgcbkiaaGreatDoor
