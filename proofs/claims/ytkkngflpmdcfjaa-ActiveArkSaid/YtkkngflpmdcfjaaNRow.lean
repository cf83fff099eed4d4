/-
  Rows of which each cell's kind is known, the spare ones too; append onto them.
-/
import Derived.Test.YtkkngflpmdcfjaaRows
import Derived.WalkKit
import Derived.IntWalk
import Derived.LoopTactic
import Derived.WalkSpells
import Derived.Lib.Hide
import Derived.Laws.OwnMore
import Derived.Maps.AppendAt
import Derived.Lib.AppendZeros
import Derived.Deep.AppendLies
namespace Go.Proofs.Ytkkngflpmdcfjaa
open Go.RowKit

/-- Each cell of the slice's block is of the kind that its place asks. -/
def okRow (w : World) (ok : Nat → Value → Prop) (size : Nat) (v : Value) : Prop :=
  ∀ g c t fz, v.ownBlock = some g → w.heap[g]? = some (.cells c t fz) → ∀ j u, c[j]? = some u → ok (j % size) u
theorem okRow.kept {w w' : World} {ok : Nat → Value → Prop} {size : Nat} {v : Value} (h : okRow w ok size v) (hb : ∀ g, v.ownBlock = some g → w'.heap[g]? = w.heap[g]?) : okRow w' ok size v :=
  fun g c t fz hg hc => h g c t fz hg ((hb g hg).symm.trans hc)
theorem okRow_none {w : World} {ok : Nat → Value → Prop} {size : Nat} {n c : Nat} : okRow w ok size (.slice none n c) := fun _ _ _ _ h => by cases h
theorem okRow.same {w : World} {ok : Nat → Value → Prop} {size : Nat} {v v' : Value} (h : okRow w ok size v) (e : v'.ownBlock = v.ownBlock) : okRow w ok size v' :=
  fun g c t fz hg => h g c t fz (e ▸ hg)
theorem zero_at (z : Array Value) (n j : Nat) (u : Value) (h : (Builtin.zeroCells z n)[j]? = some u) : z[j % z.size]? = some u := by
  unfold Builtin.zeroCells at h
  rw [Array.getElem?_map] at h
  by_cases hj : j < n * z.size
  · have hp : 0 < z.size := by
      rcases Nat.eq_zero_or_pos z.size with e | e
      · rw [e] at hj; simp at hj
      · exact e
    have hm := Nat.mod_lt j hp
    rw [show (Array.range (n * z.size))[j]? = some j by simp [hj]] at h
    simp only [Option.map_some, Option.some.injEq] at h
    rw [Array.getElem?_eq_getElem hm, ← h, getElem!_pos z _ hm]
  · rw [show (Array.range (n * z.size))[j]? = none by simp; omega] at h
    cases h
theorem okRow.alloc {w : World} {ok : Nat → Value → Prop} {size : Nat} {c : Array Value} {t : TypeId} {n cap : Nat} (h : ∀ j u, c[j]? = some u → ok (j % size) u) : okRow (w.alloc (.cells c t)) ok size (.slice (some ⟨w.heap.size, 0, none⟩) n cap) := by
  intro g c' t' fz hg hc j u hj
  simp only [Value.ownBlock, Option.some.injEq] at hg
  subst hg
  rw [heap_alloc_new] at hc
  cases hc
  exact h j u hj
theorem okRow.allocD {w : World} {ok : Nat → Value → Prop} {size : Nat} {c : Array Value} {t : TypeId} {n cap : Nat} (h : ∀ j u, c[j]? = some u → ok (j % size) u) : okRow (w.drew.alloc (.cells c t)) ok size (.slice (some ⟨w.heap.size, 0, none⟩) n cap) :=
  okRow.alloc (w := w.drew) h

section
variable {P : Program} (w : World)
theorem ok_three {ok : Nat → Value → Prop} {size n m : Nat} {xs news : List Value} {z : Array Value} {k : Nat} (hx : xs.length = n * size) (hl : news.length = m * size) (hzs : z.size = size) (hxs : ∀ j u, xs[j]? = some u → ok (j % size) u)
    (hns : ∀ j u, news[j]? = some u → ok (j % size) u) (hzo : ∀ j u, z[j]? = some u → ok j u) : ∀ j u, (xs.toArray ++ news.toArray ++ Builtin.zeroCells z k)[j]? = some u → ok (j % size) u := by
  intro j u h
  rw [Array.getElem?_append, Array.getElem?_append] at h
  simp only [Array.size_append, List.size_toArray] at h
  split at h
  · split at h
    · exact hxs j u (by simpa using h)
    · have := hns (j - xs.length) u (by simpa using h)
      rwa [show (j - xs.length) % size = j % size by
        have e : j = (j - xs.length) + n * size := by omega
        conv => rhs; rw [e, Nat.add_mul_mod_self_right]] at this
  · have := hzo _ _ (zero_at z k _ u h)
    rw [hzs] at this
    rwa [show (j - (xs.length + news.length)) % size = j % size by
      have e : j = (j - (xs.length + news.length)) + (n + m) * size := by rw [Nat.add_mul]; omega
      conv => rhs; rw [e, Nat.add_mul_mod_self_right]] at this

theorem run_append_ok (ok : Nat → Value → Prop) (base : Nat) (t ty e : TypeId) (i : TypeInfo) (z : Value) (size bytes : Nat) (ht : P.underlying t = some (.slice e)) (hi : P.info? e = some i) (hz : i.zero = some z)
    (hsize : i.size = size) (hby : i.bytes = bytes) (hzs : z.cells.size = size) (hsz : 0 < size) (hzo : ∀ j u, z.cells[j]? = some u → ok j u)
    (v : Value) (n : Nat) (xs : List Value) (hown : w.ownsRow base e size v n xs) (hk : okRow w ok size v)
    (a : Addr) (m c : Nat) (news : List Value) (hl : news.length = m * size) (hnews : ∀ j u, news[j]? = some u → w.cell? (a.add j) = some u) (h1 : ∀ u ∈ news, u.oneCell' = true) (hno : ∀ j u, news[j]? = some u → ok (j % size) u)
    (h63 : n + m ≤ maxLen) (hbytes : (n + m) * bytes ≤ 140737488355328) (hbase : base ≤ w.heap.size) :
    ∃ v' w', (Builtin.append_ #[t, t] ty #[v, .slice (some a) m c]).run P w = .ok v' w' ∧ w'.ownsRow base e size v' (n + m) (xs ++ news) ∧ okRow w' ok size v' ∧ w.grownBy w' v.ownBlock ∧
      (v'.ownBlock = v.ownBlock ∨ v'.ownBlock = some w.heap.size) := by
  subst hsize
  subst hby
  have hsmall : n + m ≤ 9223372036854775807 := by simp only [maxLen] at h63; omega
  have hlen : (xs ++ news).length = (n + m) * i.size := by rw [List.length_append, hown.1, hl, Nat.add_mul]
  have grown : ∀ (old : Nat), old < n + m → (∀ j u, xs[j]? = some u → ok (j % i.size) u) → ∀ (row : Option Nat),
      (w.drew.alloc (.cells (xs.toArray ++ news.toArray ++ Builtin.zeroCells z.cells (grownCap w (n + m) old e - (n + m))) e)).ownsRow base e i.size
        (.slice (some ⟨w.heap.size, 0, none⟩) (n + m) (grownCap w (n + m) old e)) (n + m) (xs ++ news) ∧
      okRow (w.drew.alloc (.cells (xs.toArray ++ news.toArray ++ Builtin.zeroCells z.cells (grownCap w (n + m) old e - (n + m))) e)) ok i.size (.slice (some ⟨w.heap.size, 0, none⟩) (n + m) (grownCap w (n + m) old e)) ∧
      w.grownBy (w.drew.alloc (.cells (xs.toArray ++ news.toArray ++ Builtin.zeroCells z.cells (grownCap w (n + m) old e - (n + m))) e)) row := by
    intro old ho hxs row
    have hge := grownCap_ge w (n + m) old e
    have hcm : grownCap w (n + m) old e ≤ maxLen := grownCap_le_maxLen w (n + m) old e h63
    refine ⟨⟨hlen, .inr ⟨w.heap.size, _, _, rfl, hbase, heap_alloc_new w.drew _, hge, hcm, ?_, ?_⟩⟩, okRow.allocD (ok_three hown.1 hl hzs hxs hno hzo), ⟨rfl, rfl, rfl, by simp, fun k hk _ => Below.heap_alloc w.drew _ k hk⟩⟩
    · simp only [Array.size_append, List.size_toArray, size_zeroCells, hzs, hown.1, hl, ← Nat.add_mul]
      congr 1
      omega
    · simp only [Array.toList_append, List.append_assoc]
      rw [← List.append_assoc, ← hlen]
      exact List.take_left
  rcases hown.2 with ⟨rfl, rfl⟩ | ⟨g, cap, cur, rfl, hbg, hg, hnc, hcm, hcs, htake⟩
  · have hx : xs = [] := List.eq_nil_of_length_eq_zero (by simpa using hown.1)
    subst hx
    by_cases hm : m = 0
    · subst hm
      have hn : news = [] := List.eq_nil_of_length_eq_zero (by simpa using hl)
      subst hn
      refine ⟨.slice none 0 0, w, ?_, World.ownsRow_nil w base e i.size, okRow_none, ⟨rfl, rfl, rfl, Nat.le_refl _, fun _ _ _ => rfl⟩, Or.inl rfl⟩
      simp [Builtin.append_, run_underlying ht, sizeOf, typeInfo, hi, Builtin.lenOf, Builtin.firstCells, loadCells, loadCellsFrom]
    · have hr := run_append_nil (P := P) w t ty e i z ht hi hz a m c news hl hnews (by omega) (by omega) (by have hb := hbytes; simp only [Nat.zero_add] at hb; omega)
      have hgr := grown 0 (by omega) (by intro j u h; simp at h) (Value.ownBlock (.slice none 0 0))
      simp only [Nat.zero_add, List.nil_append, Array.empty_append] at hgr ⊢
      exact ⟨_, _, hr, hgr.1, hgr.2.1, hgr.2.2, Or.inr rfl⟩
  · have hcur : ∀ j u, cur[j]? = some u → ok (j % i.size) u := hk g cur e _ rfl hg
    have hxs : ∀ j u, xs[j]? = some u → ok (j % i.size) u := by
      intro j u h
      rw [← htake] at h
      rw [List.getElem?_take] at h
      split at h
      · exact hcur j u (by simpa using h)
      · cases h
    by_cases hroom : n + m ≤ cap
    · have hfit : n * i.size + news.length ≤ cur.size := by rw [hl, hcs, ← Nat.add_mul]; exact Nat.mul_le_mul_right _ hroom
      have hr := run_append_room (P := P) w t ty e i ht hi g n cap cur hg a m c news hl hnews h1 hroom hfit
      refine ⟨_, _, hr, ⟨hlen, .inr ⟨g, cap, _, rfl, hbg, setRow_heap w g cur _ e _ hg, hroom, hcm, ?_, ?_⟩⟩, ?_, ⟨rfl, rfl, rfl, by simp, fun k _ hk => setRow_other w g k _ (fun e => hk (by simp [Value.ownBlock, e]))⟩, Or.inl rfl⟩
      · simp only [List.size_toArray, List.length_append, List.length_take, List.length_drop, Array.length_toList]
        omega
      · rw [htake, ← hlen]
        exact List.take_left
      · intro g' c' t' fz hg' hc' j u hj
        simp only [Value.ownBlock, Option.some.injEq] at hg'
        subst hg'
        rw [setRow_heap w g cur _ e _ hg] at hc'
        cases hc'
        rw [List.getElem?_toArray] at hj
        rw [List.append_assoc, List.getElem?_append] at hj
        have hlt : (cur.toList.take (n * i.size)).length = n * i.size := by rw [List.length_take, Array.length_toList]; omega
        rw [hlt] at hj
        by_cases hjn : j < n * i.size
        · rw [if_pos hjn, List.getElem?_take, if_pos hjn] at hj
          exact hcur j u (by simpa using hj)
        · rw [if_neg hjn, List.getElem?_append] at hj
          split at hj
          · have := hno _ u hj
            rwa [show (j - n * i.size) % i.size = j % i.size by
              have e : j = (j - n * i.size) + n * i.size := by omega
              conv => rhs; rw [e, Nat.add_mul_mod_self_right]] at this
          · rw [List.getElem?_drop] at hj
            exact hcur j u (by
              rw [show n * i.size + news.length + (j - n * i.size - news.length) = j by omega] at hj
              simpa using hj)
    · have holds : ∀ j u, xs[j]? = some u → w.cell? ((⟨g, 0, none⟩ : Addr).add j) = some u := hown.cells (g := g) rfl
      have hr := run_append_grow (P := P) w t ty e i z ht hi hz ⟨g, 0, none⟩ n cap xs hown.1 holds a m c news hl hnews (by omega) (by omega) (growslice_fits (by omega) hbytes)
      have hgr := grown cap (by omega) hxs (Value.ownBlock (.slice (some ⟨g, 0, none⟩) n cap))
      exact ⟨_, _, hr, hgr.1, hgr.2.1, hgr.2.2, Or.inr rfl⟩
theorem run_append_ok_none (t ty e : TypeId) (i : TypeInfo) (base size : Nat) (ht : P.underlying t = some (.slice e)) (hi : P.info? e = some i) (v : Value) (n : Nat) (xs : List Value) (hown : w.ownsRow base e size v n xs) (c : Nat) :
    (Builtin.append_ #[t, t] ty #[v, .slice none 0 c]).run P w = .ok v w := by
  rcases hown.2 with ⟨rfl, rfl⟩ | ⟨g, cap, cur, rfl, _, _, hnc, _⟩
  · simp [Builtin.append_, run_underlying ht, sizeOf, typeInfo, hi, Builtin.lenOf, Builtin.firstCells]
  · simp [Builtin.append_, run_underlying ht, sizeOf, typeInfo, hi, Builtin.lenOf, Builtin.firstCells, hnc, storeCells]
end
end Go.Proofs.Ytkkngflpmdcfjaa
