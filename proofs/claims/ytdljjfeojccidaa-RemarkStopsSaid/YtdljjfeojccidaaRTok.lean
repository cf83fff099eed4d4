/-
  A token that is handed back: the cell in which it is made; the walks of readOdd and readDoctype's neighbours.
-/
import Derived.Test.YtdljjfeojccidaaRMem
import Derived.Outline
namespace Go.Proofs.Ytdljjfeojccidaa.R
open Go.RowKit

/-- A token as a value. -/
def remV (t : Rem) : Value := .agg #[.int .i64 t.kind, .string t.name, .slice none 0 0, .bool false, .string t.data]
/-- What a function leaves that hands back a token. -/
def RetRem (t : Rem) (w : World) (e : Ending) (w' : World) : Prop := e = .returned (.tuple #[remV t, .int .i64 (t.n : Nat), .bool t.ok]) ∧ Below w.heap.size w w'
/-- The cells of a token without attributes. -/
def tokC (k : Int) (nm d : ByteArray) : Array Value := #[.int .i64 k, .string nm, .slice none 0 0, .bool false, .string d]
def tok0 : Array Value := tokC 0 ByteArray.empty ByteArray.empty
/-- Five cells stored, one after the other. -/
def S5 (w : World) (B : Nat) (v0 v1 v2 v3 v4 : Value) : World := ((((w.setCell ⟨B, 0, none⟩ v0).setCell ⟨B, 1, none⟩ v1).setCell ⟨B, 2, none⟩ v2).setCell ⟨B, 3, none⟩ v3).setCell ⟨B, 4, none⟩ v4
theorem s5_heap {w : World} {B : Nat} {T : TypeId} {u0 u1 u2 u3 u4 : Value} (v0 v1 v2 v3 v4 : Value) (h : w.heap[B]? = some (.cells #[u0, u1, u2, u3, u4] T (0, 0))) : (S5 w B v0 v1 v2 v3 v4).heap[B]? = some (.cells #[v0, v1, v2, v3, v4] T (0, 0)) :=
  heap_setCell_same _ B 4 _ _ _ (heap_setCell_same _ B 3 _ _ _ (heap_setCell_same _ B 2 _ _ _ (heap_setCell_same _ B 1 _ _ _ (heap_setCell_same w B 0 _ _ _ h))))
theorem s5_below {B : Nat} {a w : World} (v0 v1 v2 v3 v4 : Value) (h : Below B a w) {R : Nat} (hR : B ≤ R) : Below B a (S5 w R v0 v1 v2 v3 v4) :=
  ((((h.setCell (p := ⟨R, 0, none⟩) hR v0).setCell (p := ⟨R, 1, none⟩) hR v1).setCell (p := ⟨R, 2, none⟩) hR v2).setCell (p := ⟨R, 3, none⟩) hR v3).setCell (p := ⟨R, 4, none⟩) hR v4
theorem row_of {w : World} {B : Nat} {v0 v1 v2 v3 v4 : Value} (h : w.heap[B]? = some (.cells #[v0, v1, v2, v3, v4] 25 (0, 0))) :
    w.cell? ⟨B, 0, none⟩ = some v0 ∧ w.cell? ⟨B, 1, none⟩ = some v1 ∧ w.cell? ⟨B, 2, none⟩ = some v2 ∧ w.cell? ⟨B, 3, none⟩ = some v3 ∧ w.cell? ⟨B, 4, none⟩ = some v4 :=
  ⟨cell_of_row w B 0 _ _ (0, 0) h, cell_of_row w B 1 _ _ (0, 0) h, cell_of_row w B 2 _ _ (0, 0) h, cell_of_row w B 3 _ _ (0, 0) h, cell_of_row w B 4 _ _ (0, 0) h⟩
theorem free_of {w : World} {B : Nat} {v0 v1 v2 v3 v4 : Value} (h : w.heap[B]? = some (.cells #[v0, v1, v2, v3, v4] 25 (0, 0))) :
    w.frozen? ⟨B, 0, none⟩ = false ∧ w.frozen? ⟨B, 1, none⟩ = false ∧ w.frozen? ⟨B, 2, none⟩ = false ∧ w.frozen? ⟨B, 3, none⟩ = false ∧ w.frozen? ⟨B, 4, none⟩ = false :=
  ⟨frozen_of_row w B 0 _ _ h, frozen_of_row w B 1 _ _ h, frozen_of_row w B 2 _ _ h, frozen_of_row w B 3 _ _ h, frozen_of_row w B 4 _ _ h⟩
theorem bog_eq (l : List UInt8) (k : Nat) : (⟨4, ByteArray.empty, cut l k (fndF [62] l k), upN [62] l k, true⟩ : Rem) = bog l k := rfl
/-- The world in which a token's cell has been made. -/
def W1 (w : World) : World := w.alloc (.cells tok0 25)
theorem w1_max {w : World} (h : MaxAt w) : MaxAt (W1 w) := h.below ((Below.refl _ _).alloc (Nat.le_refl _) _)
theorem w1_row (w : World) : (W1 w).heap[w.heap.size]? = some (.cells tok0 25 (0, 0)) := heap_alloc_new w (.cells tok0 25)
theorem w1_below (w : World) : Below w.heap.size w (W1 w) := (Below.refl _ _).alloc (Nat.le_refl _) _
theorem w1_size (w : World) : (W1 w).heap.size = w.heap.size + 1 := by simp [W1]

/-- The token is stored, and read when the function ends. -/
theorem fin_of {w w1 : World} {u0 u1 u2 u3 u4 : Value} (k : Int) (nm d : ByteArray) (hR : w1.heap[w.heap.size]? = some (.cells #[u0, u1, u2, u3, u4] 25 (0, 0))) (hB : Below w.heap.size w w1) :
    ∃ wf, wf = S5 w1 w.heap.size (.int .i64 k) (.string nm) (.slice none 0 0) (.bool false) (.string d) ∧
      (wf.cell? ⟨w.heap.size, 0, none⟩ = some (.int .i64 k) ∧ wf.cell? ⟨w.heap.size, 1, none⟩ = some (.string nm) ∧ wf.cell? ⟨w.heap.size, 2, none⟩ = some (.slice none 0 0) ∧ wf.cell? ⟨w.heap.size, 3, none⟩ = some (.bool false) ∧ wf.cell? ⟨w.heap.size, 4, none⟩ = some (.string d)) ∧
      Below w.heap.size w wf :=
  ⟨_, rfl, row_of (s5_heap _ _ _ _ _ hR), s5_below _ _ _ _ _ hB (Nat.le_refl _)⟩

set_option maxHeartbeats 1600000 in
theorem readOdd_any (s : ByteArray) (k : Nat) (w : World) (hM : MaxAt w) (hk : k ≤ s.size) (hs : s.size ≤ 10000) :
    Calls Try.prog 22 #[.string s, .int .i64 (k : Nat)] w (RetRem (bog s.data.toList k) w) := by
  have HU := Lib.hid (upTo_any s ⟨#[62]⟩ k (W1 w) (w1_max hM) hk (by decide) hs (by decide))
  have e62 : ((⟨#[62]⟩ : ByteArray).data.toList) = [62] := rfl
  rw [e62] at HU
  rw [← bog_eq]
  have HR := Lib.hid (w1_row w)
  have HB := Lib.hid (w1_below w)
  clear e62 hM
  generalize cut s.data.toList k (fndF [62] s.data.toList k) = d at *
  generalize upN [62] s.data.toList k = u at *
  go_enter Try.func22, Try.ntmps22
  go_wp2_with fail
  refine HU.out.mono ?_
  rintro e w1 ⟨rfl, hbl⟩
  have HR1 := Lib.hid (heap_keep hbl HR.out)
  have HB1 : Hid (Below w.heap.size w w1) := Lib.hid (HB.out.trans (hbl.mono HB.out.size))
  clear hbl HR HB
  obtain ⟨c0, c1, c2, c3, c4⟩ := row_of HR1.out
  obtain ⟨f0, f1, f2, f3, f4⟩ := free_of HR1.out
  go_wp2
  obtain ⟨wf, ewf, ⟨d0, d1, d2, d3, d4⟩, hbf⟩ := fin_of 4 ByteArray.empty d HR1.out HB1.out
  change bodyPost _ _ _ _ _ (S5 w1 w.heap.size (.int .i64 4) (.string ByteArray.empty) (.slice none 0 0) (.bool false) (.string d))
  rw [← ewf]
  clear ewf c0 c1 c2 c3 c4 f0 f1 f2 f3 f4
  exact bodyPost_ret (v := .tuple #[remV ⟨4, ByteArray.empty, d, u, true⟩, .int .i64 (u : Nat), .bool true]) (by simp [results, Try.results22, go_sem, remV, d0, d1, d2, d3, d4]) rfl ⟨rfl, hbf⟩
end Go.Proofs.Ytdljjfeojccidaa.R
