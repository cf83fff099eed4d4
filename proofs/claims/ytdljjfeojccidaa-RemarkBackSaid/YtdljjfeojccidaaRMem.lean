/-
  A token in memory, as the functions of remark hand it back; the walk of upTo.
-/
import Derived.Test.YtdljjfeojccidaaRPlain
import Derived.Test.YtdljjfeojccidaaIRtrim
import Derived.Test.YtdljjfeojccidaaShelf
import Derived.Test.YtdljjfeojccidaaRShelf
import Derived.Lib.Hide
import Derived.Deep.QuietTactic
import Derived.BigQuiet
import Derived.Laws.Rows
namespace Go.Proofs.Ytdljjfeojccidaa.R
open Go.RowKit
open Go.Proofs.Ytdljjfeojccidaa.I (spI spC leI lowS)

theorem ret_bool {a b : Bool} (h : a = b) : Ending.returned (.bool a) = .returned (.bool b) := by rw [h]
theorem ret_int {a b : Int} (h : a = b) : Ending.returned (.int .i64 a) = .returned (.int .i64 b) := by rw [h]
theorem ret_str {a b : ByteArray} (h : a = b) : Ending.returned (.string a) = .returned (.string b) := by rw [h]
theorem ret_si {a b : ByteArray} {c d : Int} (h : a = b) (h2 : c = d) : Ending.returned (.tuple #[.string a, .int .i64 c]) = .returned (.tuple #[.string b, .int .i64 d]) := by rw [h, h2]
theorem below_step {w w1 w2 : World} (h : Hid (Below w.heap.size w w1)) (h2 : Below w1.heap.size w1 w2) : Hid (Below w.heap.size w w2) := Lib.hid (h.out.trans (h2.mono h.out.size))
theorem drewNB {b : Nat} {w wr : World} (h : Below b w wr) (n : Nat) : Below b w (wr.drewN n) := ⟨h.os, h.tape, h.output, h.size, h.block⟩
theorem heap_keep {w w1 : World} {b : Nat} {o : Obj} (hb : Below w.heap.size w w1) (h : w.heap[b]? = some o) : w1.heap[b]? = some o := (hb.block b (Array.getElem?_eq_some_iff.1 h).1).trans h
/-- The library's limit is laid: some number. -/
def MaxAt (w : World) : Prop := ∃ m, w.cell? ⟨0, 0, none⟩ = some (.int .i64 m)
theorem MaxAt.below {w w' : World} (h : MaxAt w) (hb : Below w.heap.size w w') : MaxAt w' := by
  obtain ⟨m, hm⟩ := h
  exact ⟨m, (hb.cell (p := ⟨0, 0, none⟩) (World.block_lt_of_cell? w _ hm)).trans hm⟩
theorem str_tail (s : ByteArray) (k : Nat) : (s.extract k s.size).data.toList = s.data.toList.drop k := C.ext_tail s k

/-- Behind what is looked for. -/
def upN (p l : List UInt8) (k : Nat) : Nat := min (fndF p l k + p.length) l.length
theorem upN_yes {p l : List UInt8} {k : Nat} (h : fndF p l k < l.length) : upN p l k = fndF p l k + p.length := Nat.min_eq_left (fndF_room p l k h)
theorem upN_no {p l : List UInt8} {k : Nat} (hk : k ≤ l.length) (h : ¬ fndF p l k < l.length) : upN p l k = fndF p l k := by
  have := (fndF_bd p l k hk).2
  unfold upN; omega
set_option maxHeartbeats 1600000 in
theorem upTo_any (s p : ByteArray) (k : Nat) (w : World) (hM : MaxAt w) (hk : k ≤ s.size) (hp : p.data.toList ≠ []) (hs : s.size ≤ 10000) (hpz : p.size ≤ 10000) :
    Calls Try.prog 40 #[.string s, .int .i64 (k : Nat), .string p] w fun e w' =>
      e = .returned (.tuple #[.string (cut s.data.toList k (fndF p.data.toList s.data.toList k)), .int .i64 (upN p.data.toList s.data.toList k : Nat)]) ∧ Below w.heap.size w w' := by
  obtain ⟨m, hm⟩ := hM
  have HC := Lib.hid (Try.strings_Cut (s.extract k s.size) p m w (by rw [ByteArray.size_extract]; omega) hm)
  obtain ⟨e1, e2⟩ := cut_fnd p.data.toList (s.data.toList.drop k) hp
  rw [str_tail, e1, e2] at HC
  have hb := fndF_bd p.data.toList s.data.toList k (by rw [C.size_list]; exact hk)
  have hl : fnd p.data.toList (s.data.toList.drop k) = fndF p.data.toList s.data.toList k - k := by unfold fndF; omega
  have hc : (⟨((s.data.toList.drop k).take (fnd p.data.toList (s.data.toList.drop k))).toArray⟩ : ByteArray) = cut s.data.toList k (fndF p.data.toList s.data.toList k) := by
    unfold cut C.mkB
    rw [hl, List.drop_take]
  have hz : (cut s.data.toList k (fndF p.data.toList s.data.toList k)).size = fndF p.data.toList s.data.toList k - k := by
    unfold cut
    rw [C.mkB_size, List.length_drop, List.length_take]; omega
  rw [hc] at HC
  have hd : decide (fnd p.data.toList (s.data.toList.drop k) < (s.data.toList.drop k).length) = decide (fndF p.data.toList s.data.toList k < s.data.toList.length) := by
    apply decide_eq_decide.2
    rw [hl, List.length_drop]; omega
  rw [hd] at HC
  have HY := Lib.hid (fun h => upN_yes (p := p.data.toList) (l := s.data.toList) (k := k) h)
  have HN := Lib.hid (fun h => upN_no (p := p.data.toList) (l := s.data.toList) (k := k) (by rw [C.size_list]; exact hk) h)
  generalize (Lib.cut (s.data.toList.drop k) p.data.toList).2.1 = rest at *
  generalize cut s.data.toList k (fndF p.data.toList s.data.toList k) = t at *
  generalize upN p.data.toList s.data.toList k = u at *
  generalize fndF p.data.toList s.data.toList k = e at *
  rw [C.size_list] at hb
  have hi0 : (0 : Int) ≤ (k : Int) := by omega
  have hi1 : (k : Int) ≤ (s.size : Int) := by omega
  clear hc hd hl e1 e2 hm
  by_cases hlt : e < s.data.toList.length
  · have HF : Hid (u = e + p.size) := Lib.hid (by rw [HY.out hlt, C.size_list])
    rw [decide_eq_true hlt] at HC
    clear hlt
    go_enter Try.func40, Try.ntmps40
    go_wp2_with fail
    refine HC.out.mono ?_
    rintro e' w' ⟨rfl, n, rfl⟩
    go_wp2
    go_ret2
    exact ⟨ret_si rfl (by rw [HF.out]; omega), drewNB (Below.refl _ _) n⟩
  · have HF : Hid (u = e) := Lib.hid (HN.out hlt)
    rw [decide_eq_false hlt] at HC
    clear hlt
    go_enter Try.func40, Try.ntmps40
    go_wp2_with fail
    refine HC.out.mono ?_
    rintro e' w' ⟨rfl, n, rfl⟩
    go_wp2
    go_ret2
    exact ⟨ret_si rfl (by rw [HF.out]; omega), drewNB (Below.refl _ _) n⟩
end Go.Proofs.Ytdljjfeojccidaa.R
