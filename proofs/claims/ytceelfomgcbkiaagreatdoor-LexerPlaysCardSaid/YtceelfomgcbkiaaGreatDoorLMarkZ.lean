/-
  The walks of marked, begins, text and take.
-/
import Derived.Test.YtceelfomgcbkiaaGreatDoorLMemZ
import Derived.Test.YtceelfomgcbkiaaGreatDoorTReadZ
import Derived.Test.YtceelfomgcbkiaaGreatDoorRRead2Z
import Derived.Outline
namespace Go.Proofs.YtceelfomgcbkiaaGreatDoor
open Go.RowKit
open Go.Proofs.YtceelfomgcbkiaaGreatDoor.A (At AttrsAt)
open Go.Proofs.YtceelfomgcbkiaaGreatDoor.R (S5 s5_heap s5_below row_of free_of W1 w1_row w1_below w1_size heap_keep MaxAt)
open Go.Proofs.YtceelfomgcbkiaaGreatDoor.C (StAt)

/-- The cells of a token. -/
def tkC (t : LTok) (a : Option Addr) (cap : Nat) : Array Value := #[.int .i64 t.kind, .string t.name, .slice a t.attrs.length cap, .bool t.self, .string t.data]
/-- A token is stored in its cell, and read when the function ends. -/
theorem fin_tok {b : Nat} {w w1 : World} {B : Nat} {u0 u1 u2 u3 u4 : Value} (k : Int) (nm d : ByteArray) (v : Value) (sf : Bool) (hR : w1.heap[B]? = some (.cells #[u0, u1, u2, u3, u4] 34 (0, 0))) (hB : Below b w w1) (hb : b ≤ B) :
    ∃ wf, wf = S5 w1 B (.int .i64 k) (.string nm) v (.bool sf) (.string d) ∧
      (wf.cell? ⟨B, 0, none⟩ = some (.int .i64 k) ∧ wf.cell? ⟨B, 1, none⟩ = some (.string nm) ∧ wf.cell? ⟨B, 2, none⟩ = some v ∧ wf.cell? ⟨B, 3, none⟩ = some (.bool sf) ∧ wf.cell? ⟨B, 4, none⟩ = some (.string d)) ∧
      Below b w wf ∧ Below B w1 wf :=
  ⟨_, rfl, row_of (s5_heap _ _ _ _ _ hR), s5_below _ _ _ _ _ hB hb, s5_below _ _ _ _ _ (Below.refl _ _) (Nat.le_refl _)⟩
theorem attrs_below {w w' : World} {a : Option Addr} {l : List At} {B : Nat} (h : AttrsAt w a l) (hn : ∀ b off, a = some ⟨b, off, none⟩ → l ≠ [] → b ≠ B) (hg : ∀ k, k < w.heap.size → k ≠ B → w'.heap[k]? = w.heap[k]?) (hs : w.heap.size ≤ w'.heap.size) : AttrsAt w' a l := fun hne => by
  obtain ⟨b, off, rfl, hlt, hc⟩ := h hne
  have hk := hg b hlt (hn b off rfl hne)
  exact ⟨b, off, rfl, Nat.lt_of_lt_of_le hlt hs, fun j hj => ⟨(World.cell?_of_block (a := ⟨b, off + j * 2, none⟩) hk).trans (hc j hj).1, (World.cell?_of_block (a := ⟨b, off + j * 2 + 1, none⟩) hk).trans (hc j hj).2⟩⟩
/-- The attributes do not lie in a cell in which a token was made: its first cell is a number. -/
theorem attrs_s5 {w : World} {a : Option Addr} {l : List At} {B : Nat} {n : Int} {s1 s4 : ByteArray} {v3b : Bool} {a2 : Option Addr} {m c : Nat} (h : AttrsAt w a l) (hR : w.heap[B]? = some (.cells #[.int .i64 n, .string s1, .slice a2 m c, .bool v3b, .string s4] 34 (0, 0))) (x0 x1 x2 x3 x4 : Value) : AttrsAt (S5 w B x0 x1 x2 x3 x4) a l := by
  refine attrs_below (B := B) h (fun b off e hne eb => ?_) (fun k _ hk => ?_) (by simp [S5])
  · subst eb
    obtain ⟨b2, off2, e2, hlt, hc⟩ := h hne
    rw [e] at e2
    cases e2
    have h0 : 0 < l.length := List.length_pos_iff.2 hne
    have h1 := (hc 0 h0).1
    have h2 := (hc 0 h0).2
    rw [cell_of_row w b _ _ _ (0, 0) hR] at h1 h2
    match off with
    | 0 => simp at h1
    | 1 => simp at h2
    | 2 => simp at h1
    | 3 => simp at h1
    | 4 => simp at h2
    | k + 5 => simp at h1
  · unfold S5
    rw [heap_setCell_other _ ⟨B, 4, none⟩ k _ hk, heap_setCell_other _ ⟨B, 3, none⟩ k _ hk, heap_setCell_other _ ⟨B, 2, none⟩ k _ hk, heap_setCell_other _ ⟨B, 1, none⟩ k _ hk, heap_setCell_other _ ⟨B, 0, none⟩ k _ hk]
theorem mk_yes {l : List UInt8} (f : Bool) (h : T.begins l = true) : mkT l f = ofT (T.rdT l) ∧ mkN l f = (T.rdT l).n ∧ mkO l f = (T.rdT l).ok := by
  unfold mkT mkN mkO
  rw [if_pos h, if_pos h, if_pos h]; exact ⟨rfl, rfl, rfl⟩
theorem mk_no {l : List UInt8} (f : Bool) (h : T.begins l = false) : mkT l f = ofR (R.rem l f) ∧ mkN l f = (R.rem l f).n ∧ mkO l f = (R.rem l f).ok := by
  have h2 : ¬ T.begins l = true := by rw [h]; decide
  unfold mkT mkN mkO
  rw [if_neg h2, if_neg h2, if_neg h2]; exact ⟨rfl, rfl, rfl⟩
theorem rdT_no {l : List UInt8} (h : T.begins l = false) : T.rdT l = ⟨0, ByteArray.empty, [], false, 0, false⟩ := by
  unfold T.rdT; rw [if_neg (by rw [h]; decide)]
/-- A function that reads a token, and one that reads a remark, in one word. -/
theorem read_mk (s : ByteArray) (W : World) (hT : StAt W) (hs : s.size ≤ 10000) : Calls Tryz.prog 26 #[.string s] W (RetMk (ofT (T.rdT s.data.toList)) (T.rdT s.data.toList).n (T.rdT s.data.toList).ok W) := (T.read_any s W hT hs).mono fun _ _ h => tok_mk h

set_option maxHeartbeats 3200000 in
theorem marked_any (s : ByteArray) (f : Bool) (w : World) (hT : StAt w) (hM : MaxAt w) (hs : s.size ≤ 10000) :
    Calls Tryz.prog 24 #[.string s, .bool f] w (RetMk (mkT s.data.toList f) (mkN s.data.toList f) (mkO s.data.toList f) w) := by
  have HR := Lib.hid (read_mk s (W1 w) (hT.below (w1_below w)) hs)
  have HB := Lib.hid (w1_below w)
  have HW := Lib.hid (w1_row w)
  cases hb : T.begins s.data.toList with
  | true =>
    obtain ⟨e1, e2, e3⟩ := mk_yes f hb
    have hn : (0 : Int) < ((T.rdT s.data.toList).n : Nat) := by have := (rdT_pos s.data.toList).2 hb; omega
    rw [e1, e2, e3]
    clear e1 e2 e3 hb hM hT
    generalize (T.rdT s.data.toList).n = n at *
    generalize (T.rdT s.data.toList).ok = ok at *
    generalize ofT (T.rdT s.data.toList) = t at *
    obtain ⟨kind, nm, attrs, self, data⟩ := t
    go_enter Tryz.func24, Tryz.ntmps24
    go_wp2_with fail
    refine HR.out.mono ?_
    rintro e w1 ⟨a, cap, hcap, he, hat, hbl⟩
    unfold tkV at he
    subst he
    have HB1 : Hid (Below w.heap.size w w1) := Lib.hid (HB.out.trans (hbl.mono HB.out.size))
    have HW1 := Lib.hid (heap_keep hbl HW.out)
    have HA1 : Hid (AttrsAt w1 a attrs) := Lib.hid hat
    have HC : Hid (attrs.length ≤ cap) := Lib.hid hcap
    clear hbl hat hcap HB HW HR
    have HB2 := Lib.hid (HB1.out.alloc HB1.out.size (.cells #[.int .i64 kind, .string nm, .slice a attrs.length cap, .bool self, .string data] 34))
    have HW2 := Lib.hid (heap_keep ((Below.refl w1.heap.size w1).alloc (Nat.le_refl _) (.cells #[.int .i64 kind, .string nm, .slice a attrs.length cap, .bool self, .string data] 34)) HW1.out)
    have HH2 := Lib.hid (heap_alloc_new w1 (.cells #[.int .i64 kind, .string nm, .slice a attrs.length cap, .bool self, .string data] 34))
    have HA2 := Lib.hid (A.AttrsAt.alloc HA1.out (.cells #[.int .i64 kind, .string nm, .slice a attrs.length cap, .bool self, .string data] 34))
    clear HB1 HW1 HA1
    go_upto_region 2 with fail
    obtain ⟨w2, ew⟩ : ∃ w2, w2 = w1.alloc (.cells #[.int .i64 kind, .string nm, .slice a attrs.length cap, .bool self, .string data] 34) := ⟨_, rfl⟩
    rw [← ew] at HB2 HW2 HH2 HA2 ⊢
    clear ew
    obtain ⟨c0, c1, c2, c3, c4⟩ := row_of HH2.out
    obtain ⟨f0, f1, f2, f3, f4⟩ := free_of HW2.out
    obtain ⟨g0, g1, g2, g3, g4⟩ := row_of HW2.out
    go_wp2
    obtain ⟨wf, ewf, ⟨d0, d1, d2, d3, d4⟩, hbf, _⟩ := fin_tok kind nm data (.slice a attrs.length cap) self HW2.out HB2.out (Nat.le_refl _)
    have haf := attrs_s5 HA2.out HW2.out (.int .i64 kind) (.string nm) (.slice a attrs.length cap) (.bool self) (.string data)
    change bodyPost _ _ _ _ _ (S5 w2 w.heap.size (.int .i64 kind) (.string nm) (.slice a attrs.length cap) (.bool self) (.string data))
    rw [← ewf] at haf ⊢
    clear ewf c0 c1 c2 c3 c4 f0 f1 f2 f3 f4
    exact bodyPost_ret (v := .tuple #[tkV ⟨kind, nm, attrs, self, data⟩ a cap, .int .i64 (n : Nat), .bool ok]) (by simp [results, Tryz.results24, go_sem, tkV, d0, d1, d2, d3, d4]) rfl ⟨a, cap, HC.out, rfl, haf, hbf⟩
  | false =>
    obtain ⟨e1, e2, e3⟩ := mk_no f hb
    rw [e1, e2, e3]
    rw [rdT_no hb] at HR
    have HRm : Hid (∀ W, Below w.heap.size w W → Calls Tryz.prog 37 #[.string s, .bool f] W (RetMk (ofR (R.rem s.data.toList f)) (R.rem s.data.toList f).n (R.rem s.data.toList f).ok W)) :=
      Lib.hid (fun W hW => (R.read_any s f W (hM.below hW) hs).mono fun _ _ h => rem_mk h)
    clear e1 e2 e3 hb hM hT
    generalize (R.rem s.data.toList f).n = n at *
    generalize (R.rem s.data.toList f).ok = ok at *
    generalize ofR (R.rem s.data.toList f) = t at *
    obtain ⟨kind, nm, attrs, self, data⟩ := t
    go_enter Tryz.func24, Tryz.ntmps24
    go_wp2_with fail
    refine HR.out.mono ?_
    rintro e w1 ⟨a, cap, hcap, he, hat, hbl⟩
    unfold tkV ofT at he
    subst he
    have HB1 : Hid (Below w.heap.size w w1) := Lib.hid (HB.out.trans (hbl.mono HB.out.size))
    have HW1 := Lib.hid (heap_keep hbl HW.out)
    clear hbl hat hcap HB HW HR
    obtain ⟨w2, ew⟩ : ∃ w2, w2 = w1.alloc (.cells #[.int .i64 0, .string ⟨#[]⟩, .slice a 0 cap, .bool false, .string ⟨#[]⟩] 34) := ⟨_, rfl⟩
    have HB2 := Lib.hid (HB1.out.alloc HB1.out.size (.cells #[.int .i64 0, .string ⟨#[]⟩, .slice a 0 cap, .bool false, .string ⟨#[]⟩] 34))
    have HW2 := Lib.hid (heap_keep ((Below.refl w1.heap.size w1).alloc (Nat.le_refl _) (.cells #[.int .i64 0, .string ⟨#[]⟩, .slice a 0 cap, .bool false, .string ⟨#[]⟩] 34)) HW1.out)
    have HRm2 := Lib.hid (HRm.out _ HB2.out)
    clear HB1 HW1 HRm
    go_wp2_with fail
    refine HRm2.out.mono ?_
    rintro e w3 ⟨a', cap', hcap, he, hat, hbl⟩
    unfold tkV at he
    subst he
    have HB3 := A.below_step HB2 hbl
    have HW3 := Lib.hid (heap_keep hbl HW2.out)
    have HA3 : Hid (AttrsAt w3 a' attrs) := Lib.hid hat
    have HC : Hid (attrs.length ≤ cap') := Lib.hid hcap
    clear hbl hat hcap HB2 HW2 HRm2 ew
    obtain ⟨f0, f1, f2, f3, f4⟩ := free_of HW3.out
    obtain ⟨g0, g1, g2, g3, g4⟩ := row_of HW3.out
    go_wp2
    obtain ⟨wf, ewf, ⟨d0, d1, d2, d3, d4⟩, hbf, _⟩ := fin_tok kind nm data (.slice a' attrs.length cap') self HW3.out HB3.out (Nat.le_refl _)
    have haf := attrs_s5 HA3.out HW3.out (.int .i64 kind) (.string nm) (.slice a' attrs.length cap') (.bool self) (.string data)
    change bodyPost _ _ _ _ _ (S5 w3 w.heap.size (.int .i64 kind) (.string nm) (.slice a' attrs.length cap') (.bool self) (.string data))
    rw [← ewf] at haf ⊢
    clear ewf f0 f1 f2 f3 f4
    exact bodyPost_ret (v := .tuple #[tkV ⟨kind, nm, attrs, self, data⟩ a' cap', .int .i64 (n : Nat), .bool ok]) (by simp [results, Tryz.results24, go_sem, tkV, d0, d1, d2, d3, d4]) rfl ⟨a', cap', HC.out, rfl, haf, hbf⟩

theorem take3 (s : ByteArray) : (s.extract 0 (min s.size 3)).data.toList = s.data.toList.take 3 := by
  rw [C.ext_list, List.drop_zero]
  rcases Nat.le_total s.size 3 with h | h
  · rw [Nat.min_eq_left h, List.take_of_length_le (by rw [C.size_list]; exact Nat.le_refl _), List.take_of_length_le (by rw [C.size_list]; exact h)]
  · rw [Nat.min_eq_right h]
set_option maxHeartbeats 1600000 in
theorem begins_any (s : ByteArray) (w : World) (hT : StAt w) (hM : MaxAt w) (hs : s.size ≤ 10000) :
    Calls Tryz.prog 32 #[.string s] w fun e w' => e = .returned (.bool (mk s.data.toList)) ∧ Below w.heap.size w w' := by
  have HM := Lib.hid (marked_any (s.extract 0 (min s.size 3)) false w hT hM (by rw [ByteArray.size_extract]; omega))
  have hp : (0 < mkN (s.extract 0 (min s.size 3)).data.toList false) ↔ mk s.data.toList = true := by rw [mkN_pos, take3, mk_three]
  have HMn : Hid ((if s.size ≤ 3 then (s.size : Int) else 3) = ((min s.size 3 : Nat) : Int)) := Lib.hid (by split <;> omega)
  generalize hN : mkN (s.extract 0 (min s.size 3)).data.toList false = N at *
  generalize mkO (s.extract 0 (min s.size 3)).data.toList false = ok at *
  generalize mkT (s.extract 0 (min s.size 3)).data.toList false = t at *
  clear hN
  have hq : decide ((0 : Int) < (N : Nat)) = mk s.data.toList := by
    rw [Bool.eq_iff_iff, decide_eq_true_eq, ← hp]; omega
  obtain ⟨kind, nm, attrs, self, data⟩ := t
  have hm0 : min s.size 3 ≤ s.size := Nat.min_le_left _ _
  have hm3 : min (s.size : Int) 3 = ((min s.size 3 : Nat) : Int) := by omega
  generalize min s.size 3 = m at *
  have h1 : (0 : Int) ≤ (m : Int) := by omega
  have h2 : (m : Int) ≤ (s.size : Int) := by omega
  rw [← hq]
  clear hp hT hM HMn hq
  go_enter Tryz.func32, Tryz.ntmps32
  go_wp2_with fail
  refine HM.out.mono ?_
  rintro e w1 ⟨a, cap, hcap, he, hat, hbl⟩
  unfold tkV at he
  subst he
  go_wp2
  go_ret
  exact ⟨A.ret_bool (decide_eq_decide.2 (by omega)), hbl.alloc hbl.size _⟩
set_option maxHeartbeats 1600000 in
theorem text_any (d : ByteArray) (w : World) : Calls Tryz.prog 21 #[.string d] w fun e w' => e = .returned (tkV (txtL d) none 0) ∧ Below w.heap.size w w' := by
  have HH := heap_alloc_new w (.cells #[.int .i64 3, .string ⟨#[]⟩, .slice none 0 0, .bool false, .string d] 34)
  have hb : Below w.heap.size w (w.alloc (.cells #[.int .i64 3, .string ⟨#[]⟩, .slice none 0 0, .bool false, .string d] 34)) := (Below.refl _ _).alloc (Nat.le_refl _) _
  go_enter Tryz.func21, Tryz.ntmps21
  go_wp2
  obtain ⟨wf, ewf⟩ : ∃ wf, wf = w.alloc (.cells #[.int .i64 3, .string ⟨#[]⟩, .slice none 0 0, .bool false, .string d] 34) := ⟨_, rfl⟩
  rw [← ewf] at HH hb ⊢
  clear ewf
  obtain ⟨d0, d1, d2, d3, d4⟩ := row_of HH
  exact bodyPost_ret (v := tkV (txtL d) none 0) (by simp [results, Tryz.results21, go_sem, tkV, txtL, d0, d1, d2, d3, d4]) rfl ⟨rfl, hb⟩
set_option maxHeartbeats 1600000 in
theorem take_any (T : TypeId) (B : Nat) (s : ByteArray) (n : Nat) (w : World) (h : LB T w B s) (hn : n ≤ s.size) :
    Calls Tryz.prog 23 #[.pointer (some ⟨B, 0, none⟩), .int .i64 (n : Nat)] w fun e w' => e = .returned (.string (s.extract 0 n)) ∧ w.setCell ⟨B, 0, none⟩ (.string (s.extract n s.size)) = w' := by
  have c := h.c
  have f := h.fz
  have h1 : (0 : Int) ≤ (n : Int) := by omega
  have h2 : (n : Int) ≤ (s.size : Int) := by omega
  clear h
  go_enter Tryz.func23, Tryz.ntmps23
  go_wp2
  go_ret
  exact ⟨rfl, rfl⟩
end Go.Proofs.YtceelfomgcbkiaaGreatDoor
