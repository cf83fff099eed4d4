/-
  The closures that tell what goes, and without, called with each of them. Written by gen_with.py.
-/
import Derived.Test.YtkkngflpmdcfjaaYEnd
import Derived.Laws.MakeOwn
import Derived.WalkKit
namespace Go.Proofs.Ytkkngflpmdcfjaa
open Go.RowKit

/-- A list of numbers in memory of its own. -/
def RetI (xs : List Int) (w : World) (e : Ending) (w' : World) : Prop := ∃ v, e = .returned v ∧ KR w' v xs ∧ (∀ g, v.ownBlock = some g → w.heap.size ≤ g) ∧ Below w.heap.size w w'
/-- What stays of the first k numbers of a list. -/
def woN (g : Nat → Int → Bool) (l : List Int) : Nat → List Int
  | 0 => []
  | k + 1 => woN g l k ++ (if g k (l.getD k 0) = true then [] else [l.getD k 0])
theorem woN_len (g : Nat → Int → Bool) (l : List Int) : ∀ k, (woN g l k).length ≤ k
  | 0 => Nat.le_refl _
  | k + 1 => by
    unfold woN
    have := woN_len g l k
    rw [List.length_append]
    split <;> simp <;> omega
theorem run_room (w : World) (c : Nat) (h : c ≤ 1000001) : (Instr.makeSlice 29 (.int .i64 0) (.int .i64 (c : Nat))).run Try.prog w = .ok (.slice (some ⟨w.heap.size, 0, none⟩) 0 c) (w.alloc (.cells (madeCells #[.int .i64 0] c) 3)) := by
  obtain ⟨i0, hi, hz0, hz1, hz2⟩ := info_parts int_info
  have hr := run_make (P := Try.prog) w 29 3 i0 _ Try.underlying29 hi hz0 .i64 .i64 0 c (by omega) (by omega) (by rw [hz2]; omega) (by omega)
  rw [hz1] at hr
  simp only [Int.toNat_natCast, Int.toNat_zero, Nat.mul_one] at hr
  exact hr
theorem room_kr (w : World) (c : Nat) (h : c ≤ 1000001) : KR (w.alloc (.cells (madeCells #[.int .i64 0] c) 3)) (.slice (some ⟨w.heap.size, 0, none⟩) 0 c) [] := by
  refine ⟨⟨rfl, .inr ⟨w.heap.size, c, _, rfl, Nat.zero_le _, heap_alloc_new w _, Nat.zero_le _, by unfold maxLen; omega, by rw [size_madeCells]; omega, by simp⟩⟩, okRow.alloc fun j u hu => ?_⟩
  unfold madeCells at hu
  rw [Array.getElem?_map] at hu
  cases hj : (Array.range c)[j]? with
  | none => rw [hj] at hu; cases hu
  | some q => rw [hj] at hu; exact ⟨0, by simpa [Nat.mod_one] using hu.symm⟩
theorem wpList_make_run {P : Program} (w : World) {ops : Array Oper} {rest : List Oper} {o : Oper} {a : Act} {Q : Exit → Act → World → Prop}
    (hg : o.guard = none) (l c : Operand) (t : TypeId) (hop : o.op = Op.makeSlice t l c) (vl vc : Value) (hl : a.eval l = vl) (hc : a.eval c = vc) (v : Value) (w' : World)
    (hr : (Instr.makeSlice t vl vc).run P w = .ok v w') (hK : wpList P ops Q rest (a.put o.dst v) w') : wpList P ops Q (o :: rest) a w := by
  refine wpList_plain hg fun K hK' => ?_
  unfold Oper.wp
  simp [execOp, hop, hl, hc, hr, Result.andThen]
  exact hK' _ _ hK
def clearG (f : Int) (at_ : Nat) (_ : Int) : Bool := decide (f - 1 ≤ (at_ : Int))
def pushG (c f : Int) (at_ : Nat) (_ : Int) : Bool := decide (3 ≤ c) && decide ((at_ : Int) = f)
def dropG (d : Int) (_ : Nat) (i : Int) : Bool := decide (0 ≤ d) && decide (i = d)
theorem clear1_any (at_ : Nat) (i f : Int) (B : Nat) (w : World) (hc : w.cell? ⟨B, 0, none⟩ = some (.int .i64 f)) (hf : 0 ≤ f ∧ f ≤ 1000000) :
    Calls Try.prog 122 #[.int .i64 at_, .int .i64 i, .pointer (some ⟨B, 0, none⟩)] w fun e w' => e = .returned (.bool (clearG f at_ i)) ∧ w' = w := by
  obtain ⟨f1, f2⟩ := hf
  unfold clearG
  by_cases h : f - 1 ≤ (at_ : Int)
  · rw [decide_eq_true h]
    go_enter Try.func122, Try.ntmps122
    go_wp2
    go_ret
    exact ⟨by first | rfl | (congr 2; simp; omega), rfl⟩
  · rw [decide_eq_false h]
    go_enter Try.func122, Try.ntmps122
    go_wp2
    go_ret
    exact ⟨by first | rfl | (congr 2; simp; omega), rfl⟩
theorem push1_any (at_ : Nat) (i c f : Int) (B C : Nat) (w : World) (hc : w.cell? ⟨B, 0, none⟩ = some (.int .i64 c)) (hf : w.cell? ⟨C, 0, none⟩ = some (.int .i64 f)) :
    Calls Try.prog 118 #[.int .i64 at_, .int .i64 i, .pointer (some ⟨B, 0, none⟩), .pointer (some ⟨C, 0, none⟩)] w fun e w' => e = .returned (.bool (pushG c f at_ i)) ∧ w' = w := by
  unfold pushG
  by_cases h : 3 ≤ c
  · have h3 : decide (3 ≤ c) = true := decide_eq_true h
    by_cases h2 : (at_ : Int) = f
    · have hb : ((at_ : Int) == f) = true := by simp [h2]
      have HR : Hid (decide ((at_ : Int) = f) = true) := Lib.hid (decide_eq_true h2)
      clear h2
      go_enter Try.func118, Try.ntmps118
      go_wp2
      go_ret
      exact ⟨by rw [h3, HR.out]; rfl, rfl⟩
    · have hb : ((at_ : Int) == f) = false := by simp [h2]
      have HR : Hid (decide ((at_ : Int) = f) = false) := Lib.hid (decide_eq_false h2)
      clear h2
      go_enter Try.func118, Try.ntmps118
      go_wp2
      go_ret
      exact ⟨by rw [h3, HR.out]; rfl, rfl⟩
  · have h3 : decide (3 ≤ c) = false := decide_eq_false h
    go_enter Try.func118, Try.ntmps118
    go_wp2
    go_ret
    exact ⟨by first | rfl | (rw [h3]; rfl), rfl⟩
theorem drop1_any (at_ : Nat) (i d : Int) (B : Nat) (w : World) (hc : w.cell? ⟨B, 0, none⟩ = some (.int .i64 d)) :
    Calls Try.prog 125 #[.int .i64 at_, .int .i64 i, .pointer (some ⟨B, 0, none⟩)] w fun e w' => e = .returned (.bool (dropG d at_ i)) ∧ w' = w := by
  unfold dropG
  by_cases h : 0 ≤ d
  · have h3 : decide (0 ≤ d) = true := decide_eq_true h
    by_cases h2 : i = d
    · have hb : (i == d) = true := by simp [h2]
      have HR : Hid (decide (i = d) = true) := Lib.hid (decide_eq_true h2)
      clear h2
      go_enter Try.func125, Try.ntmps125
      go_wp2
      go_ret
      exact ⟨by rw [h3, HR.out]; rfl, rfl⟩
    · have hb : (i == d) = false := by simp [h2]
      have HR : Hid (decide (i = d) = false) := Lib.hid (decide_eq_false h2)
      clear h2
      go_enter Try.func125, Try.ntmps125
      go_wp2
      go_ret
      exact ⟨by rw [h3, HR.out]; rfl, rfl⟩
  · have h3 : decide (0 ≤ d) = false := decide_eq_false h
    go_enter Try.func125, Try.ntmps125
    go_wp2
    go_ret
    exact ⟨by first | rfl | (rw [h3]; rfl), rfl⟩

set_option maxRecDepth 100000 in
set_option maxHeartbeats 2000000 in
theorem without_clear (a : Option Addr) (cap : Nat) (l : List Int) (f : Int) (B : Nat) (w : World) (hl : l.length ≤ 1000000) (hA : IntsAt w a l) (hB : B < w.heap.size) (hc : w.cell? ⟨B, 0, none⟩ = some (.int .i64 f)) (hf : 0 ≤ f ∧ f ≤ 1000000) :
    Calls Try.prog 119 #[.slice a l.length cap, .func (.func 122) #[] #[.pointer (some ⟨B, 0, none⟩)]] w (RetI (woN (clearG f) l l.length) w) := by
  have HL : Hid (∀ W (hW : Below w.heap.size w W) (k : Nat) (i : Int), Calls Try.prog 122 #[.int .i64 k, .int .i64 i, .pointer (some ⟨B, 0, none⟩)] W fun e w' => e = .returned (.bool (clearG f k i)) ∧ w' = W) := Lib.hid (fun W hW k i => clear1_any k i f B W ((hW.cell (p := ⟨B, 0, none⟩) hB).trans hc) hf)
  have HA := Lib.hid hA
  have hl2 : (l.length : Int) ≤ 1000000 := by omega
  have HM : Hid ((Instr.makeSlice 29 (.int .i64 0) (.int .i64 ((l.length : Int) + 1))).run Try.prog w = .ok (.slice (some ⟨w.heap.size, 0, none⟩) 0 (l.length + 1)) (w.alloc (.cells (madeCells #[.int .i64 0] (l.length + 1)) 3))) := Lib.hid (by
    have := run_room w (l.length + 1) (by omega)
    rw [Int.natCast_add] at this; exact this)
  have HK0 := Lib.hid (room_kr w (l.length + 1) (by omega))
  have HB0 := Lib.hid (below_box w (.cells (madeCells #[.int .i64 0] (l.length + 1)) 3))
  clear hA hc hB hf
  generalize clearG f = g at *
  go_enter Try.func119, Try.ntmps119
  go_wp2_with (at_make; refine wpList_make_run _ rfl _ _ _ rfl _ _ rfl rfl _ _ HM.out ?_)
  go_loopw [5, 14] (fun v5 v14 wr => ∃ k : Nat, k ≤ l.length ∧ v14 = .int .i64 k ∧ KR wr v5 (woN g l k) ∧ (∀ b, v5.ownBlock = some b → w.heap.size ≤ b) ∧ Below w.heap.size w wr) (fun _ v14 _ => l.length - (intOf v14).toNat)
  case atStart => exact ⟨0, Nat.zero_le _, rfl, HK0.out, fun b hb => (by cases hb; exact Nat.le_refl _), HB0.out⟩
  case round =>
    clear HM HK0 HB0
    obtain ⟨k, hk, rfl, hkr, ho, hb⟩ := hrel
    have HK := Lib.hid hkr
    have HO := Lib.hid ho
    have HB := Lib.hid hb
    obtain ⟨va, vc, ev, _, _, _, _⟩ := hkr.form
    subst ev
    have hwl := woN_len g l k
    clear hkr ho hb
    by_cases hlt : k < l.length
    · obtain ⟨b, off, rfl, hbl, hc⟩ := HA.out (fun e => by rw [e] at hlt; simp at hlt)
      have hcz := (HB.out.cell (p := ⟨b, off + k, none⟩) hbl).trans (hc k hlt)
      have HC := Lib.hid (HL.out wr HB.out k l[k])
      have hst : woN g l (k + 1) = woN g l k ++ (if g k l[k] = true then [] else [l[k]]) := by
        show woN g l k ++ (if g k (l.getD k 0) = true then [] else [l.getD k 0]) = _
        rw [List.getD_eq_getElem?_getD, List.getElem?_eq_getElem hlt]; rfl
      have HSt := Lib.hid hst
      have hi0 : (0 : Int) ≤ (k : Int) := by omega
      have hi1 : (k : Int) < (l.length : Int) := by omega
      clear hc hst
      generalize l[k] = z at *
      cases hg : g k z with
      | true =>
        rw [hg] at HC HSt
        rw [if_pos rfl, List.append_nil] at HSt
        generalize woN g l k = ys at *
        go_wp2_with fail
        refine HC.out.mono ?_
        rintro e w4 ⟨rfl, rfl⟩
        go_wp2
        go_roundw
        case rel => exact ⟨k + 1, by omega, by go_num, by rw [HSt.out]; exact HK.out, HO.out, HB.out⟩
        case measure => simp [intOf]; omega
      | false =>
        rw [hg] at HC HSt
        rw [if_neg (by decide)] at HSt
        generalize woN g l k = ys at *
        go_wp2_with fail
        refine HC.out.mono ?_
        rintro e w4 ⟨rfl, rfl⟩
        go_wp2_with (at_builtin; refine wpList_append_ints _ rfl _ _ rfl _ _ rfl (HK.out.alloc _) (some ⟨w4.heap.size, 0, none⟩) 1 [z] rfl (one_int w4 z) (by simp; omega) ?_; intro v2 w2 hk2 hgrow2 hat2)
        go_roundw
        case rel =>
          refine ⟨k + 1, by omega, by go_num, by rw [HSt.out]; exact hk2, fun j hj => ?_, (HB.out.alloc HB.out.size _).grown hgrow2 (by have := HB.out.size; simp; omega) HO.out⟩
          rcases hat2 with e | e
          · exact HO.out j (e ▸ hj)
          · rw [e] at hj; injection hj with hj; have := HB.out.size; simp at hj; omega
        case measure => simp [intOf]; omega
    · have e : k = l.length := by omega
      subst e
      go_wp2
      go_ret
      exact ⟨_, rfl, HK.out, HO.out, HB.out⟩

set_option maxRecDepth 100000 in
set_option maxHeartbeats 2000000 in
theorem without_push (a : Option Addr) (cap : Nat) (l : List Int) (c f : Int) (B C : Nat) (w : World) (hl : l.length ≤ 1000000) (hA : IntsAt w a l) (hB : B < w.heap.size) (hC : C < w.heap.size) (hc : w.cell? ⟨B, 0, none⟩ = some (.int .i64 c)) (hf : w.cell? ⟨C, 0, none⟩ = some (.int .i64 f)) :
    Calls Try.prog 119 #[.slice a l.length cap, .func (.func 118) #[] #[.pointer (some ⟨B, 0, none⟩), .pointer (some ⟨C, 0, none⟩)]] w (RetI (woN (pushG c f) l l.length) w) := by
  have HL : Hid (∀ W (hW : Below w.heap.size w W) (k : Nat) (i : Int), Calls Try.prog 118 #[.int .i64 k, .int .i64 i, .pointer (some ⟨B, 0, none⟩), .pointer (some ⟨C, 0, none⟩)] W fun e w' => e = .returned (.bool (pushG c f k i)) ∧ w' = W) := Lib.hid (fun W hW k i => push1_any k i c f B C W ((hW.cell (p := ⟨B, 0, none⟩) hB).trans hc) ((hW.cell (p := ⟨C, 0, none⟩) hC).trans hf))
  have HA := Lib.hid hA
  have hl2 : (l.length : Int) ≤ 1000000 := by omega
  have HM : Hid ((Instr.makeSlice 29 (.int .i64 0) (.int .i64 ((l.length : Int) + 1))).run Try.prog w = .ok (.slice (some ⟨w.heap.size, 0, none⟩) 0 (l.length + 1)) (w.alloc (.cells (madeCells #[.int .i64 0] (l.length + 1)) 3))) := Lib.hid (by
    have := run_room w (l.length + 1) (by omega)
    rw [Int.natCast_add] at this; exact this)
  have HK0 := Lib.hid (room_kr w (l.length + 1) (by omega))
  have HB0 := Lib.hid (below_box w (.cells (madeCells #[.int .i64 0] (l.length + 1)) 3))
  clear hA hc hB hf hC
  generalize pushG c f = g at *
  go_enter Try.func119, Try.ntmps119
  go_wp2_with (at_make; refine wpList_make_run _ rfl _ _ _ rfl _ _ rfl rfl _ _ HM.out ?_)
  go_loopw [5, 14] (fun v5 v14 wr => ∃ k : Nat, k ≤ l.length ∧ v14 = .int .i64 k ∧ KR wr v5 (woN g l k) ∧ (∀ b, v5.ownBlock = some b → w.heap.size ≤ b) ∧ Below w.heap.size w wr) (fun _ v14 _ => l.length - (intOf v14).toNat)
  case atStart => exact ⟨0, Nat.zero_le _, rfl, HK0.out, fun b hb => (by cases hb; exact Nat.le_refl _), HB0.out⟩
  case round =>
    clear HM HK0 HB0
    obtain ⟨k, hk, rfl, hkr, ho, hb⟩ := hrel
    have HK := Lib.hid hkr
    have HO := Lib.hid ho
    have HB := Lib.hid hb
    obtain ⟨va, vc, ev, _, _, _, _⟩ := hkr.form
    subst ev
    have hwl := woN_len g l k
    clear hkr ho hb
    by_cases hlt : k < l.length
    · obtain ⟨b, off, rfl, hbl, hc⟩ := HA.out (fun e => by rw [e] at hlt; simp at hlt)
      have hcz := (HB.out.cell (p := ⟨b, off + k, none⟩) hbl).trans (hc k hlt)
      have HC := Lib.hid (HL.out wr HB.out k l[k])
      have hst : woN g l (k + 1) = woN g l k ++ (if g k l[k] = true then [] else [l[k]]) := by
        show woN g l k ++ (if g k (l.getD k 0) = true then [] else [l.getD k 0]) = _
        rw [List.getD_eq_getElem?_getD, List.getElem?_eq_getElem hlt]; rfl
      have HSt := Lib.hid hst
      have hi0 : (0 : Int) ≤ (k : Int) := by omega
      have hi1 : (k : Int) < (l.length : Int) := by omega
      clear hc hst
      generalize l[k] = z at *
      cases hg : g k z with
      | true =>
        rw [hg] at HC HSt
        rw [if_pos rfl, List.append_nil] at HSt
        generalize woN g l k = ys at *
        go_wp2_with fail
        refine HC.out.mono ?_
        rintro e w4 ⟨rfl, rfl⟩
        go_wp2
        go_roundw
        case rel => exact ⟨k + 1, by omega, by go_num, by rw [HSt.out]; exact HK.out, HO.out, HB.out⟩
        case measure => simp [intOf]; omega
      | false =>
        rw [hg] at HC HSt
        rw [if_neg (by decide)] at HSt
        generalize woN g l k = ys at *
        go_wp2_with fail
        refine HC.out.mono ?_
        rintro e w4 ⟨rfl, rfl⟩
        go_wp2_with (at_builtin; refine wpList_append_ints _ rfl _ _ rfl _ _ rfl (HK.out.alloc _) (some ⟨w4.heap.size, 0, none⟩) 1 [z] rfl (one_int w4 z) (by simp; omega) ?_; intro v2 w2 hk2 hgrow2 hat2)
        go_roundw
        case rel =>
          refine ⟨k + 1, by omega, by go_num, by rw [HSt.out]; exact hk2, fun j hj => ?_, (HB.out.alloc HB.out.size _).grown hgrow2 (by have := HB.out.size; simp; omega) HO.out⟩
          rcases hat2 with e | e
          · exact HO.out j (e ▸ hj)
          · rw [e] at hj; injection hj with hj; have := HB.out.size; simp at hj; omega
        case measure => simp [intOf]; omega
    · have e : k = l.length := by omega
      subst e
      go_wp2
      go_ret
      exact ⟨_, rfl, HK.out, HO.out, HB.out⟩

set_option maxRecDepth 100000 in
set_option maxHeartbeats 2000000 in
theorem without_drop (a : Option Addr) (cap : Nat) (l : List Int) (d : Int) (B : Nat) (w : World) (hl : l.length ≤ 1000000) (hA : IntsAt w a l) (hB : B < w.heap.size) (hc : w.cell? ⟨B, 0, none⟩ = some (.int .i64 d)) :
    Calls Try.prog 119 #[.slice a l.length cap, .func (.func 125) #[] #[.pointer (some ⟨B, 0, none⟩)]] w (RetI (woN (dropG d) l l.length) w) := by
  have HL : Hid (∀ W (hW : Below w.heap.size w W) (k : Nat) (i : Int), Calls Try.prog 125 #[.int .i64 k, .int .i64 i, .pointer (some ⟨B, 0, none⟩)] W fun e w' => e = .returned (.bool (dropG d k i)) ∧ w' = W) := Lib.hid (fun W hW k i => drop1_any k i d B W ((hW.cell (p := ⟨B, 0, none⟩) hB).trans hc))
  have HA := Lib.hid hA
  have hl2 : (l.length : Int) ≤ 1000000 := by omega
  have HM : Hid ((Instr.makeSlice 29 (.int .i64 0) (.int .i64 ((l.length : Int) + 1))).run Try.prog w = .ok (.slice (some ⟨w.heap.size, 0, none⟩) 0 (l.length + 1)) (w.alloc (.cells (madeCells #[.int .i64 0] (l.length + 1)) 3))) := Lib.hid (by
    have := run_room w (l.length + 1) (by omega)
    rw [Int.natCast_add] at this; exact this)
  have HK0 := Lib.hid (room_kr w (l.length + 1) (by omega))
  have HB0 := Lib.hid (below_box w (.cells (madeCells #[.int .i64 0] (l.length + 1)) 3))
  clear hA hc hB
  generalize dropG d = g at *
  go_enter Try.func119, Try.ntmps119
  go_wp2_with (at_make; refine wpList_make_run _ rfl _ _ _ rfl _ _ rfl rfl _ _ HM.out ?_)
  go_loopw [5, 14] (fun v5 v14 wr => ∃ k : Nat, k ≤ l.length ∧ v14 = .int .i64 k ∧ KR wr v5 (woN g l k) ∧ (∀ b, v5.ownBlock = some b → w.heap.size ≤ b) ∧ Below w.heap.size w wr) (fun _ v14 _ => l.length - (intOf v14).toNat)
  case atStart => exact ⟨0, Nat.zero_le _, rfl, HK0.out, fun b hb => (by cases hb; exact Nat.le_refl _), HB0.out⟩
  case round =>
    clear HM HK0 HB0
    obtain ⟨k, hk, rfl, hkr, ho, hb⟩ := hrel
    have HK := Lib.hid hkr
    have HO := Lib.hid ho
    have HB := Lib.hid hb
    obtain ⟨va, vc, ev, _, _, _, _⟩ := hkr.form
    subst ev
    have hwl := woN_len g l k
    clear hkr ho hb
    by_cases hlt : k < l.length
    · obtain ⟨b, off, rfl, hbl, hc⟩ := HA.out (fun e => by rw [e] at hlt; simp at hlt)
      have hcz := (HB.out.cell (p := ⟨b, off + k, none⟩) hbl).trans (hc k hlt)
      have HC := Lib.hid (HL.out wr HB.out k l[k])
      have hst : woN g l (k + 1) = woN g l k ++ (if g k l[k] = true then [] else [l[k]]) := by
        show woN g l k ++ (if g k (l.getD k 0) = true then [] else [l.getD k 0]) = _
        rw [List.getD_eq_getElem?_getD, List.getElem?_eq_getElem hlt]; rfl
      have HSt := Lib.hid hst
      have hi0 : (0 : Int) ≤ (k : Int) := by omega
      have hi1 : (k : Int) < (l.length : Int) := by omega
      clear hc hst
      generalize l[k] = z at *
      cases hg : g k z with
      | true =>
        rw [hg] at HC HSt
        rw [if_pos rfl, List.append_nil] at HSt
        generalize woN g l k = ys at *
        go_wp2_with fail
        refine HC.out.mono ?_
        rintro e w4 ⟨rfl, rfl⟩
        go_wp2
        go_roundw
        case rel => exact ⟨k + 1, by omega, by go_num, by rw [HSt.out]; exact HK.out, HO.out, HB.out⟩
        case measure => simp [intOf]; omega
      | false =>
        rw [hg] at HC HSt
        rw [if_neg (by decide)] at HSt
        generalize woN g l k = ys at *
        go_wp2_with fail
        refine HC.out.mono ?_
        rintro e w4 ⟨rfl, rfl⟩
        go_wp2_with (at_builtin; refine wpList_append_ints _ rfl _ _ rfl _ _ rfl (HK.out.alloc _) (some ⟨w4.heap.size, 0, none⟩) 1 [z] rfl (one_int w4 z) (by simp; omega) ?_; intro v2 w2 hk2 hgrow2 hat2)
        go_roundw
        case rel =>
          refine ⟨k + 1, by omega, by go_num, by rw [HSt.out]; exact hk2, fun j hj => ?_, (HB.out.alloc HB.out.size _).grown hgrow2 (by have := HB.out.size; simp; omega) HO.out⟩
          rcases hat2 with e | e
          · exact HO.out j (e ▸ hj)
          · rw [e] at hj; injection hj with hj; have := HB.out.size; simp at hj; omega
        case measure => simp [intOf]; omega
    · have e : k = l.length := by omega
      subst e
      go_wp2
      go_ret
      exact ⟨_, rfl, HK.out, HO.out, HB.out⟩
end Go.Proofs.Ytkkngflpmdcfjaa
