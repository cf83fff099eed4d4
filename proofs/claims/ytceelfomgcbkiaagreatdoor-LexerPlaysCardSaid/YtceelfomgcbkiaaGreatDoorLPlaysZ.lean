/-
  The walk of LexerPlays.
-/
import Derived.Test.YtceelfomgcbkiaaGreatDoorLSameAllZ
import Derived.Test.YtceelfomgcbkiaaGreatDoorLStepsZ
import Derived.Deep.RegionHeld3
namespace Go.Proofs.YtceelfomgcbkiaaGreatDoor
open Go.RowKit
open Go.Proofs.YtceelfomgcbkiaaGreatDoor.A (At AttrsAt)
open Go.Proofs.YtceelfomgcbkiaaGreatDoor.R (row_of free_of heap_keep MaxAt)
open Go.Proofs.YtceelfomgcbkiaaGreatDoor.C (StAt)

/-- Both lexers, and a step, in memory. -/
def Two (w : World) (kb : Nat) (st : Int) (last : ByteArray) (fo : Bool) (x y : ByteArray) (W : World) : Prop :=
  Below w.heap.size w W ∧ LB 43 W w.heap.size x ∧ LB 28 W (w.heap.size + 1) y ∧ w.heap.size + 1 < kb ∧ W.heap[kb]? = some (.cells #[.int .i64 st, .string last, .bool fo] 30 (0, 0))
theorem Two.below {w : World} {kb : Nat} {st : Int} {last x y : ByteArray} {fo : Bool} {W W' : World} (h : Two w kb st last fo x y W) (hb : Below W.heap.size W W') : Two w kb st last fo x y W' :=
  ⟨h.1.trans (hb.mono h.1.size), h.2.1.below hb, h.2.2.1.below hb, h.2.2.2.1, heap_keep hb h.2.2.2.2⟩
theorem two_first {w : World} {kb : Nat} {st : Int} {last x y z : ByteArray} {fo : Bool} {t : LTok} {W W' : World} {e : Ending} (h : Two w kb st last fo x y W) (hr : RetNx 43 w.heap.size (t, z) W e W') :
    ∃ a cap, e = .returned (tkV t a cap) ∧ AttrsAt W' a t.attrs ∧ Two w kb st last fo z y W' := by
  obtain ⟨a, cap, _, rfl, hat, hl, hg⟩ := hr
  obtain ⟨h1, h2, h3, h4, h5⟩ := h
  exact ⟨a, cap, rfl, hat, grown_below h1 hg (Nat.le_refl _) (Nat.le_refl _), hl, h3.other hg (by omega), h4, (hg.block _ (Array.getElem?_eq_some_iff.1 h5).1 (fun e => by cases e; omega)).trans h5⟩
theorem two_second {w : World} {kb : Nat} {st : Int} {last x y z : ByteArray} {fo : Bool} {t : LTok} {W W' : World} {e : Ending} {a0 : Option Addr} (h : Two w kb st last fo x y W) (hA : AttrsAt W a0 t.attrs) (hr : RetNx 28 (w.heap.size + 1) (t, z) W e W') :
    ∃ a cap, e = .returned (tkV t a cap) ∧ AttrsAt W' a t.attrs ∧ AttrsAt W' a0 t.attrs ∧ Two w kb st last fo x z W' := by
  obtain ⟨a, cap, _, rfl, hat, hl, hg⟩ := hr
  obtain ⟨h1, h2, h3, h4, h5⟩ := h
  exact ⟨a, cap, rfl, hat, attrs_kept hA h3 hg, grown_below h1 hg (Nat.le_refl _) (Nat.le_succ _), h2.other hg (by omega), hl, h4, (hg.block _ (Array.getElem?_eq_some_iff.1 h5).1 (fun e => by cases e; omega)).trans h5⟩

/-- A condition that says more serves as well. -/
theorem held_weaken {P : Program} {md : Region.Mode} {ops : Array Oper} {Q : Exit → Act → World → Prop} {S S2 : World → Prop} (h2 : ∀ w, S2 w → S w) : ∀ (fuel : Nat) (listed : Array Bool) (a : Act) (w : World), wpAnyH P md ops Q S2 fuel listed a w → wpAnyH P md ops Q S fuel listed a w
  | 0, _, _, _, h => h
  | fuel + 1, _, _, _, h => ⟨h.1, fun i hi => wpOp_mono (fun a' w' h' => ⟨h2 w' h'.1, held_weaken h2 fuel _ a' w' h'.2⟩) (h.2 i hi)⟩
set_option maxRecDepth 100000 in
set_option maxHeartbeats 12800000 in
theorem plays_walk (s : ByteArray) (a : Option Addr) (cap : Nat) (l : List Sq) (w : World) (hT : StAt w) (hM : MaxAt w) (ws : s.size ≤ maxLen) (hcap : l.length ≤ cap) (hst : StepsAt w a l) :
    Calls Tryz.prog 3 #[.string s, .slice a l.length cap] w fun e w' => e = .returned (.bool true) ∧ Below w.heap.size w w' := by
  unfold maxLen at ws
  have HTM : Hid (∀ W, Below w.heap.size w W → StAt W ∧ MaxAt W) := Lib.hid (fun W h => ⟨hT.below h, hM.below h⟩)
  have HSt := Lib.hid hst
  by_cases h400 : 400 < s.size
  · have h4 : (400 : Int) < s.size := by omega
    have HA := Lib.hid (awake_any w hT hM)
    clear h400 hT hM hst
    go_enter Tryz.func3, Tryz.ntmps3
    go_wp2_with fail
    refine HA.out.mono ?_
    rintro e w1 ⟨rfl, hb⟩
    have HB := Lib.hid hb
    clear hb
    go_wp2
    go_ret
    exact ⟨rfl, HB.out⟩
  · have h4 : ¬ (400 : Int) < s.size := by omega
    have hs : s.size ≤ 10000 := by omega
    have hb1 : Below w.heap.size w (w.alloc (.cells #[.string s] 43)) := (Below.refl _ _).alloc (Nat.le_refl _) _
    have hz1 : (w.alloc (.cells #[.string s] 43)).heap.size = w.heap.size + 1 := by simp
    have hb2 : Below (w.alloc (.cells #[.string s] 43)).heap.size (w.alloc (.cells #[.string s] 43)) ((w.alloc (.cells #[.string s] 43)).alloc (.cells #[.string s] 28)) := (Below.refl _ _).alloc (Nat.le_refl _) _
    have HL0 : Hid (LB 43 ((w.alloc (.cells #[.string s] 43)).alloc (.cells #[.string s] 28)) w.heap.size s) := Lib.hid (LB.below (heap_alloc_new w _) hb2)
    have HR0 : Hid (LB 28 ((w.alloc (.cells #[.string s] 43)).alloc (.cells #[.string s] 28)) (w.heap.size + 1) s) := Lib.hid (by rw [← hz1]; exact heap_alloc_new _ _)
    have HB0 : Hid (Below w.heap.size w ((w.alloc (.cells #[.string s] 43)).alloc (.cells #[.string s] 28))) := Lib.hid (hb1.trans (hb2.mono hb1.size))
    clear h400 hT hM hst hb1 hb2 hz1
    go_enter Tryz.func3, Tryz.ntmps3
    go_wp2_with fail
    refine (new_any s w).mono ?_
    rintro e w0 ⟨rfl, rfl⟩
    go_wp2_with fail
    go_loopw [20] (fun v wr => ∃ (k : Nat) (s' : ByteArray), k ≤ l.length ∧ v = .int .i64 (k : Nat) ∧ LB 43 wr w.heap.size s' ∧ LB 28 wr (w.heap.size + 1) s' ∧ s'.size ≤ s.size ∧ Below w.heap.size w wr) (fun v _ => l.length - (intOf v).toNat)
    case atStart => exact ⟨0, s, Nat.zero_le _, rfl, HL0.out, HR0.out, Nat.le_refl _, HB0.out⟩
    case round =>
      obtain ⟨k, s', hk, rfl, hL, hR, hss, hB⟩ := hrel
      have HLr := Lib.hid hL
      have HRr := Lib.hid hR
      have HBr := Lib.hid hB
      have hs' : s'.size ≤ 10000 := Nat.le_trans hss hs
      clear hL hR hB HL0 HR0 HB0
      by_cases hlt : k < l.length
      · obtain ⟨b, off, rfl, hbk, hcl⟩ := HSt.out (fun e => by rw [e] at hlt; simp at hlt)
        obtain ⟨y1, y2, y3⟩ := hcl k hlt
        have x1 := (HBr.out.cell (p := ⟨b, off + k * 3, none⟩) hbk).trans y1
        have x2 := (HBr.out.cell (p := ⟨b, off + k * 3 + 1, none⟩) hbk).trans y2
        have x3 := (HBr.out.cell (p := ⟨b, off + k * 3 + 2, none⟩) hbk).trans y3
        clear hcl y1 y2 y3
        generalize l[k] = x at *
        obtain ⟨st, last, fo⟩ := x
        dsimp only at x1 x2 x3
        have hi1 : (0 : Int) ≤ (k : Int) := by omega
        have hi2 : (k : Int) < (l.length : Int) := by omega
        have hi3 : (k : Int) ≤ (cap : Int) := by omega
        have hbx : Below wr.heap.size wr (wr.alloc (.cells #[.int .i64 st, .string last, .bool fo] 30)) := (Below.refl _ _).alloc (Nat.le_refl _) _
        have HTk : Hid (Two w wr.heap.size st last fo s' s' (wr.alloc (.cells #[.int .i64 st, .string last, .bool fo] 30))) := Lib.hid ⟨HBr.out.trans (hbx.mono HBr.out.size), HLr.out.below hbx, HRr.out.below hbx, HRr.out.lt, heap_alloc_new wr _⟩
        clear hbx HLr HRr HBr
        go_upto_region 7 with fail
        obtain ⟨wk, ew⟩ : ∃ wk, wk = wr.alloc (.cells #[.int .i64 st, .string last, .bool fo] 30) := ⟨_, rfl⟩
        rw [← ew] at HTk ⊢
        clear ew x1 x2 x3
        have c0 := cell_of_row wk wr.heap.size 0 _ _ (0, 0) HTk.out.2.2.2.2
        have c1 := cell_of_row wk wr.heap.size 1 _ _ (0, 0) HTk.out.2.2.2.2
        have c2 := cell_of_row wk wr.heap.size 2 _ _ (0, 0) HTk.out.2.2.2.2
        have HBk := Lib.hid HTk.out.1
        by_cases h40 : 40 ≤ k
        · have h5 : (40 : Int) ≤ (k : Int) := by omega
          clear h40
          go_wp2_with fail
          refine (awake_any _ (HTM.out _ HBk.out).1 (HTM.out _ HBk.out).2).mono ?_
          rintro e w7 ⟨rfl, hb⟩
          have HB7 := A.below_step HBk hb
          clear hb
          go_wp2
          go_ret
          exact ⟨rfl, HB7.out⟩
        · have h5 : ¬ (40 : Int) ≤ (k : Int) := by omega
          clear h40
          by_cases hl40 : 40 < last.size
          · have h6 : (40 : Int) < (last.size : Int) := by omega
            clear hl40
            go_wp2_with fail
            refine (awake_any _ (HTM.out _ HBk.out).1 (HTM.out _ HBk.out).2).mono ?_
            rintro e w7 ⟨rfl, hb⟩
            have HB7 := A.below_step HBk hb
            clear hb
            go_wp2
            go_ret
            exact ⟨rfl, HB7.out⟩
          · have h6 : ¬ (40 : Int) < (last.size : Int) := by omega
            have HX : Hid (∀ W y, Two w wr.heap.size st last fo s' y W → Calls Tryz.prog 8 #[.pointer (some ⟨w.heap.size, 0, none⟩), .int .i64 st, .string last, .bool fo] W fun e W' => ∃ a cap, e = .returned (tkV (nxL s' last st fo).1 a cap) ∧ AttrsAt W' a (nxL s' last st fo).1.attrs ∧ Two w wr.heap.size st last fo (nxL s' last st fo).2 y W') := Lib.hid (fun W y hW =>
              (next_any w.heap.size s' last st fo W hW.2.1 hs' (by omega) (fun w' hg => HTM.out _ (grown_below hW.1 hg (Nat.le_refl _) (Nat.le_refl _)))).mono fun e W' h => two_first hW h)
            have HY : Hid (∀ W x a0, Two w wr.heap.size st last fo x s' W → AttrsAt W a0 (nxL s' last st fo).1.attrs → Calls Tryz.prog 9 #[.pointer (some ⟨(w.heap.size + 1), 0, none⟩), .int .i64 st, .string last, .bool fo] W fun e W' => ∃ a cap, e = .returned (tkV (nxL s' last st fo).1 a cap) ∧ AttrsAt W' a (nxL s' last st fo).1.attrs ∧ AttrsAt W' a0 (nxL s' last st fo).1.attrs ∧ Two w wr.heap.size st last fo x (nxL s' last st fo).2 W') := Lib.hid (fun W x a0 hW hA =>
              (rnext_any (w.heap.size + 1) s' last st fo W hW.2.2.1 hs' (by omega)).mono fun e W' h => two_second hW hA h)
            have hz2 := nxL_size s' last st fo
            have hln := nxL_len s' last st fo
            clear hl40
            generalize nxL s' last st fo = r at *
            obtain ⟨⟨kind, nm, attrs, self, data⟩, s2⟩ := r
            have HS : Hid (∀ W a1 a2 c1 c2, Two w wr.heap.size st last fo s2 s2 W → AttrsAt W a1 attrs → AttrsAt W a2 attrs → Calls Tryz.prog 7 #[.agg #[.int .i64 kind, .string nm, .slice a1 attrs.length c1, .bool self, .string data], .agg #[.int .i64 kind, .string nm, .slice a2 attrs.length c2, .bool self, .string data]] W fun e W' => e = .returned (.bool true) ∧ Two w wr.heap.size st last fo s2 s2 W') := Lib.hid (fun W a1 a2 c1 c2 hW h1 h2 =>
              (lsame_any ⟨kind, nm, attrs, self, data⟩ a1 a2 c1 c2 W (by have h : attrs.length ≤ s'.size + 1 := hln; show attrs.length ≤ _; omega) h1 h2).mono fun e W' h => ⟨h.1, hW.below h.2⟩)
            have HLf : Hid (∀ W, Two w wr.heap.size st last fo s2 s2 W → Calls Tryz.prog 10 #[.pointer (some ⟨w.heap.size, 0, none⟩)] W fun e W' => e = .returned (.string s2) ∧ Two w wr.heap.size st last fo s2 s2 W') := Lib.hid (fun W hW => (left_any _ _ _ _ hW.2.1).mono fun e W' h => ⟨h.1, h.2 ▸ hW⟩)
            have HZ2 : Hid (s2.size ≤ s.size) := Lib.hid (Nat.le_trans hz2 hss)
            unfold tkV at HX HY
            dsimp only at HX HY
            clear hz2 hln
            have ht1 : Two w wr.heap.size st last fo s' s' wk.drew := HTk.out.below (Below.refl _ wk).drew
            have hk1 : wk.drew.heap[wr.heap.size]? = some (.cells #[.int .i64 st, .string last, .bool fo] 30 (0, 0)) := HTk.out.2.2.2.2
            clear HBk HTk
            go_upto_region 8 with fail
            refine wp_region_noPanic ?_
            refine wp_region_held_drew (S := fun w' => w'.cell? ⟨wr.heap.size, 0, none⟩ = some (.int .i64 st) ∧ w'.cell? ⟨wr.heap.size, 1, none⟩ = some (.string last) ∧ w'.cell? ⟨wr.heap.size, 2, none⟩ = some (.bool fo)) (by kernel_rfl) ⟨c0, c1, c2⟩ (fun hHeld => ?_)
            refine wpAnyH_take (i := 0) (oi := { dst := some 33, op := Op.move (Operand.tmp 5), type := 24, pos := "law.go:39", after := #[], guard := none }) (v := ?_) rfl (by kernel_rfl) (by kernel_rfl) (by kernel_rfl) (fun _ _ _ h => h) (Or.inl ⟨by rfl, ?_⟩) (by assumption) ?_
            rotate_left 1
            · intro w hSw
              try dsimp only at hSw
              go_simp
              try with_reducible rfl
            try simp only [Act.put, List.setIfInBounds_toArray, List.set_cons_zero, List.set_cons_succ]
            refine wpAnyH_take (i := 1) (oi := { dst := some 34, op := Op.fieldAddr 30 (Operand.tmp 8) 0, type := 0, pos := "law.go:39", after := #[], guard := none }) (v := ?_) rfl (by kernel_rfl) (by kernel_rfl) (by kernel_rfl) (fun _ _ _ h => h) (Or.inl ⟨by rfl, ?_⟩) (by assumption) ?_
            rotate_left 1
            · intro w hSw
              try dsimp only at hSw
              go_simp
              try with_reducible rfl
            try simp only [Act.put, List.setIfInBounds_toArray, List.set_cons_zero, List.set_cons_succ]
            refine wpAnyH_take (i := 2) (oi := { dst := some 35, op := Op.load 3 (Operand.tmp 34), type := 3, pos := "law.go:39", after := #[{ on := 1, ground := Ground.data }], guard := none }) (v := ?_) rfl (by kernel_rfl) (by kernel_rfl) (by kernel_rfl) (fun _ _ _ h => h) (Or.inl ⟨by rfl, ?_⟩) (by assumption) ?_
            rotate_left 1
            · intro w hSw
              try dsimp only at hSw
              go_simp
              try with_reducible rfl
            try simp only [Act.put, List.setIfInBounds_toArray, List.set_cons_zero, List.set_cons_succ]
            refine wpAnyH_take (i := 3) (oi := { dst := some 36, op := Op.fieldAddr 30 (Operand.tmp 8) 1, type := 0, pos := "law.go:39", after := #[], guard := none }) (v := ?_) rfl (by kernel_rfl) (by kernel_rfl) (by kernel_rfl) (fun _ _ _ h => h) (Or.inl ⟨by rfl, ?_⟩) (by assumption) ?_
            rotate_left 1
            · intro w hSw
              try dsimp only at hSw
              go_simp
              try with_reducible rfl
            try simp only [Act.put, List.setIfInBounds_toArray, List.set_cons_zero, List.set_cons_succ]
            refine wpAnyH_take (i := 4) (oi := { dst := some 37, op := Op.load 9 (Operand.tmp 36), type := 9, pos := "law.go:39", after := #[{ on := 3, ground := Ground.data }], guard := none }) (v := ?_) rfl (by kernel_rfl) (by kernel_rfl) (by kernel_rfl) (fun _ _ _ h => h) (Or.inl ⟨by rfl, ?_⟩) (by assumption) ?_
            rotate_left 1
            · intro w hSw
              try dsimp only at hSw
              go_simp
              try with_reducible rfl
            try simp only [Act.put, List.setIfInBounds_toArray, List.set_cons_zero, List.set_cons_succ]
            refine wpAnyH_take (i := 5) (oi := { dst := some 38, op := Op.fieldAddr 30 (Operand.tmp 8) 2, type := 0, pos := "law.go:39", after := #[], guard := none }) (v := ?_) rfl (by kernel_rfl) (by kernel_rfl) (by kernel_rfl) (fun _ _ _ h => h) (Or.inl ⟨by rfl, ?_⟩) (by assumption) ?_
            rotate_left 1
            · intro w hSw
              try dsimp only at hSw
              go_simp
              try with_reducible rfl
            try simp only [Act.put, List.setIfInBounds_toArray, List.set_cons_zero, List.set_cons_succ]
            refine wpAnyH_take (i := 6) (oi := { dst := some 39, op := Op.load 4 (Operand.tmp 38), type := 4, pos := "law.go:39", after := #[{ on := 5, ground := Ground.data }], guard := none }) (v := ?_) rfl (by kernel_rfl) (by kernel_rfl) (by kernel_rfl) (fun _ _ _ h => h) (Or.inl ⟨by rfl, ?_⟩) (by assumption) ?_
            rotate_left 1
            · intro w hSw
              try dsimp only at hSw
              go_simp
              try with_reducible rfl
            try simp only [Act.put, List.setIfInBounds_toArray, List.set_cons_zero, List.set_cons_succ]
            refine wpAnyH_take (i := 8) (oi := { dst := some 41, op := Op.move (Operand.tmp 6), type := 26, pos := "law.go:39", after := #[], guard := none }) (v := ?_) rfl (by kernel_rfl) (by kernel_rfl) (by kernel_rfl) (fun _ _ _ h => h) (Or.inl ⟨by rfl, ?_⟩) (by assumption) ?_
            rotate_left 1
            · intro w hSw
              try dsimp only at hSw
              go_simp
              try with_reducible rfl
            try simp only [Act.put, List.setIfInBounds_toArray, List.set_cons_zero, List.set_cons_succ]
            refine wpAnyH_take (i := 9) (oi := { dst := some 42, op := Op.fieldAddr 30 (Operand.tmp 8) 0, type := 0, pos := "law.go:39", after := #[], guard := none }) (v := ?_) rfl (by kernel_rfl) (by kernel_rfl) (by kernel_rfl) (fun _ _ _ h => h) (Or.inl ⟨by rfl, ?_⟩) (by assumption) ?_
            rotate_left 1
            · intro w hSw
              try dsimp only at hSw
              go_simp
              try with_reducible rfl
            try simp only [Act.put, List.setIfInBounds_toArray, List.set_cons_zero, List.set_cons_succ]
            refine wpAnyH_take (i := 10) (oi := { dst := some 43, op := Op.load 3 (Operand.tmp 42), type := 3, pos := "law.go:39", after := #[{ on := 9, ground := Ground.data }], guard := none }) (v := ?_) rfl (by kernel_rfl) (by kernel_rfl) (by kernel_rfl) (fun _ _ _ h => h) (Or.inl ⟨by rfl, ?_⟩) (by assumption) ?_
            rotate_left 1
            · intro w hSw
              try dsimp only at hSw
              go_simp
              try with_reducible rfl
            try simp only [Act.put, List.setIfInBounds_toArray, List.set_cons_zero, List.set_cons_succ]
            refine wpAnyH_take (i := 11) (oi := { dst := some 44, op := Op.fieldAddr 30 (Operand.tmp 8) 1, type := 0, pos := "law.go:39", after := #[], guard := none }) (v := ?_) rfl (by kernel_rfl) (by kernel_rfl) (by kernel_rfl) (fun _ _ _ h => h) (Or.inl ⟨by rfl, ?_⟩) (by assumption) ?_
            rotate_left 1
            · intro w hSw
              try dsimp only at hSw
              go_simp
              try with_reducible rfl
            try simp only [Act.put, List.setIfInBounds_toArray, List.set_cons_zero, List.set_cons_succ]
            refine wpAnyH_take (i := 12) (oi := { dst := some 45, op := Op.load 9 (Operand.tmp 44), type := 9, pos := "law.go:39", after := #[{ on := 11, ground := Ground.data }], guard := none }) (v := ?_) rfl (by kernel_rfl) (by kernel_rfl) (by kernel_rfl) (fun _ _ _ h => h) (Or.inl ⟨by rfl, ?_⟩) (by assumption) ?_
            rotate_left 1
            · intro w hSw
              try dsimp only at hSw
              go_simp
              try with_reducible rfl
            try simp only [Act.put, List.setIfInBounds_toArray, List.set_cons_zero, List.set_cons_succ]
            refine wpAnyH_take (i := 13) (oi := { dst := some 46, op := Op.fieldAddr 30 (Operand.tmp 8) 2, type := 0, pos := "law.go:39", after := #[], guard := none }) (v := ?_) rfl (by kernel_rfl) (by kernel_rfl) (by kernel_rfl) (fun _ _ _ h => h) (Or.inl ⟨by rfl, ?_⟩) (by assumption) ?_
            rotate_left 1
            · intro w hSw
              try dsimp only at hSw
              go_simp
              try with_reducible rfl
            try simp only [Act.put, List.setIfInBounds_toArray, List.set_cons_zero, List.set_cons_succ]
            refine wpAnyH_take (i := 14) (oi := { dst := some 47, op := Op.load 4 (Operand.tmp 46), type := 4, pos := "law.go:39", after := #[{ on := 13, ground := Ground.data }], guard := none }) (v := ?_) rfl (by kernel_rfl) (by kernel_rfl) (by kernel_rfl) (fun _ _ _ h => h) (Or.inl ⟨by rfl, ?_⟩) (by assumption) ?_
            rotate_left 1
            · intro w hSw
              try dsimp only at hSw
              go_simp
              try with_reducible rfl
            try simp only [Act.put, List.setIfInBounds_toArray, List.set_cons_zero, List.set_cons_succ]
            refine wpAnyH_ready (rs := [7]) (by kernel_rfl) (by simp) ?_
            refine AllReadyH.cons (o := { dst := some 40, op := Op.call { callee := Callee.value (Operand.func 8), args := #[Operand.tmp 33, Operand.tmp 35, Operand.tmp 37, Operand.tmp 39], argTypes := #[24, 3, 9, 4] }, type := 34, pos := "law.go:39", after := #[{ on := 0, ground := Ground.data }, { on := 2, ground := Ground.data }, { on := 4, ground := Ground.data }, { on := 6, ground := Ground.data }], guard := none }) rfl (fun K hK => ?_) AllReadyH.nil
            go_simp
            refine (HX.out _ _ ht1).mono ?_
            rintro e w4 ⟨a1, c1', rfl, hat1, ht4⟩
            have hk4 := ht4.2.2.2.2
            refine hK.out _ _ ⟨cell_of_row w4 _ 0 _ _ _ hk4, cell_of_row w4 _ 1 _ _ _ hk4, cell_of_row w4 _ 2 _ _ _ hk4⟩ (fun hHeld => ?_)
            clear hK K
            try simp only [Act.put, List.setIfInBounds_toArray, List.set_cons_zero, List.set_cons_succ]
            refine wpAnyH_ready (rs := [15]) (by kernel_rfl) (by simp) ?_
            refine AllReadyH.cons (o := { dst := some 48, op := Op.call { callee := Callee.value (Operand.func 9), args := #[Operand.tmp 41, Operand.tmp 43, Operand.tmp 45, Operand.tmp 47], argTypes := #[26, 3, 9, 4] }, type := 34, pos := "law.go:39", after := #[{ on := 8, ground := Ground.data }, { on := 10, ground := Ground.data }, { on := 12, ground := Ground.data }, { on := 14, ground := Ground.data }, { on := 7, ground := Ground.chain }], guard := none }) rfl (fun K hK => ?_) AllReadyH.nil
            go_simp
            refine (HY.out _ _ _ ht4 hat1).mono ?_
            rintro e w5 ⟨a2, c2', rfl, hat2, hat3, ht5⟩
            have hk5 := ht5.2.2.2.2
            refine hK.out _ _ ⟨cell_of_row w5 _ 0 _ _ _ hk5, cell_of_row w5 _ 1 _ _ _ hk5, cell_of_row w5 _ 2 _ _ _ hk5⟩ (fun hHeld => ?_)
            clear hK K
            try simp only [Act.put, List.setIfInBounds_toArray, List.set_cons_zero, List.set_cons_succ]
            refine wpAnyH_ready (rs := [16]) (by kernel_rfl) (by simp) ?_
            refine AllReadyH.cons (o := { dst := some 49, op := Op.call { callee := Callee.value (Operand.func 7), args := #[Operand.tmp 40, Operand.tmp 48], argTypes := #[34, 34] }, type := 4, pos := "law.go:39", after := #[{ on := 7, ground := Ground.data }, { on := 15, ground := Ground.data }, { on := 15, ground := Ground.chain }], guard := none }) rfl (fun K hK => ?_) AllReadyH.nil
            go_simp
            refine (HS.out _ _ _ _ _ ht5 hat3 hat2).mono ?_
            rintro e w6 ⟨rfl, ht6⟩
            have hk6 := ht6.2.2.2.2
            have cy := ht6.2.2.1.c
            refine hK.out _ _ ⟨cell_of_row w6 _ 0 _ _ _ hk6, cell_of_row w6 _ 1 _ _ _ hk6, cell_of_row w6 _ 2 _ _ _ hk6⟩ (fun hHeld => ?_)
            clear hK K
            try simp only [Act.put, List.setIfInBounds_toArray, List.set_cons_zero, List.set_cons_succ]
            refine held_weaken (S2 := fun w' => (w'.cell? ⟨wr.heap.size, 0, none⟩ = some (.int .i64 st) ∧ w'.cell? ⟨wr.heap.size, 1, none⟩ = some (.string last) ∧ w'.cell? ⟨wr.heap.size, 2, none⟩ = some (.bool fo)) ∧ w'.cell? ⟨w.heap.size + 1, 0, none⟩ = some (.string s2)) (fun _ h => h.1) _ _ _ _ ?_
            replace hHeld := And.intro hHeld cy
            refine wpAnyH_take (i := 17) (oi := { dst := some 50, op := Op.unOp UnOp.not 4 (Operand.tmp 49), type := 4, pos := "law.go:39", after := #[{ on := 16, ground := Ground.data }], guard := none }) (v := ?_) rfl (by kernel_rfl) (by kernel_rfl) (by kernel_rfl) (fun _ _ _ h => h) (Or.inl ⟨by rfl, ?_⟩) (by assumption) ?_
            rotate_left 1
            · intro w hSw
              try dsimp only at hSw
              go_simp
              try with_reducible rfl
            try simp only [Act.put, List.setIfInBounds_toArray, List.set_cons_zero, List.set_cons_succ]
            refine wpAnyH_take (i := 18) (oi := { dst := some 51, op := Op.move (Operand.tmp 50), type := 4, pos := "law.go:39", after := #[{ on := 17, ground := Ground.data }, { on := 16, ground := Ground.chain }], guard := none }) (v := ?_) rfl (by kernel_rfl) (by kernel_rfl) (by kernel_rfl) (fun _ _ _ h => h) (Or.inl ⟨by rfl, ?_⟩) (by assumption) ?_
            rotate_left 1
            · intro w hSw
              try dsimp only at hSw
              go_simp
              try with_reducible rfl
            try simp only [Act.put, List.setIfInBounds_toArray, List.set_cons_zero, List.set_cons_succ]
            refine wpAnyH_take (i := 19) (oi := { dst := some 52, op := Op.move (Operand.tmp 5), type := 24, pos := "law.go:39", after := #[{ on := 18, ground := Ground.guard }], guard := some (18, false) }) (v := ?_) rfl (by kernel_rfl) (by kernel_rfl) (by kernel_rfl) (fun _ _ _ h => h) (Or.inl ⟨by rfl, ?_⟩) (by assumption) ?_
            rotate_left 1
            · intro w hSw
              try dsimp only at hSw
              go_simp
              try with_reducible rfl
            try simp only [Act.put, List.setIfInBounds_toArray, List.set_cons_zero, List.set_cons_succ]
            refine wpAnyH_take (i := 21) (oi := { dst := some 54, op := Op.move (Operand.tmp 6), type := 26, pos := "law.go:39", after := #[{ on := 18, ground := Ground.guard }], guard := some (18, false) }) (v := ?_) rfl (by kernel_rfl) (by kernel_rfl) (by kernel_rfl) (fun _ _ _ h => h) (Or.inl ⟨by rfl, ?_⟩) (by assumption) ?_
            rotate_left 1
            · intro w hSw
              try dsimp only at hSw
              go_simp
              try with_reducible rfl
            try simp only [Act.put, List.setIfInBounds_toArray, List.set_cons_zero, List.set_cons_succ]
            refine wpAnyH_take (i := 22) (oi := { dst := some 55, op := Op.nilCheck (Operand.tmp 54), type := 0, pos := "law.go:39", after := #[{ on := 21, ground := Ground.data }, { on := 18, ground := Ground.guard }], guard := some (18, false) }) (v := ?_) rfl (by kernel_rfl) (by kernel_rfl) (by kernel_rfl) (fun _ _ _ h => h) (Or.inl ⟨by rfl, ?_⟩) (by assumption) ?_
            rotate_left 1
            · intro w hSw
              try dsimp only at hSw
              go_simp
              try with_reducible rfl
            try simp only [Act.put, List.setIfInBounds_toArray, List.set_cons_zero, List.set_cons_succ]
            refine wpAnyH_take (i := 23) (oi := { dst := some 56, op := Op.fieldAddr 28 (Operand.tmp 55) 0, type := 0, pos := "law.go:39", after := #[{ on := 22, ground := Ground.data }, { on := 18, ground := Ground.guard }], guard := some (18, false) }) (v := ?_) rfl (by kernel_rfl) (by kernel_rfl) (by kernel_rfl) (fun _ _ _ h => h) (Or.inl ⟨by rfl, ?_⟩) (by assumption) ?_
            rotate_left 1
            · intro w hSw
              try dsimp only at hSw
              go_simp
              try with_reducible rfl
            try simp only [Act.put, List.setIfInBounds_toArray, List.set_cons_zero, List.set_cons_succ]
            refine wpAnyH_take (i := 24) (oi := { dst := some 57, op := Op.load 9 (Operand.tmp 56), type := 9, pos := "law.go:39", after := #[{ on := 23, ground := Ground.data }, { on := 18, ground := Ground.guard }], guard := some (18, false) }) (v := ?_) rfl (by kernel_rfl) (by kernel_rfl) (by kernel_rfl) (fun _ _ _ h => h) (Or.inl ⟨by rfl, ?_⟩) (by assumption) ?_
            rotate_left 1
            · intro w hSw
              try dsimp only at hSw
              go_simp
              try with_reducible rfl
            try simp only [Act.put, List.setIfInBounds_toArray, List.set_cons_zero, List.set_cons_succ]
            refine wpAnyH_ready (rs := [20]) (by kernel_rfl) (by simp) ?_
            refine AllReadyH.cons (o := { dst := some 53, op := Op.call { callee := Callee.value (Operand.func 10), args := #[Operand.tmp 52], argTypes := #[24] }, type := 9, pos := "law.go:39", after := #[{ on := 19, ground := Ground.data }, { on := 18, ground := Ground.chain }, { on := 18, ground := Ground.guard }], guard := some (18, false) }) rfl (fun K hK => ?_) AllReadyH.nil
            go_simp
            refine (HLf.out _ ht6).mono ?_
            rintro e w7 ⟨rfl, ht7⟩
            have hk7 := ht7.2.2.2.2
            refine hK.out _ _ ⟨⟨cell_of_row w7 _ 0 _ _ _ hk7, cell_of_row w7 _ 1 _ _ _ hk7, cell_of_row w7 _ 2 _ _ _ hk7⟩, ht7.2.2.1.c⟩ (fun hHeld => ?_)
            clear hK K
            try simp only [Act.put, List.setIfInBounds_toArray, List.set_cons_zero, List.set_cons_succ]
            refine wpAnyH_take (i := 25) (oi := { dst := some 58, op := Op.binOp BinOp.neq 9 (Operand.tmp 53) (Operand.tmp 57) 9, type := 4, pos := "law.go:39", after := #[{ on := 20, ground := Ground.data }, { on := 24, ground := Ground.data }, { on := 18, ground := Ground.guard }], guard := some (18, false) }) (v := ?_) rfl (by kernel_rfl) (by kernel_rfl) (by kernel_rfl) (fun _ _ _ h => h) (Or.inl ⟨by rfl, ?_⟩) (by assumption) ?_
            rotate_left 1
            · intro w hSw
              try dsimp only at hSw
              go_simp
              try with_reducible rfl
            try simp only [Act.put, List.setIfInBounds_toArray, List.set_cons_zero, List.set_cons_succ]
            refine wpAnyH_take (i := 26) (oi := { dst := some 59, op := Op.pick (Operand.tmp 51) (Operand.const (Value.bool true)) (Operand.tmp 58), type := 4, pos := "law.go:39", after := #[{ on := 18, ground := Ground.data }, { on := 25, ground := Ground.data }], guard := none }) (v := ?_) rfl (by kernel_rfl) (by kernel_rfl) (by kernel_rfl) (fun _ _ _ h => h) (Or.inl ⟨by rfl, ?_⟩) (by assumption) ?_
            rotate_left 1
            · intro w hSw
              try dsimp only at hSw
              go_simp
              try with_reducible rfl
            try simp only [Act.put, List.setIfInBounds_toArray, List.set_cons_zero, List.set_cons_succ]
            refine wpAnyH_done (by kernel_rfl) ?_ _
            refine NoPanic.normal ?_
            go_wp2
            go_roundw
            case rel => exact ⟨k + 1, s2, by omega, by go_num, ht7.2.1, ht7.2.2.1, HZ2.out, ht7.1⟩
            case measure => simp [intOf]; omega
      · have hi2 : ¬ (k : Int) < (l.length : Int) := by omega
        go_wp2_with fail
        refine (awake_any _ (HTM.out _ HBr.out).1 (HTM.out _ HBr.out).2).mono ?_
        rintro e w7 ⟨rfl, hb⟩
        have HB7 := A.below_step HBr hb
        clear hb
        go_wp2
        go_ret
        exact ⟨rfl, HB7.out⟩
end Go.Proofs.YtceelfomgcbkiaaGreatDoor
