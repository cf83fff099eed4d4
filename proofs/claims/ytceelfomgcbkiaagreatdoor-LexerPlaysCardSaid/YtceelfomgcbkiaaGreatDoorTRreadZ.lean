/-
  The walk of the document's own Read (by gen_rread.py).
-/
import Derived.Test.YtceelfomgcbkiaaGreatDoorTRattZ
import Derived.Deep.Onto
import Derived.Deep.CutBlock
import Derived.Deep.DeepCutAuto
namespace Go.Proofs.YtceelfomgcbkiaaGreatDoor.T
open Go.RowKit
open Go.Proofs.YtceelfomgcbkiaaGreatDoor.I (spC spI leI rspace_any rletter_any lowS rlower_any)
open Go.Proofs.YtceelfomgcbkiaaGreatDoor.A (At AttrsAt clA addL below_step atV radd_any)

/-- The world in which the document's Read begins, its kind laid. -/
def R2 (w : World) (k : Nat) : World := (w.alloc (.cells #[.int .i64 0, .string ⟨#[]⟩, .slice none 0 0, .bool false, .string ⟨#[]⟩] 34)).alloc (.cells #[.int .i64 (k : Int), .string ⟨#[]⟩, .slice none 0 0, .bool false, .string ⟨#[]⟩] 34)
theorem r2_size (w : World) (k : Nat) : (R2 w k).heap.size = w.heap.size + 2 := by simp [R2]
theorem r2_below (w : World) (k : Nat) : Below w.heap.size w (R2 w k) := ((Below.refl _ _).alloc (Nat.le_refl _) _).alloc (by simp) _
theorem r2_tok (w : World) (k : Nat) : (R2 w k).heap[w.heap.size]? = some (.cells tok0 34 (0, 0)) := by
  have h0 := heap_alloc_new w (.cells tok0 34)
  have h1 := (World.grownBy_alloc (w.alloc (.cells tok0 34)) (.cells #[.int .i64 (k : Int), .string ⟨#[]⟩, .slice none 0 0, .bool false, .string ⟨#[]⟩] 34) none).block w.heap.size (by simp) (by simp)
  exact h1.trans h0
theorem r2_kind (w : World) (k : Nat) : (R2 w k).heap[w.heap.size + 1]? = some (.cells #[.int .i64 (k : Int), .string ⟨#[]⟩, .slice none 0 0, .bool false, .string ⟨#[]⟩] 34 (0, 0)) := by
  have h := heap_alloc_new (w.alloc (.cells tok0 34)) (.cells #[.int .i64 (k : Int), .string ⟨#[]⟩, .slice none 0 0, .bool false, .string ⟨#[]⟩] 34)
  rw [show (w.alloc (.cells tok0 34)).heap.size = w.heap.size + 1 by simp] at h
  exact h
theorem stopN_nat (c : UInt8) : stopN c = (!spI (c.toNat : Int) && ((c.toNat : Int) != 47) && ((c.toNat : Int) != 62)) := by
  unfold stopN; rw [ne_nat, ne_nat]; rfl
/-- The result's cells, once stored. -/
theorem fin_tok {w W : World} (v0 v1 v2 v3 v4 : Value) (hb : Below w.heap.size w W) (ht : W.heap[w.heap.size]? = some (.cells tok0 34 (0, 0))) :
    (S5 W w.heap.size v0 v1 v2 v3 v4).heap[w.heap.size]? = some (.cells #[v0, v1, v2, v3, v4] 34 (0, 0)) ∧ Below w.heap.size w (S5 W w.heap.size v0 v1 v2 v3 v4) :=
  ⟨s5_heap v0 v1 v2 v3 v4 ht, hb.grown (s5_grown W w.heap.size v0 v1 v2 v3 v4) hb.size (fun j hj => by cases hj; exact Nat.le_refl _)⟩
theorem rdT_no {s : ByteArray} (h : begins s.data.toList = false) : noTok 0 = rdT s.data.toList := by
  unfold rdT; rw [if_neg (by rw [h]; decide)]; rfl
/-- What the document's Read makes of what goes_through found. -/
def outT (s : ByteArray) (k : Nat) (nm : ByteArray) : Option (List At × Bool × Nat) → Tok
  | none => noTok s.size
  | some (xs, sf, n) => if k = 2 then ⟨2, nm, [], false, n, true⟩ else ⟨1, nm, xs, sf, n, true⟩
theorem rdT_yes {s : ByteArray} {k : Nat} (hk : fromB s.data.toList = k) (hb : begins s.data.toList = true) (hk2 : k = 1 ∨ k = 2) :
    rdT s.data.toList = outT s k (lowS (cut s.data.toList k (run stopN s.data.toList k))) (tg s.data.toList (s.data.toList.length + 1) (run stopN s.data.toList k) []) := by
  unfold rdT
  rw [if_pos hb]
  have e : nmE s.data.toList = run stopN s.data.toList k := by unfold nmE; rw [hk]
  rw [e, hk]
  cases tg s.data.toList (s.data.toList.length + 1) (run stopN s.data.toList k) [] with
  | none => show (⟨0, ByteArray.empty, [], false, s.data.toList.length, false⟩ : Tok) = noTok s.size; rw [C.size_list]; rfl
  | some r =>
    obtain ⟨xs, sf, n⟩ := r
    rcases hk2 with rfl | rfl <;> rfl

/-- What holds at each round of the loop over the attributes. -/
def Rl (w : World) (s : ByteArray) (k ne : Nat) (nm : ByteArray) (F g : Nat) (v : Value) (wr : World) : Prop :=
  ∃ (i : Nat) (acc : List At) (a : Option Addr) (cap : Nat), v = .int .i64 (i : Int) ∧ tg s.data.toList F ne [] = tg s.data.toList g i acc ∧ s.size - i < g ∧ i ≤ s.size ∧ acc.length ≤ i ∧ acc.length ≤ cap ∧
    wr.heap[w.heap.size]? = some (.cells tok0 34 (0, 0)) ∧ wr.heap[w.heap.size + 1]? = some (.cells #[.int .i64 (k : Int), .string nm, .slice a acc.length cap, .bool false, .string ⟨#[]⟩] 34 (0, 0)) ∧
    wr.ownsRow (w.heap.size + 2) 51 2 (.slice a acc.length cap) acc.length (clA acc) ∧ Below w.heap.size w wr
theorem rl_next {w wr : World} {s : ByteArray} {k ne F g i : Nat} {nm : ByteArray} {v : Value} {acc : List At} {a : Option Addr} {cap : Nat} (h : tg s.data.toList F ne [] = tg s.data.toList g i acc) (hv : v = .int .i64 (i : Int)) (h1 : s.size - i < g) (h2 : i ≤ s.size) (h3 : acc.length ≤ i) (h4 : acc.length ≤ cap)
    (hT : wr.heap[w.heap.size]? = some (.cells tok0 34 (0, 0))) (hK : wr.heap[w.heap.size + 1]? = some (.cells #[.int .i64 (k : Int), .string nm, .slice a acc.length cap, .bool false, .string ⟨#[]⟩] 34 (0, 0)))
    (hO : wr.ownsRow (w.heap.size + 2) 51 2 (.slice a acc.length cap) acc.length (clA acc)) (hB : Below w.heap.size w wr) : Rl w s k ne nm F g v wr :=
  ⟨i, acc, a, cap, hv, h, h1, h2, h3, h4, hT, hK, hO, hB⟩
theorem rl_start {w w2 : World} {s : ByteArray} {k ne F : Nat} {nm : ByteArray} {x : Value} (h1 : s.size - ne < F) (h2 : ne ≤ s.size) (hB : Below w.heap.size w w2)
    (hT : w2.heap[w.heap.size]? = some (.cells tok0 34 (0, 0))) (hK : w2.heap[w.heap.size + 1]? = some (.cells #[.int .i64 (k : Int), x, .slice none 0 0, .bool false, .string ⟨#[]⟩] 34 (0, 0))) (_ : w.heap.size + 2 ≤ w2.heap.size) :
    Rl w s k ne nm F F (.int .i64 (ne : Int)) (w2.setCell ⟨w.heap.size + 1, 1, none⟩ (.string nm)) := by
  refine ⟨ne, [], none, 0, rfl, rfl, h1, h2, Nat.zero_le _, Nat.le_refl _, ?_, ?_, ?_, ?_⟩
  · rw [heap_setCell_other w2 ⟨w.heap.size + 1, 1, none⟩ w.heap.size _ (by show w.heap.size ≠ w.heap.size + 1; omega)]; exact hT
  · exact heap_setCell_same w2 (w.heap.size + 1) 1 _ _ _ hK
  · exact World.ownsRow_nil _ _ _ _
  · exact hB.grown (grown_set w2 (w.heap.size + 1) 1 _) hB.size (fun j hj => by cases hj; omega)
theorem var_at {w wr : World} {k : Int} {nm : ByteArray} {a : Option Addr} {acc : List At} {cap : Nat} (an av : ByteArray)
    (hT : wr.heap[w.heap.size]? = some (.cells tok0 34 (0, 0))) (hK : wr.heap[w.heap.size + 1]? = some (.cells #[.int .i64 k, .string nm, .slice a acc.length cap, .bool false, .string ⟨#[]⟩] 34 (0, 0)))
    (hO : wr.ownsRow (w.heap.size + 2) 51 2 (.slice a acc.length cap) acc.length (clA acc)) (hB : Below w.heap.size w wr) :
    (wr.alloc (.cells #[.string an, .string av] 51)).heap[w.heap.size]? = some (.cells tok0 34 (0, 0)) ∧ (wr.alloc (.cells #[.string an, .string av] 51)).heap[w.heap.size + 1]? = some (.cells #[.int .i64 k, .string nm, .slice a acc.length cap, .bool false, .string ⟨#[]⟩] 34 (0, 0)) ∧
    (wr.alloc (.cells #[.string an, .string av] 51)).ownsRow (w.heap.size + 2) 51 2 (.slice a acc.length cap) acc.length (clA acc) ∧ Below w.heap.size w (wr.alloc (.cells #[.string an, .string av] 51)) ∧ (wr.alloc (.cells #[.string an, .string av] 51)).heap[wr.heap.size]? = some (.cells #[.string an, .string av] 51 (0, 0)) := by
  have h : Below wr.heap.size wr (wr.alloc (.cells #[.string an, .string av] 51)) := (Below.refl _ _).alloc (Nat.le_refl _) _
  exact ⟨heap_keep h hT, heap_keep h hK, A.own_below hO h, hB.alloc hB.size _, heap_alloc_new wr _⟩
theorem add_len (l : List At) (x : At) : (addL l x).length ≤ l.length + 1 := by
  rcases A.add_own l x with h | h
  · rw [h]; omega
  · rw [h, List.length_append]; exact Nat.le_refl _
theorem World.size_lt_of {w : World} {b : Nat} {o : Obj} (h : w.heap[b]? = some o) : b < w.heap.size := (Array.getElem?_eq_some_iff.1 h).1
theorem rl_add {w w4 w5 : World} {s : ByteArray} {k ne F g n : Nat} {nm : ByteArray} {acc : List At} {a : Option Addr} {cap : Nat} {x : Value} (h : tg s.data.toList F ne [] = tg s.data.toList g n acc) (h1 : s.size - n < g) (h2 : n ≤ s.size) (h3 : acc.length ≤ n) (h4 : acc.length ≤ cap)
    (hT : w5.heap[w.heap.size]? = some (.cells tok0 34 (0, 0))) (hK : w5.heap[w.heap.size + 1]? = some (.cells #[.int .i64 (k : Int), .string nm, x, .bool false, .string ⟨#[]⟩] 34 (0, 0)))
    (hO : w5.ownsRow w4.heap.size 51 2 (.slice a acc.length cap) acc.length (clA acc)) (hz : w.heap.size + 1 < w4.heap.size) (hB : Below w.heap.size w w5) :
    Rl w s k ne nm F g (.int .i64 (n : Int)) (w5.setCell ⟨w.heap.size + 1, 2, none⟩ (.slice a acc.length cap)) := by
  refine ⟨n, acc, a, cap, rfl, h, h1, h2, h3, h4, ?_, heap_setCell_same w5 (w.heap.size + 1) 2 _ _ _ hK, (hO.kept (grown_set w5 (w.heap.size + 1) 2 _) (.inr (fun e => by have := (hO.lt _ e).1; omega))).mono (by omega), hB.grown (grown_set w5 (w.heap.size + 1) 2 _) hB.size (fun j hj => by cases hj; omega)⟩
  rw [heap_setCell_other w5 ⟨w.heap.size + 1, 2, none⟩ w.heap.size _ (by show w.heap.size ≠ w.heap.size + 1; omega)]; exact hT
theorem fin_self {w wr : World} {k : Int} {nm : ByteArray} {a : Option Addr} {acc : List At} {cap : Nat} (x : Value)
    (hT : wr.heap[w.heap.size]? = some (.cells tok0 34 (0, 0))) (hK : wr.heap[w.heap.size + 1]? = some (.cells #[.int .i64 k, .string nm, .slice a acc.length cap, .bool false, .string ⟨#[]⟩] 34 (0, 0)))
    (hO : wr.ownsRow (w.heap.size + 2) 51 2 (.slice a acc.length cap) acc.length (clA acc)) (hB : Below w.heap.size w wr) :
    (wr.setCell ⟨w.heap.size + 1, 3, none⟩ x).heap[w.heap.size]? = some (.cells tok0 34 (0, 0)) ∧ (wr.setCell ⟨w.heap.size + 1, 3, none⟩ x).heap[w.heap.size + 1]? = some (.cells #[.int .i64 k, .string nm, .slice a acc.length cap, x, .string ⟨#[]⟩] 34 (0, 0)) ∧
    (wr.setCell ⟨w.heap.size + 1, 3, none⟩ x).ownsRow (w.heap.size + 2) 51 2 (.slice a acc.length cap) acc.length (clA acc) ∧ Below w.heap.size w (wr.setCell ⟨w.heap.size + 1, 3, none⟩ x) := by
  refine ⟨?_, heap_setCell_same wr (w.heap.size + 1) 3 _ _ _ hK, hO.kept (grown_set wr (w.heap.size + 1) 3 x) (.inr (fun e => by have := (hO.lt _ e).1; omega)), hB.grown (grown_set wr (w.heap.size + 1) 3 x) hB.size (fun j hj => by cases hj; omega)⟩
  rw [heap_setCell_other wr ⟨w.heap.size + 1, 3, none⟩ w.heap.size _ (by show w.heap.size ≠ w.heap.size + 1; omega)]; exact hT
theorem fin_nil {w wr : World} {k : Int} {nm : ByteArray} {a : Option Addr} {acc : List At} {cap : Nat} {x : Value}
    (hT : wr.heap[w.heap.size]? = some (.cells tok0 34 (0, 0))) (hK : wr.heap[w.heap.size + 1]? = some (.cells #[.int .i64 k, .string nm, .slice a acc.length cap, x, .string ⟨#[]⟩] 34 (0, 0)))
    (_ : wr.ownsRow (w.heap.size + 2) 51 2 (.slice a acc.length cap) acc.length (clA acc)) (hB : Below w.heap.size w wr) :
    (wr.setCell ⟨w.heap.size + 1, 2, none⟩ (.slice none 0 0)).heap[w.heap.size]? = some (.cells tok0 34 (0, 0)) ∧ (wr.setCell ⟨w.heap.size + 1, 2, none⟩ (.slice none 0 0)).heap[w.heap.size + 1]? = some (.cells #[.int .i64 k, .string nm, .slice none 0 0, x, .string ⟨#[]⟩] 34 (0, 0)) ∧
    (wr.setCell ⟨w.heap.size + 1, 2, none⟩ (.slice none 0 0)).ownsRow (w.heap.size + 2) 51 2 (.slice none 0 0) ([] : List At).length (clA []) ∧ Below w.heap.size w (wr.setCell ⟨w.heap.size + 1, 2, none⟩ (.slice none 0 0)) := by
  refine ⟨?_, heap_setCell_same wr (w.heap.size + 1) 2 _ _ _ hK, World.ownsRow_nil _ _ _ _, hB.grown (grown_set wr (w.heap.size + 1) 2 _) hB.size (fun j hj => by cases hj; omega)⟩
  rw [heap_setCell_other wr ⟨w.heap.size + 1, 2, none⟩ w.heap.size _ (by show w.heap.size ≠ w.heap.size + 1; omega)]; exact hT

set_option maxRecDepth 100000 in
set_option maxHeartbeats 6400000 in
theorem rread_any (s : ByteArray) (w : World) (hs : s.size ≤ 10000) : Calls Tryz.prog 28 #[.string s] w (RetTok (rdT s.data.toList) w) := by
  obtain ⟨q, hq⟩ : ∃ q, q = hitB s 1 47 := ⟨_, rfl⟩
  have HQ := Lib.hid hq
  clear hq
  have HK : Hid (fromB s.data.toList = (bif q then 2 else 1)) := Lib.hid (by
    have h := HQ.out
    cases q
    · exact from_one h.symm
    · exact from_two h.symm)
  go_enter Tryz.func28, Tryz.ntmps28
  go_upto_region 2 with fail
  go_cut [19] (fun v w' => v = .bool q ∧ w' = (w.alloc (.cells #[.int .i64 0, .string ⟨#[]⟩, .slice none 0 0, .bool false, .string ⟨#[]⟩] 34)).alloc (.cells #[.int .i64 1, .string ⟨#[]⟩, .slice none 0 0, .bool false, .string ⟨#[]⟩] 34))
  case first =>
    by_cases h : 1 < s.size
    · have b1 := s[1].toNat_lt
      have HE : Hid (((s[1].toNat : Int) == 47) = q) := Lib.hid (by rw [HQ.out, hitB_lt h]; rfl)
      go_wp2
      go_meet
      exact ⟨congrArg Value.bool HE.out, rfl⟩
    · have HE : Hid (false = q) := Lib.hid (by rw [HQ.out, hitB_end (by omega)])
      go_wp2
      go_meet
      exact ⟨congrArg Value.bool HE.out, rfl⟩
  case rest =>
    obtain ⟨rfl, rfl⟩ := hcut
    go_upto_if 19 with fail
    go_cut [6] (fun v w' => v = .int .i64 ((bif q then 2 else 1 : Nat) : Int) ∧ w' = R2 w (bif q then 2 else 1))
    case first =>
      clear HQ HK
      cases q
      · go_wp2
        go_meet
        exact ⟨rfl, rfl⟩
      · go_wp2
        go_meet
        exact ⟨rfl, rfl⟩
    case rest =>
      obtain ⟨rfl, hw⟩ := hcut
      have hk2 : (bif q then 2 else 1 : Nat) = 1 ∨ (bif q then 2 else 1 : Nat) = 2 := by cases q; exact .inl rfl; exact .inr rfl
      have hkl : (bif q then 2 else 1 : Nat) ≤ 2 := by omega
      have hkg : 1 ≤ (bif q then 2 else 1 : Nat) := by omega
      have HK2 := Lib.hid hk2
      generalize (bif q then 2 else 1 : Nat) = k at *
      obtain ⟨w1, ew⟩ : ∃ w1, w1 = wc := ⟨_, rfl⟩
      subst ew
      have HT1 : Hid (w1.heap[w.heap.size]? = some (.cells tok0 34 (0, 0))) := Lib.hid (by rw [hw]; exact r2_tok w k)
      have HK1 : Hid (w1.heap[w.heap.size + 1]? = some (.cells #[.int .i64 (k : Int), .string ⟨#[]⟩, .slice none 0 0, .bool false, .string ⟨#[]⟩] 34 (0, 0))) := Lib.hid (by rw [hw]; exact r2_kind w k)
      have HB1 : Hid (Below w.heap.size w w1) := Lib.hid (by rw [hw]; exact r2_below w k)
      have HS1 : Hid (w1.heap.size = w.heap.size + 2) := Lib.hid (by rw [hw]; exact r2_size w k)
      clear hw hk2 HQ
      obtain ⟨nb, hnb⟩ : ∃ nb, nb = !begins s.data.toList := ⟨_, rfl⟩
      have HNB := Lib.hid hnb
      clear hnb
      go_upto_region 4 with fail
      go_cut [36] (fun v w' => v = .bool nb ∧ w1 = w')
      case first =>
        by_cases hl : k < s.size
        · have h0l : 0 < s.size := by omega
          have b0 := s[0].toNat_lt
          have hd : decide (s.size ≤ k) = false := by simpa using hl
          by_cases h0 : hitB s 0 60 = true
          · have HE : Hid ((!leI (s[k].toNat : Int)) = nb) := Lib.hid (by rw [HNB.out, begins_at HK.out h0 hl])
            have e60 : ((s[0].toNat : Int) == 60) = true := by rw [hitB_lt h0l] at h0; exact h0
            have n60 : ((s[0].toNat : Int) != 60) = false := by rw [bne, e60]; rfl
            have bk := s[k].toNat_lt
            have HL := Lib.hid (fun W => rletter_any (s[k].toNat : Int) W (by omega) (by omega))
            generalize leI (s[k].toNat : Int) = le at *
            clear h0
            go_wp2_with (go_at_call 46; refine (HL.out _).mono ?_; rintro e w' ⟨rfl, rfl⟩)
            go_meet
            exact ⟨congrArg Value.bool HE.out, rfl⟩
          · have h0' : hitB s 0 60 = false := by simpa using h0
            have HE : Hid (true = nb) := Lib.hid (by rw [HNB.out, begins_no h0']; rfl)
            have e60 : ((s[0].toNat : Int) == 60) = false := by rw [hitB_lt h0l] at h0'; exact h0'
            have n60 : ((s[0].toNat : Int) != 60) = true := by rw [bne, e60]; rfl
            clear h0 h0'
            go_wp2
            go_meet
            exact ⟨congrArg Value.bool HE.out, rfl⟩
        · have HE : Hid (true = nb) := Lib.hid (by rw [HNB.out, begins_short (by rw [HK.out]; omega)]; rfl)
          have hd : decide (s.size ≤ k) = true := by simpa using hl
          go_wp2
          go_meet
          exact ⟨congrArg Value.bool HE.out, rfl⟩
      case rest =>
        obtain ⟨rfl, rfl⟩ := hcut
        cases nb with
        | true =>
          have HF : Hid (noTok 0 = rdT s.data.toList) := Lib.hid (rdT_no (by have h := HNB.out; cases hb : begins s.data.toList; rfl; rw [hb] at h; cases h))
          clear HNB HK HK2
          have b0 : w1.cell? ⟨w.heap.size, 0, none⟩ = some (.int .i64 0) := cell_of_row w1 w.heap.size 0 _ _ (0, 0) HT1.out
          have b1 : w1.cell? ⟨w.heap.size, 1, none⟩ = some (.string ⟨#[]⟩) := cell_of_row w1 w.heap.size 1 _ _ (0, 0) HT1.out
          have b2 : w1.cell? ⟨w.heap.size, 2, none⟩ = some (.slice none 0 0) := cell_of_row w1 w.heap.size 2 _ _ (0, 0) HT1.out
          have b3 : w1.cell? ⟨w.heap.size, 3, none⟩ = some (.bool false) := cell_of_row w1 w.heap.size 3 _ _ (0, 0) HT1.out
          have b4 : w1.cell? ⟨w.heap.size, 4, none⟩ = some (.string ⟨#[]⟩) := cell_of_row w1 w.heap.size 4 _ _ (0, 0) HT1.out
          have f0 := frozen_of_row w1 w.heap.size 0 _ _ HT1.out
          have f1 := frozen_of_row w1 w.heap.size 1 _ _ HT1.out
          have f2 := frozen_of_row w1 w.heap.size 2 _ _ HT1.out
          have f3 := frozen_of_row w1 w.heap.size 3 _ _ HT1.out
          have f4 := frozen_of_row w1 w.heap.size 4 _ _ HT1.out
          have HFin := Lib.hid (fin_tok (.int .i64 0) (.string ByteArray.empty) (.slice none 0 0) (.bool false) (.string ByteArray.empty) HB1.out HT1.out)
          go_wp2
          change bodyPost _ _ _ _ _ (S5 w1 w.heap.size _ _ _ _ _)
          clear b0 b1 b2 b3 b4 f0 f1 f2 f3 f4
          obtain ⟨wf, ewf⟩ : ∃ wf, wf = S5 w1 w.heap.size (.int .i64 0) (.string ByteArray.empty) (.slice none 0 0) (.bool false) (.string ByteArray.empty) := ⟨_, rfl⟩
          rw [← ewf] at HFin
          have d0 := cell_of_row wf w.heap.size 0 _ _ (0, 0) HFin.out.1
          have d1 := cell_of_row wf w.heap.size 1 _ _ (0, 0) HFin.out.1
          have d2 := cell_of_row wf w.heap.size 2 _ _ (0, 0) HFin.out.1
          have d3 := cell_of_row wf w.heap.size 3 _ _ (0, 0) HFin.out.1
          have d4 := cell_of_row wf w.heap.size 4 _ _ (0, 0) HFin.out.1
          show bodyPost _ _ _ _ _ (S5 w1 w.heap.size (.int .i64 0) (.string ByteArray.empty) (.slice none 0 0) (.bool false) (.string ByteArray.empty))
          rw [← ewf]
          clear ewf
          refine bodyPost_ret (v := .tuple #[tokV (noTok 0) none 0, .int .i64 ((noTok 0).n : Int), .bool (noTok 0).ok]) (by simp [results, Tryz.results28, go_sem, tokV, noTok, d0, d1, d2, d3, d4]) rfl ?_
          exact ret_tok HF.out (Nat.zero_le _) (A.AttrsAt.nil _ _) HFin.out.2
        | false =>
          have HBg : Hid (begins s.data.toList = true) := Lib.hid (by have h := HNB.out; cases hb : begins s.data.toList; rw [hb] at h; cases h; rfl)
          have hkl : k < s.size := by
            rcases Nat.lt_or_ge k s.size with h | h
            · exact h
            · have h2 := HBg.out; rw [begins_short (by rw [HK.out]; exact h)] at h2; cases h2
          have HR := Lib.hid (rdT_yes HK.out HBg.out HK2.out)
          clear HNB HBg HK
          obtain ⟨ne, hne⟩ : ∃ ne, ne = run stopN s.data.toList k := ⟨_, rfl⟩
          rw [← hne] at HR
          have hnl : ne ≤ s.size := by have := run_le stopN s.data.toList k (by rw [C.size_list]; omega); rw [C.size_list] at this; omega
          have hng : k ≤ ne := by have := run_ge stopN s.data.toList k; omega
          have HNE := Lib.hid hne
          clear hne
          rw [cut_of] at HR
          go_upto_block 0 with fail
          go_cut [6] (fun v w' => v = .int .i64 (ne : Int) ∧ w1 = w')
          case first =>
            have HY : Hid (∀ j (hl : j < s.size), stopN s[j] = true → run stopN s.data.toList j = run stopN s.data.toList (j + 1)) := Lib.hid (fun j hl hp => run_yes (by rw [C.size_list]; exact hl) hp)
            have HN : Hid (∀ j (hl : j < s.size), stopN s[j] = false → run stopN s.data.toList j = j) := Lib.hid (fun j hl hp => run_no (by rw [C.size_list]; exact hl) hp)
            have HE := Lib.hid (fun j => run_end stopN s.data.toList j)
            obtain ⟨r, hr⟩ : ∃ r : Nat → Nat, r = run stopN s.data.toList := ⟨_, rfl⟩
            rw [← hr] at HY HN HE HNE
            clear hr HR HT1 HK1 HB1 HS1
            go_wp2
            go_loop [6] (fun v => ∃ j : Nat, k ≤ j ∧ j ≤ s.size ∧ v = .int .i64 j ∧ r k = r j) (fun v => s.size - (intOf v).toNat)
            case atStart => exact ⟨k, Nat.le_refl _, by omega, rfl, rfl⟩
            case round =>
              obtain ⟨j, hj0, hj, rfl, hh⟩ := hrel
              have HH := Lib.hid hh
              clear hh
              by_cases hst : ∃ h : j < s.size, stopN s[j] = true
              · obtain ⟨hjt, hst⟩ := hst
                have hbj := s[j].toNat_lt
                have HF : Hid (r k = r (j + 1)) := Lib.hid (by rw [HH.out, HY.out j hjt hst])
                have HSp := Lib.hid (fun W => rspace_any (s[j].toNat : Int) W (by omega) (by omega))
                rw [stopN_nat] at hst
                simp only [Bool.and_eq_true] at hst
                obtain ⟨⟨h1, n47⟩, n62⟩ := hst
                have h1' : spI (s[j].toNat : Int) = false := by simpa using h1
                rw [h1'] at HSp
                clear h1 h1'
                go_wp2_with (go_at_call 47; refine (HSp.out _).mono ?_; rintro e w' ⟨rfl, rfl⟩)
                go_round
                case rel => exact ⟨j + 1, by omega, by omega, by go_num, HF.out⟩
                case measure => simp [intOf]; omega
              · have HR : Hid (j = ne) := Lib.hid (by
                  by_cases h : j < s.size
                  · rw [HNE.out, HH.out, HN.out j h (by
                      by_cases h2 : stopN s[j] = true
                      · exact absurd ⟨h, h2⟩ hst
                      · simpa using h2)]
                  · rw [HNE.out, HH.out, HE.out j (by rw [C.size_list]; omega)])
                have hend : (¬ j < s.size) ∨ (∃ h : j < s.size, ((s[j].toNat : Int) != 47) = false) ∨ (∃ h : j < s.size, ((s[j].toNat : Int) != 47) = true ∧ ((s[j].toNat : Int) != 62) = false) ∨
                    (∃ h : j < s.size, ((s[j].toNat : Int) != 47) = true ∧ ((s[j].toNat : Int) != 62) = true ∧ spI (s[j].toNat : Int) = true) := by
                  by_cases h : j < s.size
                  · right
                    have h2 : stopN s[j] = false := by
                      by_cases h2 : stopN s[j] = true
                      · exact absurd ⟨h, h2⟩ hst
                      · simpa using h2
                    rw [stopN_nat] at h2
                    by_cases a1 : ((s[j].toNat : Int) != 47) = true
                    · by_cases a2 : ((s[j].toNat : Int) != 62) = true
                      · rw [a1, a2] at h2
                        exact .inr (.inr ⟨h, a1, a2, by simpa using h2⟩)
                      · exact .inr (.inl ⟨h, a1, by simpa using a2⟩)
                    · exact .inl ⟨h, by simpa using a1⟩
                  · exact .inl h
                clear hst HY HN HE HH HNE
                rcases hend with hjt | ⟨hjt, n47⟩ | ⟨hjt, n47, n62⟩ | ⟨hjt, n47, n62, hsp⟩
                · go_wp2
                  go_meet
                  exact ⟨by rw [HR.out], rfl⟩
                · have hbj := s[j].toNat_lt
                  go_wp2
                  go_meet
                  exact ⟨by rw [HR.out], rfl⟩
                · have hbj := s[j].toNat_lt
                  go_wp2
                  go_meet
                  exact ⟨by rw [HR.out], rfl⟩
                · have hbj := s[j].toNat_lt
                  have HSp := Lib.hid (fun W => rspace_any (s[j].toNat : Int) W (by omega) (by omega))
                  rw [hsp] at HSp
                  clear hsp
                  go_wp2_with (go_at_call 47; refine (HSp.out _).mono ?_; rintro e w' ⟨rfl, rfl⟩)
                  go_meet
                  exact ⟨by rw [HR.out], rfl⟩
          case rest =>
            obtain ⟨rfl, rfl⟩ := hcut
            clear HNE
            have HLw := Lib.hid (rlower_any (s.extract k ne) w1 (by rw [ByteArray.size_extract]; unfold maxLen; omega))
            generalize lowS (s.extract k ne) = nm at *
            have hk0 : (0 : Int) ≤ (k : Int) := by omega
            have hk1 : (k : Int) ≤ (ne : Int) := by omega
            have hk3 : (ne : Int) ≤ (s.size : Int) := by omega
            go_wp2_with fail
            refine HLw.out.mono ?_
            rintro e w2 ⟨rfl, hbl⟩
            have HT2 : Hid (w2.heap[w.heap.size]? = some (.cells tok0 34 (0, 0))) := Lib.hid (heap_keep hbl HT1.out)
            have HK2' : Hid (w2.heap[w.heap.size + 1]? = some (.cells #[.int .i64 (k : Int), .string ⟨#[]⟩, .slice none 0 0, .bool false, .string ⟨#[]⟩] 34 (0, 0))) := Lib.hid (heap_keep hbl HK1.out)
            have HB2 := below_step HB1 hbl
            have c1 := cell_of_row w2 (w.heap.size + 1) 1 _ _ (0, 0) HK2'.out
            have f1 := frozen_of_row w2 (w.heap.size + 1) 1 _ _ HK2'.out
            simp only [List.getElem?_toArray, List.getElem?_cons_zero, List.getElem?_cons_succ] at c1
            clear hbl HLw
            obtain ⟨F, hF⟩ : ∃ F, F = s.data.toList.length + 1 := ⟨_, rfl⟩
            rw [← hF] at HR
            have hF2 : s.size - ne < F := by rw [hF, C.size_list]; omega
            clear hF
            have HS := Lib.hid (rl_start (k := k) (nm := nm) hF2 hnl HB2.out HT2.out HK2'.out (by have := HB1.out.size; have h1 := HS1.out; have h2 := HB2.out.size; have := (Array.getElem?_eq_some_iff.1 HK2'.out).1; omega))
            clear HT1 HK1 HB1 HS1 HT2 HK2' HB2
            go_wp2_with fail
            go_loopg [6] F (fun g v wr => Rl w s k ne nm F g v wr)
            case atStart => exact HS.out
            case round =>
              obtain ⟨i, acc, a, cap, rfl, hR, hg, hi, hac, hcap, hT, hK, hO, hB⟩ := hrel
              clear HS c1 f1
              have HTr := Lib.hid hT
              have HKr := Lib.hid hK
              have HOr := Lib.hid hO
              have HBr := Lib.hid hB
              obtain ⟨f, hf⟩ : ∃ f, gk = f + 1 := ⟨gk - 1, by omega⟩
              have HSt := Lib.hid (hR.trans ((congrArg (fun g => tg s.data.toList g i acc) hf).trans (tg_step s.data.toList f i acc)))
              have hf1 : f < gk := by omega
              have hf2 : gk ≤ f + 1 := by omega
              clear hT hK hO hB hf hR
              have hk1g := run_ge spC s.data.toList i
              have hk1l := run_le spC s.data.toList i (by rw [C.size_list]; omega)
              rw [C.size_list] at hk1l
              have HSk := Lib.hid (fun W => skip_any s i W (by omega) (by omega))
              obtain ⟨k1, ek⟩ : ∃ k1, k1 = skp s.data.toList i := ⟨_, rfl⟩
              have hk1g' : i ≤ k1 := by rw [ek]; exact hk1g
              have hk1l' : k1 ≤ s.size := by rw [ek]; exact hk1l
              rw [← ek] at HSt HSk
              clear hk1g hk1l ek
              by_cases hlt : k1 < s.size
              · have hd : decide (s.size ≤ k1) = false := by simpa using hlt
                have b1 := s[k1].toNat_lt
                by_cases h62 : hitB s k1 62 = true
                · have HX : Hid (tg s.data.toList F ne [] = some (acc, false, k1 + 1)) := Lib.hid (by rw [HSt.out, if_neg (by rw [hitB_iff.1 h62]; exact fun h => by cases h), if_pos (hitB_iff.1 h62)])
                  have e62 : ((s[k1].toNat : Int) == 62) = true := by rw [hitB_lt hlt] at h62; exact h62
                  have e47 : ((s[k1].toNat : Int) == 47) = false := by rw [beq_iff_eq] at e62; rw [e62]; rfl
                  clear HSt h62
                  rcases HK2.out with rfl | rfl
                  · have HF : Hid ((⟨1, nm, acc, false, k1 + 1, true⟩ : Tok) = rdT s.data.toList) := Lib.hid (by rw [HR.out, HX.out]; rfl)
                    clear HX HR
                    have c0 : wr.cell? ⟨w.heap.size + 1, 0, none⟩ = some (.int .i64 1) := cell_of_row wr (w.heap.size + 1) 0 _ _ (0, 0) HKr.out
                    have c3 : wr.cell? ⟨w.heap.size + 1, 3, none⟩ = some (.bool false) := cell_of_row wr (w.heap.size + 1) 3 _ _ (0, 0) HKr.out
                    have f3 := frozen_of_row wr (w.heap.size + 1) 3 _ _ HKr.out
                    go_upto_region 15 with (go_at_call 49; refine (HSk.out _).mono ?_; rintro e w' ⟨rfl, rfl⟩)
                    have HZ := Lib.hid (fin_self (.bool false) HTr.out HKr.out HOr.out HBr.out)
                    clear c0 c3 f3 HTr HKr HOr HBr
                    obtain ⟨wx, ewx⟩ : ∃ wx, wx = wr.setCell ⟨w.heap.size + 1, 3, none⟩ (.bool false) := ⟨_, rfl⟩
                    rw [← ewx] at HZ ⊢
                    clear ewx
                    have HTx := Lib.hid HZ.out.1
                    have HKx := Lib.hid HZ.out.2.1
                    have HOx := Lib.hid HZ.out.2.2.1
                    have HBx := Lib.hid HZ.out.2.2.2
                    clear HZ
                    have c0 : wx.cell? ⟨w.heap.size + 1, 0, none⟩ = some (.int .i64 1) := cell_of_row wx (w.heap.size + 1) 0 _ _ (0, 0) HKx.out

                    have c1 : wx.cell? ⟨w.heap.size + 1, 1, none⟩ = some (.string nm) := cell_of_row wx (w.heap.size + 1) 1 _ _ (0, 0) HKx.out
                    have c2 : wx.cell? ⟨w.heap.size + 1, 2, none⟩ = some (.slice a acc.length cap) := cell_of_row wx (w.heap.size + 1) 2 _ _ (0, 0) HKx.out
                    have c3 : wx.cell? ⟨w.heap.size + 1, 3, none⟩ = some (.bool false) := cell_of_row wx (w.heap.size + 1) 3 _ _ (0, 0) HKx.out
                    have c4 : wx.cell? ⟨w.heap.size + 1, 4, none⟩ = some (.string ⟨#[]⟩) := cell_of_row wx (w.heap.size + 1) 4 _ _ (0, 0) HKx.out
                    have b0 : wx.cell? ⟨w.heap.size, 0, none⟩ = some (.int .i64 0) := cell_of_row wx w.heap.size 0 _ _ (0, 0) HTx.out
                    have b1 : wx.cell? ⟨w.heap.size, 1, none⟩ = some (.string ⟨#[]⟩) := cell_of_row wx w.heap.size 1 _ _ (0, 0) HTx.out
                    have b2 : wx.cell? ⟨w.heap.size, 2, none⟩ = some (.slice none 0 0) := cell_of_row wx w.heap.size 2 _ _ (0, 0) HTx.out
                    have b3 : wx.cell? ⟨w.heap.size, 3, none⟩ = some (.bool false) := cell_of_row wx w.heap.size 3 _ _ (0, 0) HTx.out
                    have b4 : wx.cell? ⟨w.heap.size, 4, none⟩ = some (.string ⟨#[]⟩) := cell_of_row wx w.heap.size 4 _ _ (0, 0) HTx.out
                    have f0 := frozen_of_row wx w.heap.size 0 _ _ HTx.out
                    have f1 := frozen_of_row wx w.heap.size 1 _ _ HTx.out
                    have f2 := frozen_of_row wx w.heap.size 2 _ _ HTx.out
                    have f3 := frozen_of_row wx w.heap.size 3 _ _ HTx.out
                    have f4 := frozen_of_row wx w.heap.size 4 _ _ HTx.out
                    have HFin := Lib.hid (fin_tok (.int .i64 1) (.string nm) (.slice a acc.length cap) (.bool false) (.string ⟨#[]⟩) HBx.out HTx.out)
                    have HAf := Lib.hid (own_at (l := acc) (HOx.out.kept (s5_grown wx w.heap.size (.int .i64 1) (.string nm) (.slice a acc.length cap) (.bool false) (.string ⟨#[]⟩)) (.inr (fun e => by have := (HOx.out.lt _ e).1; omega)))).1
                    go_wp2
                    change bodyPost _ _ _ _ _ (S5 wx w.heap.size _ _ _ _ _)
                    clear b0 b1 b2 b3 b4 f0 f1 f2 f3 f4 c0 c1 c2 c3 c4
                    obtain ⟨wf, ewf⟩ : ∃ wf, wf = S5 wx w.heap.size (.int .i64 1) (.string nm) (.slice a acc.length cap) (.bool false) (.string ⟨#[]⟩) := ⟨_, rfl⟩
                    rw [← ewf] at HFin HAf
                    have d0 := cell_of_row wf w.heap.size 0 _ _ (0, 0) HFin.out.1
                    have d1 := cell_of_row wf w.heap.size 1 _ _ (0, 0) HFin.out.1
                    have d2 := cell_of_row wf w.heap.size 2 _ _ (0, 0) HFin.out.1
                    have d3 := cell_of_row wf w.heap.size 3 _ _ (0, 0) HFin.out.1
                    have d4 := cell_of_row wf w.heap.size 4 _ _ (0, 0) HFin.out.1
                    show bodyPost _ _ _ _ _ (S5 wx w.heap.size (.int .i64 1) (.string nm) (.slice a acc.length cap) (.bool false) (.string ⟨#[]⟩))
                    rw [← ewf]
                    clear ewf
                    refine bodyPost_ret (v := .tuple #[tokV ⟨1, nm, acc, false, k1 + 1, true⟩ a cap, .int .i64 ((k1 + 1 : Nat) : Int), .bool true]) (by simp [results, Tryz.results28, go_sem, tokV, d0, d1, d2, d3, d4]; rfl) rfl ?_
                    exact ret_tok HF.out hcap HAf.out HFin.out.2
                  · have HF : Hid ((⟨2, nm, [], false, k1 + 1, true⟩ : Tok) = rdT s.data.toList) := Lib.hid (by rw [HR.out, HX.out]; rfl)
                    clear HX HR
                    have c0 : wr.cell? ⟨w.heap.size + 1, 0, none⟩ = some (.int .i64 2) := cell_of_row wr (w.heap.size + 1) 0 _ _ (0, 0) HKr.out
                    have c3 : wr.cell? ⟨w.heap.size + 1, 3, none⟩ = some (.bool false) := cell_of_row wr (w.heap.size + 1) 3 _ _ (0, 0) HKr.out
                    have f3 := frozen_of_row wr (w.heap.size + 1) 3 _ _ HKr.out
                    go_upto_region 15 with (go_at_call 49; refine (HSk.out _).mono ?_; rintro e w' ⟨rfl, rfl⟩)
                    have HZ := Lib.hid (fin_self (.bool false) HTr.out HKr.out HOr.out HBr.out)
                    clear c0 c3 f3 HTr HKr HOr HBr
                    obtain ⟨wx, ewx⟩ : ∃ wx, wx = wr.setCell ⟨w.heap.size + 1, 3, none⟩ (.bool false) := ⟨_, rfl⟩
                    rw [← ewx] at HZ ⊢
                    clear ewx
                    have HTx := Lib.hid HZ.out.1
                    have HKx := Lib.hid HZ.out.2.1
                    have HOx := Lib.hid HZ.out.2.2.1
                    have HBx := Lib.hid HZ.out.2.2.2
                    clear HZ
                    have c0 : wx.cell? ⟨w.heap.size + 1, 0, none⟩ = some (.int .i64 2) := cell_of_row wx (w.heap.size + 1) 0 _ _ (0, 0) HKx.out

                    have c2 : wx.cell? ⟨w.heap.size + 1, 2, none⟩ = some (.slice a acc.length cap) := cell_of_row wx (w.heap.size + 1) 2 _ _ (0, 0) HKx.out
                    have f2 := frozen_of_row wx (w.heap.size + 1) 2 _ _ HKx.out
                    go_upto_region 19 with fail
                    have HZ := Lib.hid (fin_nil HTx.out HKx.out HOx.out HBx.out)
                    clear c0 c2 f2 HTx HKx HOx HBx
                    obtain ⟨wy, ewy⟩ : ∃ wy, wy = wx.setCell ⟨w.heap.size + 1, 2, none⟩ (.slice none 0 0) := ⟨_, rfl⟩
                    rw [← ewy] at HZ ⊢
                    clear ewy
                    have HTx := Lib.hid HZ.out.1
                    have HKx := Lib.hid HZ.out.2.1
                    have HOx := Lib.hid HZ.out.2.2.1
                    have HBx := Lib.hid HZ.out.2.2.2
                    clear HZ
                    have c0 : wy.cell? ⟨w.heap.size + 1, 0, none⟩ = some (.int .i64 2) := cell_of_row wy (w.heap.size + 1) 0 _ _ (0, 0) HKx.out

                    have c1 : wy.cell? ⟨w.heap.size + 1, 1, none⟩ = some (.string nm) := cell_of_row wy (w.heap.size + 1) 1 _ _ (0, 0) HKx.out
                    have c2 : wy.cell? ⟨w.heap.size + 1, 2, none⟩ = some (.slice none 0 0) := cell_of_row wy (w.heap.size + 1) 2 _ _ (0, 0) HKx.out
                    have c3 : wy.cell? ⟨w.heap.size + 1, 3, none⟩ = some (.bool false) := cell_of_row wy (w.heap.size + 1) 3 _ _ (0, 0) HKx.out
                    have c4 : wy.cell? ⟨w.heap.size + 1, 4, none⟩ = some (.string ⟨#[]⟩) := cell_of_row wy (w.heap.size + 1) 4 _ _ (0, 0) HKx.out
                    have b0 : wy.cell? ⟨w.heap.size, 0, none⟩ = some (.int .i64 0) := cell_of_row wy w.heap.size 0 _ _ (0, 0) HTx.out
                    have b1 : wy.cell? ⟨w.heap.size, 1, none⟩ = some (.string ⟨#[]⟩) := cell_of_row wy w.heap.size 1 _ _ (0, 0) HTx.out
                    have b2 : wy.cell? ⟨w.heap.size, 2, none⟩ = some (.slice none 0 0) := cell_of_row wy w.heap.size 2 _ _ (0, 0) HTx.out
                    have b3 : wy.cell? ⟨w.heap.size, 3, none⟩ = some (.bool false) := cell_of_row wy w.heap.size 3 _ _ (0, 0) HTx.out
                    have b4 : wy.cell? ⟨w.heap.size, 4, none⟩ = some (.string ⟨#[]⟩) := cell_of_row wy w.heap.size 4 _ _ (0, 0) HTx.out
                    have f0 := frozen_of_row wy w.heap.size 0 _ _ HTx.out
                    have f1 := frozen_of_row wy w.heap.size 1 _ _ HTx.out
                    have f2 := frozen_of_row wy w.heap.size 2 _ _ HTx.out
                    have f3 := frozen_of_row wy w.heap.size 3 _ _ HTx.out
                    have f4 := frozen_of_row wy w.heap.size 4 _ _ HTx.out
                    have HFin := Lib.hid (fin_tok (.int .i64 2) (.string nm) (.slice none 0 0) (.bool false) (.string ⟨#[]⟩) HBx.out HTx.out)
                    have HAf := Lib.hid (own_at (l := []) (HOx.out.kept (s5_grown wy w.heap.size (.int .i64 2) (.string nm) (.slice none 0 0) (.bool false) (.string ⟨#[]⟩)) (.inr (fun e => by have := (HOx.out.lt _ e).1; omega)))).1
                    go_wp2
                    change bodyPost _ _ _ _ _ (S5 wy w.heap.size _ _ _ _ _)
                    clear b0 b1 b2 b3 b4 f0 f1 f2 f3 f4 c0 c1 c2 c3 c4
                    obtain ⟨wf, ewf⟩ : ∃ wf, wf = S5 wy w.heap.size (.int .i64 2) (.string nm) (.slice none 0 0) (.bool false) (.string ⟨#[]⟩) := ⟨_, rfl⟩
                    rw [← ewf] at HFin HAf
                    have d0 := cell_of_row wf w.heap.size 0 _ _ (0, 0) HFin.out.1
                    have d1 := cell_of_row wf w.heap.size 1 _ _ (0, 0) HFin.out.1
                    have d2 := cell_of_row wf w.heap.size 2 _ _ (0, 0) HFin.out.1
                    have d3 := cell_of_row wf w.heap.size 3 _ _ (0, 0) HFin.out.1
                    have d4 := cell_of_row wf w.heap.size 4 _ _ (0, 0) HFin.out.1
                    show bodyPost _ _ _ _ _ (S5 wy w.heap.size (.int .i64 2) (.string nm) (.slice none 0 0) (.bool false) (.string ⟨#[]⟩))
                    rw [← ewf]
                    clear ewf
                    refine bodyPost_ret (v := .tuple #[tokV ⟨2, nm, [], false, k1 + 1, true⟩ none 0, .int .i64 ((k1 + 1 : Nat) : Int), .bool true]) (by simp [results, Tryz.results28, go_sem, tokV, d0, d1, d2, d3, d4]; rfl) rfl ?_
                    exact ret_tok HF.out (Nat.zero_le _) HAf.out HFin.out.2
                · have h62' : hitB s k1 62 = false := by simpa using h62
                  have e62 : ((s[k1].toNat : Int) == 62) = false := by rw [hitB_lt hlt] at h62'; exact h62'
                  by_cases h47 : hitB s k1 47 = true
                  · have e47 : ((s[k1].toNat : Int) == 47) = true := by rw [hitB_lt hlt] at h47; exact h47
                    by_cases hn : hitB s (k1 + 1) 62 = true
                    · have hl2 := hit_lt hn
                      have HX : Hid (tg s.data.toList F ne [] = some (acc, true, k1 + 1 + 1)) := Lib.hid (by rw [HSt.out, if_neg (by rw [hitB_iff.1 h47]; exact fun h => by cases h), if_neg (hitB_no.1 h62'), if_pos (hitB_iff.1 h47), if_pos (hitB_iff.1 hn)])
                      have b2 := s[k1 + 1].toNat_lt
                      have n62 : ((s[k1 + 1].toNat : Int) == 62) = true := by rw [hitB_lt hl2] at hn; exact hn
                      clear HSt h62 h62' h47 hn
                      rcases HK2.out with rfl | rfl
                      · have HF : Hid ((⟨1, nm, acc, true, k1 + 1 + 1, true⟩ : Tok) = rdT s.data.toList) := Lib.hid (by rw [HR.out, HX.out]; rfl)
                        clear HX HR
                        have c0 : wr.cell? ⟨w.heap.size + 1, 0, none⟩ = some (.int .i64 1) := cell_of_row wr (w.heap.size + 1) 0 _ _ (0, 0) HKr.out
                        have c3 : wr.cell? ⟨w.heap.size + 1, 3, none⟩ = some (.bool false) := cell_of_row wr (w.heap.size + 1) 3 _ _ (0, 0) HKr.out
                        have f3 := frozen_of_row wr (w.heap.size + 1) 3 _ _ HKr.out
                        go_upto_region 15 with (go_at_call 49; refine (HSk.out _).mono ?_; rintro e w' ⟨rfl, rfl⟩)
                        have HZ := Lib.hid (fin_self (.bool true) HTr.out HKr.out HOr.out HBr.out)
                        clear c0 c3 f3 HTr HKr HOr HBr
                        obtain ⟨wx, ewx⟩ : ∃ wx, wx = wr.setCell ⟨w.heap.size + 1, 3, none⟩ (.bool true) := ⟨_, rfl⟩
                        rw [← ewx] at HZ ⊢
                        clear ewx
                        have HTx := Lib.hid HZ.out.1
                        have HKx := Lib.hid HZ.out.2.1
                        have HOx := Lib.hid HZ.out.2.2.1
                        have HBx := Lib.hid HZ.out.2.2.2
                        clear HZ
                        have c0 : wx.cell? ⟨w.heap.size + 1, 0, none⟩ = some (.int .i64 1) := cell_of_row wx (w.heap.size + 1) 0 _ _ (0, 0) HKx.out

                        have c1 : wx.cell? ⟨w.heap.size + 1, 1, none⟩ = some (.string nm) := cell_of_row wx (w.heap.size + 1) 1 _ _ (0, 0) HKx.out
                        have c2 : wx.cell? ⟨w.heap.size + 1, 2, none⟩ = some (.slice a acc.length cap) := cell_of_row wx (w.heap.size + 1) 2 _ _ (0, 0) HKx.out
                        have c3 : wx.cell? ⟨w.heap.size + 1, 3, none⟩ = some (.bool true) := cell_of_row wx (w.heap.size + 1) 3 _ _ (0, 0) HKx.out
                        have c4 : wx.cell? ⟨w.heap.size + 1, 4, none⟩ = some (.string ⟨#[]⟩) := cell_of_row wx (w.heap.size + 1) 4 _ _ (0, 0) HKx.out
                        have b0 : wx.cell? ⟨w.heap.size, 0, none⟩ = some (.int .i64 0) := cell_of_row wx w.heap.size 0 _ _ (0, 0) HTx.out
                        have b1 : wx.cell? ⟨w.heap.size, 1, none⟩ = some (.string ⟨#[]⟩) := cell_of_row wx w.heap.size 1 _ _ (0, 0) HTx.out
                        have b2 : wx.cell? ⟨w.heap.size, 2, none⟩ = some (.slice none 0 0) := cell_of_row wx w.heap.size 2 _ _ (0, 0) HTx.out
                        have b3 : wx.cell? ⟨w.heap.size, 3, none⟩ = some (.bool false) := cell_of_row wx w.heap.size 3 _ _ (0, 0) HTx.out
                        have b4 : wx.cell? ⟨w.heap.size, 4, none⟩ = some (.string ⟨#[]⟩) := cell_of_row wx w.heap.size 4 _ _ (0, 0) HTx.out
                        have f0 := frozen_of_row wx w.heap.size 0 _ _ HTx.out
                        have f1 := frozen_of_row wx w.heap.size 1 _ _ HTx.out
                        have f2 := frozen_of_row wx w.heap.size 2 _ _ HTx.out
                        have f3 := frozen_of_row wx w.heap.size 3 _ _ HTx.out
                        have f4 := frozen_of_row wx w.heap.size 4 _ _ HTx.out
                        have HFin := Lib.hid (fin_tok (.int .i64 1) (.string nm) (.slice a acc.length cap) (.bool true) (.string ⟨#[]⟩) HBx.out HTx.out)
                        have HAf := Lib.hid (own_at (l := acc) (HOx.out.kept (s5_grown wx w.heap.size (.int .i64 1) (.string nm) (.slice a acc.length cap) (.bool true) (.string ⟨#[]⟩)) (.inr (fun e => by have := (HOx.out.lt _ e).1; omega)))).1
                        go_wp2
                        change bodyPost _ _ _ _ _ (S5 wx w.heap.size _ _ _ _ _)
                        clear b0 b1 b2 b3 b4 f0 f1 f2 f3 f4 c0 c1 c2 c3 c4
                        obtain ⟨wf, ewf⟩ : ∃ wf, wf = S5 wx w.heap.size (.int .i64 1) (.string nm) (.slice a acc.length cap) (.bool true) (.string ⟨#[]⟩) := ⟨_, rfl⟩
                        rw [← ewf] at HFin HAf
                        have d0 := cell_of_row wf w.heap.size 0 _ _ (0, 0) HFin.out.1
                        have d1 := cell_of_row wf w.heap.size 1 _ _ (0, 0) HFin.out.1
                        have d2 := cell_of_row wf w.heap.size 2 _ _ (0, 0) HFin.out.1
                        have d3 := cell_of_row wf w.heap.size 3 _ _ (0, 0) HFin.out.1
                        have d4 := cell_of_row wf w.heap.size 4 _ _ (0, 0) HFin.out.1
                        show bodyPost _ _ _ _ _ (S5 wx w.heap.size (.int .i64 1) (.string nm) (.slice a acc.length cap) (.bool true) (.string ⟨#[]⟩))
                        rw [← ewf]
                        clear ewf
                        refine bodyPost_ret (v := .tuple #[tokV ⟨1, nm, acc, true, k1 + 1 + 1, true⟩ a cap, .int .i64 ((k1 + 1 + 1 : Nat) : Int), .bool true]) (by simp [results, Tryz.results28, go_sem, tokV, d0, d1, d2, d3, d4]; rfl) rfl ?_
                        exact ret_tok HF.out hcap HAf.out HFin.out.2
                      · have HF : Hid ((⟨2, nm, [], false, k1 + 1 + 1, true⟩ : Tok) = rdT s.data.toList) := Lib.hid (by rw [HR.out, HX.out]; rfl)
                        clear HX HR
                        have c0 : wr.cell? ⟨w.heap.size + 1, 0, none⟩ = some (.int .i64 2) := cell_of_row wr (w.heap.size + 1) 0 _ _ (0, 0) HKr.out
                        have c3 : wr.cell? ⟨w.heap.size + 1, 3, none⟩ = some (.bool false) := cell_of_row wr (w.heap.size + 1) 3 _ _ (0, 0) HKr.out
                        have f3 := frozen_of_row wr (w.heap.size + 1) 3 _ _ HKr.out
                        go_upto_region 15 with (go_at_call 49; refine (HSk.out _).mono ?_; rintro e w' ⟨rfl, rfl⟩)
                        have HZ := Lib.hid (fin_self (.bool false) HTr.out HKr.out HOr.out HBr.out)
                        clear c0 c3 f3 HTr HKr HOr HBr
                        obtain ⟨wx, ewx⟩ : ∃ wx, wx = wr.setCell ⟨w.heap.size + 1, 3, none⟩ (.bool false) := ⟨_, rfl⟩
                        rw [← ewx] at HZ ⊢
                        clear ewx
                        have HTx := Lib.hid HZ.out.1
                        have HKx := Lib.hid HZ.out.2.1
                        have HOx := Lib.hid HZ.out.2.2.1
                        have HBx := Lib.hid HZ.out.2.2.2
                        clear HZ
                        have c0 : wx.cell? ⟨w.heap.size + 1, 0, none⟩ = some (.int .i64 2) := cell_of_row wx (w.heap.size + 1) 0 _ _ (0, 0) HKx.out

                        have c2 : wx.cell? ⟨w.heap.size + 1, 2, none⟩ = some (.slice a acc.length cap) := cell_of_row wx (w.heap.size + 1) 2 _ _ (0, 0) HKx.out
                        have f2 := frozen_of_row wx (w.heap.size + 1) 2 _ _ HKx.out
                        go_upto_region 19 with fail
                        have HZ := Lib.hid (fin_nil HTx.out HKx.out HOx.out HBx.out)
                        clear c0 c2 f2 HTx HKx HOx HBx
                        obtain ⟨wy, ewy⟩ : ∃ wy, wy = wx.setCell ⟨w.heap.size + 1, 2, none⟩ (.slice none 0 0) := ⟨_, rfl⟩
                        rw [← ewy] at HZ ⊢
                        clear ewy
                        have HTx := Lib.hid HZ.out.1
                        have HKx := Lib.hid HZ.out.2.1
                        have HOx := Lib.hid HZ.out.2.2.1
                        have HBx := Lib.hid HZ.out.2.2.2
                        clear HZ
                        have c0 : wy.cell? ⟨w.heap.size + 1, 0, none⟩ = some (.int .i64 2) := cell_of_row wy (w.heap.size + 1) 0 _ _ (0, 0) HKx.out

                        have c1 : wy.cell? ⟨w.heap.size + 1, 1, none⟩ = some (.string nm) := cell_of_row wy (w.heap.size + 1) 1 _ _ (0, 0) HKx.out
                        have c2 : wy.cell? ⟨w.heap.size + 1, 2, none⟩ = some (.slice none 0 0) := cell_of_row wy (w.heap.size + 1) 2 _ _ (0, 0) HKx.out
                        have c3 : wy.cell? ⟨w.heap.size + 1, 3, none⟩ = some (.bool false) := cell_of_row wy (w.heap.size + 1) 3 _ _ (0, 0) HKx.out
                        have c4 : wy.cell? ⟨w.heap.size + 1, 4, none⟩ = some (.string ⟨#[]⟩) := cell_of_row wy (w.heap.size + 1) 4 _ _ (0, 0) HKx.out
                        have b0 : wy.cell? ⟨w.heap.size, 0, none⟩ = some (.int .i64 0) := cell_of_row wy w.heap.size 0 _ _ (0, 0) HTx.out
                        have b1 : wy.cell? ⟨w.heap.size, 1, none⟩ = some (.string ⟨#[]⟩) := cell_of_row wy w.heap.size 1 _ _ (0, 0) HTx.out
                        have b2 : wy.cell? ⟨w.heap.size, 2, none⟩ = some (.slice none 0 0) := cell_of_row wy w.heap.size 2 _ _ (0, 0) HTx.out
                        have b3 : wy.cell? ⟨w.heap.size, 3, none⟩ = some (.bool false) := cell_of_row wy w.heap.size 3 _ _ (0, 0) HTx.out
                        have b4 : wy.cell? ⟨w.heap.size, 4, none⟩ = some (.string ⟨#[]⟩) := cell_of_row wy w.heap.size 4 _ _ (0, 0) HTx.out
                        have f0 := frozen_of_row wy w.heap.size 0 _ _ HTx.out
                        have f1 := frozen_of_row wy w.heap.size 1 _ _ HTx.out
                        have f2 := frozen_of_row wy w.heap.size 2 _ _ HTx.out
                        have f3 := frozen_of_row wy w.heap.size 3 _ _ HTx.out
                        have f4 := frozen_of_row wy w.heap.size 4 _ _ HTx.out
                        have HFin := Lib.hid (fin_tok (.int .i64 2) (.string nm) (.slice none 0 0) (.bool false) (.string ⟨#[]⟩) HBx.out HTx.out)
                        have HAf := Lib.hid (own_at (l := []) (HOx.out.kept (s5_grown wy w.heap.size (.int .i64 2) (.string nm) (.slice none 0 0) (.bool false) (.string ⟨#[]⟩)) (.inr (fun e => by have := (HOx.out.lt _ e).1; omega)))).1
                        go_wp2
                        change bodyPost _ _ _ _ _ (S5 wy w.heap.size _ _ _ _ _)
                        clear b0 b1 b2 b3 b4 f0 f1 f2 f3 f4 c0 c1 c2 c3 c4
                        obtain ⟨wf, ewf⟩ : ∃ wf, wf = S5 wy w.heap.size (.int .i64 2) (.string nm) (.slice none 0 0) (.bool false) (.string ⟨#[]⟩) := ⟨_, rfl⟩
                        rw [← ewf] at HFin HAf
                        have d0 := cell_of_row wf w.heap.size 0 _ _ (0, 0) HFin.out.1
                        have d1 := cell_of_row wf w.heap.size 1 _ _ (0, 0) HFin.out.1
                        have d2 := cell_of_row wf w.heap.size 2 _ _ (0, 0) HFin.out.1
                        have d3 := cell_of_row wf w.heap.size 3 _ _ (0, 0) HFin.out.1
                        have d4 := cell_of_row wf w.heap.size 4 _ _ (0, 0) HFin.out.1
                        show bodyPost _ _ _ _ _ (S5 wy w.heap.size (.int .i64 2) (.string nm) (.slice none 0 0) (.bool false) (.string ⟨#[]⟩))
                        rw [← ewf]
                        clear ewf
                        refine bodyPost_ret (v := .tuple #[tokV ⟨2, nm, [], false, k1 + 1 + 1, true⟩ none 0, .int .i64 ((k1 + 1 + 1 : Nat) : Int), .bool true]) (by simp [results, Tryz.results28, go_sem, tokV, d0, d1, d2, d3, d4]; rfl) rfl ?_
                        exact ret_tok HF.out (Nat.zero_le _) HAf.out HFin.out.2
                    · have hn' : hitB s (k1 + 1) 62 = false := by simpa using hn
                      have HX : Hid (tg s.data.toList F ne [] = tg s.data.toList f (k1 + 1) acc) := Lib.hid (by rw [HSt.out, if_neg (by rw [hitB_iff.1 h47]; exact fun h => by cases h), if_neg (hitB_no.1 h62'), if_pos (hitB_iff.1 h47), if_neg (hitB_no.1 hn')])
                      have HRel := Lib.hid (rl_next (v := .int .i64 ((k1 : Int) + 1)) HX.out (by go_num) (by omega) (by omega) (by omega) hcap HTr.out HKr.out HOr.out HBr.out)
                      clear HSt h62 h62' h47 hn HX
                      by_cases hl2 : k1 + 1 < s.size
                      · have b2 := s[k1 + 1].toNat_lt
                        have n62 : ((s[k1 + 1].toNat : Int) == 62) = false := by rw [hitB_lt hl2] at hn'; exact hn'
                        clear hn'
                        go_wp2_with (go_at_call 49; refine (HSk.out _).mono ?_; rintro e w' ⟨rfl, rfl⟩)
                        go_roundg f
                        case measure => exact hf1
                        case rel => exact HRel.out
                      · clear hn'
                        go_wp2_with (go_at_call 49; refine (HSk.out _).mono ?_; rintro e w' ⟨rfl, rfl⟩)
                        go_roundg f
                        case measure => exact hf1
                        case rel => exact HRel.out
                  · have h47' : hitB s k1 47 = false := by simpa using h47
                    have e47 : ((s[k1].toNat : Int) == 47) = false := by rw [hitB_lt hlt] at h47'; exact h47'
                    have HX : Hid (tg s.data.toList F ne [] = match atr s.data.toList k1 with | none => none | some (a, n) => tg s.data.toList f n (addL acc a)) := Lib.hid (by rw [HSt.out, if_neg (by rw [C.get_at s k1 hlt]; exact fun h => by cases h), if_neg (hitB_no.1 h62'), if_neg (hitB_no.1 h47')]; rfl)
                    clear HSt h62 h62' h47 h47'
                    have HAt := Lib.hid (ratt_any s k1 wr hs hlt)
                    go_wp2_with (go_at_call 49; refine (HSk.out _).mono ?_; rintro e w' ⟨rfl, rfl⟩)
                    refine HAt.out.mono ?_
                    rintro e w3 ⟨an, av, n, ok, rfl, hbl, hn, his⟩
                    have HT3 := Lib.hid (heap_keep hbl HTr.out)
                    have HK3 := Lib.hid (heap_keep hbl HKr.out)
                    have HO3 := Lib.hid (A.own_below HOr.out hbl)
                    have HB3 := below_step HBr hbl
                    have HIs := Lib.hid his
                    clear hbl his HTr HKr HOr HBr HSk HAt
                    have HV4 := Lib.hid (var_at an av HT3.out HK3.out HO3.out HB3.out)
                    clear HT3 HK3 HO3 HB3
                    go_upto_region 23 with fail
                    obtain ⟨w4, ew⟩ : ∃ w4, w4 = w3.alloc (.cells #[.string an, .string av] 51) := ⟨_, rfl⟩
                    rw [← ew] at HV4 ⊢
                    clear ew
                    have HT4 := Lib.hid HV4.out.1
                    have HK4 := Lib.hid HV4.out.2.1
                    have HO4 := Lib.hid HV4.out.2.2.1
                    have HB4 := Lib.hid HV4.out.2.2.2.1
                    have HA4 := Lib.hid HV4.out.2.2.2.2
                    clear HV4
                    cases ok with
                    | false =>
                      have HF : Hid (noTok s.size = rdT s.data.toList) := Lib.hid (by
                        have h := HIs.out
                        unfold AttIs at h
                        rw [HR.out, HX.out]
                        cases hv : atr s.data.toList k1 with
                        | none => rfl
                        | some r => rw [hv] at h; cases h.2)
                      clear HIs HX HR HK4 HO4 HA4
                      go_upto_region 24 with fail
                      have b0 : w4.cell? ⟨w.heap.size, 0, none⟩ = some (.int .i64 0) := cell_of_row w4 w.heap.size 0 _ _ (0, 0) HT4.out
                      have b1 : w4.cell? ⟨w.heap.size, 1, none⟩ = some (.string ⟨#[]⟩) := cell_of_row w4 w.heap.size 1 _ _ (0, 0) HT4.out
                      have b2 : w4.cell? ⟨w.heap.size, 2, none⟩ = some (.slice none 0 0) := cell_of_row w4 w.heap.size 2 _ _ (0, 0) HT4.out
                      have b3 : w4.cell? ⟨w.heap.size, 3, none⟩ = some (.bool false) := cell_of_row w4 w.heap.size 3 _ _ (0, 0) HT4.out
                      have b4 : w4.cell? ⟨w.heap.size, 4, none⟩ = some (.string ⟨#[]⟩) := cell_of_row w4 w.heap.size 4 _ _ (0, 0) HT4.out
                      have f0 := frozen_of_row w4 w.heap.size 0 _ _ HT4.out
                      have f1 := frozen_of_row w4 w.heap.size 1 _ _ HT4.out
                      have f2 := frozen_of_row w4 w.heap.size 2 _ _ HT4.out
                      have f3 := frozen_of_row w4 w.heap.size 3 _ _ HT4.out
                      have f4 := frozen_of_row w4 w.heap.size 4 _ _ HT4.out
                      have HFin := Lib.hid (fin_tok (.int .i64 0) (.string ByteArray.empty) (.slice none 0 0) (.bool false) (.string ByteArray.empty) HB4.out HT4.out)
                      go_wp2
                      change bodyPost _ _ _ _ _ (S5 w4 w.heap.size _ _ _ _ _)
                      clear b0 b1 b2 b3 b4 f0 f1 f2 f3 f4
                      obtain ⟨wf, ewf⟩ : ∃ wf, wf = S5 w4 w.heap.size (.int .i64 0) (.string ByteArray.empty) (.slice none 0 0) (.bool false) (.string ByteArray.empty) := ⟨_, rfl⟩
                      rw [← ewf] at HFin
                      have d0 := cell_of_row wf w.heap.size 0 _ _ (0, 0) HFin.out.1
                      have d1 := cell_of_row wf w.heap.size 1 _ _ (0, 0) HFin.out.1
                      have d2 := cell_of_row wf w.heap.size 2 _ _ (0, 0) HFin.out.1
                      have d3 := cell_of_row wf w.heap.size 3 _ _ (0, 0) HFin.out.1
                      have d4 := cell_of_row wf w.heap.size 4 _ _ (0, 0) HFin.out.1
                      show bodyPost _ _ _ _ _ (S5 w4 w.heap.size (.int .i64 0) (.string ByteArray.empty) (.slice none 0 0) (.bool false) (.string ByteArray.empty))
                      rw [← ewf]
                      clear ewf
                      refine bodyPost_ret (v := .tuple #[tokV (noTok s.size) none 0, .int .i64 ((noTok s.size).n : Int), .bool (noTok s.size).ok]) (by simp [results, Tryz.results28, go_sem, tokV, noTok, d0, d1, d2, d3, d4]) rfl ?_
                      exact ret_tok HF.out (Nat.zero_le _) (A.AttrsAt.nil _ _) HFin.out.2
                    | true =>
                      have HX2 : Hid (tg s.data.toList F ne [] = tg s.data.toList f n (addL acc (an, av)) ∧ k1 < n) := Lib.hid (by
                        have h := HIs.out
                        unfold AttIs at h
                        rw [HX.out]
                        cases hv : atr s.data.toList k1 with
                        | none => rw [hv] at h; cases h
                        | some r =>
                          rw [hv] at h
                          have h1 := h.1
                          subst h1
                          exact ⟨rfl, (atr_bd (by rw [C.size_list]; exact hlt) hv).1⟩)
                      have hkn := HX2.out.2
                      have HAd := Lib.hid (radd_any a cap acc (an, av) w4 (by omega) (own_at HO4.out).1)
                      have c2 : w4.cell? ⟨w.heap.size + 1, 2, none⟩ = some (.slice a acc.length cap) := cell_of_row w4 (w.heap.size + 1) 2 _ _ (0, 0) HK4.out
                      have a0 : w4.cell? ⟨w3.heap.size, 0, none⟩ = some (.string an) := cell_of_row w4 w3.heap.size 0 _ _ (0, 0) HA4.out
                      have a1 : w4.cell? ⟨w3.heap.size, 1, none⟩ = some (.string av) := cell_of_row w4 w3.heap.size 1 _ _ (0, 0) HA4.out
                      unfold atV at HAd
                      clear HIs HX
                      go_wp2_with fail
                      refine HAd.out.mono ?_
                      rintro e w5 ⟨v, rfl, hown, hbl⟩
                      obtain ⟨a5, c5, hc5, rfl, hat⟩ := A.own_attrs hown
                      have HK5 := Lib.hid (heap_keep hbl HK4.out)
                      have c25 : w5.cell? ⟨w.heap.size + 1, 2, none⟩ = some (.slice a acc.length cap) := cell_of_row w5 (w.heap.size + 1) 2 _ _ (0, 0) HK5.out
                      have f25 := frozen_of_row w5 (w.heap.size + 1) 2 _ _ HK5.out
                      have HRel := Lib.hid (rl_add (n := n) (F := F) (k := k) (ne := ne) (g := f) (s := s) HX2.out.1 (by omega) hn (by have := add_len acc (an, av); omega) hc5 (heap_keep hbl HT4.out) HK5.out hown (World.size_lt_of HK4.out) (below_step HB4 hbl).out)
                      clear hbl hown hat HAd c2 a0 a1 HX2 HT4 HK4 HO4 HB4 HA4 HK5
                      go_wp2
                      go_roundg f
                      case measure => exact hf1
                      case rel => exact HRel.out
              · have HX : Hid (tg s.data.toList F ne [] = none) := Lib.hid (by rw [HSt.out, if_pos (List.getElem?_eq_none (by rw [C.size_list]; omega))])
                have HF : Hid (noTok s.size = rdT s.data.toList) := Lib.hid (by rw [HR.out, HX.out]; rfl)
                have hd : decide (s.size ≤ k1) = true := by simpa using hlt
                clear HSt HX HR
                go_upto_region 12 with (go_at_call 49; refine (HSk.out _).mono ?_; rintro e w' ⟨rfl, rfl⟩)
                have b0 : wr.cell? ⟨w.heap.size, 0, none⟩ = some (.int .i64 0) := cell_of_row wr w.heap.size 0 _ _ (0, 0) HTr.out
                have b1 : wr.cell? ⟨w.heap.size, 1, none⟩ = some (.string ⟨#[]⟩) := cell_of_row wr w.heap.size 1 _ _ (0, 0) HTr.out
                have b2 : wr.cell? ⟨w.heap.size, 2, none⟩ = some (.slice none 0 0) := cell_of_row wr w.heap.size 2 _ _ (0, 0) HTr.out
                have b3 : wr.cell? ⟨w.heap.size, 3, none⟩ = some (.bool false) := cell_of_row wr w.heap.size 3 _ _ (0, 0) HTr.out
                have b4 : wr.cell? ⟨w.heap.size, 4, none⟩ = some (.string ⟨#[]⟩) := cell_of_row wr w.heap.size 4 _ _ (0, 0) HTr.out
                have f0 := frozen_of_row wr w.heap.size 0 _ _ HTr.out
                have f1 := frozen_of_row wr w.heap.size 1 _ _ HTr.out
                have f2 := frozen_of_row wr w.heap.size 2 _ _ HTr.out
                have f3 := frozen_of_row wr w.heap.size 3 _ _ HTr.out
                have f4 := frozen_of_row wr w.heap.size 4 _ _ HTr.out
                have HFin := Lib.hid (fin_tok (.int .i64 0) (.string ByteArray.empty) (.slice none 0 0) (.bool false) (.string ByteArray.empty) HBr.out HTr.out)
                go_wp2
                change bodyPost _ _ _ _ _ (S5 wr w.heap.size _ _ _ _ _)
                clear b0 b1 b2 b3 b4 f0 f1 f2 f3 f4
                obtain ⟨wf, ewf⟩ : ∃ wf, wf = S5 wr w.heap.size (.int .i64 0) (.string ByteArray.empty) (.slice none 0 0) (.bool false) (.string ByteArray.empty) := ⟨_, rfl⟩
                rw [← ewf] at HFin
                have d0 := cell_of_row wf w.heap.size 0 _ _ (0, 0) HFin.out.1
                have d1 := cell_of_row wf w.heap.size 1 _ _ (0, 0) HFin.out.1
                have d2 := cell_of_row wf w.heap.size 2 _ _ (0, 0) HFin.out.1
                have d3 := cell_of_row wf w.heap.size 3 _ _ (0, 0) HFin.out.1
                have d4 := cell_of_row wf w.heap.size 4 _ _ (0, 0) HFin.out.1
                show bodyPost _ _ _ _ _ (S5 wr w.heap.size (.int .i64 0) (.string ByteArray.empty) (.slice none 0 0) (.bool false) (.string ByteArray.empty))
                rw [← ewf]
                clear ewf
                refine bodyPost_ret (v := .tuple #[tokV (noTok s.size) none 0, .int .i64 ((noTok s.size).n : Int), .bool (noTok s.size).ok]) (by simp [results, Tryz.results28, go_sem, tokV, noTok, d0, d1, d2, d3, d4]) rfl ?_
                exact ret_tok HF.out (Nat.zero_le _) (A.AttrsAt.nil _ _) HFin.out.2
end Go.Proofs.YtceelfomgcbkiaaGreatDoor.T
