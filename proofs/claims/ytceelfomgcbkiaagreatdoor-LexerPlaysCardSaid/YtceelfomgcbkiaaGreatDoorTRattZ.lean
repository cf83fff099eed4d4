/-
  The walk of the document's own attribute.
-/
import Derived.Test.YtceelfomgcbkiaaGreatDoorTRefZ
import Derived.Test.YtceelfomgcbkiaaGreatDoorGIZ
import Derived.Test.YtceelfomgcbkiaaGreatDoorGCZ
import Derived.Test.YtceelfomgcbkiaaGreatDoorTReadZ
namespace Go.Proofs.YtceelfomgcbkiaaGreatDoor.T
open Go.RowKit
open Go.Proofs.YtceelfomgcbkiaaGreatDoor.I (spC spI rspace_any lowS rlower_any)
open Go.Proofs.YtceelfomgcbkiaaGreatDoor.A (At below_step)

theorem stopA_nat (c : UInt8) : stopA c = (!spI (c.toNat : Int) && ((c.toNat : Int) != 47) && ((c.toNat : Int) != 62) && ((c.toNat : Int) != 61)) := by
  unfold stopA; rw [ne_nat, ne_nat, ne_nat]; rfl
/-- What is handed back of an attribute. -/
def AttIs (s : ByteArray) (i : Nat) (nm vl : ByteArray) (n : Nat) (ok : Bool) : Prop := match atr s.data.toList i with | some r => r = ((nm, vl), n) ∧ ok = true | none => ok = false
/-- What the document's attribute hands back. -/
def RetAtt (s : ByteArray) (i : Nat) (w : World) (e : Ending) (w' : World) : Prop :=
  ∃ (nm vl : ByteArray) (n : Nat) (ok : Bool), e = .returned (.tuple #[.agg #[.string nm, .string vl], .int .i64 (n : Int), .bool ok]) ∧ Below w.heap.size w w' ∧ n ≤ s.size ∧ AttIs s i nm vl n ok
theorem atr_at (l : List UInt8) (i kn : Nat) (h : run stopA l (i + 1) = kn) : atr l i = if l[skp l kn]? = some 61 then (valG l (skp l (skp l kn + 1))).map fun v => ((lowS (cut l i kn), decT v.1), v.2) else some ((lowS (cut l i kn), ByteArray.empty), skp l kn) := by
  unfold atr; rw [h]
/-- Two cells of a block. -/
theorem two_heap {w : World} {B : Nat} {T : TypeId} {u0 u1 : Value} (v0 v1 : Value) (h : w.heap[B]? = some (.cells #[u0, u1] T (0, 0))) : ((w.setCell ⟨B, 0, none⟩ v0).setCell ⟨B, 1, none⟩ v1).heap[B]? = some (.cells #[v0, v1] T (0, 0)) :=
  heap_setCell_same _ B 1 _ _ _ (heap_setCell_same w B 0 _ _ _ h)
theorem heap_keep {w w1 : World} {b : Nat} {o : Obj} (hb : Below w.heap.size w w1) (h : w.heap[b]? = some o) : w1.heap[b]? = some o := (hb.block b (Array.getElem?_eq_some_iff.1 h).1).trans h

theorem fin_att {w w4 : World} {X : Nat} {T : TypeId} {u0 u1 : Value} (nm d x : Value) (hb : Below w.heap.size w w4) (ht : w4.heap[w.heap.size]? = some (.cells #[u0, u1] T (0, 0))) (hX : w.heap.size < X) :
    (((w4.setCell ⟨X, 1, none⟩ x).setCell ⟨w.heap.size, 0, none⟩ nm).setCell ⟨w.heap.size, 1, none⟩ d).heap[w.heap.size]? = some (.cells #[nm, d] T (0, 0)) ∧ Below w.heap.size w (((w4.setCell ⟨X, 1, none⟩ x).setCell ⟨w.heap.size, 0, none⟩ nm).setCell ⟨w.heap.size, 1, none⟩ d) := by
  have h1 : (w4.setCell ⟨X, 1, none⟩ x).heap[w.heap.size]? = some (.cells #[u0, u1] T (0, 0)) := (heap_setCell_other w4 ⟨X, 1, none⟩ w.heap.size x (by show w.heap.size ≠ X; omega)).trans ht
  refine ⟨two_heap nm d h1, ?_⟩
  have s0 := hb.size
  have b1 := hb.grown (grown_set w4 X 1 x) s0 (fun k hk => by cases hk; omega)
  have b2 := b1.grown (grown_set _ w.heap.size 0 nm) (by simpa using s0) (fun k hk => by cases hk; exact Nat.le_refl _)
  exact b2.grown (grown_set _ w.heap.size 1 d) (by simpa using s0) (fun k hk => by cases hk; exact Nat.le_refl _)
theorem fin_att2 {w w4 : World} {T : TypeId} {u0 u1 : Value} (nm d : Value) (hb : Below w.heap.size w w4) (ht : w4.heap[w.heap.size]? = some (.cells #[u0, u1] T (0, 0))) :
    ((w4.setCell ⟨w.heap.size, 0, none⟩ nm).setCell ⟨w.heap.size, 1, none⟩ d).heap[w.heap.size]? = some (.cells #[nm, d] T (0, 0)) ∧ Below w.heap.size w ((w4.setCell ⟨w.heap.size, 0, none⟩ nm).setCell ⟨w.heap.size, 1, none⟩ d) := by
  refine ⟨two_heap nm d ht, ?_⟩
  have s0 := hb.size
  have b2 := hb.grown (grown_set _ w.heap.size 0 nm) s0 (fun k hk => by cases hk; exact Nat.le_refl _)
  exact b2.grown (grown_set _ w.heap.size 1 d) (by simpa using s0) (fun k hk => by cases hk; exact Nat.le_refl _)

set_option maxRecDepth 100000 in
set_option maxHeartbeats 3200000 in
theorem ratt_any (s : ByteArray) (i : Nat) (w : World) (hs : s.size ≤ 10000) (hi : i < s.size) :
    Calls Tryz.prog 50 #[.string s, .int .i64 i] w (RetAtt s i w) := by
  have HY : Hid (∀ j (hl : j < s.size), stopA s[j] = true → run stopA s.data.toList j = run stopA s.data.toList (j + 1)) := Lib.hid (fun j hl hp => run_yes (by rw [C.size_list]; exact hl) hp)
  have HN : Hid (∀ j (hl : j < s.size), stopA s[j] = false → run stopA s.data.toList j = j) := Lib.hid (fun j hl hp => run_no (by rw [C.size_list]; exact hl) hp)
  have HE := Lib.hid (fun j => run_end stopA s.data.toList j)
  have HA := Lib.hid (fun kn h => atr_at s.data.toList i kn h)
  obtain ⟨r, hr⟩ : ∃ r : Nat → Nat, r = run stopA s.data.toList := ⟨_, rfl⟩
  rw [← hr] at HY HN HE HA
  clear hr
  have hB := heap_alloc_new w (.cells #[.string ⟨#[]⟩, .string ⟨#[]⟩] 51)
  have HB0 := Lib.hid hB
  have HBl := Lib.hid ((Below.refl w.heap.size w).alloc (Nat.le_refl _) (.cells #[.string ⟨#[]⟩, .string ⟨#[]⟩] 51))
  clear hB
  go_enter Tryz.func50, Tryz.ntmps50
  go_wp2
  go_loop [7] (fun v => ∃ j : Nat, i + 1 ≤ j ∧ j ≤ s.size ∧ v = .int .i64 j ∧ r (i + 1) = r j) (fun v => s.size - (intOf v).toNat)
  case atStart => exact ⟨i + 1, Nat.le_refl _, by omega, by go_num, rfl⟩
  case round =>
    obtain ⟨j, hj0, hj, rfl, hh⟩ := hrel
    have HH := Lib.hid hh
    clear hh
    by_cases hst : ∃ h : j < s.size, stopA s[j] = true
    · obtain ⟨hjt, hst⟩ := hst
      have hbj := s[j].toNat_lt
      have HF : Hid (r (i + 1) = r (j + 1)) := Lib.hid (by rw [HH.out, HY.out j hjt hst])
      have HSp := Lib.hid (fun W => rspace_any (s[j].toNat : Int) W (by omega) (by omega))
      rw [stopA_nat] at hst
      simp only [Bool.and_eq_true] at hst
      obtain ⟨⟨⟨h1, n47⟩, n62⟩, n61⟩ := hst
      have h1' : spI (s[j].toNat : Int) = false := by simpa using h1
      rw [h1'] at HSp
      clear h1 h1'
      go_wp2_with (go_at_call 47; refine (HSp.out _).mono ?_; rintro e w' ⟨rfl, rfl⟩)
      go_round
      case rel => exact ⟨j + 1, by omega, by omega, by go_num, HF.out⟩
      case measure => simp [intOf]; omega
    · have HR : Hid (r (i + 1) = j) := Lib.hid (by
        by_cases h : j < s.size
        · rw [HH.out, HN.out j h (by
            by_cases h2 : stopA s[j] = true
            · exact absurd ⟨h, h2⟩ hst
            · simpa using h2)]
        · rw [HH.out, HE.out j (by rw [C.size_list]; omega)])
      have HAt := Lib.hid (HA.out j HR.out)
      have HLw := Lib.hid (fun W => rlower_any (s.extract i j) W (by rw [ByteArray.size_extract]; unfold maxLen; omega))
      have HSk := Lib.hid (fun W => skip_any s j W (by omega) (by omega))
      rw [cut_of] at HAt
      have hk1 := run_ge spC s.data.toList j
      have hk2 := run_le spC s.data.toList j (by rw [C.size_list]; omega)
      rw [C.size_list] at hk2
      generalize lowS (s.extract i j) = nm at *
      clear HY HN HE HA HH
      have hi0 : (0 : Int) ≤ (i : Int) := by omega
      have hi1 : (i : Int) ≤ (j : Int) := by omega
      have hj1 : (j : Int) ≤ (s.size : Int) := by omega
      -- where the loop ends
      have hend : (¬ j < s.size) ∨ (∃ h : j < s.size, ((s[j].toNat : Int) != 47) = false) ∨ (∃ h : j < s.size, ((s[j].toNat : Int) != 47) = true ∧ ((s[j].toNat : Int) != 62) = false) ∨
          (∃ h : j < s.size, ((s[j].toNat : Int) != 47) = true ∧ ((s[j].toNat : Int) != 62) = true ∧ ((s[j].toNat : Int) != 61) = false) ∨
          (∃ h : j < s.size, ((s[j].toNat : Int) != 47) = true ∧ ((s[j].toNat : Int) != 62) = true ∧ ((s[j].toNat : Int) != 61) = true ∧ spI (s[j].toNat : Int) = true) := by
        by_cases h : j < s.size
        · right
          have h2 : stopA s[j] = false := by
            by_cases h2 : stopA s[j] = true
            · exact absurd ⟨h, h2⟩ hst
            · simpa using h2
          rw [stopA_nat] at h2
          by_cases a1 : ((s[j].toNat : Int) != 47) = true
          · by_cases a2 : ((s[j].toNat : Int) != 62) = true
            · by_cases a3 : ((s[j].toNat : Int) != 61) = true
              · rw [a1, a2, a3] at h2
                exact .inr (.inr (.inr ⟨h, a1, a2, a3, by simpa using h2⟩))
              · exact .inr (.inr (.inl ⟨h, a1, a2, by simpa using a3⟩))
            · exact .inr (.inl ⟨h, a1, by simpa using a2⟩)
          · exact .inl ⟨h, by simpa using a1⟩
        · exact .inl h
      clear hst
      rcases hend with hjt | ⟨hjt, n47⟩ | ⟨hjt, n47, n62⟩ | ⟨hjt, n47, n62, n61⟩ | ⟨hjt, n47, n62, n61, hsp⟩
      · go_wp2_with fail
        refine (HLw.out _).mono ?_
        rintro e w1 ⟨rfl, hbl⟩
        have hb1 : w1.heap[w.heap.size]? = some (.cells #[.string ⟨#[]⟩, .string ⟨#[]⟩] 51 (0, 0)) := heap_keep hbl HB0.out
        have HB1 : Hid (Below w.heap.size w w1) := Lib.hid (HBl.out.trans (hbl.mono (by simp)))
        have HT1 := Lib.hid hb1
        have ha1 := heap_alloc_new w1 (.cells #[.string nm, .string ⟨#[]⟩] 51)
        have hb2 := heap_keep ((Below.refl _ _).alloc (Nat.le_refl _) (.cells #[.string nm, .string ⟨#[]⟩] 51)) hb1
        have HA2 := Lib.hid ha1
        have HT2 := Lib.hid hb2
        have HB2 := Lib.hid (HB1.out.alloc HB1.out.size (.cells #[.string nm, .string ⟨#[]⟩] 51))
        have hlt1 := (Array.getElem?_eq_some_iff.1 hb1).1
        clear hbl hb1 ha1 hb2
        go_wp2_with fail
        refine (HSk.out _).mono ?_
        rintro e w2 ⟨rfl, rfl⟩
        obtain ⟨k2, ek⟩ : ∃ k2, k2 = skp s.data.toList j := ⟨_, rfl⟩
        have hk2' : k2 ≤ s.size := by rw [ek]; exact hk2
        rw [← ek] at HAt ⊢
        clear hk1 hk2 ek
        by_cases hq : hitB s k2 61 = true
        · have hlt := hit_lt hq
          have hc := s[k2].toNat_lt
          have g := hitB_lt (c := 61) hlt
          rw [hq] at g
          have e61 : ((s[k2].toNat : Int) == 61) = true := g.symm
          have n61' : ((s[k2].toNat : Int) != 61) = false := by rw [bne, e61]; rfl
          have HQ := Lib.hid (hitB_iff.1 hq)
          have HSk2 := Lib.hid (fun W => skip_any s (k2 + 1) W (by omega) (by omega))
          have ek1 : ((k2 + 1 : Nat) : Int) = (k2 : Int) + 1 := by omega
          rw [ek1] at HSk2
          have hk3 := run_le spC s.data.toList (k2 + 1) (by rw [C.size_list]; omega)
          rw [C.size_list] at hk3
          clear hq g ek1
          go_wp2_with fail
          refine (HSk2.out _).mono ?_
          rintro e w2 ⟨rfl, rfl⟩
          obtain ⟨k3, ek⟩ : ∃ k3, k3 = skp s.data.toList (k2 + 1) := ⟨_, rfl⟩
          have hk3' : k3 ≤ s.size := by rw [ek]; exact hk3
          rw [← ek] at HAt ⊢
          clear hk3 ek
          go_wp2_with fail
          refine (rvalue_any s k3 _ (by omega) (by omega)).mono ?_
          rintro e w2 ⟨t, n, ok, rfl, ⟨m, rfl⟩, hv⟩
          have hts : t.size ≤ s.size ∧ n ≤ s.size := by
            revert hv
            cases hvE : valG s.data.toList k3 with
            | none => rintro ⟨_, rfl, rfl⟩; exact ⟨Nat.zero_le _, hk3'⟩
            | some r =>
              obtain ⟨rt, rn⟩ := r
              rintro ⟨rfl, rfl, _⟩
              have := valG_bd hvE
              rw [C.size_list] at this
              exact ⟨valG_size hvE, this.2⟩
          have HF : Hid (AttIs s i nm (C.decS true t) n ok) := Lib.hid (by
            unfold AttIs
            rw [HAt.out, if_pos HQ.out]
            cases hvE : valG s.data.toList k3 with
            | none => rw [hvE] at hv; exact hv.1
            | some r =>
              rw [hvE] at hv
              obtain ⟨rfl, rfl, h3⟩ := hv
              exact ⟨rfl, h3⟩)
          have HB3 := Lib.hid (drewNB HB2.out m)
          have ht3 : ((w1.alloc (.cells #[.string nm, .string ⟨#[]⟩] 51)).drewN m).heap[w.heap.size]? = some (.cells #[.string ⟨#[]⟩, .string ⟨#[]⟩] 51 (0, 0)) := HT2.out
          have ha3 : ((w1.alloc (.cells #[.string nm, .string ⟨#[]⟩] 51)).drewN m).heap[w1.heap.size]? = some (.cells #[.string nm, .string ⟨#[]⟩] 51 (0, 0)) := HA2.out
          have HT3 := Lib.hid ht3
          have HA3 := Lib.hid ha3
          clear hv ht3 ha3
          obtain ⟨w3, ew⟩ : ∃ w3, w3 = (w1.alloc (.cells #[.string nm, .string ⟨#[]⟩] 51)).drewN m := ⟨_, rfl⟩
          rw [← ew] at HB3 HT3 HA3 ⊢
          clear ew
          have HDc := Lib.hid (C.rdecode_any t true w3 (by omega))
          generalize C.decS true t = d at *
          go_wp2_with fail
          refine HDc.out.mono ?_
          rintro e w4 ⟨rfl, hbl⟩
          have ht4 := heap_keep hbl HT3.out
          have ha4 := heap_keep hbl HA3.out
          have HB4 := below_step HB3 hbl
          have b0 := cell_of_row w4 w.heap.size 0 _ _ (0, 0) ht4
          have b1 := cell_of_row w4 w.heap.size 1 _ _ (0, 0) ht4
          have f0 := frozen_of_row w4 w.heap.size 0 _ _ ht4
          have f1 := frozen_of_row w4 w.heap.size 1 _ _ ht4
          have c0 := cell_of_row w4 w1.heap.size 0 _ _ (0, 0) ha4
          have c1 := cell_of_row w4 w1.heap.size 1 _ _ (0, 0) ha4
          have c1f := frozen_of_row w4 w1.heap.size 1 _ _ ha4
          have hne : w.heap.size ≠ w1.heap.size := by omega
          have hne2 : w1.heap.size ≠ w.heap.size := by omega
          simp only [List.getElem?_toArray, List.getElem?_cons_zero, List.getElem?_cons_succ] at b0 b1 c0 c1
          clear hbl
          have HFin := Lib.hid (fin_att (X := w1.heap.size) (.string nm) (.string d) (.string d) HB4.out ht4 hlt1)
          clear ht4 ha4
          go_wp2
          clear b0 b1 f0 f1 c0 c1 c1f
          obtain ⟨wf, ew⟩ : ∃ wf, wf = (((w4.setCell ⟨w1.heap.size, 1, none⟩ (.string d)).setCell ⟨w.heap.size, 0, none⟩ (.string nm)).setCell ⟨w.heap.size, 1, none⟩ (.string d)) := ⟨_, rfl⟩
          rw [← ew] at HFin ⊢
          clear ew
          have d0 := cell_of_row wf w.heap.size 0 _ _ (0, 0) HFin.out.1
          have d1 := cell_of_row wf w.heap.size 1 _ _ (0, 0) HFin.out.1
          refine bodyPost_ret (v := .tuple #[.agg #[.string nm, .string d], .int .i64 (n : Int), .bool ok]) (by simp [results, Tryz.results50, go_sem, d0, d1]) rfl ?_
          exact ⟨nm, d, n, ok, rfl, HFin.out.2, hts.2, HF.out⟩
        · have hq2 : hitB s k2 61 = false := by simpa using hq
          have HF : Hid (AttIs s i nm ⟨#[]⟩ k2 true) := Lib.hid (by
            unfold AttIs
            rw [HAt.out, if_neg (hitB_no.1 hq2)]; exact ⟨rfl, rfl⟩)
          obtain ⟨w2, ew⟩ : ∃ w2, w2 = w1.alloc (.cells #[.string nm, .string ⟨#[]⟩] 51) := ⟨_, rfl⟩
          rw [← ew] at HB2 HT2 HA2 ⊢
          clear ew
          have HFin := Lib.hid (fin_att2 (.string nm) (.string ⟨#[]⟩) HB2.out HT2.out)
          have c0 := cell_of_row _ w1.heap.size 0 _ _ (0, 0) HA2.out
          have c1 := cell_of_row _ w1.heap.size 1 _ _ (0, 0) HA2.out
          have b0 := cell_of_row _ w.heap.size 0 _ _ (0, 0) HT2.out
          have b1 := cell_of_row _ w.heap.size 1 _ _ (0, 0) HT2.out
          have f0 := frozen_of_row _ w.heap.size 0 _ _ HT2.out
          have f1 := frozen_of_row _ w.heap.size 1 _ _ HT2.out
          have hne : w.heap.size ≠ w1.heap.size := by omega
          have hne2 : w1.heap.size ≠ w.heap.size := by omega
          simp only [List.getElem?_toArray, List.getElem?_cons_zero, List.getElem?_cons_succ] at b0 b1 c0 c1
          by_cases hlt : k2 < s.size
          · have hc := s[k2].toNat_lt
            have g := hitB_lt (c := 61) hlt
            rw [hq2] at g
            have e61 : ((s[k2].toNat : Int) == 61) = false := g.symm
            have n61' : ((s[k2].toNat : Int) != 61) = true := by rw [bne, e61]; rfl
            clear hq hq2 g
            go_wp2
            clear b0 b1 f0 f1 c0 c1
            obtain ⟨wf, ew⟩ : ∃ wf, wf = ((w2.setCell ⟨w.heap.size, 0, none⟩ (.string nm)).setCell ⟨w.heap.size, 1, none⟩ (.string ⟨#[]⟩)) := ⟨_, rfl⟩
            rw [← ew] at HFin ⊢
            clear ew
            have d0 := cell_of_row wf w.heap.size 0 _ _ (0, 0) HFin.out.1
            have d1 := cell_of_row wf w.heap.size 1 _ _ (0, 0) HFin.out.1
            refine bodyPost_ret (v := .tuple #[.agg #[.string nm, .string ⟨#[]⟩], .int .i64 (k2 : Int), .bool true]) (by simp [results, Tryz.results50, go_sem, d0, d1]) rfl ?_
            exact ⟨nm, ⟨#[]⟩, k2, true, rfl, HFin.out.2, hk2', HF.out⟩
          · clear hq hq2
            go_wp2
            clear b0 b1 f0 f1 c0 c1
            obtain ⟨wf, ew⟩ : ∃ wf, wf = ((w2.setCell ⟨w.heap.size, 0, none⟩ (.string nm)).setCell ⟨w.heap.size, 1, none⟩ (.string ⟨#[]⟩)) := ⟨_, rfl⟩
            rw [← ew] at HFin ⊢
            clear ew
            have d0 := cell_of_row wf w.heap.size 0 _ _ (0, 0) HFin.out.1
            have d1 := cell_of_row wf w.heap.size 1 _ _ (0, 0) HFin.out.1
            refine bodyPost_ret (v := .tuple #[.agg #[.string nm, .string ⟨#[]⟩], .int .i64 (k2 : Int), .bool true]) (by simp [results, Tryz.results50, go_sem, d0, d1]) rfl ?_
            exact ⟨nm, ⟨#[]⟩, k2, true, rfl, HFin.out.2, hk2', HF.out⟩
      · have hbj := s[j].toNat_lt
        go_wp2_with fail
        refine (HLw.out _).mono ?_
        rintro e w1 ⟨rfl, hbl⟩
        have hb1 : w1.heap[w.heap.size]? = some (.cells #[.string ⟨#[]⟩, .string ⟨#[]⟩] 51 (0, 0)) := heap_keep hbl HB0.out
        have HB1 : Hid (Below w.heap.size w w1) := Lib.hid (HBl.out.trans (hbl.mono (by simp)))
        have HT1 := Lib.hid hb1
        have ha1 := heap_alloc_new w1 (.cells #[.string nm, .string ⟨#[]⟩] 51)
        have hb2 := heap_keep ((Below.refl _ _).alloc (Nat.le_refl _) (.cells #[.string nm, .string ⟨#[]⟩] 51)) hb1
        have HA2 := Lib.hid ha1
        have HT2 := Lib.hid hb2
        have HB2 := Lib.hid (HB1.out.alloc HB1.out.size (.cells #[.string nm, .string ⟨#[]⟩] 51))
        have hlt1 := (Array.getElem?_eq_some_iff.1 hb1).1
        clear hbl hb1 ha1 hb2
        go_wp2_with fail
        refine (HSk.out _).mono ?_
        rintro e w2 ⟨rfl, rfl⟩
        obtain ⟨k2, ek⟩ : ∃ k2, k2 = skp s.data.toList j := ⟨_, rfl⟩
        have hk2' : k2 ≤ s.size := by rw [ek]; exact hk2
        rw [← ek] at HAt ⊢
        clear hk1 hk2 ek
        by_cases hq : hitB s k2 61 = true
        · have hlt := hit_lt hq
          have hc := s[k2].toNat_lt
          have g := hitB_lt (c := 61) hlt
          rw [hq] at g
          have e61 : ((s[k2].toNat : Int) == 61) = true := g.symm
          have n61' : ((s[k2].toNat : Int) != 61) = false := by rw [bne, e61]; rfl
          have HQ := Lib.hid (hitB_iff.1 hq)
          have HSk2 := Lib.hid (fun W => skip_any s (k2 + 1) W (by omega) (by omega))
          have ek1 : ((k2 + 1 : Nat) : Int) = (k2 : Int) + 1 := by omega
          rw [ek1] at HSk2
          have hk3 := run_le spC s.data.toList (k2 + 1) (by rw [C.size_list]; omega)
          rw [C.size_list] at hk3
          clear hq g ek1
          go_wp2_with fail
          refine (HSk2.out _).mono ?_
          rintro e w2 ⟨rfl, rfl⟩
          obtain ⟨k3, ek⟩ : ∃ k3, k3 = skp s.data.toList (k2 + 1) := ⟨_, rfl⟩
          have hk3' : k3 ≤ s.size := by rw [ek]; exact hk3
          rw [← ek] at HAt ⊢
          clear hk3 ek
          go_wp2_with fail
          refine (rvalue_any s k3 _ (by omega) (by omega)).mono ?_
          rintro e w2 ⟨t, n, ok, rfl, ⟨m, rfl⟩, hv⟩
          have hts : t.size ≤ s.size ∧ n ≤ s.size := by
            revert hv
            cases hvE : valG s.data.toList k3 with
            | none => rintro ⟨_, rfl, rfl⟩; exact ⟨Nat.zero_le _, hk3'⟩
            | some r =>
              obtain ⟨rt, rn⟩ := r
              rintro ⟨rfl, rfl, _⟩
              have := valG_bd hvE
              rw [C.size_list] at this
              exact ⟨valG_size hvE, this.2⟩
          have HF : Hid (AttIs s i nm (C.decS true t) n ok) := Lib.hid (by
            unfold AttIs
            rw [HAt.out, if_pos HQ.out]
            cases hvE : valG s.data.toList k3 with
            | none => rw [hvE] at hv; exact hv.1
            | some r =>
              rw [hvE] at hv
              obtain ⟨rfl, rfl, h3⟩ := hv
              exact ⟨rfl, h3⟩)
          have HB3 := Lib.hid (drewNB HB2.out m)
          have ht3 : ((w1.alloc (.cells #[.string nm, .string ⟨#[]⟩] 51)).drewN m).heap[w.heap.size]? = some (.cells #[.string ⟨#[]⟩, .string ⟨#[]⟩] 51 (0, 0)) := HT2.out
          have ha3 : ((w1.alloc (.cells #[.string nm, .string ⟨#[]⟩] 51)).drewN m).heap[w1.heap.size]? = some (.cells #[.string nm, .string ⟨#[]⟩] 51 (0, 0)) := HA2.out
          have HT3 := Lib.hid ht3
          have HA3 := Lib.hid ha3
          clear hv ht3 ha3
          obtain ⟨w3, ew⟩ : ∃ w3, w3 = (w1.alloc (.cells #[.string nm, .string ⟨#[]⟩] 51)).drewN m := ⟨_, rfl⟩
          rw [← ew] at HB3 HT3 HA3 ⊢
          clear ew
          have HDc := Lib.hid (C.rdecode_any t true w3 (by omega))
          generalize C.decS true t = d at *
          go_wp2_with fail
          refine HDc.out.mono ?_
          rintro e w4 ⟨rfl, hbl⟩
          have ht4 := heap_keep hbl HT3.out
          have ha4 := heap_keep hbl HA3.out
          have HB4 := below_step HB3 hbl
          have b0 := cell_of_row w4 w.heap.size 0 _ _ (0, 0) ht4
          have b1 := cell_of_row w4 w.heap.size 1 _ _ (0, 0) ht4
          have f0 := frozen_of_row w4 w.heap.size 0 _ _ ht4
          have f1 := frozen_of_row w4 w.heap.size 1 _ _ ht4
          have c0 := cell_of_row w4 w1.heap.size 0 _ _ (0, 0) ha4
          have c1 := cell_of_row w4 w1.heap.size 1 _ _ (0, 0) ha4
          have c1f := frozen_of_row w4 w1.heap.size 1 _ _ ha4
          have hne : w.heap.size ≠ w1.heap.size := by omega
          have hne2 : w1.heap.size ≠ w.heap.size := by omega
          simp only [List.getElem?_toArray, List.getElem?_cons_zero, List.getElem?_cons_succ] at b0 b1 c0 c1
          clear hbl
          have HFin := Lib.hid (fin_att (X := w1.heap.size) (.string nm) (.string d) (.string d) HB4.out ht4 hlt1)
          clear ht4 ha4
          go_wp2
          clear b0 b1 f0 f1 c0 c1 c1f
          obtain ⟨wf, ew⟩ : ∃ wf, wf = (((w4.setCell ⟨w1.heap.size, 1, none⟩ (.string d)).setCell ⟨w.heap.size, 0, none⟩ (.string nm)).setCell ⟨w.heap.size, 1, none⟩ (.string d)) := ⟨_, rfl⟩
          rw [← ew] at HFin ⊢
          clear ew
          have d0 := cell_of_row wf w.heap.size 0 _ _ (0, 0) HFin.out.1
          have d1 := cell_of_row wf w.heap.size 1 _ _ (0, 0) HFin.out.1
          refine bodyPost_ret (v := .tuple #[.agg #[.string nm, .string d], .int .i64 (n : Int), .bool ok]) (by simp [results, Tryz.results50, go_sem, d0, d1]) rfl ?_
          exact ⟨nm, d, n, ok, rfl, HFin.out.2, hts.2, HF.out⟩
        · have hq2 : hitB s k2 61 = false := by simpa using hq
          have HF : Hid (AttIs s i nm ⟨#[]⟩ k2 true) := Lib.hid (by
            unfold AttIs
            rw [HAt.out, if_neg (hitB_no.1 hq2)]; exact ⟨rfl, rfl⟩)
          obtain ⟨w2, ew⟩ : ∃ w2, w2 = w1.alloc (.cells #[.string nm, .string ⟨#[]⟩] 51) := ⟨_, rfl⟩
          rw [← ew] at HB2 HT2 HA2 ⊢
          clear ew
          have HFin := Lib.hid (fin_att2 (.string nm) (.string ⟨#[]⟩) HB2.out HT2.out)
          have c0 := cell_of_row _ w1.heap.size 0 _ _ (0, 0) HA2.out
          have c1 := cell_of_row _ w1.heap.size 1 _ _ (0, 0) HA2.out
          have b0 := cell_of_row _ w.heap.size 0 _ _ (0, 0) HT2.out
          have b1 := cell_of_row _ w.heap.size 1 _ _ (0, 0) HT2.out
          have f0 := frozen_of_row _ w.heap.size 0 _ _ HT2.out
          have f1 := frozen_of_row _ w.heap.size 1 _ _ HT2.out
          have hne : w.heap.size ≠ w1.heap.size := by omega
          have hne2 : w1.heap.size ≠ w.heap.size := by omega
          simp only [List.getElem?_toArray, List.getElem?_cons_zero, List.getElem?_cons_succ] at b0 b1 c0 c1
          by_cases hlt : k2 < s.size
          · have hc := s[k2].toNat_lt
            have g := hitB_lt (c := 61) hlt
            rw [hq2] at g
            have e61 : ((s[k2].toNat : Int) == 61) = false := g.symm
            have n61' : ((s[k2].toNat : Int) != 61) = true := by rw [bne, e61]; rfl
            clear hq hq2 g
            go_wp2
            clear b0 b1 f0 f1 c0 c1
            obtain ⟨wf, ew⟩ : ∃ wf, wf = ((w2.setCell ⟨w.heap.size, 0, none⟩ (.string nm)).setCell ⟨w.heap.size, 1, none⟩ (.string ⟨#[]⟩)) := ⟨_, rfl⟩
            rw [← ew] at HFin ⊢
            clear ew
            have d0 := cell_of_row wf w.heap.size 0 _ _ (0, 0) HFin.out.1
            have d1 := cell_of_row wf w.heap.size 1 _ _ (0, 0) HFin.out.1
            refine bodyPost_ret (v := .tuple #[.agg #[.string nm, .string ⟨#[]⟩], .int .i64 (k2 : Int), .bool true]) (by simp [results, Tryz.results50, go_sem, d0, d1]) rfl ?_
            exact ⟨nm, ⟨#[]⟩, k2, true, rfl, HFin.out.2, hk2', HF.out⟩
          · clear hq hq2
            go_wp2
            clear b0 b1 f0 f1 c0 c1
            obtain ⟨wf, ew⟩ : ∃ wf, wf = ((w2.setCell ⟨w.heap.size, 0, none⟩ (.string nm)).setCell ⟨w.heap.size, 1, none⟩ (.string ⟨#[]⟩)) := ⟨_, rfl⟩
            rw [← ew] at HFin ⊢
            clear ew
            have d0 := cell_of_row wf w.heap.size 0 _ _ (0, 0) HFin.out.1
            have d1 := cell_of_row wf w.heap.size 1 _ _ (0, 0) HFin.out.1
            refine bodyPost_ret (v := .tuple #[.agg #[.string nm, .string ⟨#[]⟩], .int .i64 (k2 : Int), .bool true]) (by simp [results, Tryz.results50, go_sem, d0, d1]) rfl ?_
            exact ⟨nm, ⟨#[]⟩, k2, true, rfl, HFin.out.2, hk2', HF.out⟩
      · have hbj := s[j].toNat_lt
        go_wp2_with fail
        refine (HLw.out _).mono ?_
        rintro e w1 ⟨rfl, hbl⟩
        have hb1 : w1.heap[w.heap.size]? = some (.cells #[.string ⟨#[]⟩, .string ⟨#[]⟩] 51 (0, 0)) := heap_keep hbl HB0.out
        have HB1 : Hid (Below w.heap.size w w1) := Lib.hid (HBl.out.trans (hbl.mono (by simp)))
        have HT1 := Lib.hid hb1
        have ha1 := heap_alloc_new w1 (.cells #[.string nm, .string ⟨#[]⟩] 51)
        have hb2 := heap_keep ((Below.refl _ _).alloc (Nat.le_refl _) (.cells #[.string nm, .string ⟨#[]⟩] 51)) hb1
        have HA2 := Lib.hid ha1
        have HT2 := Lib.hid hb2
        have HB2 := Lib.hid (HB1.out.alloc HB1.out.size (.cells #[.string nm, .string ⟨#[]⟩] 51))
        have hlt1 := (Array.getElem?_eq_some_iff.1 hb1).1
        clear hbl hb1 ha1 hb2
        go_wp2_with fail
        refine (HSk.out _).mono ?_
        rintro e w2 ⟨rfl, rfl⟩
        obtain ⟨k2, ek⟩ : ∃ k2, k2 = skp s.data.toList j := ⟨_, rfl⟩
        have hk2' : k2 ≤ s.size := by rw [ek]; exact hk2
        rw [← ek] at HAt ⊢
        clear hk1 hk2 ek
        by_cases hq : hitB s k2 61 = true
        · have hlt := hit_lt hq
          have hc := s[k2].toNat_lt
          have g := hitB_lt (c := 61) hlt
          rw [hq] at g
          have e61 : ((s[k2].toNat : Int) == 61) = true := g.symm
          have n61' : ((s[k2].toNat : Int) != 61) = false := by rw [bne, e61]; rfl
          have HQ := Lib.hid (hitB_iff.1 hq)
          have HSk2 := Lib.hid (fun W => skip_any s (k2 + 1) W (by omega) (by omega))
          have ek1 : ((k2 + 1 : Nat) : Int) = (k2 : Int) + 1 := by omega
          rw [ek1] at HSk2
          have hk3 := run_le spC s.data.toList (k2 + 1) (by rw [C.size_list]; omega)
          rw [C.size_list] at hk3
          clear hq g ek1
          go_wp2_with fail
          refine (HSk2.out _).mono ?_
          rintro e w2 ⟨rfl, rfl⟩
          obtain ⟨k3, ek⟩ : ∃ k3, k3 = skp s.data.toList (k2 + 1) := ⟨_, rfl⟩
          have hk3' : k3 ≤ s.size := by rw [ek]; exact hk3
          rw [← ek] at HAt ⊢
          clear hk3 ek
          go_wp2_with fail
          refine (rvalue_any s k3 _ (by omega) (by omega)).mono ?_
          rintro e w2 ⟨t, n, ok, rfl, ⟨m, rfl⟩, hv⟩
          have hts : t.size ≤ s.size ∧ n ≤ s.size := by
            revert hv
            cases hvE : valG s.data.toList k3 with
            | none => rintro ⟨_, rfl, rfl⟩; exact ⟨Nat.zero_le _, hk3'⟩
            | some r =>
              obtain ⟨rt, rn⟩ := r
              rintro ⟨rfl, rfl, _⟩
              have := valG_bd hvE
              rw [C.size_list] at this
              exact ⟨valG_size hvE, this.2⟩
          have HF : Hid (AttIs s i nm (C.decS true t) n ok) := Lib.hid (by
            unfold AttIs
            rw [HAt.out, if_pos HQ.out]
            cases hvE : valG s.data.toList k3 with
            | none => rw [hvE] at hv; exact hv.1
            | some r =>
              rw [hvE] at hv
              obtain ⟨rfl, rfl, h3⟩ := hv
              exact ⟨rfl, h3⟩)
          have HB3 := Lib.hid (drewNB HB2.out m)
          have ht3 : ((w1.alloc (.cells #[.string nm, .string ⟨#[]⟩] 51)).drewN m).heap[w.heap.size]? = some (.cells #[.string ⟨#[]⟩, .string ⟨#[]⟩] 51 (0, 0)) := HT2.out
          have ha3 : ((w1.alloc (.cells #[.string nm, .string ⟨#[]⟩] 51)).drewN m).heap[w1.heap.size]? = some (.cells #[.string nm, .string ⟨#[]⟩] 51 (0, 0)) := HA2.out
          have HT3 := Lib.hid ht3
          have HA3 := Lib.hid ha3
          clear hv ht3 ha3
          obtain ⟨w3, ew⟩ : ∃ w3, w3 = (w1.alloc (.cells #[.string nm, .string ⟨#[]⟩] 51)).drewN m := ⟨_, rfl⟩
          rw [← ew] at HB3 HT3 HA3 ⊢
          clear ew
          have HDc := Lib.hid (C.rdecode_any t true w3 (by omega))
          generalize C.decS true t = d at *
          go_wp2_with fail
          refine HDc.out.mono ?_
          rintro e w4 ⟨rfl, hbl⟩
          have ht4 := heap_keep hbl HT3.out
          have ha4 := heap_keep hbl HA3.out
          have HB4 := below_step HB3 hbl
          have b0 := cell_of_row w4 w.heap.size 0 _ _ (0, 0) ht4
          have b1 := cell_of_row w4 w.heap.size 1 _ _ (0, 0) ht4
          have f0 := frozen_of_row w4 w.heap.size 0 _ _ ht4
          have f1 := frozen_of_row w4 w.heap.size 1 _ _ ht4
          have c0 := cell_of_row w4 w1.heap.size 0 _ _ (0, 0) ha4
          have c1 := cell_of_row w4 w1.heap.size 1 _ _ (0, 0) ha4
          have c1f := frozen_of_row w4 w1.heap.size 1 _ _ ha4
          have hne : w.heap.size ≠ w1.heap.size := by omega
          have hne2 : w1.heap.size ≠ w.heap.size := by omega
          simp only [List.getElem?_toArray, List.getElem?_cons_zero, List.getElem?_cons_succ] at b0 b1 c0 c1
          clear hbl
          have HFin := Lib.hid (fin_att (X := w1.heap.size) (.string nm) (.string d) (.string d) HB4.out ht4 hlt1)
          clear ht4 ha4
          go_wp2
          clear b0 b1 f0 f1 c0 c1 c1f
          obtain ⟨wf, ew⟩ : ∃ wf, wf = (((w4.setCell ⟨w1.heap.size, 1, none⟩ (.string d)).setCell ⟨w.heap.size, 0, none⟩ (.string nm)).setCell ⟨w.heap.size, 1, none⟩ (.string d)) := ⟨_, rfl⟩
          rw [← ew] at HFin ⊢
          clear ew
          have d0 := cell_of_row wf w.heap.size 0 _ _ (0, 0) HFin.out.1
          have d1 := cell_of_row wf w.heap.size 1 _ _ (0, 0) HFin.out.1
          refine bodyPost_ret (v := .tuple #[.agg #[.string nm, .string d], .int .i64 (n : Int), .bool ok]) (by simp [results, Tryz.results50, go_sem, d0, d1]) rfl ?_
          exact ⟨nm, d, n, ok, rfl, HFin.out.2, hts.2, HF.out⟩
        · have hq2 : hitB s k2 61 = false := by simpa using hq
          have HF : Hid (AttIs s i nm ⟨#[]⟩ k2 true) := Lib.hid (by
            unfold AttIs
            rw [HAt.out, if_neg (hitB_no.1 hq2)]; exact ⟨rfl, rfl⟩)
          obtain ⟨w2, ew⟩ : ∃ w2, w2 = w1.alloc (.cells #[.string nm, .string ⟨#[]⟩] 51) := ⟨_, rfl⟩
          rw [← ew] at HB2 HT2 HA2 ⊢
          clear ew
          have HFin := Lib.hid (fin_att2 (.string nm) (.string ⟨#[]⟩) HB2.out HT2.out)
          have c0 := cell_of_row _ w1.heap.size 0 _ _ (0, 0) HA2.out
          have c1 := cell_of_row _ w1.heap.size 1 _ _ (0, 0) HA2.out
          have b0 := cell_of_row _ w.heap.size 0 _ _ (0, 0) HT2.out
          have b1 := cell_of_row _ w.heap.size 1 _ _ (0, 0) HT2.out
          have f0 := frozen_of_row _ w.heap.size 0 _ _ HT2.out
          have f1 := frozen_of_row _ w.heap.size 1 _ _ HT2.out
          have hne : w.heap.size ≠ w1.heap.size := by omega
          have hne2 : w1.heap.size ≠ w.heap.size := by omega
          simp only [List.getElem?_toArray, List.getElem?_cons_zero, List.getElem?_cons_succ] at b0 b1 c0 c1
          by_cases hlt : k2 < s.size
          · have hc := s[k2].toNat_lt
            have g := hitB_lt (c := 61) hlt
            rw [hq2] at g
            have e61 : ((s[k2].toNat : Int) == 61) = false := g.symm
            have n61' : ((s[k2].toNat : Int) != 61) = true := by rw [bne, e61]; rfl
            clear hq hq2 g
            go_wp2
            clear b0 b1 f0 f1 c0 c1
            obtain ⟨wf, ew⟩ : ∃ wf, wf = ((w2.setCell ⟨w.heap.size, 0, none⟩ (.string nm)).setCell ⟨w.heap.size, 1, none⟩ (.string ⟨#[]⟩)) := ⟨_, rfl⟩
            rw [← ew] at HFin ⊢
            clear ew
            have d0 := cell_of_row wf w.heap.size 0 _ _ (0, 0) HFin.out.1
            have d1 := cell_of_row wf w.heap.size 1 _ _ (0, 0) HFin.out.1
            refine bodyPost_ret (v := .tuple #[.agg #[.string nm, .string ⟨#[]⟩], .int .i64 (k2 : Int), .bool true]) (by simp [results, Tryz.results50, go_sem, d0, d1]) rfl ?_
            exact ⟨nm, ⟨#[]⟩, k2, true, rfl, HFin.out.2, hk2', HF.out⟩
          · clear hq hq2
            go_wp2
            clear b0 b1 f0 f1 c0 c1
            obtain ⟨wf, ew⟩ : ∃ wf, wf = ((w2.setCell ⟨w.heap.size, 0, none⟩ (.string nm)).setCell ⟨w.heap.size, 1, none⟩ (.string ⟨#[]⟩)) := ⟨_, rfl⟩
            rw [← ew] at HFin ⊢
            clear ew
            have d0 := cell_of_row wf w.heap.size 0 _ _ (0, 0) HFin.out.1
            have d1 := cell_of_row wf w.heap.size 1 _ _ (0, 0) HFin.out.1
            refine bodyPost_ret (v := .tuple #[.agg #[.string nm, .string ⟨#[]⟩], .int .i64 (k2 : Int), .bool true]) (by simp [results, Tryz.results50, go_sem, d0, d1]) rfl ?_
            exact ⟨nm, ⟨#[]⟩, k2, true, rfl, HFin.out.2, hk2', HF.out⟩
      · have hbj := s[j].toNat_lt
        go_wp2_with fail
        refine (HLw.out _).mono ?_
        rintro e w1 ⟨rfl, hbl⟩
        have hb1 : w1.heap[w.heap.size]? = some (.cells #[.string ⟨#[]⟩, .string ⟨#[]⟩] 51 (0, 0)) := heap_keep hbl HB0.out
        have HB1 : Hid (Below w.heap.size w w1) := Lib.hid (HBl.out.trans (hbl.mono (by simp)))
        have HT1 := Lib.hid hb1
        have ha1 := heap_alloc_new w1 (.cells #[.string nm, .string ⟨#[]⟩] 51)
        have hb2 := heap_keep ((Below.refl _ _).alloc (Nat.le_refl _) (.cells #[.string nm, .string ⟨#[]⟩] 51)) hb1
        have HA2 := Lib.hid ha1
        have HT2 := Lib.hid hb2
        have HB2 := Lib.hid (HB1.out.alloc HB1.out.size (.cells #[.string nm, .string ⟨#[]⟩] 51))
        have hlt1 := (Array.getElem?_eq_some_iff.1 hb1).1
        clear hbl hb1 ha1 hb2
        go_wp2_with fail
        refine (HSk.out _).mono ?_
        rintro e w2 ⟨rfl, rfl⟩
        obtain ⟨k2, ek⟩ : ∃ k2, k2 = skp s.data.toList j := ⟨_, rfl⟩
        have hk2' : k2 ≤ s.size := by rw [ek]; exact hk2
        rw [← ek] at HAt ⊢
        clear hk1 hk2 ek
        by_cases hq : hitB s k2 61 = true
        · have hlt := hit_lt hq
          have hc := s[k2].toNat_lt
          have g := hitB_lt (c := 61) hlt
          rw [hq] at g
          have e61 : ((s[k2].toNat : Int) == 61) = true := g.symm
          have n61' : ((s[k2].toNat : Int) != 61) = false := by rw [bne, e61]; rfl
          have HQ := Lib.hid (hitB_iff.1 hq)
          have HSk2 := Lib.hid (fun W => skip_any s (k2 + 1) W (by omega) (by omega))
          have ek1 : ((k2 + 1 : Nat) : Int) = (k2 : Int) + 1 := by omega
          rw [ek1] at HSk2
          have hk3 := run_le spC s.data.toList (k2 + 1) (by rw [C.size_list]; omega)
          rw [C.size_list] at hk3
          clear hq g ek1
          go_wp2_with fail
          refine (HSk2.out _).mono ?_
          rintro e w2 ⟨rfl, rfl⟩
          obtain ⟨k3, ek⟩ : ∃ k3, k3 = skp s.data.toList (k2 + 1) := ⟨_, rfl⟩
          have hk3' : k3 ≤ s.size := by rw [ek]; exact hk3
          rw [← ek] at HAt ⊢
          clear hk3 ek
          go_wp2_with fail
          refine (rvalue_any s k3 _ (by omega) (by omega)).mono ?_
          rintro e w2 ⟨t, n, ok, rfl, ⟨m, rfl⟩, hv⟩
          have hts : t.size ≤ s.size ∧ n ≤ s.size := by
            revert hv
            cases hvE : valG s.data.toList k3 with
            | none => rintro ⟨_, rfl, rfl⟩; exact ⟨Nat.zero_le _, hk3'⟩
            | some r =>
              obtain ⟨rt, rn⟩ := r
              rintro ⟨rfl, rfl, _⟩
              have := valG_bd hvE
              rw [C.size_list] at this
              exact ⟨valG_size hvE, this.2⟩
          have HF : Hid (AttIs s i nm (C.decS true t) n ok) := Lib.hid (by
            unfold AttIs
            rw [HAt.out, if_pos HQ.out]
            cases hvE : valG s.data.toList k3 with
            | none => rw [hvE] at hv; exact hv.1
            | some r =>
              rw [hvE] at hv
              obtain ⟨rfl, rfl, h3⟩ := hv
              exact ⟨rfl, h3⟩)
          have HB3 := Lib.hid (drewNB HB2.out m)
          have ht3 : ((w1.alloc (.cells #[.string nm, .string ⟨#[]⟩] 51)).drewN m).heap[w.heap.size]? = some (.cells #[.string ⟨#[]⟩, .string ⟨#[]⟩] 51 (0, 0)) := HT2.out
          have ha3 : ((w1.alloc (.cells #[.string nm, .string ⟨#[]⟩] 51)).drewN m).heap[w1.heap.size]? = some (.cells #[.string nm, .string ⟨#[]⟩] 51 (0, 0)) := HA2.out
          have HT3 := Lib.hid ht3
          have HA3 := Lib.hid ha3
          clear hv ht3 ha3
          obtain ⟨w3, ew⟩ : ∃ w3, w3 = (w1.alloc (.cells #[.string nm, .string ⟨#[]⟩] 51)).drewN m := ⟨_, rfl⟩
          rw [← ew] at HB3 HT3 HA3 ⊢
          clear ew
          have HDc := Lib.hid (C.rdecode_any t true w3 (by omega))
          generalize C.decS true t = d at *
          go_wp2_with fail
          refine HDc.out.mono ?_
          rintro e w4 ⟨rfl, hbl⟩
          have ht4 := heap_keep hbl HT3.out
          have ha4 := heap_keep hbl HA3.out
          have HB4 := below_step HB3 hbl
          have b0 := cell_of_row w4 w.heap.size 0 _ _ (0, 0) ht4
          have b1 := cell_of_row w4 w.heap.size 1 _ _ (0, 0) ht4
          have f0 := frozen_of_row w4 w.heap.size 0 _ _ ht4
          have f1 := frozen_of_row w4 w.heap.size 1 _ _ ht4
          have c0 := cell_of_row w4 w1.heap.size 0 _ _ (0, 0) ha4
          have c1 := cell_of_row w4 w1.heap.size 1 _ _ (0, 0) ha4
          have c1f := frozen_of_row w4 w1.heap.size 1 _ _ ha4
          have hne : w.heap.size ≠ w1.heap.size := by omega
          have hne2 : w1.heap.size ≠ w.heap.size := by omega
          simp only [List.getElem?_toArray, List.getElem?_cons_zero, List.getElem?_cons_succ] at b0 b1 c0 c1
          clear hbl
          have HFin := Lib.hid (fin_att (X := w1.heap.size) (.string nm) (.string d) (.string d) HB4.out ht4 hlt1)
          clear ht4 ha4
          go_wp2
          clear b0 b1 f0 f1 c0 c1 c1f
          obtain ⟨wf, ew⟩ : ∃ wf, wf = (((w4.setCell ⟨w1.heap.size, 1, none⟩ (.string d)).setCell ⟨w.heap.size, 0, none⟩ (.string nm)).setCell ⟨w.heap.size, 1, none⟩ (.string d)) := ⟨_, rfl⟩
          rw [← ew] at HFin ⊢
          clear ew
          have d0 := cell_of_row wf w.heap.size 0 _ _ (0, 0) HFin.out.1
          have d1 := cell_of_row wf w.heap.size 1 _ _ (0, 0) HFin.out.1
          refine bodyPost_ret (v := .tuple #[.agg #[.string nm, .string d], .int .i64 (n : Int), .bool ok]) (by simp [results, Tryz.results50, go_sem, d0, d1]) rfl ?_
          exact ⟨nm, d, n, ok, rfl, HFin.out.2, hts.2, HF.out⟩
        · have hq2 : hitB s k2 61 = false := by simpa using hq
          have HF : Hid (AttIs s i nm ⟨#[]⟩ k2 true) := Lib.hid (by
            unfold AttIs
            rw [HAt.out, if_neg (hitB_no.1 hq2)]; exact ⟨rfl, rfl⟩)
          obtain ⟨w2, ew⟩ : ∃ w2, w2 = w1.alloc (.cells #[.string nm, .string ⟨#[]⟩] 51) := ⟨_, rfl⟩
          rw [← ew] at HB2 HT2 HA2 ⊢
          clear ew
          have HFin := Lib.hid (fin_att2 (.string nm) (.string ⟨#[]⟩) HB2.out HT2.out)
          have c0 := cell_of_row _ w1.heap.size 0 _ _ (0, 0) HA2.out
          have c1 := cell_of_row _ w1.heap.size 1 _ _ (0, 0) HA2.out
          have b0 := cell_of_row _ w.heap.size 0 _ _ (0, 0) HT2.out
          have b1 := cell_of_row _ w.heap.size 1 _ _ (0, 0) HT2.out
          have f0 := frozen_of_row _ w.heap.size 0 _ _ HT2.out
          have f1 := frozen_of_row _ w.heap.size 1 _ _ HT2.out
          have hne : w.heap.size ≠ w1.heap.size := by omega
          have hne2 : w1.heap.size ≠ w.heap.size := by omega
          simp only [List.getElem?_toArray, List.getElem?_cons_zero, List.getElem?_cons_succ] at b0 b1 c0 c1
          by_cases hlt : k2 < s.size
          · have hc := s[k2].toNat_lt
            have g := hitB_lt (c := 61) hlt
            rw [hq2] at g
            have e61 : ((s[k2].toNat : Int) == 61) = false := g.symm
            have n61' : ((s[k2].toNat : Int) != 61) = true := by rw [bne, e61]; rfl
            clear hq hq2 g
            go_wp2
            clear b0 b1 f0 f1 c0 c1
            obtain ⟨wf, ew⟩ : ∃ wf, wf = ((w2.setCell ⟨w.heap.size, 0, none⟩ (.string nm)).setCell ⟨w.heap.size, 1, none⟩ (.string ⟨#[]⟩)) := ⟨_, rfl⟩
            rw [← ew] at HFin ⊢
            clear ew
            have d0 := cell_of_row wf w.heap.size 0 _ _ (0, 0) HFin.out.1
            have d1 := cell_of_row wf w.heap.size 1 _ _ (0, 0) HFin.out.1
            refine bodyPost_ret (v := .tuple #[.agg #[.string nm, .string ⟨#[]⟩], .int .i64 (k2 : Int), .bool true]) (by simp [results, Tryz.results50, go_sem, d0, d1]) rfl ?_
            exact ⟨nm, ⟨#[]⟩, k2, true, rfl, HFin.out.2, hk2', HF.out⟩
          · clear hq hq2
            go_wp2
            clear b0 b1 f0 f1 c0 c1
            obtain ⟨wf, ew⟩ : ∃ wf, wf = ((w2.setCell ⟨w.heap.size, 0, none⟩ (.string nm)).setCell ⟨w.heap.size, 1, none⟩ (.string ⟨#[]⟩)) := ⟨_, rfl⟩
            rw [← ew] at HFin ⊢
            clear ew
            have d0 := cell_of_row wf w.heap.size 0 _ _ (0, 0) HFin.out.1
            have d1 := cell_of_row wf w.heap.size 1 _ _ (0, 0) HFin.out.1
            refine bodyPost_ret (v := .tuple #[.agg #[.string nm, .string ⟨#[]⟩], .int .i64 (k2 : Int), .bool true]) (by simp [results, Tryz.results50, go_sem, d0, d1]) rfl ?_
            exact ⟨nm, ⟨#[]⟩, k2, true, rfl, HFin.out.2, hk2', HF.out⟩
      · have hbj := s[j].toNat_lt
        have HSp := Lib.hid (fun W => rspace_any (s[j].toNat : Int) W (by omega) (by omega))
        rw [hsp] at HSp
        clear hsp
        go_wp2_with (go_at_call 47; refine (HSp.out _).mono ?_; rintro e w' ⟨rfl, rfl⟩)
        refine (HLw.out _).mono ?_
        rintro e w1 ⟨rfl, hbl⟩
        have hb1 : w1.heap[w.heap.size]? = some (.cells #[.string ⟨#[]⟩, .string ⟨#[]⟩] 51 (0, 0)) := heap_keep hbl HB0.out
        have HB1 : Hid (Below w.heap.size w w1) := Lib.hid (HBl.out.trans (hbl.mono (by simp)))
        have HT1 := Lib.hid hb1
        have ha1 := heap_alloc_new w1 (.cells #[.string nm, .string ⟨#[]⟩] 51)
        have hb2 := heap_keep ((Below.refl _ _).alloc (Nat.le_refl _) (.cells #[.string nm, .string ⟨#[]⟩] 51)) hb1
        have HA2 := Lib.hid ha1
        have HT2 := Lib.hid hb2
        have HB2 := Lib.hid (HB1.out.alloc HB1.out.size (.cells #[.string nm, .string ⟨#[]⟩] 51))
        have hlt1 := (Array.getElem?_eq_some_iff.1 hb1).1
        clear hbl hb1 ha1 hb2
        go_wp2_with fail
        refine (HSk.out _).mono ?_
        rintro e w2 ⟨rfl, rfl⟩
        obtain ⟨k2, ek⟩ : ∃ k2, k2 = skp s.data.toList j := ⟨_, rfl⟩
        have hk2' : k2 ≤ s.size := by rw [ek]; exact hk2
        rw [← ek] at HAt ⊢
        clear hk1 hk2 ek
        by_cases hq : hitB s k2 61 = true
        · have hlt := hit_lt hq
          have hc := s[k2].toNat_lt
          have g := hitB_lt (c := 61) hlt
          rw [hq] at g
          have e61 : ((s[k2].toNat : Int) == 61) = true := g.symm
          have n61' : ((s[k2].toNat : Int) != 61) = false := by rw [bne, e61]; rfl
          have HQ := Lib.hid (hitB_iff.1 hq)
          have HSk2 := Lib.hid (fun W => skip_any s (k2 + 1) W (by omega) (by omega))
          have ek1 : ((k2 + 1 : Nat) : Int) = (k2 : Int) + 1 := by omega
          rw [ek1] at HSk2
          have hk3 := run_le spC s.data.toList (k2 + 1) (by rw [C.size_list]; omega)
          rw [C.size_list] at hk3
          clear hq g ek1
          go_wp2_with fail
          refine (HSk2.out _).mono ?_
          rintro e w2 ⟨rfl, rfl⟩
          obtain ⟨k3, ek⟩ : ∃ k3, k3 = skp s.data.toList (k2 + 1) := ⟨_, rfl⟩
          have hk3' : k3 ≤ s.size := by rw [ek]; exact hk3
          rw [← ek] at HAt ⊢
          clear hk3 ek
          go_wp2_with fail
          refine (rvalue_any s k3 _ (by omega) (by omega)).mono ?_
          rintro e w2 ⟨t, n, ok, rfl, ⟨m, rfl⟩, hv⟩
          have hts : t.size ≤ s.size ∧ n ≤ s.size := by
            revert hv
            cases hvE : valG s.data.toList k3 with
            | none => rintro ⟨_, rfl, rfl⟩; exact ⟨Nat.zero_le _, hk3'⟩
            | some r =>
              obtain ⟨rt, rn⟩ := r
              rintro ⟨rfl, rfl, _⟩
              have := valG_bd hvE
              rw [C.size_list] at this
              exact ⟨valG_size hvE, this.2⟩
          have HF : Hid (AttIs s i nm (C.decS true t) n ok) := Lib.hid (by
            unfold AttIs
            rw [HAt.out, if_pos HQ.out]
            cases hvE : valG s.data.toList k3 with
            | none => rw [hvE] at hv; exact hv.1
            | some r =>
              rw [hvE] at hv
              obtain ⟨rfl, rfl, h3⟩ := hv
              exact ⟨rfl, h3⟩)
          have HB3 := Lib.hid (drewNB HB2.out m)
          have ht3 : ((w1.alloc (.cells #[.string nm, .string ⟨#[]⟩] 51)).drewN m).heap[w.heap.size]? = some (.cells #[.string ⟨#[]⟩, .string ⟨#[]⟩] 51 (0, 0)) := HT2.out
          have ha3 : ((w1.alloc (.cells #[.string nm, .string ⟨#[]⟩] 51)).drewN m).heap[w1.heap.size]? = some (.cells #[.string nm, .string ⟨#[]⟩] 51 (0, 0)) := HA2.out
          have HT3 := Lib.hid ht3
          have HA3 := Lib.hid ha3
          clear hv ht3 ha3
          obtain ⟨w3, ew⟩ : ∃ w3, w3 = (w1.alloc (.cells #[.string nm, .string ⟨#[]⟩] 51)).drewN m := ⟨_, rfl⟩
          rw [← ew] at HB3 HT3 HA3 ⊢
          clear ew
          have HDc := Lib.hid (C.rdecode_any t true w3 (by omega))
          generalize C.decS true t = d at *
          go_wp2_with fail
          refine HDc.out.mono ?_
          rintro e w4 ⟨rfl, hbl⟩
          have ht4 := heap_keep hbl HT3.out
          have ha4 := heap_keep hbl HA3.out
          have HB4 := below_step HB3 hbl
          have b0 := cell_of_row w4 w.heap.size 0 _ _ (0, 0) ht4
          have b1 := cell_of_row w4 w.heap.size 1 _ _ (0, 0) ht4
          have f0 := frozen_of_row w4 w.heap.size 0 _ _ ht4
          have f1 := frozen_of_row w4 w.heap.size 1 _ _ ht4
          have c0 := cell_of_row w4 w1.heap.size 0 _ _ (0, 0) ha4
          have c1 := cell_of_row w4 w1.heap.size 1 _ _ (0, 0) ha4
          have c1f := frozen_of_row w4 w1.heap.size 1 _ _ ha4
          have hne : w.heap.size ≠ w1.heap.size := by omega
          have hne2 : w1.heap.size ≠ w.heap.size := by omega
          simp only [List.getElem?_toArray, List.getElem?_cons_zero, List.getElem?_cons_succ] at b0 b1 c0 c1
          clear hbl
          have HFin := Lib.hid (fin_att (X := w1.heap.size) (.string nm) (.string d) (.string d) HB4.out ht4 hlt1)
          clear ht4 ha4
          go_wp2
          clear b0 b1 f0 f1 c0 c1 c1f
          obtain ⟨wf, ew⟩ : ∃ wf, wf = (((w4.setCell ⟨w1.heap.size, 1, none⟩ (.string d)).setCell ⟨w.heap.size, 0, none⟩ (.string nm)).setCell ⟨w.heap.size, 1, none⟩ (.string d)) := ⟨_, rfl⟩
          rw [← ew] at HFin ⊢
          clear ew
          have d0 := cell_of_row wf w.heap.size 0 _ _ (0, 0) HFin.out.1
          have d1 := cell_of_row wf w.heap.size 1 _ _ (0, 0) HFin.out.1
          refine bodyPost_ret (v := .tuple #[.agg #[.string nm, .string d], .int .i64 (n : Int), .bool ok]) (by simp [results, Tryz.results50, go_sem, d0, d1]) rfl ?_
          exact ⟨nm, d, n, ok, rfl, HFin.out.2, hts.2, HF.out⟩
        · have hq2 : hitB s k2 61 = false := by simpa using hq
          have HF : Hid (AttIs s i nm ⟨#[]⟩ k2 true) := Lib.hid (by
            unfold AttIs
            rw [HAt.out, if_neg (hitB_no.1 hq2)]; exact ⟨rfl, rfl⟩)
          obtain ⟨w2, ew⟩ : ∃ w2, w2 = w1.alloc (.cells #[.string nm, .string ⟨#[]⟩] 51) := ⟨_, rfl⟩
          rw [← ew] at HB2 HT2 HA2 ⊢
          clear ew
          have HFin := Lib.hid (fin_att2 (.string nm) (.string ⟨#[]⟩) HB2.out HT2.out)
          have c0 := cell_of_row _ w1.heap.size 0 _ _ (0, 0) HA2.out
          have c1 := cell_of_row _ w1.heap.size 1 _ _ (0, 0) HA2.out
          have b0 := cell_of_row _ w.heap.size 0 _ _ (0, 0) HT2.out
          have b1 := cell_of_row _ w.heap.size 1 _ _ (0, 0) HT2.out
          have f0 := frozen_of_row _ w.heap.size 0 _ _ HT2.out
          have f1 := frozen_of_row _ w.heap.size 1 _ _ HT2.out
          have hne : w.heap.size ≠ w1.heap.size := by omega
          have hne2 : w1.heap.size ≠ w.heap.size := by omega
          simp only [List.getElem?_toArray, List.getElem?_cons_zero, List.getElem?_cons_succ] at b0 b1 c0 c1
          by_cases hlt : k2 < s.size
          · have hc := s[k2].toNat_lt
            have g := hitB_lt (c := 61) hlt
            rw [hq2] at g
            have e61 : ((s[k2].toNat : Int) == 61) = false := g.symm
            have n61' : ((s[k2].toNat : Int) != 61) = true := by rw [bne, e61]; rfl
            clear hq hq2 g
            go_wp2
            clear b0 b1 f0 f1 c0 c1
            obtain ⟨wf, ew⟩ : ∃ wf, wf = ((w2.setCell ⟨w.heap.size, 0, none⟩ (.string nm)).setCell ⟨w.heap.size, 1, none⟩ (.string ⟨#[]⟩)) := ⟨_, rfl⟩
            rw [← ew] at HFin ⊢
            clear ew
            have d0 := cell_of_row wf w.heap.size 0 _ _ (0, 0) HFin.out.1
            have d1 := cell_of_row wf w.heap.size 1 _ _ (0, 0) HFin.out.1
            refine bodyPost_ret (v := .tuple #[.agg #[.string nm, .string ⟨#[]⟩], .int .i64 (k2 : Int), .bool true]) (by simp [results, Tryz.results50, go_sem, d0, d1]) rfl ?_
            exact ⟨nm, ⟨#[]⟩, k2, true, rfl, HFin.out.2, hk2', HF.out⟩
          · clear hq hq2
            go_wp2
            clear b0 b1 f0 f1 c0 c1
            obtain ⟨wf, ew⟩ : ∃ wf, wf = ((w2.setCell ⟨w.heap.size, 0, none⟩ (.string nm)).setCell ⟨w.heap.size, 1, none⟩ (.string ⟨#[]⟩)) := ⟨_, rfl⟩
            rw [← ew] at HFin ⊢
            clear ew
            have d0 := cell_of_row wf w.heap.size 0 _ _ (0, 0) HFin.out.1
            have d1 := cell_of_row wf w.heap.size 1 _ _ (0, 0) HFin.out.1
            refine bodyPost_ret (v := .tuple #[.agg #[.string nm, .string ⟨#[]⟩], .int .i64 (k2 : Int), .bool true]) (by simp [results, Tryz.results50, go_sem, d0, d1]) rfl ?_
            exact ⟨nm, ⟨#[]⟩, k2, true, rfl, HFin.out.2, hk2', HF.out⟩
end Go.Proofs.YtceelfomgcbkiaaGreatDoor.T
