/-
  The law TagStops.
-/
import Derived.Test.YtkfaenhidjekdaaDoorTReads
namespace Go.Proofs.YtkfaenhidjekdaaDoor.T
open Go.RowKit
open Go.Proofs.YtkfaenhidjekdaaDoor.I (spC spI leI)
open Go.Proofs.YtkfaenhidjekdaaDoor.C (StAt)
open Go.Proofs.YtkfaenhidjekdaaDoor.A (At AttrsAt below_step addL eqS eqS_iff getB)

/-! ### plain -/
theorem lt_of_get {l : List UInt8} {k : Nat} (h : l[k]? ≠ none) : k < l.length := by
  rcases Nat.lt_or_ge k l.length with h2 | h2
  · exact h2
  · exact absurd (List.getElem?_eq_none h2) h
theorem tg_enough {m : List UInt8} {r : List At × Bool × Nat} : ∀ {f f' i : Nat} {acc : List At}, i ≤ m.length → tg m f i acc = some r → m.length - i < f' → tg m f' i acc = some r
  | 0, _, _, _, _, h, _ => by cases h
  | _ + 1, 0, _, _, _, _, h => absurd h (Nat.not_lt_zero _)
  | f + 1, f' + 1, i, acc, hi, h, h' => by
    have h1 := run_ge spC m i
    rw [tg_step] at h ⊢
    by_cases e0 : m[skp m i]? = none
    · rw [if_pos e0] at h; cases h
    · have hlt := lt_of_get e0
      rw [if_neg e0] at h ⊢
      by_cases e1 : m[skp m i]? = some 62
      · rw [if_pos e1] at h ⊢; exact h
      · rw [if_neg e1] at h ⊢
        by_cases e2 : m[skp m i]? = some 47
        · rw [if_pos e2] at h ⊢
          by_cases e3 : m[skp m i + 1]? = some 62
          · rw [if_pos e3] at h ⊢; exact h
          · rw [if_neg e3] at h ⊢
            exact tg_enough (by omega) h (by simp only [skp] at *; omega)
        · rw [if_neg e2] at h ⊢
          cases ha : atr m (skp m i) with
          | none => rw [ha] at h; cases h
          | some q =>
            obtain ⟨a, n⟩ := q
            rw [ha] at h
            have hb := atr_bd hlt ha
            exact tg_enough hb.2 h (by simp only [skp] at *; omega)
theorem from_bd (l : List UInt8) : 1 ≤ fromB l := by unfold fromB; split <;> decide
/-- How far a tag that is there goes. -/
theorem rd_yes {l : List UInt8} (h : (rdT l).ok = true) : begins l = true ∧ nmE l ≤ l.length ∧ ∃ xs sf, tg l (l.length + 1) (nmE l) [] = some (xs, sf, (rdT l).n) ∧ rdT l = if fromB l = 2 then ⟨2, I.lowS (cut l 2 (nmE l)), [], false, (rdT l).n, true⟩ else ⟨1, I.lowS (cut l 1 (nmE l)), xs, sf, (rdT l).n, true⟩ := by
  by_cases hb : begins l = true
  · have hl : fromB l ≤ l.length := by
      unfold begins at hb
      rw [Bool.and_eq_true] at hb
      have h2 := hb.2
      cases e : l[fromB l]? with
      | none => rw [e] at h2; cases h2
      | some c => exact Nat.le_of_lt (List.getElem?_eq_some_iff.1 e).1
    refine ⟨hb, run_le stopN l (fromB l) hl, ?_⟩
    have hu : rdT l = match tg l (l.length + 1) (nmE l) [] with
      | none => ⟨0, ByteArray.empty, [], false, l.length, false⟩
      | some (xs, sf, n) => if fromB l = 2 then ⟨2, I.lowS (cut l 2 (nmE l)), [], false, n, true⟩ else ⟨1, I.lowS (cut l 1 (nmE l)), xs, sf, n, true⟩ := by
      conv => lhs; unfold rdT
      rw [if_pos hb]; rfl
    cases e : tg l (l.length + 1) (nmE l) [] with
    | none => rw [hu, e] at h; cases h
    | some r =>
      obtain ⟨xs, sf, n⟩ := r
      rw [e] at hu
      have hn : (rdT l).n = n := by rw [hu]; dsimp only; split <;> rfl
      exact ⟨xs, sf, by rw [hn], by rw [hn]; exact hu⟩
  · exfalso
    unfold rdT at h
    rw [if_neg hb] at h; cases h
theorem rd_bd {l : List UInt8} (h : (rdT l).ok = true) : nmE l < (rdT l).n ∧ (rdT l).n ≤ l.length := by
  obtain ⟨_, hl, xs, sf, ht, _⟩ := rd_yes h
  exact tg_bd hl ht
theorem rd_agree {l m : List UInt8} (h : (rdT l).ok = true) (ha : agree (rdT l).n l m) : rdT m = rdT l := by
  obtain ⟨hb, hl, xs, sf, ht, hu⟩ := rd_yes h
  obtain ⟨h1, h2⟩ := rd_bd h
  have hf1 := from_bd l
  have hfn : fromB l ≤ nmE l := run_ge stopN l (fromB l)
  have ef : fromB m = fromB l := by unfold fromB; rw [agree_get ha (k := 1) (by omega)]
  have eb : begins m = true := by
    rw [← hb]
    unfold begins
    rw [ef, agree_get ha (k := 0) (by omega), agree_get ha (k := fromB l) (by omega)]
  have en : nmE m = nmE l := by unfold nmE; rw [ef]; exact agree_run ha stopN h1
  have hm := ha.2.1
  have et : tg m (m.length + 1) (nmE l) [] = some (xs, sf, (rdT l).n) := tg_enough (by omega) (agree_tg ha hl ht) (by omega)
  have ec : ∀ k, cut m k (nmE l) = cut l k (nmE l) := fun k => (agree_cut ha (by omega)).symm
  conv => lhs; unfold rdT
  rw [if_pos eb, en, et, ef, ec, ec]
  exact hu.symm
def uniq (l : List At) : Prop := l.Pairwise fun a b => a.1 ≠ b.1
theorem add_uniq {l : List At} {a : At} (h : uniq l) : uniq (addL l a) := by
  unfold addL
  split
  · exact h
  · rename_i hg
    have hg2 : getB a.1 l = false := by simpa using hg
    unfold uniq
    rw [List.pairwise_append]
    exact ⟨h, List.pairwise_singleton _ _, fun x hx y hy => by rw [List.mem_singleton.1 hy]; exact A.getB_no.1 hg2 x hx⟩
theorem tg_uniq {l : List UInt8} : ∀ {f i : Nat} {acc ys : List At} {sf : Bool} {n : Nat}, uniq acc → tg l f i acc = some (ys, sf, n) → uniq ys
  | 0, _, _, _, _, _, _, h => by cases h
  | f + 1, i, acc, ys, sf, n, hu, h => by
    rw [tg_step] at h
    split at h
    · cases h
    · split at h
      · injection h with h; injection h with h1 _; rw [← h1]; exact hu
      · split at h
        · split at h
          · injection h with h; injection h with h1 _; rw [← h1]; exact hu
          · exact tg_uniq hu h
        · split at h
          · cases h
          · exact tg_uniq (add_uniq hu) h
theorem rd_uniq {l : List UInt8} (h : (rdT l).ok = true) : uniq (rdT l).attrs := by
  obtain ⟨_, hl, xs, sf, ht, hu⟩ := rd_yes h
  rw [hu]
  split
  · exact List.Pairwise.nil
  · exact tg_uniq List.Pairwise.nil ht
theorem uniq_at {l : List At} (h : uniq l) {i j : Nat} (hi : i < l.length) (hj : j < i) : eqS l[i].1 l[j].1 = false := by
  rw [← Bool.not_eq_true, eqS_iff]
  intro e
  exact List.pairwise_iff_getElem.1 h j i (by omega) hi hj e.symm
theorem agree_ext (s more : ByteArray) (n : Nat) (hn : n ≤ s.size) : agree n s.data.toList (s.extract 0 n ++ more).data.toList := by
  have e : (s.extract 0 n ++ more).data.toList = s.data.toList.take n ++ more.data.toList := by
    rw [ByteArray.data_append, Array.toList_append, C.ext_list, List.drop_zero]
  have hl : n ≤ s.data.toList.length := by rw [C.size_list]; exact hn
  refine ⟨hl, by rw [e, List.length_append, List.length_take]; omega, ?_⟩
  rw [e, List.take_append_of_le_length (by rw [List.length_take]; omega), List.take_take, Nat.min_self]

/-! ### the law -/
set_option maxRecDepth 100000 in
set_option maxHeartbeats 6400000 in
theorem stops_walk (s more : ByteArray) (w : World) (hT : StAt w) (ws : s.size ≤ maxLen) (wn : more.size ≤ maxLen) :
    Calls Tryd.prog 4 #[.string s, .string more] w fun e w' => e = .returned (.bool true) ∧ Below w.heap.size w w' := by
  unfold maxLen at ws wn
  have HT := Lib.hid hT
  clear hT
  by_cases h400 : 400 < s.size
  · have h4 : (400 : Int) < s.size := by omega
    clear h400
    go_enter Tryd.func4, Tryd.ntmps4
    go_wp2_with fail
    refine (awake_any _ HT.out).mono ?_
    rintro e w1 ⟨rfl, hb⟩
    have HB := Lib.hid hb
    clear hb
    go_wp2
    go_ret
    exact ⟨rfl, HB.out⟩
  · have h4 : ¬ (400 : Int) < s.size := by omega
    by_cases h40 : 200 < more.size
    · have h4' : (200 : Int) < more.size := by omega
      clear h400 h40
      go_enter Tryd.func4, Tryd.ntmps4
      go_wp2_with fail
      refine (awake_any _ HT.out).mono ?_
      rintro e w1 ⟨rfl, hb⟩
      have HB := Lib.hid hb
      clear hb
      go_wp2
      go_ret
      exact ⟨rfl, HB.out⟩
    · have h4' : ¬ (200 : Int) < more.size := by omega
      have HR := Lib.hid (read_any s w HT.out (by omega))
      have HRM := Lib.hid (fun u W (hW : StAt W) (hu : u.size ≤ 600) => read_any u W hW (by omega))
      have hlen := rd_len s
      have hlen2 : (rdT s.data.toList).attrs.length ≤ 1000000 := by omega
      have HOk := Lib.hid (fun h => (rd_bd (l := s.data.toList) h))
      have HUq := Lib.hid (fun h => (rd_uniq (l := s.data.toList) h))
      have HAg := Lib.hid (fun h h2 => rd_agree h (agree_ext s more (rdT s.data.toList).n h2))
      clear hlen
      generalize rdT s.data.toList = t at *
      obtain ⟨kind, nm, attrs, self, n, ok⟩ := t
      have HL : Hid (attrs.length ≤ 1000000) := Lib.hid hlen2
      clear hlen2
      cases ok with
      | false =>
        clear HOk HUq HAg HRM h400 h40
        go_enter Tryd.func4, Tryd.ntmps4
        go_wp2_with fail
        refine HR.out.mono ?_
        rintro e w1 ⟨a, cap, _, he, hat, hbl⟩
        unfold tokV at he
        subst he
        have HB1 : Hid (Below w.heap.size w w1) := Lib.hid hbl
        have HB2 := Lib.hid (HB1.out.alloc HB1.out.size (.cells #[.int .i64 kind, .string nm, .slice a attrs.length cap, .bool self, .string ⟨#[]⟩] 25))
        have HT2 := Lib.hid (C.StAt.below HT.out HB2.out)
        clear hbl hat
        go_wp2_with fail
        refine (awake_any _ HT2.out).mono ?_
        rintro e w3 ⟨rfl, hb⟩
        have HB3 := below_step HB2 hb
        clear hb
        go_wp2
        go_ret
        exact ⟨rfl, HB3.out⟩
      | true =>
        have hbd : nmE s.data.toList < n ∧ n ≤ s.data.toList.length := HOk.out rfl
        rw [C.size_list] at hbd
        obtain ⟨hn1, hn2⟩ := hbd
        have hn0 : 1 ≤ n := by omega
        have hUq : uniq attrs := HUq.out rfl
        have hAg := HAg.out rfl hn2
        have HN := Lib.hid (fun i j hi hj => uniq_at hUq (i := i) (j := j) hi hj)
        obtain ⟨u, hu⟩ : ∃ u, u = s.extract 0 n := ⟨_, rfl⟩
        rw [← hu] at hAg
        have hus : u.size ≤ 400 := by rw [hu, ByteArray.size_extract]; omega
        have hms : more.size ≤ 200 := by omega
        have hum : (u ++ more).size ≤ 600 := by rw [ByteArray.size_append]; omega
        have HE := Lib.hid hAg
        have HU := Lib.hid hu
        have hin1 : (1 : Int) ≤ (n : Int) := by omega
        have hin2 : (n : Int) ≤ (s.size : Int) := by omega
        have hin3 : ¬ (s.size : Int) < (n : Int) := by omega
        have hin4 : ¬ (n : Int) < 1 := by omega
        have hin5 : (0 : Int) ≤ (n : Int) := by omega
        clear HOk HUq HAg h400 h40 hn1 hUq hAg hu
        go_enter Tryd.func4, Tryd.ntmps4
        go_wp2_with fail
        refine HR.out.mono ?_
        rintro e w1 ⟨a, cap, hcp, he, hat, hbl⟩
        unfold tokV at he
        subst he
        have hcap : attrs.length ≤ cap := hcp
        have HB1 : Hid (Below w.heap.size w w1) := Lib.hid hbl
        have HB2 := Lib.hid (HB1.out.alloc HB1.out.size (.cells #[.int .i64 kind, .string nm, .slice a attrs.length cap, .bool self, .string ⟨#[]⟩] 25))
        have HH2 := Lib.hid (heap_alloc_new w1 (.cells #[.int .i64 kind, .string nm, .slice a attrs.length cap, .bool self, .string ⟨#[]⟩] 25))
        have HA2 := Lib.hid (A.AttrsAt.alloc (show AttrsAt w1 a attrs from hat) (.cells #[.int .i64 kind, .string nm, .slice a attrs.length cap, .bool self, .string ⟨#[]⟩] 25))
        have HT2 := Lib.hid (C.StAt.below HT.out HB2.out)
        clear hbl hat HB1 HR hcp
        go_upto_region 4 with fail
        obtain ⟨w2, ew⟩ : ∃ w2, w2 = w1.alloc (.cells #[.int .i64 kind, .string nm, .slice a attrs.length cap, .bool self, .string ⟨#[]⟩] 25) := ⟨_, rfl⟩
        rw [← show (⟨#[]⟩ : ByteArray) = ByteArray.empty from rfl]
        rw [← ew] at HB2 HH2 HA2 HT2 ⊢
        clear ew
        have HRR := Lib.hid (HRM.out _ w2 HT2.out hum)
        rw [HE.out, HU.out] at HRR
        go_wp2_with fail
        refine HRR.out.mono ?_
        rintro e w3 ⟨a', cap', _, he, hat, hbl⟩
        unfold tokV at he
        subst he
        have HB3 := below_step HB2 hbl
        have HH3 := Lib.hid (heap_keep hbl HH2.out)
        have HA3 := Lib.hid (HA2.out.below hbl)
        have HB4 := Lib.hid (HB3.out.alloc HB3.out.size (.cells #[.int .i64 kind, .string nm, .slice a' attrs.length cap', .bool self, .string ⟨#[]⟩] 25))
        have HH4 := Lib.hid (heap_keep ((Below.refl w3.heap.size w3).alloc (Nat.le_refl _) (.cells #[.int .i64 kind, .string nm, .slice a' attrs.length cap', .bool self, .string ⟨#[]⟩] 25)) HH3.out)
        have HK4 := Lib.hid (heap_alloc_new w3 (.cells #[.int .i64 kind, .string nm, .slice a' attrs.length cap', .bool self, .string ⟨#[]⟩] 25))
        have HA4 := Lib.hid (HA3.out.alloc (.cells #[.int .i64 kind, .string nm, .slice a' attrs.length cap', .bool self, .string ⟨#[]⟩] 25))
        have HM4 := Lib.hid (A.AttrsAt.alloc (show AttrsAt w3 a' attrs from hat) (.cells #[.int .i64 kind, .string nm, .slice a' attrs.length cap', .bool self, .string ⟨#[]⟩] 25))
        clear hbl hat HB2 HH2 HA2 HB3 HH3 HA3 HRR HRM HE HU
        go_upto_region 9 with fail
        obtain ⟨w4, ew⟩ : ∃ w4, w4 = w3.alloc (.cells #[.int .i64 kind, .string nm, .slice a' attrs.length cap', .bool self, .string ⟨#[]⟩] 25) := ⟨_, rfl⟩
        rw [← show (⟨#[]⟩ : ByteArray) = ByteArray.empty from rfl]
        rw [← ew] at HB4 HH4 HK4 HA4 HM4 ⊢
        clear ew
        have c2 : w4.cell? ⟨w1.heap.size, 2, none⟩ = some (.slice a attrs.length cap) := (row_of HH4.out).2.2.1
        go_wp2_with fail
        clear c2
        go_loopw [54] (fun v wr => ∃ k : Nat, k ≤ attrs.length ∧ v = .int .i64 k ∧ Below w4.heap.size w4 wr) (fun v _ => attrs.length - (intOf v).toNat)
        case atStart => exact ⟨0, Nat.zero_le _, rfl, Below.refl _ _⟩
        case round =>
          obtain ⟨wo, ew0⟩ : ∃ wo, wo = wr := ⟨_, rfl⟩
          subst ew0
          have hL := HL.out
          obtain ⟨k, hk, rfl, hbr⟩ := hrel
          have HBr := Lib.hid hbr
          have HHr := Lib.hid (heap_keep hbr HH4.out)
          clear hbr
          by_cases hlt : k < attrs.length
          · obtain ⟨b, off, rfl, hbk, hcl⟩ := HA4.out (fun e => by rw [e] at hlt; simp at hlt)
            have x1 : wo.cell? ⟨b, off + k * 2, none⟩ = some (.string attrs[k].1) := (HBr.out.cell (p := ⟨b, off + k * 2, none⟩) hbk).trans (hcl k hlt).1
            have x2 : wo.cell? ⟨b, off + k * 2 + 1, none⟩ = some (.string attrs[k].2) := (HBr.out.cell (p := ⟨b, off + k * 2 + 1, none⟩) hbk).trans (hcl k hlt).2
            have HCl := Lib.hid hcl
            have HNk := Lib.hid (fun j hj => HN.out k j hlt hj)
            clear hcl
            generalize attrs[k] = x at *
            have hi1 : (0 : Int) ≤ (k : Int) := by omega
            have hi2 : (k : Int) < (attrs.length : Int) := by omega
            have hi3 : (k : Int) ≤ (cap : Int) := by omega
            have HXx := Lib.hid (heap_alloc_new wo (.cells #[.string x.1, .string x.2] 31))
            have HBx := Lib.hid ((Below.refl wo.heap.size wo).alloc (Nat.le_refl _) (.cells #[.string x.1, .string x.2] 31))
            have HHx := Lib.hid (heap_keep HBx.out HHr.out)
            have HBx4 : Hid (Below w4.heap.size w4 (wo.alloc (.cells #[.string x.1, .string x.2] 31))) := Lib.hid (HBr.out.alloc HBr.out.size _)
            clear HBx
            go_upto_region 12 with fail
            obtain ⟨wx, ew⟩ : ∃ wx, wx = wo.alloc (.cells #[.string x.1, .string x.2] 31) := ⟨_, rfl⟩
            rw [← ew] at HXx HHx HBx4 ⊢
            clear ew x1 x2
            have c2 : wx.cell? ⟨w1.heap.size, 2, none⟩ = some (.slice (some ⟨b, off, none⟩) attrs.length cap) := (row_of HHx.out).2.2.1
            go_wp2_with fail
            clear c2
            go_loopw [64] (fun v wq => ∃ j : Nat, j ≤ k ∧ v = .int .i64 j ∧ Below wx.heap.size wx wq) (fun v _ => k - (intOf v).toNat)
            case atStart => exact ⟨0, Nat.zero_le _, rfl, Below.refl _ _⟩
            case round =>
              obtain ⟨j, hj, rfl, hbq⟩ := hrel
              have HBq := Lib.hid hbq
              have HBq4 := below_step HBx4 hbq
              have HXq := Lib.hid (heap_keep hbq HXx.out)
              clear hbq
              by_cases hjlt : j < k
              · have hj0 : j < attrs.length := by omega
                have y1 : wr.cell? ⟨b, off + j * 2, none⟩ = some (.string attrs[j].1) := (HBq4.out.cell (p := ⟨b, off + j * 2, none⟩) hbk).trans (HCl.out j hj0).1
                have y2 : wr.cell? ⟨b, off + j * 2 + 1, none⟩ = some (.string attrs[j].2) := (HBq4.out.cell (p := ⟨b, off + j * 2 + 1, none⟩) hbk).trans (HCl.out j hj0).2
                have hne := HNk.out j hjlt
                unfold eqS at hne
                clear HXx HHx
                have q1 : wr.cell? ⟨wo.heap.size, 0, none⟩ = some (.string x.1) := cell_of_row wr wo.heap.size 0 _ _ (0, 0) HXq.out
                have hw : wo.heap.size < wr.heap.size := (Array.getElem?_eq_some_iff.1 HXq.out).1
                have HBn := Lib.hid (HBq.out.alloc HBq.out.size (.cells #[.string attrs[j].1, .string attrs[j].2] 31))
                generalize attrs[j] = y at *
                have hj1 : (0 : Int) ≤ (j : Int) := by omega
                have hj2 : (j : Int) < (k : Int) := by omega
                go_wp2
                go_roundw
                case rel => exact ⟨j + 1, by omega, by go_num, HBn.out⟩
                case measure => simp [intOf]; omega
              · go_wp2
                go_roundw
                case rel => exact ⟨k + 1, by omega, by go_num, HBq4.out⟩
                case measure => simp [intOf]; omega
          · have HBw := below_step HB4 HBr.out
            have HKr := Lib.hid (heap_keep HBr.out HK4.out)
            obtain ⟨c0, c1, c2, c3, c4⟩ := row_of HHr.out
            obtain ⟨d0, d1, d2, d3, d4⟩ := row_of HKr.out
            have HS := Lib.hid (tsame_any ⟨kind, nm, attrs, self, n, true⟩ a a' cap cap' wo HL.out (HA4.out.below HBr.out) (HM4.out.below HBr.out))
            unfold tokV at HS
            rw [← show (⟨#[]⟩ : ByteArray) = ByteArray.empty from rfl] at HS
            clear HH4 HK4 HA4 HM4 HL HHr HKr HBr
            go_wp2_with fail
            refine HS.out.mono ?_
            rintro e w5 ⟨rfl, hb⟩
            have HB5 := below_step HBw hb
            clear hb c0 c1 c2 c3 c4 d0 d1 d2 d3 d4 HS HB4
            have HT7 := Lib.hid (C.StAt.below HT.out HB5.out)
            go_wp2_with fail
            refine (awake_any _ HT7.out).mono ?_
            rintro e w8 ⟨rfl, hb⟩
            have HB8 := below_step HB5 hb
            clear hb
            go_wp2
            go_ret
            exact ⟨rfl, HB8.out⟩
end Go.Proofs.YtkfaenhidjekdaaDoor.T
