/-
  The walk of the document's Clone: a tree that shares nothing with the one that it was made of.
-/
import Derived.Test.YtnihomlmjfgmdaaNCut
namespace Go.Proofs.Ytnihomlmjfgmdaa
open Go.RowKit

/-- A node as it is read: its attributes and kids lie somewhere. -/
def ReadK (w : World) (x : Nd) : Prop := (∃ a c, x.kv = .slice a x.kids.length c ∧ IntsAt w a x.kids) ∧ ∃ a c, x.av = .slice a x.attrs.length c ∧ A.AttrsAt w a x.attrs
/-- Nodes as they are read. -/
def ReadN (w : World) (v : Value) (l : List Nd) : Prop :=
  ∃ a cap, v = .slice a l.length cap ∧ (l ≠ [] → ∃ b off, a = some ⟨b, off, none⟩ ∧ b < w.heap.size ∧ ∀ i (h : i < l.length), NodeAt w b (off + i * 7) l[i]) ∧ ∀ i (h : i < l.length), ReadK w l[i]
theorem ReadK.below {w w' : World} {x : Nd} (h : ReadK w x) (hb : Below w.heap.size w w') : ReadK w' x := by
  obtain ⟨⟨a, c, e, h1⟩, a', c', e', h2⟩ := h
  exact ⟨⟨a, c, e, h1.below hb⟩, a', c', e', h2.below hb⟩
theorem ReadN.below {w w' : World} {v : Value} {l : List Nd} (h : ReadN w v l) (hb : Below w.heap.size w w') : ReadN w' v l := by
  obtain ⟨a, cap, e, h1, h2⟩ := h
  refine ⟨a, cap, e, fun hne => ?_, fun i hi => (h2 i hi).below hb⟩
  obtain ⟨b, off, e2, hlt, hc⟩ := h1 hne
  exact ⟨b, off, e2, Nat.lt_of_lt_of_le hlt hb.size, fun i hi k hk => (hb.cell (p := ⟨b, off + i * 7 + k, none⟩) hlt).trans (hc i hi k hk)⟩
theorem NodesAt.read {w : World} {R : Nat → Prop} {v : Value} {l : List Nd} (h : NodesAt w R v l) : ReadN w v l := by
  obtain ⟨a, cap, e, _, _⟩ := h.nr.slice
  refine ⟨a, cap, e, fun hne => ?_, fun i hi => ⟨?_, ?_⟩⟩
  · obtain ⟨g, cap', e2, _, _, hg, hc, _⟩ := h.nr.form (by cases l with | nil => exact absurd rfl hne | cons => simp)
    rw [e] at e2
    injection e2 with e2
    exact ⟨g, 0, e2, hg, fun i hi k hk => by rw [Nat.zero_add]; exact hc i hi k hk⟩
  · have hk := h.kr i hi
    obtain ⟨a, c, e, _⟩ := hk.form
    rw [e] at hk
    exact ⟨a, c, e, hk.ints⟩
  · obtain ⟨a, c, e, h1, _⟩ := h.ar i hi
    exact ⟨a, c, e, h1⟩

/-- One node more, with kids in a row of its own. -/
theorem NodesAt.push2 {w w' : World} {R : Nat → Prop} {v v' : Value} {l : List Nd} {p : Nat} {pc : Array Value} {pf : Nat × Nat} {x : Nd} (h : NodesAt w R v l) (hp : w.heap[p]? = some (.cells pc 25 pf)) (hs : w.heap.size ≤ w'.heap.size)
    (hb : ∀ k, k < w.heap.size → some k ≠ v.ownBlock → k ≠ p → w'.heap[k]? = w.heap[k]?) (hn : NR w' v' (l ++ [x])) (hv : v'.ownBlock = v.ownBlock ∨ ∃ g, v'.ownBlock = some g ∧ w.heap.size ≤ g)
    (hx : AR w' (RN R w w') x.av x.attrs) (hk : KR w' x.kv x.kids) (hk2 : ∀ k, x.kv.ownBlock = some k → w.heap.size ≤ k) : NodesAt w' (RN R w w') v' (l ++ [x]) := by
  have keep : ∀ k c t f, w.heap[k]? = some (Obj.cells c t f) → t ≠ 30 → t ≠ 25 → w'.heap[k]? = w.heap[k]? := fun k c t f hk h1 h2 =>
    hb k (Array.getElem?_eq_some_iff.1 hk).1 (fun e => by obtain ⟨c', f', h3⟩ := h.nr.kind e.symm; exact kind_ne hk h3 h1 rfl) (fun e => kind_ne hk hp h2 e)
  have old : ∀ i (hi : i < (l ++ [x]).length), (∃ h' : i < l.length, (l ++ [x])[i] = l[i]) ∨ (i = l.length ∧ (l ++ [x])[i] = x) := fun i hi => by
    by_cases h' : i < l.length
    · exact .inl ⟨h', List.getElem_append_left h'⟩
    · have : i = l.length := by simp at hi; omega
      subst this; exact .inr ⟨rfl, by simp⟩
  refine ⟨hn, fun i hi => ?_, fun i hi => ?_, fun k hk' => ?_, fun i hi k hk' => ?_, fun i j hi hj k h1 h2 => ?_, fun k hk' => ?_⟩
  · rcases old i hi with ⟨h', e⟩ | ⟨_, e⟩
    · rw [e]; exact (h.kr i h').kept fun g hg => by obtain ⟨c, f, h1⟩ := (h.kr i h').kind hg; exact keep g c _ f h1 (by decide) (by decide)
    · rw [e]; exact hk
  · rcases old i hi with ⟨h', e⟩ | ⟨_, e⟩
    · rw [e]; exact (h.ar i h').kept (fun k hk => .inl hk) (fun g cs fz _ hg => keep g cs _ fz hg (by decide) (by decide)) hs
    · rw [e]; exact hx
  · rcases hv with e | ⟨g, e, hg⟩
    · exact .inl (h.rv k (e ▸ hk'))
    · rw [e] at hk'; injection hk' with hk'; subst hk'
      exact .inr ⟨hg, hn.lt g e⟩
  · rcases old i hi with ⟨h', e⟩ | ⟨_, e⟩
    · rw [e] at hk'; exact .inl (h.rk i h' k hk')
    · rw [e] at hk'; exact .inr ⟨hk2 k hk', hk.lt k hk'⟩
  · rcases old i hi with ⟨hi', e⟩ | ⟨e0, e⟩ <;> rcases old j hj with ⟨hj', e'⟩ | ⟨e0', e'⟩ <;> rw [e] at h1 <;> rw [e'] at h2
    · exact h.ne i j hi' hj' k h1 h2
    · have := h.lt k (h.rk i hi' k h1); have := hk2 k h2; omega
    · have := h.lt k (h.rk j hj' k h2); have := hk2 k h1; omega
    · omega
  · rcases hk' with hk' | hk'
    · exact Nat.lt_of_lt_of_le (h.lt k hk') hs
    · exact hk'.2
/-- What Clone leaves. -/
def NoR : Nat → Prop := fun _ => False
def RetCl (l : List Nd) (w : World) (e : Ending) (w' : World) : Prop := ∃ v l', e = .returned (.agg #[v]) ∧ Below w.heap.size w w' ∧ NodesAt w' (RN NoR w w') v l' ∧ l'.map norm = l.map norm
/-- The world behind the three boxes of Clone. -/
def C3 (w : World) (v : Value) : World := ((w.alloc (.cells #[v] 25)).alloc (.cells #[.slice none 0 0] 25)).alloc (.cells #[.slice none 0 0] 25)
theorem c3_below (w : World) (v : Value) : Below w.heap.size w (C3 w v) := ((below_box w _).alloc (by simp) _).alloc (by simp; omega) _
theorem c3_size (w : World) (v : Value) : (C3 w v).heap.size = w.heap.size + 3 := by simp [C3]
theorem c3_at (w : World) (v : Value) : (C3 w v).heap[w.heap.size]? = some (.cells #[v] 25 (0, 0)) ∧ (C3 w v).heap[w.heap.size + 1]? = some (.cells #[.slice none 0 0] 25 (0, 0)) ∧ (C3 w v).heap[w.heap.size + 2]? = some (.cells #[.slice none 0 0] 25 (0, 0)) := by
  refine ⟨?_, ?_, ?_⟩
  · exact (Below.heap_alloc _ _ _ (by simp; omega)).trans ((Below.heap_alloc _ _ _ (by simp)).trans (heap_alloc_new w _))
  · have h := heap_alloc_new (w.alloc (.cells #[v] 25)) (.cells #[.slice none 0 0] 25)
    rw [show (w.alloc (.cells #[v] 25)).heap.size = w.heap.size + 1 by simp] at h
    exact (Below.heap_alloc _ _ _ (by simp)).trans h
  · have h := heap_alloc_new ((w.alloc (.cells #[v] 25)).alloc (.cells #[.slice none 0 0] 25)) (.cells #[.slice none 0 0] 25)
    rw [show ((w.alloc (.cells #[v] 25)).alloc (.cells #[.slice none 0 0] 25)).heap.size = w.heap.size + 2 by simp] at h
    exact h

/-- A store into another tree's variable. -/
theorem NodesAt.setTree {w : World} {R : Nat → Prop} {v : Value} {l : List Nd} {q : Nat} {c : Array Value} {f : Nat × Nat} (h : NodesAt w R v l) (hq : w.heap[q]? = some (Obj.cells c 25 f)) (u : Value) : NodesAt (w.setCell ⟨q, 0, none⟩ u) R v l := by
  have hs : (w.setCell ⟨q, 0, none⟩ u).heap.size = w.heap.size := by simp
  refine ⟨h.nr.kept fun g hg => ?_, fun i hi => (h.kr i hi).kept fun g hg => ?_, fun i hi => (h.ar i hi).kept (fun _ h => h) (fun g cs fz _ hg => setCell_other (kind_ne hg hq (by decide))) (by rw [hs]; exact Nat.le_refl _), h.rv, h.rk, h.ne, fun k hk => by rw [hs]; exact h.lt k hk⟩
  · obtain ⟨c', f', h1⟩ := h.nr.kind hg
    exact setCell_other (kind_ne h1 hq (by decide))
  · obtain ⟨c', f', h1⟩ := (h.kr i hi).kind hg
    exact setCell_other (kind_ne h1 hq (by decide))
theorem NodesAt.wide {w : World} {R R' : Nat → Prop} {v : Value} {l : List Nd} (h : NodesAt w R v l) (hr : ∀ k, R k → R' k) (hl : ∀ k, R' k → k < w.heap.size) : NodesAt w R' v l := h.keep (Nat.le_refl _) (fun _ _ => rfl) hr hl
theorem rn_same {R : Nat → Prop} {w w1 w2 : World} (h : w2.heap.size = w1.heap.size) : ∀ k, RN R w w1 k → RN R w w2 k := fun k hk => by rcases hk with hk | hk; exact .inl hk; exact .inr ⟨hk.1, by rw [h]; exact hk.2⟩

set_option maxHeartbeats 3200000 in
theorem clone_any (v : Value) (l : List Nd) (w : World) (hR : ReadN w v l) (hl : l.length ≤ 10000) (hsm : ∀ i (h : i < l.length), l[i].kids.length ≤ 100000 ∧ l[i].attrs.length ≤ 100000) :
    Calls Try.prog 11 #[.agg #[v]] w (RetCl l w) := by
  obtain ⟨a, cap, rfl, hnodes, hrk⟩ := hR
  have HB0 := Lib.hid (c3_below w (.slice a l.length cap))
  have HZ0 := Lib.hid (c3_size w (.slice a l.length cap))
  have HA0 := Lib.hid (c3_at w (.slice a l.length cap))
  have HN := Lib.hid hnodes
  have HRk := Lib.hid hrk
  have HSm := Lib.hid hsm
  clear hnodes hrk hsm
  go_enter Try.func11, Try.ntmps11
  go_upto_region 2 with fail
  show Code.wp _ _ _ _ (C3 w (.slice a l.length cap))
  obtain ⟨w0, ew⟩ : ∃ w0, w0 = C3 w (.slice a l.length cap) := ⟨_, rfl⟩
  rw [← ew] at HB0 HZ0 HA0 ⊢
  clear ew
  go_wp2
  go_loopw [4] (fun q wr => ∃ (k : Nat) (vo : Value) (lo : List Nd), k ≤ l.length ∧ q = .int .i64 k ∧ lo.length = k ∧ lo.map norm = (l.take k).map norm ∧ (wr.heap[w.heap.size]? = w0.heap[w.heap.size]? ∧ wr.heap[w.heap.size + 1]? = w0.heap[w.heap.size + 1]?) ∧ Below w.heap.size w wr ∧ TreeAt wr (RN NoR w wr) (w.heap.size + 1 + 1) vo lo) (fun q _ => l.length - (intOf q).toNat)
  case atStart =>
    refine ⟨0, .slice none 0 0, [], Nat.zero_le _, rfl, rfl, by simp, ⟨rfl, rfl⟩, HB0.out, ⟨HA0.out.2.2, .inr ⟨by omega, by rw [HZ0.out]; omega⟩, ⟨NR.nil _, fun i h => by simp at h, fun i h => by simp at h, fun k h => (by cases h), fun i h => by simp at h, fun i j h => by simp at h, fun k h => ?_⟩⟩⟩
    rcases h with h | h
    · exact h.elim
    · exact h.2
  case round =>
    obtain ⟨k, vo, lo, hk, rfl, hlo, hmap, hb2, hbw, htr⟩ := hrel
    have HLo := Lib.hid hlo
    have HMap := Lib.hid hmap
    have HB2 := Lib.hid hb2
    have HBW := Lib.hid hbw
    have HT := Lib.hid htr
    have hz0 := HZ0.out
    have hbx : wr.cell? ⟨w.heap.size, 0, none⟩ = some (.slice a l.length cap) := by
      have h := HB2.out.1.trans HA0.out.1
      simp [World.cell?, h]
    have hrs : wr.heap[w.heap.size + 1]? = some (.cells #[.slice none 0 0] 25 (0, 0)) := HB2.out.2.trans HA0.out.2.1
    have HRs := Lib.hid hrs
    clear hlo hmap hb2 hbw htr hz0 hrs
    by_cases hlt : k < l.length
    · obtain ⟨b, off, rfl, hbl, hc⟩ := HN.out (fun e => by rw [e] at hlt; simp at hlt)
      have HXk := Lib.hid ((show NodeAt w b (off + k * 7) l[k] from hc k hlt).below HBW.out)
      obtain ⟨⟨ka, kc, hkv, hki⟩, aa, ac, hav, hai⟩ := HRk.out k hlt
      have hsmk := HSm.out k hlt
      have HKI := Lib.hid (hki.below HBW.out)
      have HAI := Lib.hid (hai.below HBW.out)
      have HTk : Hid ((l.take (k + 1)).map norm = (l.take k).map norm ++ [norm l[k]]) := Lib.hid (by rw [List.take_succ_eq_append_getElem hlt, List.map_append]; rfl)
      clear hc hki hai
      obtain ⟨x0, x1, x2, x3, x4, x5, x6⟩ := HXk.out.c7
      rw [hav] at x3
      rw [hkv] at x6
      have HKv := Lib.hid hkv
      have HAv := Lib.hid hav
      clear hkv hav
      generalize l[k] = x at *
      obtain ⟨kind, space, name, av, data, up, kv, kids, attrs⟩ := x
      dsimp only at x0 x1 x2 x3 x4 x5 x6 hsmk HKI HAI HKv HAv
      have hlt2 : (k : Int) < (l.length : Int) := by omega
      have hk0 : (0 : Int) ≤ (k : Int) := by omega
      go_upto_region 6 with fail
      have hpw := HT.out.nodes.lt _ HT.out.rp
      have HBx1 : Hid ((wr.alloc (.cells #[.int .i64 kind, .int .i64 space, .string name, .slice aa attrs.length ac, .string data, .int .i64 up, .slice ka kids.length kc] 30)).heap[wr.heap.size]? = some (Obj.cells #[.int .i64 kind, .int .i64 space, .string name, .slice aa attrs.length ac, .string data, .int .i64 up, .slice ka kids.length kc] 30 (0, 0))) := Lib.hid (heap_alloc_new wr _)
      have HW1 := Lib.hid (below_box wr (.cells #[.int .i64 kind, .int .i64 space, .string name, .slice aa attrs.length ac, .string data, .int .i64 up, .slice ka kids.length kc] 30))
      have HZ1 : Hid ((wr.alloc (.cells #[.int .i64 kind, .int .i64 space, .string name, .slice aa attrs.length ac, .string data, .int .i64 up, .slice ka kids.length kc] 30)).heap.size = wr.heap.size + 1) := Lib.hid (by simp)
      obtain ⟨w1, ew⟩ : ∃ w1, w1 = wr.alloc (.cells #[.int .i64 kind, .int .i64 space, .string name, .slice aa attrs.length ac, .string data, .int .i64 up, .slice ka kids.length kc] 30) := ⟨_, rfl⟩
      rw [← ew] at HBx1 HW1 HZ1 ⊢
      clear ew x0 x1 x2 x3 x4 x5 x6 hbx
      have b3 : w1.cell? ⟨wr.heap.size, 3, none⟩ = some (.slice aa attrs.length ac) := cell_of_row w1 _ 3 _ _ _ HBx1.out
      have HO1 : Hid ((w1.alloc (.cells #[] 53)).ownsRow w1.heap.size 53 2 (.slice (some ⟨w1.heap.size, 0, none⟩) 0 0) ([] : List A.At).length (A.clA [])) := Lib.hid (World.ownsRow_lit w1 #[] 0 (Nat.le_refl _) (Nat.zero_le _) rfl)
      have HAI1 := Lib.hid ((HAI.out.below HW1.out).below (below_box w1 (.cells #[] 53)))
      have hB1 : wr.heap.size < w1.heap.size := by rw [HZ1.out]; omega
      go_upto_region 7 with (at_builtin; refine A.wpList_append_attrs _ rfl _ _ rfl w1.heap.size _ [] rfl HO1.out aa ac attrs rfl HAI1.out (by simp; omega) (by simp) ?_; intro v2 w2 hown2 hgrow2
                             have HAR2 := Lib.hid (own_ar hown2)
                             have HB2' : Hid (Below w1.heap.size w1 w2) := Lib.hid ((below_box w1 _).grown hgrow2 (by simp) (fun k hk => (HO1.out.lt k hk).1))
                             have HBx2 : Hid (w2.heap[wr.heap.size]? = some (Obj.cells #[.int .i64 kind, .int .i64 space, .string name, .slice aa attrs.length ac, .string data, .int .i64 up, .slice ka kids.length kc] 30 (0, 0))) := Lib.hid ((HB2'.out.block _ hB1).trans HBx1.out)
                             have b3 : w2.cell? ⟨wr.heap.size, 3, none⟩ = some (.slice aa attrs.length ac) := cell_of_row w2 _ 3 _ _ _ HBx2.out
                             have f3 : w2.frozen? ⟨wr.heap.size, 3, none⟩ = false := frozen_of_row w2 _ 3 _ _ HBx2.out
                             obtain ⟨a2, n2, c2, rfl⟩ : ∃ a n c, v2 = .slice a n c := by obtain ⟨a, c, e, _⟩ := HAR2.out; exact ⟨_, _, _, e⟩
                             clear hown2 hgrow2)
      have HBx3 : Hid ((w2.setCell ⟨wr.heap.size, 3, none⟩ (.slice a2 n2 c2)).heap[wr.heap.size]? = some (Obj.cells #[.int .i64 kind, .int .i64 space, .string name, .slice a2 n2 c2, .string data, .int .i64 up, .slice ka kids.length kc] 30 (0, 0))) := Lib.hid (heap_setCell_same w2 _ 3 _ _ _ HBx2.out)
      have HO3 : Hid (∀ j, j ≠ wr.heap.size → (w2.setCell ⟨wr.heap.size, 3, none⟩ (.slice a2 n2 c2)).heap[j]? = w2.heap[j]?) := Lib.hid (fun j hj => setCell_other hj)
      have HW3 : Hid (Below wr.heap.size wr (w2.setCell ⟨wr.heap.size, 3, none⟩ (.slice a2 n2 c2))) := Lib.hid ((HW1.out.trans (HB2'.out.mono HW1.out.size)).setCell (Nat.le_refl _) _)
      have HZ3 : Hid ((w2.setCell ⟨wr.heap.size, 3, none⟩ (.slice a2 n2 c2)).heap.size = w2.heap.size) := Lib.hid (by simp)
      obtain ⟨w3, ew⟩ : ∃ w3, w3 = w2.setCell ⟨wr.heap.size, 3, none⟩ (.slice a2 n2 c2) := ⟨_, rfl⟩
      rw [← ew] at HBx3 HO3 HW3 HZ3 ⊢
      clear ew b3 f3
      have hs12 := HB2'.out.size
      have hB3 : wr.heap.size < w3.heap.size := by rw [HZ3.out]; omega
      have b6 : w3.cell? ⟨wr.heap.size, 6, none⟩ = some (.slice ka kids.length kc) := cell_of_row w3 _ 6 _ _ _ HBx3.out
      have HK3 : Hid (KR (w3.alloc (.cells #[] 3)) (.slice (some ⟨w3.heap.size, 0, none⟩) 0 0) []) := Lib.hid ⟨World.ownsRow_lit w3 #[] 0 (Nat.zero_le _) (Nat.zero_le _) rfl, okRow.alloc fun j u h => by simp at h⟩
      have HKI3 := Lib.hid ((HKI.out.below HW3.out).below (below_box w3 (.cells #[] 3)))
      go_upto_region 8 with (at_builtin; refine wpList_append_ints _ rfl _ _ rfl _ _ rfl HK3.out ka kc kids rfl HKI3.out (by simp; omega) ?_; intro v4 w4 hk4 hgrow4 hat4
                             have HK4 := Lib.hid hk4
                             have HB4' : Hid (Below w3.heap.size w3 w4) := Lib.hid ((below_box w3 _).grown hgrow4 (by simp) (fun k hk => by cases hk; exact Nat.le_refl _))
                             have HOw4 : Hid (∀ j, v4.ownBlock = some j → w3.heap.size ≤ j) := Lib.hid (fun j hj => by
                               rcases hat4 with e | e
                               · rw [e] at hj; cases hj; exact Nat.le_refl _
                               · rw [e] at hj; injection hj with hj; rw [← hj]; simp)
                             have HBx4 : Hid (w4.heap[wr.heap.size]? = some (Obj.cells #[.int .i64 kind, .int .i64 space, .string name, .slice a2 n2 c2, .string data, .int .i64 up, .slice ka kids.length kc] 30 (0, 0))) := Lib.hid ((HB4'.out.block _ hB3).trans HBx3.out)
                             have b6 : w4.cell? ⟨wr.heap.size, 6, none⟩ = some (.slice ka kids.length kc) := cell_of_row w4 _ 6 _ _ _ HBx4.out
                             have f6 : w4.frozen? ⟨wr.heap.size, 6, none⟩ = false := frozen_of_row w4 _ 6 _ _ HBx4.out
                             obtain ⟨a4, n4, c4, rfl⟩ : ∃ a n c, v4 = .slice a n c := by obtain ⟨a, c, e, _⟩ := HK4.out.form; exact ⟨_, _, _, e⟩
                             clear hk4 hgrow4 hat4)
      have hs34 := HB4'.out.size
      have hs5 : (w4.setCell ⟨wr.heap.size, 6, none⟩ (.slice a4 n4 c4)).heap.size = w4.heap.size := by simp
      have HX5 : Hid (NodeAt (w4.setCell ⟨wr.heap.size, 6, none⟩ (.slice a4 n4 c4)) wr.heap.size 0 ⟨kind, space, name, .slice a2 n2 c2, data, up, .slice a4 n4 c4, kids, attrs⟩) := Lib.hid (fun j hj => by
        have h := heap_setCell_same w4 _ 6 _ _ (.slice a4 n4 c4) HBx4.out
        rw [Nat.zero_add, cell_of_row _ _ j _ _ _ h]
        match j, hj with
        | 0, _ => rfl
        | 1, _ => rfl
        | 2, _ => rfl
        | 3, _ => rfl
        | 4, _ => rfl
        | 5, _ => rfl
        | 6, _ => rfl)
      have HW5 : Hid (Below wr.heap.size wr (w4.setCell ⟨wr.heap.size, 6, none⟩ (.slice a4 n4 c4))) := Lib.hid ((HW3.out.trans (HB4'.out.mono (by omega))).setCell (Nat.le_refl _) _)
      have HK5 : Hid (KR (w4.setCell ⟨wr.heap.size, 6, none⟩ (.slice a4 n4 c4)) (.slice a4 n4 c4) kids) := Lib.hid (HK4.out.kept fun j hj => setCell_other (fun e => by have := HOw4.out j hj; omega))
      have HA5 : Hid (AR (w4.setCell ⟨wr.heap.size, 6, none⟩ (.slice a4 n4 c4)) (fun k => wr.heap.size ≤ k ∧ k < w2.heap.size) (.slice a2 n2 c2) attrs) := Lib.hid (HAR2.out.kept (fun k hk => ⟨by have := hk.1; have := HZ1.out; omega, hk.2⟩) (fun j cs fz hj _ => by
        have h1 : j ≠ wr.heap.size := by have := hj.1; have := HZ1.out; omega
        exact (setCell_other h1).trans ((HB4'.out.block j (by have := hj.2; have := HZ3.out; omega)).trans (HO3.out j h1))) (by rw [hs5]; have := HZ3.out; omega))
      have HZ5 := Lib.hid hs5
      have HS45 : Hid (w2.heap.size ≤ w4.heap.size) := Lib.hid (by have := HZ3.out; omega)
      obtain ⟨w5, ew⟩ : ∃ w5, w5 = w4.setCell ⟨wr.heap.size, 6, none⟩ (.slice a4 n4 c4) := ⟨_, rfl⟩
      rw [← ew] at HX5 HW5 HK5 HA5 HZ5 ⊢
      clear ew b6 f6 hs5
      obtain ⟨x0, x1, x2, x3, x4, x5, x6⟩ := HX5.out.c7
      dsimp only at x0 x1 x2 x3 x4 x5 x6
      have HT5 := Lib.hid (HT.out.below HW5.out)
      have hp5 := HT5.out.cell
      have hff : (⟨kind, space, name, .slice a2 n2 c2, data, up, .slice a4 n4 c4, kids, attrs⟩ : Nd).fine := ⟨⟨_, _, _, rfl⟩, ⟨_, _, _, rfl⟩⟩
      obtain ⟨v6, w6, hr6, hn6, hg6, hat6⟩ := run_append_node (w5.alloc (box ⟨kind, space, name, .slice a2 n2 c2, data, up, .slice a4 n4 c4, kids, attrs⟩)) 23 vo lo (HT5.out.nodes.nr.below (below_box _ _)) w5.heap.size _ (box_at w5 _) hff (by have := HLo.out; omega)
      obtain ⟨a6, c6, rfl, _, _⟩ := hn6.slice
      have HR6 := Lib.hid hr6
      have HN6 := Lib.hid hn6
      have hp6 : w6.heap[w.heap.size + 1 + 1]? = some (.cells #[vo] 25 (0, 0)) := by
        have hpl := HT5.out.nodes.lt _ HT5.out.rp
        exact (hg6.block _ (by simp; omega) (fun e => by obtain ⟨c', f', h3⟩ := HT5.out.nodes.nr.kind e.symm; exact kind_ne HT5.out.at_p h3 (by decide) rfl)).trans ((Below.heap_alloc _ _ _ hpl).trans HT5.out.at_p)
      have HP6 := Lib.hid hp6
      have hq6 : w6.cell? ⟨w.heap.size + 1 + 1, 0, none⟩ = some vo := by simp [World.cell?, hp6]
      have hf6 : w6.frozen? ⟨w.heap.size + 1 + 1, 0, none⟩ = false := by simp [World.frozen?, hp6]
      have HG6 : Hid (∀ j, j < w5.heap.size → some j ≠ vo.ownBlock → w6.heap[j]? = w5.heap[j]?) := Lib.hid (fun j hj hne => (hg6.block j (by simp; omega) hne).trans (Below.heap_alloc _ _ _ hj))
      have HS6 : Hid (w5.heap.size ≤ w6.heap.size) := Lib.hid (Nat.le_trans (by simp) hg6.size)
      have HAt6 : Hid ((Value.slice a6 (lo ++ [(⟨kind, space, name, .slice a2 n2 c2, data, up, .slice a4 n4 c4, kids, attrs⟩ : Nd)]).length c6).ownBlock = vo.ownBlock ∨ ∃ g, (Value.slice a6 (lo ++ [(⟨kind, space, name, .slice a2 n2 c2, data, up, .slice a4 n4 c4, kids, attrs⟩ : Nd)]).length c6).ownBlock = some g ∧ wr.heap.size ≤ g) := Lib.hid (by
        rcases hat6 with e | e
        · exact .inl e
        · exact .inr ⟨_, e, by have := HW5.out.size; simp; omega⟩)
      have HOs6 : Hid (w6.os = w5.os ∧ w6.tape = w5.tape ∧ w6.output = w5.output) := Lib.hid ⟨hg6.os, hg6.tape, hg6.output⟩
      clear hr6 hn6 hg6 hat6 hp6
      have hlen6 : (lo ++ [(⟨kind, space, name, .slice a2 n2 c2, data, up, .slice a4 n4 c4, kids, attrs⟩ : Nd)]).length = lo.length + 1 := by simp
      have HL6 := Lib.hid hlen6
      rw [hlen6] at HR6
      clear hlen6
      have HF7 : Hid (((w6.setCell ⟨w.heap.size + 1 + 1, 0, none⟩ (.slice a6 (lo.length + 1) c6)).heap[w.heap.size]? = w0.heap[w.heap.size]? ∧ (w6.setCell ⟨w.heap.size + 1 + 1, 0, none⟩ (.slice a6 (lo.length + 1) c6)).heap[w.heap.size + 1]? = w0.heap[w.heap.size + 1]?) ∧ Below w.heap.size w (w6.setCell ⟨w.heap.size + 1 + 1, 0, none⟩ (.slice a6 (lo.length + 1) c6)) ∧ TreeAt (w6.setCell ⟨w.heap.size + 1 + 1, 0, none⟩ (.slice a6 (lo.length + 1) c6)) (RN NoR w (w6.setCell ⟨w.heap.size + 1 + 1, 0, none⟩ (.slice a6 (lo.length + 1) c6))) (w.heap.size + 1 + 1) (.slice a6 (lo.length + 1) c6) (lo ++ [(⟨kind, space, name, .slice a2 n2 c2, data, up, .slice a4 n4 c4, kids, attrs⟩ : Nd)])) := Lib.hid (by
        rw [← HL6.out]
        have hs7 : (w6.setCell ⟨w.heap.size + 1 + 1, 0, none⟩ (.slice a6 (lo ++ [(⟨kind, space, name, .slice a2 n2 c2, data, up, .slice a4 n4 c4, kids, attrs⟩ : Nd)]).length c6)).heap.size = w6.heap.size := by simp
        have h67 : ∀ j, j ≠ w.heap.size + 1 + 1 → (w6.setCell ⟨w.heap.size + 1 + 1, 0, none⟩ (.slice a6 (lo ++ [(⟨kind, space, name, .slice a2 n2 c2, data, up, .slice a4 n4 c4, kids, attrs⟩ : Nd)]).length c6)).heap[j]? = w6.heap[j]? := fun j hj => setCell_other hj
        have hvo : ∀ j, vo.ownBlock = some j → w.heap.size + 1 + 1 < j ∨ (w.heap.size ≤ j ∧ j ≠ w.heap.size + 1 + 1) := fun j hj => by
          have h1 := HT.out.nodes.rv j hj
          have h2 : j ≠ w.heap.size + 1 + 1 := fun e => by subst e; obtain ⟨c', f', h3⟩ := HT.out.nodes.nr.kind hj; exact kind_ne HT.out.at_p h3 (by decide) rfl
          rcases h1 with h1 | h1
          · exact h1.elim
          · exact .inr ⟨h1.1, h2⟩
        have hw5 := HW5.out.size
        have hs6 := HS6.out
        have h57 : ∀ j c t f, w5.heap[j]? = some (Obj.cells c t f) → t ≠ 30 → t ≠ 25 → (w6.setCell ⟨w.heap.size + 1 + 1, 0, none⟩ (.slice a6 (lo ++ [(⟨kind, space, name, .slice a2 n2 c2, data, up, .slice a4 n4 c4, kids, attrs⟩ : Nd)]).length c6)).heap[j]? = w5.heap[j]? := fun j c t f hj h1 h2 =>
          (h67 j (fun e => kind_ne hj HT5.out.at_p h2 e)).trans (HG6.out j (Array.getElem?_eq_some_iff.1 hj).1 (fun e => by obtain ⟨c', f', h3⟩ := HT5.out.nodes.nr.kind e.symm; exact kind_ne hj h3 h1 rfl))
        have hbw6 : Below w.heap.size w w6 := ⟨HOs6.out.1.trans (HW5.out.os.trans HBW.out.os), HOs6.out.2.1.trans (HW5.out.tape.trans HBW.out.tape), HOs6.out.2.2.trans (HW5.out.output.trans HBW.out.output), Nat.le_trans HBW.out.size (Nat.le_trans hw5 hs6), fun j hj => by
          have hjr := Nat.lt_of_lt_of_le hj HBW.out.size
          rw [HG6.out j (Nat.lt_of_lt_of_le hjr hw5) (fun e => by rcases hvo j e.symm with h | h <;> omega), HW5.out.block j hjr, HBW.out.block j hj]⟩
        refine ⟨?_, hbw6.setCell (by show w.heap.size ≤ w.heap.size + 1 + 1; omega) _, heap_setCell_same w6 _ 0 _ _ _ HP6.out, .inr ⟨by omega, by rw [hs7]; have := (Array.getElem?_eq_some_iff.1 HP6.out).1; exact this⟩, ?_⟩
        · have hz0 := HZ0.out
          have hbx0 : w5.heap[w.heap.size]? = some (Obj.cells #[.slice (some ⟨b, off, none⟩) l.length cap] 25 (0, 0)) := (HW5.out.block _ (by omega)).trans (HB2.out.1.trans HA0.out.1)
          have hbx1 : w5.heap[w.heap.size + 1]? = some (Obj.cells #[.slice none 0 0] 25 (0, 0)) := (HW5.out.block _ (by omega)).trans (HB2.out.2.trans HA0.out.2.1)
          have hnv : ∀ j c, w5.heap[j]? = some (Obj.cells c 25 (0, 0)) → some j ≠ vo.ownBlock := fun j c hj e => by obtain ⟨c', f', h3⟩ := HT5.out.nodes.nr.kind e.symm; exact kind_ne hj h3 (by decide) rfl
          exact ⟨by rw [h67 _ (by omega), HG6.out _ (by omega) (hnv _ _ hbx0), HW5.out.block _ (by omega), HB2.out.1], by rw [h67 _ (by omega), HG6.out _ (by omega) (hnv _ _ hbx1), HW5.out.block _ (by omega), HB2.out.2]⟩
        · refine (NodesAt.push2 (p := w.heap.size + 1 + 1) HT.out.nodes HT.out.at_p (by rw [hs7]; omega) (fun j hj h1 h2 => ?_) (HN6.out.kept fun j hj => h67 j (fun e => by subst e; obtain ⟨c', f', h3⟩ := HN6.out.kind hj; exact kind_ne HP6.out h3 (by decide) rfl)) HAt6.out ?_ ?_ (fun j hj => ?_)).wide (fun j hj => ?_) (rn_lt fun j hj => hj.elim)
          · rw [h67 j h2, HG6.out j (by omega) h1, HW5.out.block j hj]
          · exact HA5.out.kept (fun j hj => .inr ⟨hj.1, by rw [hs7]; have := hj.2; have := HS45.out; have := HZ5.out; omega⟩) (fun j cs fz _ hj => h57 j cs _ fz hj (by decide) (by decide)) (by rw [hs7]; exact hs6)
          · exact HK5.out.kept fun j hj => by obtain ⟨c', f', h3⟩ := HK5.out.kind hj; exact h57 j c' _ f' h3 (by decide) (by decide)
          · have := HOw4.out j hj; have := HW3.out.size; omega
          · rcases hj with (hj | hj) | hj
            · exact hj.elim
            · exact .inr ⟨hj.1, by rw [hs7]; omega⟩
            · exact .inr ⟨by have := HBW.out.size; omega, hj.2⟩)
      go_wp2_with (at_builtin; refine Lib.wpList_append_run _ rfl _ _ _ _ rfl _ _ rfl rfl _ _ HR6.out ?_)
      go_roundw
      case rel => exact ⟨k + 1, .slice a6 (lo.length + 1) c6, lo ++ [(⟨kind, space, name, .slice a2 n2 c2, data, up, .slice a4 n4 c4, kids, attrs⟩ : Nd)], by omega, by go_num, by rw [List.length_append, HLo.out]; rfl, by rw [HTk.out, List.map_append, HMap.out]; rfl, HF7.out.1, HF7.out.2.1, HF7.out.2.2⟩
      case measure => simp [intOf]; omega
    · obtain rfl : k = l.length := by omega
      have hout := HT.out.cell
      have hrc : wr.cell? ⟨w.heap.size + 1, 0, none⟩ = some (.slice none 0 0) := by simp [World.cell?, HRs.out]
      have hrf : wr.frozen? ⟨w.heap.size + 1, 0, none⟩ = false := by simp [World.frozen?, HRs.out]
      obtain ⟨a2, c2, rfl, _, _⟩ := HT.out.nodes.nr.slice
      have HF : Hid (RetCl l w (.returned (.agg #[.slice a2 lo.length c2])) (wr.setCell ⟨w.heap.size + 1, 0, none⟩ (.slice a2 lo.length c2))) := Lib.hid (by
        have hs : (wr.setCell ⟨w.heap.size + 1, 0, none⟩ (.slice a2 lo.length c2)).heap.size = wr.heap.size := by simp
        have hz := HZ0.out
        refine ⟨_, lo, rfl, HBW.out.setCell (by show w.heap.size ≤ w.heap.size + 1; omega) _, (HT.out.nodes.setTree HRs.out _).wide (rn_same hs) (rn_lt fun k h => h.elim), by rw [HMap.out, List.take_length]⟩)
      go_wp2
      refine bodyPost_ret (v := .agg #[.slice a2 lo.length c2]) (by simp [results, Try.results11, go_sem, hrc]) rfl ?_
      exact HF.out
end Go.Proofs.Ytnihomlmjfgmdaa
