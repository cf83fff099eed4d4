/-
  The walk of the document's own Add.
-/
import Derived.Test.YtnihomlmjfgmdaaNRmove
import Derived.Test.YtnihomlmjfgmdaaNAdd
namespace Go.Proofs.Ytnihomlmjfgmdaa
open Go.RowKit

def RetQA (R : Nat → Prop) (p n S : Nat) (w : World) (e : Ending) (w' : World) : Prop := e = .returned (.int .i64 n) ∧ Keeps R w w' ∧ TreeQ w' (RN R w w') p (n + 1) S

set_option maxHeartbeats 1600000 in
theorem radd_any (R : Nat → Prop) (p n S : Nat) (x : Nd) (a : Option Addr) (c : Nat) (w : World) (hT : TreeQ w R p n S) (h0 : 0 < n) (hl : n ≤ 10000) (hav : x.av = .slice a x.attrs.length c) (hA : A.AttrsAt w a x.attrs) (hal : x.attrs.length ≤ 100000) :
    Calls Try.prog 19 #[.pointer (some ⟨p, 0, none⟩), x.val] w (RetQA R p n S w) := by
  obtain ⟨v, l, hTA, hln, hSl⟩ := hT
  obtain ⟨kind, space, name, av, data, up, kv, kids, attrs⟩ := x
  dsimp only at hav hA hal
  subst hav
  have HT := Lib.hid hTA
  have HLn := Lib.hid hln
  have HSl := Lib.hid hSl
  have HA := Lib.hid hA
  have HW1 := Lib.hid (below_box w (box ⟨kind, space, name, .slice a attrs.length c, data, up, kv, kids, attrs⟩))
  have HBx1 : Hid ((w.alloc (box ⟨kind, space, name, .slice a attrs.length c, data, up, kv, kids, attrs⟩)).heap[w.heap.size]? = some (Obj.cells #[.int .i64 kind, .int .i64 space, .string name, .slice a attrs.length c, .string data, .int .i64 up, kv] 30 (0, 0))) := Lib.hid (heap_alloc_new w _)
  have HZ1 : Hid ((w.alloc (box ⟨kind, space, name, .slice a attrs.length c, data, up, kv, kids, attrs⟩)).heap.size = w.heap.size + 1) := Lib.hid (by simp)
  clear hTA hA hln hSl
  unfold Nd.val
  dsimp only
  go_enter Try.func19, Try.ntmps19
  go_upto_region 1 with fail
  show Code.wp _ _ _ _ (w.alloc (box ⟨kind, space, name, .slice a attrs.length c, data, up, kv, kids, attrs⟩))
  obtain ⟨w1, ew⟩ : ∃ w1, w1 = w.alloc (box ⟨kind, space, name, .slice a attrs.length c, data, up, kv, kids, attrs⟩) := ⟨_, rfl⟩
  rw [← ew] at HW1 HBx1 HZ1 ⊢
  clear ew
  have x5 : w1.cell? ⟨w.heap.size, 5, none⟩ = some (.int .i64 up) := cell_of_row w1 _ 5 _ _ _ HBx1.out
  have x6 : w1.cell? ⟨w.heap.size, 6, none⟩ = some kv := cell_of_row w1 _ 6 _ _ _ HBx1.out
  have f5 : w1.frozen? ⟨w.heap.size, 5, none⟩ = false := frozen_of_row w1 _ 5 _ _ HBx1.out
  have f6 : w1.frozen? ⟨w.heap.size, 6, none⟩ = false := frozen_of_row w1 _ 6 _ _ HBx1.out
  go_upto_region 2 with fail
  have HBx2 : Hid (((w1.setCell ⟨w.heap.size, 5, none⟩ (.int .i64 (-1))).setCell ⟨w.heap.size, 6, none⟩ (.slice none 0 0)).heap[w.heap.size]? = some (Obj.cells #[.int .i64 kind, .int .i64 space, .string name, .slice a attrs.length c, .string data, .int .i64 (-1), .slice none 0 0] 30 (0, 0))) := Lib.hid (heap_setCell_same _ _ 6 _ _ _ (heap_setCell_same w1 _ 5 _ _ _ HBx1.out))
  have HW2 : Hid (Below w.heap.size w ((w1.setCell ⟨w.heap.size, 5, none⟩ (.int .i64 (-1))).setCell ⟨w.heap.size, 6, none⟩ (.slice none 0 0))) := Lib.hid ((HW1.out.setCell (Nat.le_refl _) _).setCell (Nat.le_refl _) _)
  have HZ2 : Hid (((w1.setCell ⟨w.heap.size, 5, none⟩ (.int .i64 (-1))).setCell ⟨w.heap.size, 6, none⟩ (.slice none 0 0)).heap.size = w.heap.size + 1) := Lib.hid (by simp [HZ1.out])
  obtain ⟨w2, ew⟩ : ∃ w2, w2 = (w1.setCell ⟨w.heap.size, 5, none⟩ (.int .i64 (-1))).setCell ⟨w.heap.size, 6, none⟩ (.slice none 0 0) := ⟨_, rfl⟩
  rw [← ew] at HBx2 HW2 HZ2 ⊢
  clear ew x5 x6 f5 f6
  have b3 : w2.cell? ⟨w.heap.size, 3, none⟩ = some (.slice a attrs.length c) := cell_of_row w2 _ 3 _ _ _ HBx2.out
  have HO1 : Hid ((w2.alloc (.cells #[] 53)).ownsRow w2.heap.size 53 2 (.slice (some ⟨w2.heap.size, 0, none⟩) 0 0) ([] : List A.At).length (A.clA [])) := Lib.hid (World.ownsRow_lit w2 #[] 0 (Nat.le_refl _) (Nat.zero_le _) rfl)
  have HAI := Lib.hid ((HA.out.below HW2.out).below (below_box w2 (.cells #[] 53)))
  have hB2 : w.heap.size < w2.heap.size := by rw [HZ2.out]; omega
  go_upto_region 3 with (at_builtin; refine A.wpList_append_attrs _ rfl _ _ rfl w2.heap.size _ [] rfl HO1.out a c attrs rfl HAI.out (by simp; omega) (by simp) ?_; intro v3 w3 hown3 hgrow3
                         have HAR3 := Lib.hid (own_ar hown3)
                         have HB3' : Hid (Below w2.heap.size w2 w3) := Lib.hid ((below_box w2 _).grown hgrow3 (by simp) (fun k hk => (HO1.out.lt k hk).1))
                         have HBx3 : Hid (w3.heap[w.heap.size]? = some (Obj.cells #[.int .i64 kind, .int .i64 space, .string name, .slice a attrs.length c, .string data, .int .i64 (-1), .slice none 0 0] 30 (0, 0))) := Lib.hid ((HB3'.out.block _ hB2).trans HBx2.out)
                         have b3 : w3.cell? ⟨w.heap.size, 3, none⟩ = some (.slice a attrs.length c) := cell_of_row w3 _ 3 _ _ _ HBx3.out
                         have f3 : w3.frozen? ⟨w.heap.size, 3, none⟩ = false := frozen_of_row w3 _ 3 _ _ HBx3.out
                         obtain ⟨a3, n3, c3, rfl⟩ : ∃ a n c, v3 = .slice a n c := by obtain ⟨a, c, e, _⟩ := HAR3.out; exact ⟨_, _, _, e⟩
                         clear hown3 hgrow3)
  have hs4 : (w3.setCell ⟨w.heap.size, 3, none⟩ (.slice a3 n3 c3)).heap.size = w3.heap.size := by simp
  have HX4 : Hid (NodeAt (w3.setCell ⟨w.heap.size, 3, none⟩ (.slice a3 n3 c3)) w.heap.size 0 ⟨kind, space, name, .slice a3 n3 c3, data, -1, .slice none 0 0, [], attrs⟩) := Lib.hid (fun j hj => by
    have h := heap_setCell_same w3 _ 3 _ _ (.slice a3 n3 c3) HBx3.out
    rw [Nat.zero_add, cell_of_row _ _ j _ _ _ h]
    match j, hj with
    | 0, _ => rfl
    | 1, _ => rfl
    | 2, _ => rfl
    | 3, _ => rfl
    | 4, _ => rfl
    | 5, _ => rfl
    | 6, _ => rfl)
  have HW4 : Hid (Below w.heap.size w (w3.setCell ⟨w.heap.size, 3, none⟩ (.slice a3 n3 c3))) := Lib.hid ((HW2.out.trans (HB3'.out.mono (by omega))).setCell (Nat.le_refl _) _)
  have HA4 : Hid (AR (w3.setCell ⟨w.heap.size, 3, none⟩ (.slice a3 n3 c3)) (fun k => w.heap.size ≤ k ∧ k < w3.heap.size) (.slice a3 n3 c3) attrs) := Lib.hid (HAR3.out.kept (fun k hk => ⟨by have := hk.1; omega, hk.2⟩) (fun j cs fz hj _ => setCell_other (by have := hj.1; omega)) (by rw [hs4]; exact Nat.le_refl _))
  have HZ4 := Lib.hid hs4
  obtain ⟨w4, ew⟩ : ∃ w4, w4 = w3.setCell ⟨w.heap.size, 3, none⟩ (.slice a3 n3 c3) := ⟨_, rfl⟩
  rw [← ew] at HX4 HW4 HA4 HZ4 ⊢
  clear ew b3 f3 hs4
  obtain ⟨x0, x1, x2, x3, x4, x5, x6⟩ := HX4.out.c7
  dsimp only at x0 x1 x2 x3 x4 x5 x6
  have HT4 := Lib.hid (HT.out.below HW4.out)
  have hp4 := HT4.out.cell
  have hpl : p < w4.heap.size := World.block_lt_of_cell? w4 _ hp4
  have hbl : w.heap.size < w4.heap.size := HX4.out.lt
  have hff : (⟨kind, space, name, .slice a3 n3 c3, data, -1, .slice none 0 0, [], attrs⟩ : Nd).fine := ⟨⟨_, _, _, rfl⟩, ⟨_, _, _, rfl⟩⟩
  obtain ⟨v6, w6, hr6, hn6, hg6, hat6⟩ := run_append_node (w4.drew.alloc (box ⟨kind, space, name, .slice a3 n3 c3, data, -1, .slice none 0 0, [], attrs⟩)) 23 v l (HT4.out.drew.nodes.nr.below (below_box _ _)) w4.heap.size _ (box_at w4.drew _) hff (by have := HLn.out; omega)
  obtain ⟨a6, c6, rfl, hc6, _⟩ := hn6.slice
  have HR6 := Lib.hid hr6
  have HN6 := Lib.hid hn6
  have hp6 : w6.heap[p]? = some (.cells #[v] 25 (0, 0)) :=
    (hg6.block _ (by simp; omega) (fun e => by obtain ⟨c', f', h3⟩ := HT4.out.nodes.nr.kind e.symm; exact kind_ne HT4.out.at_p h3 (by decide) rfl)).trans ((Below.heap_alloc _ _ _ hpl).trans HT4.out.at_p)
  have HP6 := Lib.hid hp6
  have hq6 : w6.cell? ⟨p, 0, none⟩ = some v := by simp [World.cell?, hp6]
  have hf6 : w6.frozen? ⟨p, 0, none⟩ = false := by simp [World.frozen?, hp6]
  have HG6 : Hid (∀ j, j < w4.heap.size → some j ≠ v.ownBlock → w6.heap[j]? = w4.heap[j]?) := Lib.hid (fun j hj hne => (hg6.block j (by simp; omega) hne).trans (Below.heap_alloc _ _ _ hj))
  have HS6 : Hid (w4.heap.size ≤ w6.heap.size) := Lib.hid (Nat.le_trans (by simp) hg6.size)
  have HAt6 : Hid ((Value.slice a6 (l ++ [(⟨kind, space, name, .slice a3 n3 c3, data, -1, .slice none 0 0, [], attrs⟩ : Nd)]).length c6).ownBlock = v.ownBlock ∨ ∃ g, (Value.slice a6 (l ++ [(⟨kind, space, name, .slice a3 n3 c3, data, -1, .slice none 0 0, [], attrs⟩ : Nd)]).length c6).ownBlock = some g ∧ w.heap.size ≤ g) := Lib.hid (by
    rcases hat6 with e | e
    · exact .inl e
    · exact .inr ⟨_, e, by simp; omega⟩)
  have HOs6 : Hid (w6.os = w4.os ∧ w6.tape = w4.tape ∧ w6.output = w4.output) := Lib.hid ⟨hg6.os, hg6.tape, hg6.output⟩
  clear hr6 hn6 hg6 hat6 hp6
  have hlen6 : (l ++ [(⟨kind, space, name, .slice a3 n3 c3, data, -1, .slice none 0 0, [], attrs⟩ : Nd)]).length = n + 1 := by rw [List.length_append, HLn.out]; rfl
  have HL6 := Lib.hid hlen6
  have HF7 : Hid (RetQA R p n S w (.returned (.int .i64 n)) (w6.setCell ⟨p, 0, none⟩ (.slice a6 (n + 1) c6))) := Lib.hid (by
    rw [← HL6.out]
    have hs7 : (w6.setCell ⟨p, 0, none⟩ (.slice a6 (l ++ [(⟨kind, space, name, .slice a3 n3 c3, data, -1, .slice none 0 0, [], attrs⟩ : Nd)]).length c6)).heap.size = w6.heap.size := by simp
    have h67 : ∀ j, j ≠ p → (w6.setCell ⟨p, 0, none⟩ (.slice a6 (l ++ [(⟨kind, space, name, .slice a3 n3 c3, data, -1, .slice none 0 0, [], attrs⟩ : Nd)]).length c6)).heap[j]? = w6.heap[j]? := fun j hj => setCell_other hj
    have hw4 := HW4.out.size
    have hs6 := HS6.out
    have hold : ∀ j, j < w.heap.size → ¬ R j → w6.heap[j]? = w.heap[j]? := fun j hj hr => by
      rw [HG6.out j (by omega) (fun e => hr (HT4.out.nodes.rv j e.symm)), HW4.out.block j hj]
    have h47 : ∀ j c t f, w4.heap[j]? = some (Obj.cells c t f) → t ≠ 30 → t ≠ 25 → (w6.setCell ⟨p, 0, none⟩ (.slice a6 (l ++ [(⟨kind, space, name, .slice a3 n3 c3, data, -1, .slice none 0 0, [], attrs⟩ : Nd)]).length c6)).heap[j]? = w4.heap[j]? := fun j c t f hj h1 h2 =>
      (h67 j (fun e => kind_ne hj HT4.out.at_p h2 e)).trans (HG6.out j (Array.getElem?_eq_some_iff.1 hj).1 (fun e => by obtain ⟨c', f', h3⟩ := HT4.out.nodes.nr.kind e.symm; exact kind_ne hj h3 h1 rfl))
    refine ⟨rfl, ⟨HOs6.out.1.trans HW4.out.os, HOs6.out.2.1.trans HW4.out.tape, HOs6.out.2.2.trans HW4.out.output, by rw [hs7]; omega, fun j hj hr => (h67 j (fun e => hr (e ▸ HT.out.rp))).trans (hold j hj hr)⟩, .slice a6 (l ++ [(⟨kind, space, name, .slice a3 n3 c3, data, -1, .slice none 0 0, [], attrs⟩ : Nd)]).length c6, l ++ [(⟨kind, space, name, .slice a3 n3 c3, data, -1, .slice none 0 0, [], attrs⟩ : Nd)], ⟨heap_setCell_same w6 _ 0 _ _ _ HP6.out, .inl HT.out.rp, ?_⟩, HL6.out, by rw [kidSum_snoc]; simpa using HSl.out⟩
    refine NodesAt.push (p := p) HT.out.nodes HT.out.at_p (by rw [hs7]; omega) (fun j hj h1 h2 => ?_) (HN6.out.kept fun j hj => h67 j (fun e => by subst e; obtain ⟨c', f', h3⟩ := HN6.out.kind hj; exact kind_ne HP6.out h3 (by decide) rfl)) HAt6.out (HA4.out.kept (fun j hj => .inr ⟨hj.1, by rw [hs7]; have := hj.2; have := HZ4.out; omega⟩) (fun j cs fz _ hj => h47 j cs _ fz hj (by decide) (by decide)) (by rw [hs7]; exact hs6)) rfl rfl
    rw [h67 j h2, HG6.out j (by omega) h1, HW4.out.block j hj])
  rw [hlen6] at HR6
  clear hlen6
  go_region_law (refine step_append_run rfl _ _ _ _ rfl _ _ (by rfl) (by rfl) _ _ HR6.out ?_)
  all_goals
    unfold maxLen at hc6
    go_wp2
    go_ret
    exact HF7.out
end Go.Proofs.Ytnihomlmjfgmdaa
