/-
  The walks of New and of awake.
-/
import Derived.Test.YtnihomlmjfgmdaaNSmall
import Derived.Test.YtnihomlmjfgmdaaNPut
namespace Go.Proofs.Ytnihomlmjfgmdaa
open Go.RowKit

def rootN : Nd := ⟨0, 0, ⟨#[]⟩, .slice none 0 0, ⟨#[]⟩, -1, .slice none 0 0, [], []⟩
theorem new_nodes (w : World) (R : Nat → Prop) (hr : R w.heap.size) (hl : ∀ k, R k → k < (w.alloc (box rootN)).heap.size) : NodesAt (w.alloc (box rootN)) R (.slice (some ⟨w.heap.size, 0, none⟩) 1 1) [rootN] := by
  refine ⟨⟨World.ownsRow_lit w rootN.cells.toArray 1 (Nat.zero_le _) (by unfold maxLen; omega) rfl, okRow.alloc fun j u h => fine_ok ⟨⟨_, _, _, rfl⟩, ⟨_, _, _, rfl⟩⟩ j u (by simpa using h)⟩, fun i hi => ?_, fun i hi => ?_, fun k hk => ?_, fun i hi k hk => ?_, fun i j hi hj k h1 => ?_, hl⟩
  · obtain rfl : i = 0 := by simp at hi; omega
    exact KR.nil _
  · obtain rfl : i = 0 := by simp at hi; omega
    exact ⟨none, 0, rfl, A.AttrsAt.nil _ _, fun _ _ h => absurd rfl h⟩
  · injection hk with hk; rw [← hk]; exact hr
  · obtain rfl : i = 0 := by simp at hi; omega
    cases hk
  · obtain rfl : i = 0 := by simp at hi; omega
    cases h1
/-- What New leaves. -/
def RetNew (w : World) (e : Ending) (w' : World) : Prop := ∃ v, e = .returned (.agg #[v]) ∧ Below w.heap.size w w' ∧ NodesAt w' (RN NoR w w') v [rootN]

set_option maxHeartbeats 800000 in
theorem new_any (w : World) : Calls Try.prog 5 #[] w (RetNew w) := by
  go_enter Try.func5, Try.ntmps5
  go_wp2
  have hs : (w.alloc (.cells #[.slice (some ⟨w.heap.size + 1, 0, none⟩) 1 1] 25)).heap.size = w.heap.size + 1 := by simp
  have hn := new_nodes (w.alloc (.cells #[.slice (some ⟨w.heap.size + 1, 0, none⟩) 1 1] 25)) (RN NoR w ((w.alloc (.cells #[.slice (some ⟨w.heap.size + 1, 0, none⟩) 1 1] 25)).alloc (box rootN))) (.inr ⟨by simp, by simp⟩) (rn_lt fun k h => h.elim)
  rw [hs] at hn
  refine bodyPost_ret (v := .agg #[.slice (some ⟨w.heap.size + 1, 0, none⟩) 1 1]) (by simp [results, Try.results5, go_sem]) rfl ?_
  exact ⟨_, rfl, (below_box w _).alloc (by simp) _, hn⟩
theorem norm_cons_two {l : List Nd} {a b : Nd} (h : l.map norm = [a, b]) : ∃ x y, l = [x, y] ∧ norm x = a ∧ norm y = b := by
  match l, h with
  | [x, y], h => simp at h; exact ⟨x, y, rfl, h.1, h.2⟩

def RetT (w : World) (e : Ending) (w' : World) : Prop := e = .returned (.bool true) ∧ Below w.heap.size w w'
def aN (av : Value) : Nd := ⟨1, 0, ⟨#[97]⟩, av, ⟨#[]⟩, -1, .slice none 0 0, [], []⟩
set_option maxHeartbeats 3200000 in
theorem awake_any (w : World) : Calls Try.prog 9 #[] w (RetT w) := by
  have HN := Lib.hid (new_any w)
  go_enter Try.func9, Try.ntmps9
  go_wp2_with fail
  refine HN.out.mono ?_
  rintro e w1 ⟨v, rfl, hb1, hn1⟩
  have HB1 := Lib.hid hb1
  have HN1 := Lib.hid hn1
  obtain ⟨a, c, rfl, _, _⟩ := hn1.nr.slice
  clear hb1 hn1
  go_upto_region 2 with fail
  show Code.wp _ _ _ _ (W1 w1 (.slice a [rootN].length c))
  have HT2 : Hid (TreeAt (W1 w1 (.slice a [rootN].length c)) (RN NoR w (W1 w1 (.slice a [rootN].length c))) w1.heap.size (.slice a [rootN].length c) [rootN]) := Lib.hid ⟨heap_alloc_new w1 _, .inr ⟨HB1.out.size, by simp [W1]⟩, (HN1.out.below (w1_below w1 _)).wide (rn_rn (w1_below w1 _).size) (rn_lt fun k h => h.elim)⟩
  have HB2 : Hid (Below w.heap.size w (W1 w1 (.slice a [rootN].length c))) := Lib.hid (HB1.out.trans ((w1_below w1 _).mono HB1.out.size))
  obtain ⟨w2, ew⟩ : ∃ w2, w2 = W1 w1 (.slice a [rootN].length c) := ⟨_, rfl⟩
  rw [← ew] at HT2 HB2 ⊢
  clear ew
  have HA := Lib.hid (add_any _ w1.heap.size _ [rootN] ⟨1, 0, ⟨#[97]⟩, .slice none 0 0, ⟨#[]⟩, 0, .slice none 0 0, [], []⟩ none 0 w2 HT2.out (by simp) (by simp) rfl (A.AttrsAt.nil _ _) (by simp))
  unfold Nd.val at HA
  dsimp only at HA
  go_wp2_with fail
  refine HA.out.mono ?_
  rintro e w3 ⟨rfl, hk3, v3, av3, ht3⟩
  have HK3 := Lib.hid hk3
  have HP := Lib.hid (put_any _ w1.heap.size _ 0 5 1 w3 ⟨v3, _, ht3, rfl⟩ (by intro x hx; simp at hx; rcases hx with rfl | rfl <;> simp [norm, rootN]))
  clear hk3 ht3 HA
  go_wp2_with fail
  refine HP.out.mono ?_
  rintro e w4 ⟨rfl, hk4, v4, l4, ht4, hl4⟩
  have hl4' : l4.map norm = [{ rootN with kids := [1] }, { aN (.slice none 0 0) with up := 0 }] := hl4.trans rfl
  obtain ⟨y0, y1, rfl, hy0, hy1⟩ := norm_cons_two hl4'
  have HT4 := Lib.hid ht4
  have HB4 : Hid (Below w.heap.size w w4) := Lib.hid (by
    have hk := (HK3.out.trans (RN.more _ _ _) hk4)
    exact HB2.out.trans ((hk.below (b := w.heap.size) HB2.out.size (fun k h => by rcases h with h | h; exact h.elim; exact h.1)).mono (Nat.le_refl _)))
  have hplace : placeP [y0, y1] 1 = 0 := by rw [← placeP_norm, hl4']; rfl
  have hholds : holdsP [y0, y1] 0 1 = true := by rw [← holdsP_norm, hl4']; rfl
  have HPl := Lib.hid (fun W hW => place_any v4 [y0, y1] 1 W (HT4.out.nodes.below hW).nr (HT4.out.nodes.below (w' := W) hW).kr)
  have HHo := Lib.hid (fun W (hW : Below w4.heap.size w4 W) => holds_any v4 [y0, y1] 0 1 W (HT4.out.nodes.below hW).nr)
  rw [hplace] at HPl
  rw [hholds] at HHo
  have hku : y0.kids = [1] := by have := congrArg Nd.kids hy0; exact this
  have huu : y1.up = 0 := by have := congrArg Nd.up hy1; exact this
  obtain ⟨g, cap, rfl, hcl, hcm, hg, hcell, _⟩ := ht4.nodes.nr.form (by simp)
  obtain ⟨ka, kc, hkv, _⟩ := (ht4.nodes.kr 0 (by simp)).form
  have hkv' : y0.kv = .slice ka 1 kc := by have h : y0.kv = .slice ka y0.kids.length kc := hkv; rw [h, hku]; rfl
  have c6 : w4.cell? ⟨g, 6, none⟩ = some (.slice ka 1 kc) := by have h := hcell 0 (by simp) 6 (by omega); rw [show ([y0, y1][0]).cells[6]? = some y0.kv from rfl, hkv'] at h; exact h
  have c12 : w4.cell? ⟨g, 12, none⟩ = some (.int .i64 0) := by have h := hcell 1 (by simp) 5 (by omega); rw [show ([y0, y1][1]).cells[5]? = some (.int .i64 y1.up) from rfl, huu] at h; exact h
  have hp4 := HT4.out.cell
  have hlen2 : ([y0, y1] : List Nd).length = 2 := rfl
  rw [hlen2] at hp4 HPl HHo hcl
  clear hk4 hl4 hl4' ht4 hcell hkv hkv' hku huu hy0 hy1 hplace hholds hlen2 HP HK3
  go_wp2_with fail
  refine (HPl.out w4 (Below.refl _ _)).mono ?_
  rintro e w5 ⟨rfl, hb5⟩
  have HB5 := Lib.hid hb5
  have hp5 := cell_keep hb5 hp4
  clear hb5 c6 c12 hp4
  go_wp2_with fail
  refine (HHo.out w5 HB5.out).mono ?_
  rintro e w6 ⟨rfl, hb6⟩
  have HB6 : Hid (Below w.heap.size w w6) := Lib.hid (HB4.out.trans ((HB5.out.trans (hb6.mono HB5.out.size)).mono HB4.out.size))
  clear hb6 hp5
  go_wp2
  go_ret
  exact ⟨rfl, HB6.out⟩
end Go.Proofs.Ytnihomlmjfgmdaa
