/-
  The walks of what statements ask of a node, and of a tree: that they are small; of slices.Clone and Contains at numbers; of New.
-/
import Derived.Test.YtkkngflpmdcfjaaNEqual
namespace Go.Proofs.Ytkkngflpmdcfjaa
open Go.RowKit

def RetQ (p : Prop) (w : World) (e : Ending) (w' : World) : Prop := ∃ b, e = .returned (.bool b) ∧ (b = true → p) ∧ Below w.heap.size w w'
def smallN (x : Nd) : Prop := x.name.size ≤ 40 ∧ x.data.size ≤ 300 ∧ x.kids.length ≤ 60 ∧ x.attrs.length ≤ 14

set_option maxRecDepth 100000 in
set_option maxHeartbeats 1600000 in
theorem node_any (x : Nd) (w : World) (hx : ReadK w x) (hsz : x.name.size ≤ maxLen ∧ x.data.size ≤ maxLen ∧ x.attrs.length ≤ maxLen) :
    Calls Try.prog 76 #[x.val] w (RetQ (smallN x) w) := by
  obtain ⟨⟨kx, kcx, hkx, _⟩, ax, cx, hax, hlx⟩ := hx
  unfold maxLen at hsz
  have HB0 := Lib.hid (below_box w (box x))
  have HX := Lib.hid (box_at w x)
  have HKx := Lib.hid hkx
  have HAx := Lib.hid hax
  have HFw := Lib.hid (fun W (hW : Below w.heap.size w W) => A.few_any ax cx x.attrs W (by omega) (hlx.below hW))
  unfold Nd.val
  have hi1 : (x.name.size : Int) ≤ 9223372036854775807 := by omega
  have hi2 : (x.data.size : Int) ≤ 9223372036854775807 := by omega
  clear hkx hax hlx
  by_cases h1 : x.name.size ≤ 40
  · have d1 : decide ((x.name.size : Int) ≤ 40) = true := by simp; omega
    by_cases h2 : x.data.size ≤ 300
    · have d2 : decide ((x.data.size : Int) ≤ 300) = true := by simp; omega
      by_cases h3 : x.kids.length ≤ 60
      · have d3 : decide ((x.kids.length : Int) ≤ 60) = true := by simp; omega
        have HS : Hid (A.fewA x.attrs = true → smallN x) := Lib.hid fun h => ⟨h1, h2, h3, (A.fewA_yes h).1⟩
        clear hsz
        generalize A.fewA x.attrs = fw at *
        go_enter Try.func76, Try.ntmps76
        go_upto_region 1 with fail
        show Code.wp _ _ _ _ (w.alloc (box x))
        obtain ⟨w1, ew⟩ : ∃ w1, w1 = w.alloc (box x) := ⟨_, rfl⟩
        rw [← ew] at HB0 HX ⊢
        clear ew
        obtain ⟨x0, x1, x2, x3, x4, x5, x6⟩ := HX.out.c7
        rw [HKx.out] at x6
        rw [HAx.out] at x3
        have HF1 := Lib.hid (HFw.out w1 HB0.out)
        go_wp2_with fail
        refine HF1.out.mono ?_
        rintro e w2 ⟨rfl, hb⟩
        have HB2 := below_step HB0 hb
        clear hb
        go_wp2
        go_ret
        exact ⟨fw, rfl, HS.out, HB2.out⟩
      · have d3 : decide ((x.kids.length : Int) ≤ 60) = false := by simp; omega
        clear hsz
        go_enter Try.func76, Try.ntmps76
        go_upto_region 1 with fail
        show Code.wp _ _ _ _ (w.alloc (box x))
        obtain ⟨w1, ew⟩ : ∃ w1, w1 = w.alloc (box x) := ⟨_, rfl⟩
        rw [← ew] at HB0 HX ⊢
        clear ew
        obtain ⟨x0, x1, x2, x3, x4, x5, x6⟩ := HX.out.c7
        rw [HKx.out] at x6
        go_wp2
        go_ret
        exact ⟨false, rfl, (fun h => by cases h), HB0.out⟩
    · have d2 : decide ((x.data.size : Int) ≤ 300) = false := by simp; omega
      clear hsz
      go_enter Try.func76, Try.ntmps76
      go_upto_region 1 with fail
      show Code.wp _ _ _ _ (w.alloc (box x))
      obtain ⟨w1, ew⟩ : ∃ w1, w1 = w.alloc (box x) := ⟨_, rfl⟩
      rw [← ew] at HB0 HX ⊢
      clear ew
      obtain ⟨x0, x1, x2, x3, x4, x5, x6⟩ := HX.out.c7
      go_wp2
      go_ret
      exact ⟨false, rfl, (fun h => by cases h), HB0.out⟩
  · have d1 : decide ((x.name.size : Int) ≤ 40) = false := by simp; omega
    clear hsz
    go_enter Try.func76, Try.ntmps76
    go_upto_region 1 with fail
    show Code.wp _ _ _ _ (w.alloc (box x))
    obtain ⟨w1, ew⟩ : ∃ w1, w1 = w.alloc (box x) := ⟨_, rfl⟩
    rw [← ew] at HB0 HX ⊢
    clear ew
    obtain ⟨x0, x1, x2, x3, x4, x5, x6⟩ := HX.out.c7
    go_wp2
    go_ret
    exact ⟨false, rfl, (fun h => by cases h), HB0.out⟩

set_option maxRecDepth 100000 in
set_option maxHeartbeats 1600000 in
theorem tree_any (v : Value) (l : List Nd) (w : World) (hv : ReadN w v l) (hl : l.length ≤ maxLen) (hsz : ∀ i (h : i < l.length), l[i].name.size ≤ maxLen ∧ l[i].data.size ≤ maxLen ∧ l[i].attrs.length ≤ maxLen) :
    Calls Try.prog 15 #[.agg #[v], .int .i64 20] w (RetQ (l.length ≤ 20 ∧ ∀ i (h : i < l.length), smallN l[i]) w) := by
  obtain ⟨a, cap, rfl, hnv, hrv⟩ := hv
  unfold maxLen at hl
  have HNv := Lib.hid hnv
  have HRv := Lib.hid hrv
  have HSz := Lib.hid hsz
  have HB0 := Lib.hid (w1_below w (.slice a l.length cap))
  have HX := Lib.hid (w1_cell w (.slice a l.length cap))
  have HZx : Hid (w.heap.size < (W1 w (.slice a l.length cap)).heap.size) := Lib.hid (by simp [W1])
  clear hnv hrv hsz
  by_cases hbig : l.length ≤ 20
  · have hb1 : decide ((20 : Int) < (l.length : Int)) = false := by simp; omega
    go_enter Try.func15, Try.ntmps15
    go_upto_region 1 with fail
    show Code.wp _ _ _ _ (W1 w (.slice a l.length cap))
    obtain ⟨w1, ew⟩ : ∃ w1, w1 = W1 w (.slice a l.length cap) := ⟨_, rfl⟩
    rw [← ew] at HB0 HX HZx ⊢
    clear ew
    have hx := HX.out
    go_wp2
    clear hx
    go_loopw [15] (fun q wr => ∃ k : Nat, k ≤ l.length ∧ q = .int .i64 k ∧ (∀ i (h : i < l.length), i < k → smallN l[i]) ∧ Below w1.heap.size w1 wr) (fun q _ => l.length - (intOf q).toNat)
    case atStart => exact ⟨0, Nat.zero_le _, rfl, fun i _ h => absurd h (Nat.not_lt_zero _), Below.refl _ _⟩
    case round =>
      obtain ⟨k, hk, rfl, hall, hbel⟩ := hrel
      have HB := Lib.hid hbel
      have HAll := Lib.hid hall
      have HBw : Hid (Below w.heap.size w wr) := Lib.hid (HB0.out.trans (hbel.mono HB0.out.size))
      clear hbel hall
      by_cases hlt : k < l.length
      · obtain ⟨b, off, rfl, hbl, hc⟩ := HNv.out (fun e => by rw [e] at hlt; simp at hlt)
        have HXk := Lib.hid ((show NodeAt w b (off + k * 7) l[k] from hc k hlt).below HBw.out)
        have hrk := HRv.out k hlt
        have HO := Lib.hid (node_any l[k] (wr.alloc (box l[k])) (hrk.below (HBw.out.alloc HBw.out.size _)) (HSz.out k hlt))
        have HSt : Hid (smallN l[k] → ∀ i (h : i < l.length), i < k + 1 → smallN l[i]) := Lib.hid fun h i hi hik => by
          rcases Nat.lt_or_eq_of_le (Nat.le_of_lt_succ hik) with h1 | h1
          · exact HAll.out i hi h1
          · subst h1; exact h
        obtain ⟨x0, x1, x2, x3, x4, x5, x6⟩ := HXk.out.c7
        obtain ⟨⟨ka, kc, hkv, _⟩, aa, ac, hav, _⟩ := hrk
        rw [hkv] at x6
        rw [hav] at x3
        have HXb := Lib.hid (box_at wr l[k])
        have HKv := Lib.hid hkv
        have HAv := Lib.hid hav
        have hi0 : (0 : Int) ≤ (k : Int) := by omega
        have hi1 : (k : Int) < (l.length : Int) := by omega
        clear hc hkv hav
        generalize l[k] = x at *
        unfold Nd.val at HO
        rw [HKv.out, HAv.out] at HO
        have HBb := Lib.hid (below_box wr (box x))
        go_upto_region 6 with fail
        have hbx : box x = (.cells #[.int .i64 x.kind, .int .i64 x.space, .string x.name, .slice aa x.attrs.length ac, .string x.data, .int .i64 x.up, .slice ka x.kids.length kc] 66) := by show Obj.cells (Nd.cells x).toArray _ = _; unfold Nd.cells; rw [HKv.out, HAv.out]
        rw [hbx] at HO HXb HBb
        clear hbx
        obtain ⟨w2, ew⟩ : ∃ w2, w2 = wr.alloc (.cells #[.int .i64 x.kind, .int .i64 x.space, .string x.name, .slice aa x.attrs.length ac, .string x.data, .int .i64 x.up, .slice ka x.kids.length kc] 66) := ⟨_, rfl⟩
        rw [← ew] at HO HXb HBb ⊢
        clear ew x0 x1 x2 x3 x4 x5 x6
        obtain ⟨x0, x1, x2, x3, x4, x5, x6⟩ := HXb.out.c7
        rw [HKv.out] at x6
        rw [HAv.out] at x3
        have HB2 : Hid (Below w1.heap.size w1 w2) := Lib.hid (HB.out.trans (HBb.out.mono HB.out.size))
        go_wp2_with fail
        refine HO.out.mono ?_
        rintro e w3 ⟨bb, rfl, hbb, hb3⟩
        have HB3 := below_step HB2 hb3
        have HBB := Lib.hid hbb
        clear hb3 hbb x0 x1 x2 x3 x4 x5 x6
        cases bb with
        | true =>
          go_wp2
          go_roundw
          case rel => exact ⟨k + 1, by omega, by go_num, HSt.out (HBB.out (by trivial)), HB3.out⟩
          case measure => simp [intOf]; omega
        | false =>
          go_wp2
          go_ret
          exact ⟨false, rfl, (fun h => by cases h), HB0.out.trans (HB3.out.mono HB0.out.size)⟩
      · have HF : Hid (l.length ≤ 20 ∧ ∀ i (h : i < l.length), smallN l[i]) := Lib.hid ⟨hbig, fun i h => HAll.out i h (by omega)⟩
        go_wp2
        go_ret
        exact ⟨true, rfl, fun _ => HF.out, HBw.out⟩
  · have hb1 : decide ((20 : Int) < (l.length : Int)) = true := by simp; omega
    go_enter Try.func15, Try.ntmps15
    go_upto_region 1 with fail
    show Code.wp _ _ _ _ (W1 w (.slice a l.length cap))
    obtain ⟨w1, ew⟩ : ∃ w1, w1 = W1 w (.slice a l.length cap) := ⟨_, rfl⟩
    rw [← ew] at HB0 HX HZx ⊢
    clear ew
    have hx := HX.out
    go_wp2
    go_ret
    exact ⟨false, rfl, (fun h => by cases h), HB0.out⟩

set_option maxRecDepth 100000 in
set_option maxHeartbeats 800000 in
theorem contains_any (v : Value) (xs : List Int) (x : Int) (w : World) (hK : KR w v xs) :
    Calls Try.prog 75 #[v, .int .i64 x] w fun e w' => e = .returned (.bool (decide (0 ≤ idxI x xs))) ∧ w = w' := by
  have HI := Lib.hid (index_any v xs x w hK)
  generalize idxI x xs = r at *
  clear hK
  go_enter Try.func75, Try.ntmps75
  go_wp2_with fail
  refine HI.out.mono ?_
  rintro e w1 ⟨rfl, rfl⟩
  go_wp2
  go_ret
  exact ⟨rfl, rfl⟩
set_option maxRecDepth 100000 in
set_option maxHeartbeats 1600000 in
theorem iclone_any (v : Value) (xs : List Int) (w : World) (hK : KR w v xs) (hl : xs.length ≤ 1000000) :
    Calls Try.prog 74 #[v] w fun e w' => ∃ v', e = .returned v' ∧ KR w' v' xs ∧ Below w.heap.size w w' := by
  have hq : ∀ (w : World) (a : Option Addr) (n c n' c' : Nat), (binOp .eql 29 (.slice a n c) (.slice none n' c')).run Try.prog w = .ok (.bool a.isNone) w := fun w a n c n' c' => Lib.run_eql_slice_nil w _ _ a n c n' c' Try.underlying29
  obtain ⟨a, cap, rfl, hle, hm, hnone, _⟩ := hK.form
  cases a with
  | none =>
    have h0 : xs.length = 0 := by have := hnone rfl; omega
    obtain rfl : xs = [] := List.eq_nil_of_length_eq_zero h0
    clear hnone hK hle hm h0
    go_enter Try.func74, Try.ntmps74
    go_wp2
    go_ret
    exact ⟨_, rfl, KR.nil w, Below.refl _ _⟩
  | some ad =>
    have HA := Lib.hid (hK.ints.below (below_box w (.cells #[] 3)))
    have HO : Hid (KR (w.alloc (.cells #[] 3)) (.slice (some ⟨w.heap.size, 0, none⟩) 0 0) []) := Lib.hid ⟨World.ownsRow_lit w #[] 0 (Nat.zero_le _) (Nat.zero_le _) rfl, okRow.alloc fun j u h => by simp at h⟩
    clear hnone hK
    go_enter Try.func74, Try.ntmps74
    go_wp2_with (at_builtin; refine wpList_append_ints _ rfl _ _ rfl _ _ rfl HO.out (some ad) cap xs rfl HA.out (by simp; omega) ?_; intro v1 w1 hk1 hgrow1 hat1)
    go_ret
    exact ⟨_, rfl, hk1, (below_box w _).grown hgrow1 (by simp) (fun k hk => by cases hk; exact Nat.le_refl _)⟩
end Go.Proofs.Ytkkngflpmdcfjaa
