/-
  A small tree with small attributes. Written by gen_tree.py.
-/
import Derived.Test.YtkkngflpmdcfjaaYRpush
import Derived.Test.YtkkngflpmdcfjaaYOpen
namespace Go.Proofs.Ytkkngflpmdcfjaa
open Go.RowKit

def smallF (x : Nd) : Prop := smallN x ∧ A.fewA x.attrs = true
theorem fine_few {l : List A.At} (h : A.fewA l = true) : l.length ≤ 1000000 ∧ ∀ y ∈ l, A.fine y := by
  obtain ⟨h1, h2⟩ := A.fewA_yes h
  exact ⟨by omega, fun y hy => ⟨by have := (h2 y hy).1; omega, by have := (h2 y hy).2; omega⟩⟩
set_option maxRecDepth 100000 in
set_option maxHeartbeats 1600000 in
theorem nodeF_any (x : Nd) (w : World) (hx : ReadK w x) (hsz : x.name.size ≤ maxLen ∧ x.data.size ≤ maxLen ∧ x.attrs.length ≤ maxLen) :
    Calls Try.prog 76 #[x.val] w (RetQ (smallF x) w) := by
  obtain ⟨⟨kx, kcx, hkx, _⟩, ax, cx, hax, hlx⟩ := hx
  unfold maxLen at hsz
  have HB0 := Lib.hid (below_box w (box x))
  have HX := Lib.hid (box_at w x)
  have HKx := Lib.hid hkx
  have HAx := Lib.hid hax
  have HFw := Lib.hid (fun W (hW : Below w.heap.size w W) => A.few_any ax cx x.attrs W (by omega) (hlx.below hW))
  unfold Nd.val
  have hi1 : (x.name.size : Int) ≤ 9223372036854775807 := by omega
  have hi2 : (x.data.size : Int) ≤ 9223372036854775807 := by omega
  clear hkx hax hlx
  by_cases h1 : x.name.size ≤ 40
  · have d1 : decide ((x.name.size : Int) ≤ 40) = true := by simp; omega
    by_cases h2 : x.data.size ≤ 300
    · have d2 : decide ((x.data.size : Int) ≤ 300) = true := by simp; omega
      by_cases h3 : x.kids.length ≤ 60
      · have d3 : decide ((x.kids.length : Int) ≤ 60) = true := by simp; omega
        have HS : Hid (A.fewA x.attrs = true → smallF x) := Lib.hid fun h => ⟨⟨h1, h2, h3, (A.fewA_yes h).1⟩, h⟩
        clear hsz
        generalize A.fewA x.attrs = fw at *
        go_enter Try.func76, Try.ntmps76
        go_upto_region 1 with fail
        show Code.wp _ _ _ _ (w.alloc (box x))
        obtain ⟨w1, ew⟩ : ∃ w1, w1 = w.alloc (box x) := ⟨_, rfl⟩
        rw [← ew] at HB0 HX ⊢
        clear ew
        obtain ⟨x0, x1, x2, x3, x4, x5, x6⟩ := HX.out.c7
        rw [HKx.out] at x6
        rw [HAx.out] at x3
        have HF1 := Lib.hid (HFw.out w1 HB0.out)
        go_wp2_with fail
        refine HF1.out.mono ?_
        rintro e w2 ⟨rfl, hb⟩
        have HB2 := below_step HB0 hb
        clear hb
        go_wp2
        go_ret
        exact ⟨fw, rfl, HS.out, HB2.out⟩
      · have d3 : decide ((x.kids.length : Int) ≤ 60) = false := by simp; omega
        clear hsz
        go_enter Try.func76, Try.ntmps76
        go_upto_region 1 with fail
        show Code.wp _ _ _ _ (w.alloc (box x))
        obtain ⟨w1, ew⟩ : ∃ w1, w1 = w.alloc (box x) := ⟨_, rfl⟩
        rw [← ew] at HB0 HX ⊢
        clear ew
        obtain ⟨x0, x1, x2, x3, x4, x5, x6⟩ := HX.out.c7
        rw [HKx.out] at x6
        go_wp2
        go_ret
        exact ⟨false, rfl, (fun h => by cases h), HB0.out⟩
    · have d2 : decide ((x.data.size : Int) ≤ 300) = false := by simp; omega
      clear hsz
      go_enter Try.func76, Try.ntmps76
      go_upto_region 1 with fail
      show Code.wp _ _ _ _ (w.alloc (box x))
      obtain ⟨w1, ew⟩ : ∃ w1, w1 = w.alloc (box x) := ⟨_, rfl⟩
      rw [← ew] at HB0 HX ⊢
      clear ew
      obtain ⟨x0, x1, x2, x3, x4, x5, x6⟩ := HX.out.c7
      go_wp2
      go_ret
      exact ⟨false, rfl, (fun h => by cases h), HB0.out⟩
  · have d1 : decide ((x.name.size : Int) ≤ 40) = false := by simp; omega
    clear hsz
    go_enter Try.func76, Try.ntmps76
    go_upto_region 1 with fail
    show Code.wp _ _ _ _ (w.alloc (box x))
    obtain ⟨w1, ew⟩ : ∃ w1, w1 = w.alloc (box x) := ⟨_, rfl⟩
    rw [← ew] at HB0 HX ⊢
    clear ew
    obtain ⟨x0, x1, x2, x3, x4, x5, x6⟩ := HX.out.c7
    go_wp2
    go_ret
    exact ⟨false, rfl, (fun h => by cases h), HB0.out⟩

set_option maxRecDepth 100000 in
set_option maxHeartbeats 1600000 in
theorem treeF_any (u : Value) (l : List Nd) (w : World) (h : ReadN w u l) (hl : l.length ≤ maxLen) (hs : ∀ i (h : i < l.length), sizedR l[i]) :
    Calls Try.prog 15 #[.agg #[u], .int .i64 25] w (RetQ (l.length ≤ 25 ∧ ∀ i (h : i < l.length), smallF l[i]) w) := by
  obtain ⟨a, cap, rfl, hn, hr⟩ := h
  have HN := Lib.hid hn
  have HR := Lib.hid hr
  have HS := Lib.hid hs
  have HB0 := Lib.hid (below_box w (.cells #[.slice a l.length cap] 24))
  have HX : Hid ((w.alloc (.cells #[.slice a l.length cap] 24)).cell? ⟨w.heap.size, 0, none⟩ = some (.slice a l.length cap)) := Lib.hid (w1_cell w (.slice a l.length cap))
  have hl2 : (l.length : Int) ≤ 9223372036854775807 := by unfold maxLen at hl; omega
  clear hn hr hs hl
  by_cases h1 : l.length ≤ 25
  · have d1 : decide ((25 : Int) < (l.length : Int)) = false := by simp; omega
    have hl3 : (l.length : Int) ≤ 25 := by omega
    go_enter Try.func15, Try.ntmps15
    go_upto_region 1 with fail
    show Code.wp _ _ _ _ (w.alloc (.cells #[.slice a l.length cap] 24))
    obtain ⟨w1, ew⟩ : ∃ w1, w1 = w.alloc (.cells #[.slice a l.length cap] 24) := ⟨_, rfl⟩
    rw [← ew] at HB0 HX ⊢
    clear ew
    have hx := HX.out
    go_wp2
    clear hx
    go_loopw [15] (fun q wr => ∃ k : Nat, k ≤ l.length ∧ q = .int .i64 k ∧ Below w.heap.size w wr ∧ ∀ i (h : i < l.length), i < k → smallF l[i]) (fun q _ => l.length - (intOf q).toNat)
    case atStart => exact ⟨0, Nat.zero_le _, rfl, HB0.out, fun i _ h => absurd h (Nat.not_lt_zero _)⟩
    case round =>
      obtain ⟨k, hk, rfl, hbel, hall⟩ := hrel
      have HB := Lib.hid hbel
      have HAll := Lib.hid hall
      clear hbel hall
      by_cases hlt : k < l.length
      · obtain ⟨b, off, rfl, hbl, hc⟩ := HN.out (fun e => by rw [e] at hlt; simp at hlt)
        have HXk := Lib.hid ((show NodeAt w b (off + k * 7) l[k] from hc k hlt).below HB.out)
        have HO := Lib.hid (fun W (hW : Below w.heap.size w W) => nodeF_any l[k] W ((HR.out k hlt).below hW) ⟨(HS.out k hlt).1, (HS.out k hlt).2.1, (HS.out k hlt).2.2.1⟩)
        have HT : Hid (smallF l[k] → ∀ i (h : i < l.length), i < k + 1 → smallF l[i]) := Lib.hid fun e i h h2 => by
          rcases Nat.lt_or_ge i k with h3 | h3
          · exact HAll.out i h h3
          · have : i = k := by omega
            subst this; exact e
        have HF : Hid (∀ (_ : l.length ≤ 25 ∧ ∀ i (h : i < l.length), smallF l[i]), smallF l[k]) := Lib.hid fun e => e.2 k hlt
        obtain ⟨x0, x1, x2, x3, x4, x5, x6⟩ := HXk.out.c7
        have hi0 : (0 : Int) ≤ (k : Int) := by omega
        have hi1 : (k : Int) < (l.length : Int) := by omega
        clear hc
        obtain ⟨⟨ka, kc, ek, _⟩, aa, ac, ea, _⟩ := HR.out k hlt
        generalize l[k] = x at *
        unfold Nd.val at HO
        simp only [ek, ea] at HO
        rw [ek] at x6
        rw [ea] at x3
        clear ek ea
        go_wp2_with fail
        refine (HO.out _ (HB.out.alloc HB.out.size _)).mono ?_
        rintro e w2 ⟨bb, rfl, hbb, hb⟩
        have HB2 := below_step (Lib.hid (HB.out.alloc HB.out.size _)) hb
        have HBb := Lib.hid hbb
        clear hb hbb
        cases bb with
        | true =>
          go_wp2
          go_roundw
          case rel => exact ⟨k + 1, by omega, by go_num, HB2.out, HT.out (HBb.out trivial)⟩
          case measure => simp [intOf]; omega
        | false =>
          go_wp2
          go_ret
          exact ⟨false, rfl, fun h => (by cases h), HB2.out⟩
      · have e : k = l.length := by omega
        subst e
        go_wp2
        go_ret
        exact ⟨true, rfl, fun _ => ⟨h1, fun i h => HAll.out i h h⟩, HB.out⟩
  · have d1 : decide ((25 : Int) < (l.length : Int)) = true := by simp; omega
    go_enter Try.func15, Try.ntmps15
    go_upto_region 1 with fail
    show Code.wp _ _ _ _ (w.alloc (.cells #[.slice a l.length cap] 24))
    obtain ⟨w1, ew⟩ : ∃ w1, w1 = w.alloc (.cells #[.slice a l.length cap] 24) := ⟨_, rfl⟩
    rw [← ew] at HB0 HX ⊢
    clear ew
    have hx := HX.out
    go_wp2
    go_ret
    exact ⟨false, rfl, fun h => (by cases h), HB0.out⟩
end Go.Proofs.Ytkkngflpmdcfjaa
