/-
  The walks of the document's One and Equal: of what is the same they tell that it is.
-/
import Derived.Test.YtkkngflpmdcfjaaNClone
namespace Go.Proofs.Ytkkngflpmdcfjaa
open Go.RowKit

def RetB (p : Prop) (w : World) (e : Ending) (w' : World) : Prop := ∃ b, e = .returned (.bool b) ∧ (p → b = true) ∧ Below w.heap.size w w'

set_option maxRecDepth 100000 in
set_option maxHeartbeats 3200000 in
theorem one_any (x y : Nd) (w : World) (hx : ReadK w x) (hy : ReadK w y) (hsx : x.kids.length ≤ 100000 ∧ x.attrs.length ≤ 100000) (hsy : y.kids.length ≤ 100000 ∧ y.attrs.length ≤ 100000) :
    Calls Try.prog 92 #[x.val, y.val] w (RetB (norm x = norm y) w) := by
  obtain ⟨⟨kx, kcx, hkx, hix⟩, ax, cx, hax, hlx⟩ := hx
  obtain ⟨⟨ky, kcy, hky, hiy⟩, ay, cy, hay, hly⟩ := hy
  have HB0 : Hid (Below w.heap.size w ((w.alloc (box x)).alloc (box y))) := Lib.hid ((below_box w _).alloc (by simp) _)
  have HX : Hid (NodeAt ((w.alloc (box x)).alloc (box y)) w.heap.size 0 x) := Lib.hid ((box_at w x).below (below_box _ _))
  have HY : Hid (NodeAt ((w.alloc (box x)).alloc (box y)) (w.heap.size + 1) 0 y) := Lib.hid (by
    have h := box_at (w.alloc (box x)) y
    rw [show (w.alloc (box x)).heap.size = w.heap.size + 1 by simp] at h
    exact h)
  have HKx := Lib.hid hkx
  have HKy := Lib.hid hky
  have HAx := Lib.hid hax
  have HAy := Lib.hid hay
  have HIx := Lib.hid hix
  have HIy := Lib.hid hiy
  have HLx := Lib.hid hlx
  have HLy := Lib.hid hly
  unfold Nd.val
  clear hkx hky hax hay hix hiy hlx hly
  by_cases hkind : x.kind = y.kind
  · have ekind : (x.kind == y.kind) = true := by simp [hkind]
    have nkind : (x.kind != y.kind) = false := by simp [hkind]
    have Hkind := Lib.hid hkind
    clear hkind
    by_cases hspace : x.space = y.space
    · have espace : (x.space == y.space) = true := by simp [hspace]
      have nspace : (x.space != y.space) = false := by simp [hspace]
      have Hspace := Lib.hid hspace
      clear hspace
      by_cases hname : x.name.toList = y.name.toList
      · have ename : (x.name.toList == y.name.toList) = true := by simp [hname]
        have nname : (x.name.toList != y.name.toList) = false := by simp [hname]
        have Hname := Lib.hid hname
        clear hname
        by_cases hdata : x.data.toList = y.data.toList
        · have edata : (x.data.toList == y.data.toList) = true := by simp [hdata]
          have ndata : (x.data.toList != y.data.toList) = false := by simp [hdata]
          have Hdata := Lib.hid hdata
          clear hdata
          by_cases hup : x.up = y.up
          · have eup : (x.up == y.up) = true := by simp [hup]
            have nup : (x.up != y.up) = false := by simp [hup]
            have Hup := Lib.hid hup
            clear hup
            by_cases hlen : (x.kids.length : Int) = (y.kids.length : Int)
            · have elen : ((x.kids.length : Int) == (y.kids.length : Int)) = true := by simp [hlen]
              have nlen : ((x.kids.length : Int) != (y.kids.length : Int)) = false := by simp [hlen]
              have Hlen := Lib.hid hlen
              clear hlen
              go_enter Try.func92, Try.ntmps92
              go_upto_region 1 with fail
              show Code.wp _ _ _ _ ((w.alloc (box x)).alloc (box y))
              obtain ⟨w1, ew⟩ : ∃ w1, w1 = (w.alloc (box x)).alloc (box y) := ⟨_, rfl⟩
              rw [← ew] at HB0 HX HY ⊢
              clear ew
              obtain ⟨x0, x1, x2, x3, x4, x5, x6⟩ := HX.out.c7
              obtain ⟨y0, y1, y2, y3, y4, y5, y6⟩ := HY.out.c7
              rw [HKx.out] at x6
              rw [HKy.out] at y6
              rw [HAx.out] at x3
              rw [HAy.out] at y3
              go_wp2
              have hzx := HX.out.lt
              have hzy := HY.out.lt
              have HNe : Hid (x.kids.length = y.kids.length) := Lib.hid (by have := Hlen.out; omega)
              go_loopw [5] (fun q wr => ∃ k : Nat, k ≤ x.kids.length ∧ q = .int .i64 k ∧ Below w1.heap.size w1 wr) (fun q _ => x.kids.length - (intOf q).toNat)
              case atStart => exact ⟨0, Nat.zero_le _, rfl, Below.refl _ _⟩
              case round =>
                obtain ⟨k, hk, rfl, hbel⟩ := hrel
                have HB := Lib.hid hbel
                obtain ⟨x0, x1, x2, x3', x4, x5, x6'⟩ := (HX.out.below hbel).c7
                obtain ⟨y0, y1, y2, y3', y4, y5, y6'⟩ := (HY.out.below hbel).c7
                rw [HKx.out] at x6'
                rw [HKy.out] at y6'
                rw [HAx.out] at x3'
                rw [HAy.out] at y3'
                clear hbel
                by_cases hlt : k < x.kids.length
                · have hlt' : k < y.kids.length := by have := HNe.out; omega
                  have hxi := (HIx.out.below (HB0.out.trans (HB.out.mono HB0.out.size)))
                  have hyi := (HIy.out.below (HB0.out.trans (HB.out.mono HB0.out.size)))
                  obtain ⟨bx, ox, rfl, _, hcx⟩ := hxi (fun e => by rw [e] at hlt; simp at hlt)
                  obtain ⟨by_, oy, rfl, _, hcy⟩ := hyi (fun e => by rw [e] at hlt'; simp at hlt')
                  have hck := hcx k hlt
                  have hcl := hcy k hlt'
                  have hi0 : (0 : Int) ≤ (k : Int) := by omega
                  have hi1 : (k : Int) < (x.kids.length : Int) := by omega
                  have hi2 : (k : Int) < (y.kids.length : Int) := by omega
                  have HE : Hid (norm x = norm y → x.kids[k] = y.kids[k]) := Lib.hid fun e => by
                    have e2 : x.kids = y.kids := by have h := congrArg Nd.kids e; exact h
                    have e3 : x.kids[k]? = y.kids[k]? := by rw [e2]
                    rw [List.getElem?_eq_getElem hlt, List.getElem?_eq_getElem hlt'] at e3
                    exact Option.some.inj e3
                  clear hcx hcy hxi hyi
                  generalize x.kids[k] = u at *
                  generalize y.kids[k] = v at *
                  by_cases hq : u = v
                  · have eq : (u == v) = true := by simp [hq]
                    have nq' : (u != v) = false := by simp [hq]
                    clear hq
                    go_wp2
                    go_quiet (fail)
                    go_wp2
                    go_roundw
                    case rel => exact ⟨k + 1, by omega, by go_num, ⟨HB.out.os, HB.out.tape, HB.out.output, HB.out.size, HB.out.block⟩⟩
                    case measure => simp [intOf]; omega
                  · have eq : (u == v) = false := by simp [hq]
                    have nq' : (u != v) = true := by simp [hq]
                    have HN : Hid (norm x = norm y → False) := Lib.hid fun e => hq (HE.out e)
                    clear hq
                    go_wp2
                    go_quiet (fail)
                    go_wp2
                    go_ret
                    exact ⟨false, rfl, fun e => (HN.out e).elim, HB0.out.trans (Below.mono (B := w1.heap.size) ⟨HB.out.os, HB.out.tape, HB.out.output, HB.out.size, HB.out.block⟩ HB0.out.size)⟩
                · have hbw : Below w.heap.size w wr := HB0.out.trans (HB.out.mono HB0.out.size)
                  have HSa := Lib.hid (A.rsame_any ax ay cx cy x.attrs y.attrs wr (by omega) (by omega) (HLx.out.below hbw) (HLy.out.below hbw))
                  have HBw := Lib.hid hbw
                  have HSe : Hid (norm x = norm y → A.sameB x.attrs y.attrs = true) := Lib.hid fun e => by
                    have e2 : x.attrs = y.attrs := by have h := congrArg Nd.attrs e; exact h
                    rw [e2]; exact A.sameB_self _
                  clear hbw
                  generalize A.sameB x.attrs y.attrs = sb at *
                  go_wp2_with fail
                  refine HSa.out.mono ?_
                  rintro e w2 ⟨rfl, hb2⟩
                  have HB2 := below_step HBw hb2
                  clear hb2
                  go_wp2
                  go_ret
                  exact ⟨sb, rfl, HSe.out, HB2.out⟩
            · have elen : ((x.kids.length : Int) == (y.kids.length : Int)) = false := by simp [hlen]
              have nlen : ((x.kids.length : Int) != (y.kids.length : Int)) = true := by simp [hlen]
              have HN : Hid (norm x = norm y → False) := Lib.hid fun e => hlen (by have h := congrArg (fun z => (z.kids.length : Int)) e; exact h)
              clear hlen
              go_enter Try.func92, Try.ntmps92
              go_upto_region 1 with fail
              show Code.wp _ _ _ _ ((w.alloc (box x)).alloc (box y))
              obtain ⟨w1, ew⟩ : ∃ w1, w1 = (w.alloc (box x)).alloc (box y) := ⟨_, rfl⟩
              rw [← ew] at HB0 HX HY ⊢
              clear ew
              obtain ⟨x0, x1, x2, x3, x4, x5, x6⟩ := HX.out.c7
              obtain ⟨y0, y1, y2, y3, y4, y5, y6⟩ := HY.out.c7
              rw [HKx.out] at x6
              rw [HKy.out] at y6
              rw [HAx.out] at x3
              rw [HAy.out] at y3
              go_wp2
              go_ret
              exact ⟨false, rfl, fun e => (HN.out e).elim, HB0.out⟩
          · have eup : (x.up == y.up) = false := by simp [hup]
            have nup : (x.up != y.up) = true := by simp [hup]
            have HN : Hid (norm x = norm y → False) := Lib.hid fun e => hup (by have h := congrArg (Nd.up) e; exact h)
            clear hup
            go_enter Try.func92, Try.ntmps92
            go_upto_region 1 with fail
            show Code.wp _ _ _ _ ((w.alloc (box x)).alloc (box y))
            obtain ⟨w1, ew⟩ : ∃ w1, w1 = (w.alloc (box x)).alloc (box y) := ⟨_, rfl⟩
            rw [← ew] at HB0 HX HY ⊢
            clear ew
            obtain ⟨x0, x1, x2, x3, x4, x5, x6⟩ := HX.out.c7
            obtain ⟨y0, y1, y2, y3, y4, y5, y6⟩ := HY.out.c7
            rw [HKx.out] at x6
            rw [HKy.out] at y6
            rw [HAx.out] at x3
            rw [HAy.out] at y3
            go_wp2
            go_ret
            exact ⟨false, rfl, fun e => (HN.out e).elim, HB0.out⟩
        · have edata : (x.data.toList == y.data.toList) = false := by simp [hdata]
          have ndata : (x.data.toList != y.data.toList) = true := by simp [hdata]
          have HN : Hid (norm x = norm y → False) := Lib.hid fun e => hdata (by have h := congrArg (fun z => z.data.toList) e; exact h)
          clear hdata
          go_enter Try.func92, Try.ntmps92
          go_upto_region 1 with fail
          show Code.wp _ _ _ _ ((w.alloc (box x)).alloc (box y))
          obtain ⟨w1, ew⟩ : ∃ w1, w1 = (w.alloc (box x)).alloc (box y) := ⟨_, rfl⟩
          rw [← ew] at HB0 HX HY ⊢
          clear ew
          obtain ⟨x0, x1, x2, x3, x4, x5, x6⟩ := HX.out.c7
          obtain ⟨y0, y1, y2, y3, y4, y5, y6⟩ := HY.out.c7
          rw [HKx.out] at x6
          rw [HKy.out] at y6
          rw [HAx.out] at x3
          rw [HAy.out] at y3
          go_wp2
          go_ret
          exact ⟨false, rfl, fun e => (HN.out e).elim, HB0.out⟩
      · have ename : (x.name.toList == y.name.toList) = false := by simp [hname]
        have nname : (x.name.toList != y.name.toList) = true := by simp [hname]
        have HN : Hid (norm x = norm y → False) := Lib.hid fun e => hname (by have h := congrArg (fun z => z.name.toList) e; exact h)
        clear hname
        go_enter Try.func92, Try.ntmps92
        go_upto_region 1 with fail
        show Code.wp _ _ _ _ ((w.alloc (box x)).alloc (box y))
        obtain ⟨w1, ew⟩ : ∃ w1, w1 = (w.alloc (box x)).alloc (box y) := ⟨_, rfl⟩
        rw [← ew] at HB0 HX HY ⊢
        clear ew
        obtain ⟨x0, x1, x2, x3, x4, x5, x6⟩ := HX.out.c7
        obtain ⟨y0, y1, y2, y3, y4, y5, y6⟩ := HY.out.c7
        rw [HKx.out] at x6
        rw [HKy.out] at y6
        rw [HAx.out] at x3
        rw [HAy.out] at y3
        go_wp2
        go_ret
        exact ⟨false, rfl, fun e => (HN.out e).elim, HB0.out⟩
    · have espace : (x.space == y.space) = false := by simp [hspace]
      have nspace : (x.space != y.space) = true := by simp [hspace]
      have HN : Hid (norm x = norm y → False) := Lib.hid fun e => hspace (by have h := congrArg (Nd.space) e; exact h)
      clear hspace
      go_enter Try.func92, Try.ntmps92
      go_upto_region 1 with fail
      show Code.wp _ _ _ _ ((w.alloc (box x)).alloc (box y))
      obtain ⟨w1, ew⟩ : ∃ w1, w1 = (w.alloc (box x)).alloc (box y) := ⟨_, rfl⟩
      rw [← ew] at HB0 HX HY ⊢
      clear ew
      obtain ⟨x0, x1, x2, x3, x4, x5, x6⟩ := HX.out.c7
      obtain ⟨y0, y1, y2, y3, y4, y5, y6⟩ := HY.out.c7
      rw [HKx.out] at x6
      rw [HKy.out] at y6
      rw [HAx.out] at x3
      rw [HAy.out] at y3
      go_wp2
      go_ret
      exact ⟨false, rfl, fun e => (HN.out e).elim, HB0.out⟩
  · have ekind : (x.kind == y.kind) = false := by simp [hkind]
    have nkind : (x.kind != y.kind) = true := by simp [hkind]
    have HN : Hid (norm x = norm y → False) := Lib.hid fun e => hkind (by have h := congrArg (Nd.kind) e; exact h)
    clear hkind
    go_enter Try.func92, Try.ntmps92
    go_upto_region 1 with fail
    show Code.wp _ _ _ _ ((w.alloc (box x)).alloc (box y))
    obtain ⟨w1, ew⟩ : ∃ w1, w1 = (w.alloc (box x)).alloc (box y) := ⟨_, rfl⟩
    rw [← ew] at HB0 HX HY ⊢
    clear ew
    obtain ⟨x0, x1, x2, x3, x4, x5, x6⟩ := HX.out.c7
    obtain ⟨y0, y1, y2, y3, y4, y5, y6⟩ := HY.out.c7
    rw [HKx.out] at x6
    rw [HKy.out] at y6
    rw [HAx.out] at x3
    rw [HAy.out] at y3
    go_wp2
    go_ret
    exact ⟨false, rfl, fun e => (HN.out e).elim, HB0.out⟩

set_option maxRecDepth 100000 in
set_option maxHeartbeats 3200000 in
theorem equal_any (v u : Value) (l m : List Nd) (w : World) (hv : ReadN w v l) (hu : ReadN w u m) (hl : l.length ≤ 10000) (_hm : m.length ≤ 10000) (hsl : ∀ i (h : i < l.length), l[i].kids.length ≤ 100000 ∧ l[i].attrs.length ≤ 100000) (hsm : ∀ i (h : i < m.length), m[i].kids.length ≤ 100000 ∧ m[i].attrs.length ≤ 100000) :
    Calls Try.prog 34 #[.agg #[v], .agg #[u]] w (RetB (l.map norm = m.map norm) w) := by
  obtain ⟨a, cap, rfl, hnv, hrv⟩ := hv
  obtain ⟨a', cap', rfl, hnu, hru⟩ := hu
  have HNv := Lib.hid hnv
  have HNu := Lib.hid hnu
  have HRv := Lib.hid hrv
  have HRu := Lib.hid hru
  have HSl := Lib.hid hsl
  have HSm := Lib.hid hsm
  have HB0 : Hid (Below w.heap.size w ((w.alloc (.cells #[.slice a l.length cap] 24)).alloc (.cells #[.slice a' m.length cap'] 24))) := Lib.hid ((below_box w _).alloc (by simp) _)
  have HX : Hid (((w.alloc (.cells #[.slice a l.length cap] 24)).alloc (.cells #[.slice a' m.length cap'] 24)).cell? ⟨w.heap.size, 0, none⟩ = some (.slice a l.length cap)) := Lib.hid (w1_kept (v := .slice a' m.length cap') (w1_cell w (.slice a l.length cap)))
  have HY : Hid (((w.alloc (.cells #[.slice a l.length cap] 24)).alloc (.cells #[.slice a' m.length cap'] 24)).cell? ⟨w.heap.size + 1, 0, none⟩ = some (.slice a' m.length cap')) := Lib.hid (by
    have h := w1_cell (w.alloc (.cells #[.slice a l.length cap] 24)) (.slice a' m.length cap')
    rw [show (w.alloc (.cells #[.slice a l.length cap] 24)).heap.size = w.heap.size + 1 by simp] at h
    exact h)
  clear hnv hnu hrv hru hsl hsm
  by_cases hne : l.length = m.length
  · have HL := Lib.hid hne
    have h1 : ((l.length : Int) == (m.length : Int)) = true := by simp [hne]
    have h2 : ((l.length : Int) != (m.length : Int)) = false := by simp [hne]
    clear hne
    go_enter Try.func34, Try.ntmps34
    go_upto_region 1 with fail
    obtain ⟨w1, ew⟩ : ∃ w1, w1 = (w.alloc (.cells #[.slice a l.length cap] 24)).alloc (.cells #[.slice a' m.length cap'] 24) := ⟨_, rfl⟩
    rw [← ew] at HB0 HX HY ⊢
    clear ew
    have hx := HX.out
    have hy := HY.out
    have hzx := World.block_lt_of_cell? w1 _ hx
    have hzy := World.block_lt_of_cell? w1 _ hy
    have HZx := Lib.hid hzx
    have HZy := Lib.hid hzy
    clear hzx hzy
    go_wp2
    clear hx hy
    go_loopw [5] (fun q wr => ∃ k : Nat, k ≤ l.length ∧ q = .int .i64 k ∧ Below w1.heap.size w1 wr) (fun q _ => l.length - (intOf q).toNat)
    case atStart => exact ⟨0, Nat.zero_le _, rfl, Below.refl _ _⟩
    case round =>
      obtain ⟨k, hk, rfl, hbel⟩ := hrel
      have HB := Lib.hid hbel
      have hx : wr.cell? ⟨w.heap.size, 0, none⟩ = some (.slice a l.length cap) := (hbel.cell (p := ⟨w.heap.size, 0, none⟩) HZx.out).trans HX.out
      have hy : wr.cell? ⟨w.heap.size + 1, 0, none⟩ = some (.slice a' m.length cap') := (hbel.cell (p := ⟨w.heap.size + 1, 0, none⟩) HZy.out).trans HY.out
      have HBw : Hid (Below w.heap.size w wr) := Lib.hid (HB0.out.trans (hbel.mono HB0.out.size))
      clear hbel
      by_cases hlt : k < l.length
      · have hlt' : k < m.length := by have := HL.out; omega
        obtain ⟨b, off, rfl, hbl, hc⟩ := HNv.out (fun e => by rw [e] at hlt; simp at hlt)
        obtain ⟨b', off', rfl, hbl', hc'⟩ := HNu.out (fun e => by rw [e] at hlt'; simp at hlt')
        have HXk := Lib.hid ((show NodeAt w b (off + k * 7) l[k] from hc k hlt).below HBw.out)
        have HYk := Lib.hid ((show NodeAt w b' (off' + k * 7) m[k] from hc' k hlt').below HBw.out)
        have HO := Lib.hid (fun W (hW : Below w.heap.size w W) => one_any l[k] m[k] W ((HRv.out k hlt).below hW) ((HRu.out k hlt').below hW) (HSl.out k hlt) (HSm.out k hlt'))
        have HE : Hid (l.map norm = m.map norm → norm l[k] = norm m[k]) := Lib.hid fun e => by
          have e3 : (l.map norm)[k]? = (m.map norm)[k]? := by rw [e]
          rw [List.getElem?_map, List.getElem?_map, List.getElem?_eq_getElem hlt, List.getElem?_eq_getElem hlt'] at e3
          exact Option.some.inj e3
        obtain ⟨x0, x1, x2, x3, x4, x5, x6⟩ := HXk.out.c7
        obtain ⟨y0, y1, y2, y3, y4, y5, y6⟩ := HYk.out.c7
        have hi0 : (0 : Int) ≤ (k : Int) := by omega
        have hi1 : (k : Int) < (l.length : Int) := by omega
        have hi2 : (k : Int) < (m.length : Int) := by omega
        clear hc hc'
        generalize l[k] = x at *
        generalize m[k] = y at *
        unfold Nd.val at HO
        go_wp2
        have hB := HBw.out
        have hBr := HB.out
        have hXk := HXk.out
        have hYk := HYk.out
        go_region_held3 (fun w' => w'.cell? ⟨w.heap.size, 0, none⟩ = some (.slice (some ⟨b, off, none⟩) l.length cap) ∧ w'.cell? ⟨w.heap.size + 1, 0, none⟩ = some (.slice (some ⟨b', off', none⟩) m.length cap') ∧
            w'.cell? ⟨b, off + k * 7, none⟩ = some (.int .i64 x.kind) ∧ w'.cell? ⟨b, off + k * 7 + 1, none⟩ = some (.int .i64 x.space) ∧ w'.cell? ⟨b, off + k * 7 + 2, none⟩ = some (.string x.name) ∧ w'.cell? ⟨b, off + k * 7 + 3, none⟩ = some x.av ∧ w'.cell? ⟨b, off + k * 7 + 4, none⟩ = some (.string x.data) ∧ w'.cell? ⟨b, off + k * 7 + 5, none⟩ = some (.int .i64 x.up) ∧ w'.cell? ⟨b, off + k * 7 + 6, none⟩ = some x.kv ∧
            w'.cell? ⟨b', off' + k * 7, none⟩ = some (.int .i64 y.kind) ∧ w'.cell? ⟨b', off' + k * 7 + 1, none⟩ = some (.int .i64 y.space) ∧ w'.cell? ⟨b', off' + k * 7 + 2, none⟩ = some (.string y.name) ∧ w'.cell? ⟨b', off' + k * 7 + 3, none⟩ = some y.av ∧ w'.cell? ⟨b', off' + k * 7 + 4, none⟩ = some (.string y.data) ∧ w'.cell? ⟨b', off' + k * 7 + 5, none⟩ = some (.int .i64 y.up) ∧ w'.cell? ⟨b', off' + k * 7 + 6, none⟩ = some y.kv ∧ Below w1.heap.size w1 w')
          ((go_split_ands; refine ⟨?_, ?_, ?_, ?_, ?_, ?_, ?_, ?_, ?_, ?_, ?_, ?_, ?_, ?_, ?_, ?_, ?_⟩ <;> first | assumption | go_keep | exact drewB1 (by assumption)))
          ((go_at_call 92; go_split_ands; (refine (HO.out _ (HB0.out.trans ((by assumption : Below w1.heap.size w1 _).mono HB0.out.size))).mono ?_); rintro e w4 ⟨bb, rfl, hbb, hb4⟩; have hk1 := cell_keep hb4 (B := w.heap.size) (o := 0) (by assumption); have hk2 := cell_keep hb4 (B := w.heap.size + 1) (o := 0) (by assumption); have a0 := cell_keep hb4 (B := b) (o := off + k * 7) (by assumption); have a1 := cell_keep hb4 (B := b) (o := off + k * 7 + 1) (by assumption); have a2 := cell_keep hb4 (B := b) (o := off + k * 7 + 2) (by assumption); have a3 := cell_keep hb4 (B := b) (o := off + k * 7 + 3) (by assumption); have a4 := cell_keep hb4 (B := b) (o := off + k * 7 + 4) (by assumption); have a5 := cell_keep hb4 (B := b) (o := off + k * 7 + 5) (by assumption); have a6 := cell_keep hb4 (B := b) (o := off + k * 7 + 6) (by assumption); have c0 := cell_keep hb4 (B := b') (o := off' + k * 7) (by assumption); have c1 := cell_keep hb4 (B := b') (o := off' + k * 7 + 1) (by assumption); have c2 := cell_keep hb4 (B := b') (o := off' + k * 7 + 2) (by assumption); have c3 := cell_keep hb4 (B := b') (o := off' + k * 7 + 3) (by assumption); have c4 := cell_keep hb4 (B := b') (o := off' + k * 7 + 4) (by assumption); have c5 := cell_keep hb4 (B := b') (o := off' + k * 7 + 5) (by assumption); have c6 := cell_keep hb4 (B := b') (o := off' + k * 7 + 6) (by assumption); have hk3 := below_trans (w := w1) (by assumption) hb4))
        have HB4 := Lib.hid hk3
        have HBb := Lib.hid hbb
        clear hb4 hk3 hbb hB hBr hXk hYk
        cases bb with
        | true =>
          go_wp2
          go_roundw
          case rel => exact ⟨k + 1, by omega, by go_num, HB4.out⟩
          case measure => simp [intOf]; omega
        | false =>
          have HF : Hid (l.map norm = m.map norm → False) := Lib.hid fun e => by have := HBb.out (HE.out e); cases this
          go_wp2
          go_ret
          exact ⟨false, rfl, fun e => (HF.out e).elim, HB0.out.trans (HB4.out.mono HB0.out.size)⟩
      · go_wp2
        go_ret
        exact ⟨true, rfl, fun _ => rfl, HBw.out⟩
  · have HN : Hid (l.map norm = m.map norm → False) := Lib.hid fun e => hne (by have := congrArg List.length e; simpa using this)
    have h1 : ((l.length : Int) == (m.length : Int)) = false := by simp; omega
    have h2 : ((l.length : Int) != (m.length : Int)) = true := by simp; omega
    clear hne
    go_enter Try.func34, Try.ntmps34
    go_upto_region 1 with fail
    obtain ⟨w1, ew⟩ : ∃ w1, w1 = (w.alloc (.cells #[.slice a l.length cap] 24)).alloc (.cells #[.slice a' m.length cap'] 24) := ⟨_, rfl⟩
    rw [← ew] at HB0 HX HY ⊢
    clear ew
    have hx := HX.out
    have hy := HY.out
    go_wp2
    go_ret
    exact ⟨false, rfl, fun e => (HN.out e).elim, HB0.out⟩
end Go.Proofs.Ytkkngflpmdcfjaa
