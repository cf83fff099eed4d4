/-
  The walks of Alike: attributes that were seen stand in a map, out of which they are deleted.
-/
import Derived.Test.YtkkngflpmdcfjaaAAmong
import Derived.Maps.OwnSet
import Derived.Maps.Views
import Derived.DeepKeys4
namespace Go.Proofs.Ytkkngflpmdcfjaa.A
open Go.RowKit Go.Maps Go.WideMaps

theorem laidOut0 : laidOutB Try.prog = true := by kernel_rfl
theorem lawA : Keyed Try.prog 115 := Keyed.of_law (deep_law_laid laidOut0 (m := 3) (by omega) (of_decide_eq_true (by kernel_rfl)) (by kernel_rfl) (by kernel_rfl))
theorem zeroU (w : World) : (zeroValue 142).run Try.prog w = .ok (.agg #[]) w := by kernel_rfl
def keyA (x : At) : Lit := .string (keyBytes [.string x.1.data.toList, .string x.2.data.toList])
def fine (x : At) : Prop := x.1.size ≤ 1000000 ∧ x.2.size ≤ 1000000
theorem keyOf_two {P : Program} {t s : TypeId} {f g : Field} (x : At) (hu : P.underlying t = some (.struct #[f, g])) (hs : P.underlying s = some .string) (hf : f.type = s) (hg : g.type = s) (hf0 : f.offset = 0) (hg0 : g.offset = 1)
    (hfn : (f.name != "_") = true) (hgn : (g.name != "_") = true) (hk : P.keyType t = true) (hc : P.cellsOf t = 2) (hc1 : P.cellsOf s = 1) (hm : 1 ≤ P.types.size) (s1 : x.1.size ≤ maxLen) (s2 : x.2.size ≤ maxLen) :
    keyOf P t (.agg #[.string x.1, .string x.2]) = some (.string (keyBytes [.string x.1.data.toList, .string x.2.data.toList])) := by
  obtain ⟨m, hm⟩ : ∃ m, P.types.size = m + 1 := ⟨P.types.size - 1, by omega⟩
  have n1 : f.name ≠ "_" := by simpa using hfn
  have n2 : g.name ≠ "_" := by simpa using hgn
  unfold keyOf
  rw [hu]
  simp [hk, hm, Value.formed, hu, hc, Program.keyLits, hs, hc1, hf, hg, hf0, hg0, n1, n2, s1, s2, Value.cells]
theorem keyA_of {x : At} (h : fine x) : keyOf Try.prog 115 (atV x) = some (keyA x) := by
  obtain ⟨h1, h2⟩ := h
  exact keyOf_two x Try.underlying115 Try.underlying9 rfl rfl rfl rfl (by decide) (by decide) (by kernel_rfl) (by kernel_rfl) (by kernel_rfl) (of_decide_eq_true (by kernel_rfl)) (by unfold maxLen; omega) (by unfold maxLen; omega)
theorem keyA_inj {x y : At} (hx : fine x) (hy : fine y) (h : keyA x = keyA y) : x = y := by
  have h1 := keyA_of hx
  rw [h] at h1
  have := lawA.inj h1 (keyA_of hy)
  unfold atV at this
  have h2 : (#[Value.string x.1, .string x.2] : Array Value) = #[.string y.1, .string y.2] := by injection this
  have h3 : [Value.string x.1, .string x.2] = [Value.string y.1, .string y.2] := congrArg Array.toList h2
  simp at h3
  exact Prod.ext h3.1 h3.2
theorem keyA_key (x : At) : WideAt.IsKeyLit (keyA x) := trivial
/-- The map in block B holds, out of a, just those that f tells. -/
def SetIs (w : World) (B n : Nat) (a : List At) (f : At → Bool) : Prop :=
  ∃ D : DataW Unit, w.ownsMap Try.prog 115 unitElem B n D ∧ (∃ es, D = .map es ∧ ∀ p ∈ es, ∃ x ∈ a, p.1 = keyA x) ∧ ∀ x, fine x → Maps.has D (keyA x) = f x
theorem SetIs.kept {w w' : World} {B n : Nat} {a : List At} {f : At → Bool} (h : SetIs w B n a f) {row : Option Nat} (hg : w.grownBy w' row) (hne : some B ≠ row) : SetIs w' B n a f := by
  obtain ⟨D, h1, h2⟩ := h
  exact ⟨D, h1.kept hg hne, h2⟩
theorem SetIs.alloc {w : World} {B n : Nat} {a : List At} {f : At → Bool} (h : SetIs w B n a f) (o : Obj) : SetIs (w.alloc o) B n a f := h.kept (World.grownBy_alloc w o none) (by simp)
theorem SetIs.mono {w : World} {B n n' : Nat} {a : List At} {f : At → Bool} (h : SetIs w B n a f) (hn : n ≤ n') : SetIs w B n' a f := by
  obtain ⟨D, h1, h2⟩ := h
  exact ⟨D, h1.mono hn, h2⟩
theorem SetIs.lt {w : World} {B n : Nat} {a : List At} {f : At → Bool} (h : SetIs w B n a f) : B < w.heap.size := by
  obtain ⟨D, h1, _⟩ := h
  exact h1.lt
theorem SetIs.made (w : World) (a : List At) : SetIs (w.alloc (.map #[] 0)) w.heap.size 0 a (fun _ => false) :=
  ⟨.map [], World.ownsMap_made w Try.prog 115 unitElem, ⟨[], rfl, by simp⟩, fun _ _ => rfl⟩
theorem SetIs.size {w : World} {B n : Nat} {a : List At} {f : At → Bool} (ha : ∀ x ∈ a, fine x) (h : SetIs w B n a f) : ∃ D : DataW Unit, w.ownsMap Try.prog 115 unitElem B n D ∧ ((Maps.size D : Int) == 0) = a.all fun x => !f x := by
  obtain ⟨D, h1, ⟨es, rfl, h2⟩, h3⟩ := h
  refine ⟨_, h1, ?_⟩
  have e : ((Maps.size (.map es : DataW Unit) : Int) == 0) = decide (es = []) := by
    rw [Bool.eq_iff_iff, beq_iff_eq, decide_eq_true_iff]
    show ((es.length : Nat) : Int) = 0 ↔ _
    rw [← List.length_eq_zero_iff]; omega
  rw [e, Bool.eq_iff_iff, decide_eq_true_iff, List.all_eq_true]
  constructor
  · rintro rfl x hx
    rw [← h3 x (ha x hx)]; rfl
  · intro h
    cases es with
    | nil => rfl
    | cons p r =>
      exfalso
      obtain ⟨x, hx, e⟩ := h2 p (by simp)
      have h4 := h x hx
      rw [← h3 x (ha x hx), has_eq, List.any_cons, e, WideAt.sameKey_self (keyA_key x)] at h4
      cases h4
theorem SetIs.put {w : World} {B n : Nat} {a : List At} {f : At → Bool} {x : At} (hx : fine x) (hxa : x ∈ a) (D : DataW Unit) (h2 : ∃ es, D = .map es ∧ ∀ p ∈ es, ∃ x ∈ a, p.1 = keyA x) (h3 : ∀ x, fine x → Maps.has D (keyA x) = f x)
    (h1 : w.ownsMap Try.prog 115 unitElem B n (D.put (keyA x) (.agg []))) : SetIs w B n a (fun y => f y || eqA y x) := by
  refine ⟨_, h1, ?_, ?_⟩
  · obtain ⟨es, rfl, h⟩ := h2
    refine ⟨_, DataW.put_eq es _ _, fun p hp => ?_⟩
    unfold ChangeMaps.putKey at hp
    rcases ChangeMaps.mem_insert_iff.1 hp with rfl | hp
    · exact ⟨x, hxa, rfl⟩
    · exact h p (List.mem_filter.1 hp).1
  · intro y hy
    show _ = (f y || eqA y x)
    have hD : IsMap D := by obtain ⟨es, rfl, _⟩ := h2; exact ⟨es, rfl⟩
    by_cases e : y = x
    · subst e
      rw [has_put_same hD (keyA_key y), eqA_iff.2 rfl, Bool.or_true]
    · rw [has_put_other (fun e2 => e (keyA_inj hy hx e2)), h3 y hy, eqA_no.2 e, Bool.or_false]
theorem SetIs.del {w : World} {B n : Nat} {a : List At} {f : At → Bool} {x : At} (hx : fine x) (D : DataW Unit) (h2 : ∃ es, D = .map es ∧ ∀ p ∈ es, ∃ x ∈ a, p.1 = keyA x) (h3 : ∀ x, fine x → Maps.has D (keyA x) = f x)
    (h1 : w.ownsMap Try.prog 115 unitElem B n (D.del (keyA x))) : SetIs w B n a (fun y => f y && !eqA y x) := by
  refine ⟨_, h1, ?_, ?_⟩
  · obtain ⟨es, rfl, h⟩ := h2
    refine ⟨_, DataW.del_eq es _, fun p hp => ?_⟩
    unfold ChangeMaps.delKey at hp
    exact h p (List.mem_filter.1 hp).1
  · intro y hy
    show _ = (f y && !eqA y x)
    by_cases e : y = x
    · subst e
      rw [has_del_same, eqA_iff.2 rfl]; simp
    · rw [has_del_other (fun e2 => e (keyA_inj hy hx e2)), h3 y hy, eqA_no.2 e]; simp
theorem run_makeMapN {t k e : TypeId} {kd : IntKind} {n : Int} (ht : Try.prog.underlying t = some (.map k e)) (w : World) :
    (Instr.makeMap t (some (.int kd n))).run Try.prog w = .ok (.map (some w.heap.size)) (w.alloc (.map #[] 0)) := by
  simp [Instr.makeMap, run_underlying ht]; rfl
theorem take_snocA (l : List At) (k : Nat) (h : k < l.length) (y : At) : (isIn (l.take k) y || eqA y l[k]) = isIn (l.take (k + 1)) y := by
  unfold isIn
  rw [List.take_succ_eq_append_getElem h, List.any_append]; simp
theorem set_congr {w : World} {B n : Nat} {a : List At} {f g : At → Bool} (h : SetIs w B n a f) (e : ∀ x, f x = g x) : SetIs w B n a g := by
  have : f = g := funext e
  subst this; exact h

set_option maxHeartbeats 3200000 in
theorem seen_any (a : Option Addr) (cap : Nat) (l : List At) (w : World) (hl : l.length ≤ 1000000) (hf : ∀ x ∈ l, fine x) (hA : AttrsAt w a l) :
    Calls Try.prog 172 #[.slice a l.length cap] w fun e w' => ∃ B, e = .returned (.map (some B)) ∧ w.heap.size ≤ B ∧ SetIs w' B l.length l (isIn l) ∧ Below w.heap.size w w' := by
  have HA := Lib.hid hA
  have HF := Lib.hid hf
  have hmm := fun W => run_makeMapN (t := 139) (kd := .i64) (n := (l.length : Int)) Try.underlying139 W
  clear hA hf
  go_enter Try.func172, Try.ntmps172
  go_wp2
  go_loopw [11] (fun i wr => ∃ k : Nat, k ≤ l.length ∧ i = .int .i64 k ∧ SetIs wr w.heap.size k l (isIn (l.take k)) ∧ Below w.heap.size w wr) (fun i _ => l.length - (intOf i).toNat)
  case atStart => exact ⟨0, Nat.zero_le _, rfl, set_congr (SetIs.made w l) (fun _ => rfl), (Below.refl _ _).alloc (Nat.le_refl _) _⟩
  case round =>
    obtain ⟨k, hk, rfl, hs, hbel⟩ := hrel
    have HB := Lib.hid hbel
    have HS := Lib.hid hs
    clear hs hbel
    by_cases hlt : k < l.length
    · obtain ⟨b, off, rfl, hbk, hcl⟩ := HA.out (fun e => by rw [e] at hlt; simp at hlt)
      have hck1 : wr.cell? ⟨b, off + k * 2, none⟩ = some (.string l[k].1) := (HB.out.cell (p := ⟨b, off + k * 2, none⟩) hbk).trans (hcl k hlt).1
      have hck2 : wr.cell? ⟨b, off + k * 2 + 1, none⟩ = some (.string l[k].2) := (HB.out.cell (p := ⟨b, off + k * 2 + 1, none⟩) hbk).trans (hcl k hlt).2
      have HX := Lib.hid (HF.out _ (List.getElem_mem hlt))
      have HM : Hid (l[k] ∈ l) := Lib.hid (List.getElem_mem hlt)
      have HT := Lib.hid (take_snocA l k hlt)
      clear hcl
      generalize l[k] = x at *
      obtain ⟨D, hown, hD2, hD3⟩ := HS.out
      have HO := Lib.hid (hown.alloc (.cells #[.string x.1, .string x.2] 115))
      have HD2 := Lib.hid hD2
      have HD3 := Lib.hid hD3
      clear hown hD2 hD3
      go_wp2_with (at_mapUpdate; refine wpList_mapUpdate_own _ rfl _ _ _ 139 rfl 115 142 lawA Try.underlying139 (unitElem (H := Unit)) w.heap.size k _ rfl HO.out (by unfold maxLen; omega) (atV x) _ (keyA x) rfl rfl (keyA_of HX.out) _ [] unitElem_mk ?_; intro w1 hown1 hgrow1; have HS1 := Lib.hid (set_congr (SetIs.put HX.out HM.out D HD2.out HD3.out hown1) HT.out); have HB1 : Hid (Below w.heap.size w w1) := Lib.hid ((HB.out.alloc HB.out.size _).grown hgrow1 (by have := HB.out.size; simp; omega) (fun j hj => by cases hj; exact Nat.le_refl _)); clear hown1 hgrow1)
      go_roundw
      case rel => exact ⟨k + 1, by omega, by go_num, HS1.out, HB1.out⟩
      case measure => simp [intOf]; omega
    · have HG : Hid (SetIs wr w.heap.size l.length l (isIn l)) := Lib.hid (by
        obtain rfl : k = l.length := by omega
        have := HS.out
        rw [List.take_length] at this; exact this)
      go_wp2
      go_ret
      exact ⟨w.heap.size, rfl, Nat.le_refl _, HG.out, HB.out⟩

theorem take_del (l m : List At) (k : Nat) (h : k < m.length) (y : At) : ((isIn l y && !isIn (m.take k) y) && !eqA y m[k]) = (isIn l y && !isIn (m.take (k + 1)) y) := by
  rw [← take_snocA m k h y]
  cases isIn l y <;> cases isIn (m.take k) y <;> cases eqA y m[k] <;> rfl
theorem all_among (l m : List At) : (l.all fun x => !(isIn l x && !isIn m x)) = amongB l m := by
  rw [Bool.eq_iff_iff, List.all_eq_true, amongB_iff]
  constructor
  · intro h x hx
    have := h x hx
    rw [isIn_iff.2 hx] at this
    exact isIn_iff.1 (by simpa using this)
  · intro h x hx
    rw [isIn_iff.2 (h x hx)]; simp

set_option maxHeartbeats 3200000 in
theorem within_any (a a' : Option Addr) (cap cap' : Nat) (l m : List At) (w : World) (hl : l.length ≤ 1000000) (hm : m.length ≤ 1000000) (hf : ∀ x ∈ l, fine x) (hf' : ∀ x ∈ m, fine x) (hA : AttrsAt w a l) (hM : AttrsAt w a' m) :
    Calls Try.prog 168 #[.slice a l.length cap, .slice a' m.length cap'] w fun e w' => e = .returned (.bool (amongB l m)) ∧ Below w.heap.size w w' := by
  have HM := Lib.hid hM
  have HF := Lib.hid hf
  have HF' := Lib.hid hf'
  have HSn := Lib.hid (seen_any a cap l w hl hf hA)
  clear hA hM hf hf'
  go_enter Try.func168, Try.ntmps168
  go_wp2_with fail
  refine HSn.out.mono ?_
  rintro e w1 ⟨B, rfl, hBw, hset, hb⟩
  have HB := Lib.hid hb
  have HS := Lib.hid hset
  clear hset hb
  go_wp2
  go_loopw [12] (fun i wr => ∃ k : Nat, k ≤ m.length ∧ i = .int .i64 k ∧ SetIs wr B l.length l (fun y => isIn l y && !isIn (m.take k) y) ∧ Below w.heap.size w wr) (fun i _ => m.length - (intOf i).toNat)
  case atStart => exact ⟨0, Nat.zero_le _, rfl, set_congr HS.out (fun y => by simp [isIn]), HB.out⟩
  case round =>
    obtain ⟨k, hk, rfl, hs, hbel⟩ := hrel
    replace HB := Lib.hid hbel
    replace HS := Lib.hid hs
    clear hs hbel
    by_cases hlt : k < m.length
    · obtain ⟨b, off, rfl, hbk, hcl⟩ := HM.out (fun e => by rw [e] at hlt; simp at hlt)
      have hck1 : wr.cell? ⟨b, off + k * 2, none⟩ = some (.string m[k].1) := (HB.out.cell (p := ⟨b, off + k * 2, none⟩) hbk).trans (hcl k hlt).1
      have hck2 : wr.cell? ⟨b, off + k * 2 + 1, none⟩ = some (.string m[k].2) := (HB.out.cell (p := ⟨b, off + k * 2 + 1, none⟩) hbk).trans (hcl k hlt).2
      have HX := Lib.hid (HF'.out _ (List.getElem_mem hlt))
      have HT := Lib.hid (take_del l m k hlt)
      clear hcl
      generalize m[k] = x at *
      obtain ⟨D, hown, hD2, hD3⟩ := HS.out
      have HO := Lib.hid (hown.alloc (.cells #[.string x.1, .string x.2] 115))
      have HD2 := Lib.hid hD2
      have HD3 := Lib.hid hD3
      clear hown hD2 hD3
      go_wp2_with (at_delete; refine wpList_delete_own _ rfl _ _ 139 115 rfl 142 lawA Try.underlying139 (unitElem (H := Unit)) B l.length _ rfl HO.out (atV x) (keyA x) rfl (keyA_of HX.out) ?_; intro w2 hown1 hturn1; have HS1 := Lib.hid (set_congr (SetIs.del HX.out D HD2.out HD3.out hown1) HT.out); have HB1 : Hid (Below w.heap.size w w2) := Lib.hid ((HB.out.alloc HB.out.size _).grown hturn1.grown (by have := HB.out.size; simp; omega) (fun j hj => by cases hj; exact hBw)); clear hown1 hturn1)
      go_roundw
      case rel => exact ⟨k + 1, by omega, by go_num, HS1.out, HB1.out⟩
      case measure => simp [intOf]; omega
    · obtain rfl : k = m.length := by omega
      obtain ⟨D, hown, hz⟩ := SetIs.size HF.out HS.out
      rw [List.take_length, all_among l m] at hz
      have HO := Lib.hid hown
      clear hown
      obtain ⟨q, hq⟩ : ∃ q, q = amongB l m := ⟨_, rfl⟩
      rw [← hq] at hz
      have HQ := Lib.hid hq
      clear hq
      generalize hn : Maps.size D = n at *
      have HN := Lib.hid hn
      clear hn
      cases q
      all_goals
        go_wp2_with (at_len; refine wpList_len_own _ rfl _ 139 rfl 115 142 Try.underlying139 (unitElem (H := Unit)) B l.length D rfl HO.out ?_; rw [HN.out])
        go_ret
        exact ⟨ret_bool HQ.out, HB.out⟩

set_option maxHeartbeats 800000 in
theorem alike_any (a a' : Option Addr) (cap cap' : Nat) (l m : List At) (w : World) (hl : l.length ≤ 1000000) (hm : m.length ≤ 1000000) (hf : ∀ x ∈ l, fine x) (hf' : ∀ x ∈ m, fine x) (hA : AttrsAt w a l) (hM : AttrsAt w a' m) :
    Calls Try.prog 153 #[.slice a l.length cap, .slice a' m.length cap'] w fun e w' => e = .returned (.bool (alikeB l m)) ∧ Below w.heap.size w w' := by
  have H1 := Lib.hid (within_any a a' cap cap' l m w hl hm hf hf' hA hM)
  have H2 : Hid (∀ W, Below w.heap.size w W → Calls Try.prog 168 #[.slice a' m.length cap', .slice a l.length cap] W fun e w' => e = .returned (.bool (amongB m l)) ∧ Below W.heap.size W w') := Lib.hid (fun W hW => within_any a' a cap' cap m l W hm hl hf' hf (hM.below hW) (hA.below hW))
  clear hA hM hf hf'
  by_cases hne : l.length = m.length
  · have HF := Lib.hid (alikeB_eq hne)
    have h1 : ((l.length : Int) == (m.length : Int)) = true := by simp [hne]
    generalize amongB l m = p at *
    generalize amongB m l = q at *
    cases p with
    | true =>
      have HG : Hid (q = alikeB l m) := Lib.hid (by rw [HF.out, Bool.true_and])
      clear hne
      go_enter Try.func153, Try.ntmps153
      go_wp2_with fail
      refine H1.out.mono ?_
      rintro e w1 ⟨rfl, hb⟩
      have HB := Lib.hid hb
      clear hb
      go_wp2_with fail
      refine (H2.out _ HB.out).mono ?_
      rintro e w2 ⟨rfl, hb⟩
      have HB2 := below_step HB hb
      clear hb
      go_wp2
      go_ret
      exact ⟨ret_bool HG.out, HB2.out⟩
    | false =>
      have HG : Hid (false = alikeB l m) := Lib.hid (by rw [HF.out, Bool.false_and])
      clear hne
      go_enter Try.func153, Try.ntmps153
      go_wp2_with fail
      refine H1.out.mono ?_
      rintro e w1 ⟨rfl, hb⟩
      have HB := Lib.hid hb
      clear hb
      go_wp2
      go_ret
      exact ⟨ret_bool HG.out, HB.out⟩
  · have HF : Hid (false = alikeB l m) := Lib.hid (alikeB_len hne).symm
    have h1 : ((l.length : Int) == (m.length : Int)) = false := by simp; omega
    clear hne
    go_enter Try.func153, Try.ntmps153
    go_wp2
    go_ret
    exact ⟨ret_bool HF.out, Below.refl _ _⟩
end Go.Proofs.Ytkkngflpmdcfjaa.A
