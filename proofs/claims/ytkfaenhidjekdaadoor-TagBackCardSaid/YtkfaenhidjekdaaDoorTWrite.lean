/-
  A tag that is written, and what Read makes of it: in plain functions. No program stands here.
-/
import Derived.Test.YtkfaenhidjekdaaDoorTThrough
import Derived.Test.YtkfaenhidjekdaaDoorTFair
import Derived.Test.YtkfaenhidjekdaaDoorETexts
namespace Go.Proofs.YtkfaenhidjekdaaDoor.T
open Go.RowKit
open Go.Proofs.YtkfaenhidjekdaaDoor.I (spI spC leI lowS lowL lowB)
open Go.Proofs.YtkfaenhidjekdaaDoor.C (mkB dec)
open Go.Proofs.YtkfaenhidjekdaaDoor.A (At addL getB)
open Go.Proofs.YtkfaenhidjekdaaDoor.E (esc escS)

/-! ### places -/
theorem drop_at (P R : List UInt8) : (P ++ R).drop P.length = R := by simp
theorem run_at (p : UInt8 → Bool) (P X R : List UInt8) (h : ∀ c ∈ X, p c = true) (hR : ∀ c S, R = c :: S → p c = false) : run p (P ++ (X ++ R)) P.length = P.length + X.length := by
  unfold run
  rw [drop_at, List.takeWhile_append_of_pos h]
  have : R.takeWhile p = [] := by
    cases R with
    | nil => rfl
    | cons c S => rw [List.takeWhile_cons, hR c S rfl]; rfl
  rw [this, List.append_nil]
theorem cut_at (P X R : List UInt8) : cut (P ++ (X ++ R)) P.length (P.length + X.length) = mkB X := by
  unfold cut
  congr 1
  rw [← List.append_assoc, List.take_left' (by rw [List.length_append]), drop_at]
theorem get_at (P R : List UInt8) (c : UInt8) : (P ++ (c :: R))[P.length]? = some c := by simp
theorem get_lt {l : List UInt8} {k : Nat} {c : UInt8} (h : l[k]? = some c) : ∃ hk : k < l.length, l[k] = c := by
  obtain ⟨hk, e⟩ := List.getElem?_eq_some_iff.1 h
  exact ⟨hk, e⟩
/-! ### names in small letters -/
theorem fc_of_lc {c : Int} (h : lcI c = true) : fcI c = true := by unfold fcI; rw [h]; rfl
theorem all_fc : ∀ {f : Bool} {l : List UInt8}, allF f l = true → ∀ c ∈ l, fcI (c.toNat : Int) = true
  | _, [], _, c, hc => by cases hc
  | f, x :: l, h, c, hc => by
    rw [allF, Bool.and_eq_true] at h
    rcases List.mem_cons.1 hc with rfl | hc
    · have h1 := h.1
      unfold okI at h1
      rw [Bool.or_eq_true] at h1
      rcases h1 with h1 | h1
      · exact fc_of_lc h1
      · rw [Bool.and_eq_true] at h1; exact h1.2
    · exact all_fc h.2 c hc
theorem fc_cases {c : Int} (h : fcI c = true) : (97 ≤ c ∧ c ≤ 122) ∨ c = 45 ∨ (48 ≤ c ∧ c ≤ 57) := by
  unfold fcI lcI at h
  simp only [Bool.or_eq_true, Bool.and_eq_true, decide_eq_true_eq, beq_iff_eq] at h
  rcases h with (h | h) | h
  · exact .inl h
  · exact .inr (.inl h)
  · exact .inr (.inr h)
theorem fc_stop : ∀ c : UInt8, fcI (c.toNat : Int) = true → stopA c = true ∧ stopN c = true ∧ spC c = false ∧ lowB c = c ∧ c ≠ 47 ∧ c ≠ 62 := by
  intro c h
  have key : ∀ n : Fin 256, fcI ((UInt8.ofNat n.val).toNat : Int) = true → stopA (UInt8.ofNat n.val) = true ∧ stopN (UInt8.ofNat n.val) = true ∧ spC (UInt8.ofNat n.val) = false ∧ lowB (UInt8.ofNat n.val) = UInt8.ofNat n.val ∧ UInt8.ofNat n.val ≠ 47 ∧ UInt8.ofNat n.val ≠ 62 := by decide +kernel
  have e : UInt8.ofNat c.toNat = c := by simp
  have := key ⟨c.toNat, c.toNat_lt⟩
  simp only [e] at this
  exact this h
theorem lc_letter : ∀ c : UInt8, lcI (c.toNat : Int) = true → leI (c.toNat : Int) = true := by
  intro c h
  have key : ∀ n : Fin 256, lcI ((UInt8.ofNat n.val).toNat : Int) = true → leI ((UInt8.ofNat n.val).toNat : Int) = true := by decide +kernel
  have e : UInt8.ofNat c.toNat = c := by simp
  have := key ⟨c.toNat, c.toNat_lt⟩
  simp only [e] at this
  exact this h
theorem fair_yes {s : ByteArray} (h : fairB s = true) : (∀ c ∈ s.data.toList, fcI (c.toNat : Int) = true) ∧ s.size ≤ 30 ∧ ∃ c l, s.data.toList = c :: l ∧ lcI (c.toNat : Int) = true := by
  unfold fairB at h
  simp only [Bool.and_eq_true, decide_eq_true_eq] at h
  obtain ⟨⟨h1, h2⟩, h3⟩ := h
  refine ⟨all_fc h1, h3, ?_⟩
  cases hl : s.data.toList with
  | nil =>
    have := C.size_list s
    rw [hl] at this
    rw [← this] at h2
    cases h2
  | cons c l =>
    rw [hl, allF, Bool.and_eq_true] at h1
    have h4 := h1.1
    unfold okI at h4
    exact ⟨c, l, rfl, by simpa using h4⟩
theorem low_same {l : List UInt8} (h : ∀ c ∈ l, fcI (c.toNat : Int) = true) : lowL l = l := by
  unfold lowL
  conv => rhs; rw [← List.map_id l]
  exact List.map_congr_left fun c hc => (fc_stop c (h c hc)).2.2.2.1
theorem low_mk {s : ByteArray} (h : ∀ c ∈ s.data.toList, fcI (c.toNat : Int) = true) : lowS (mkB s.data.toList) = s := by
  apply C.eq_of_list
  rw [I.lowS_list, C.mkB_list, low_same h]
/-! ### what is written -/
/-- An attribute as it is written. -/
def piece (a : At) : List UInt8 := 32 :: (a.1.data.toList ++ (61 :: 34 :: (esc true a.2.data.toList ++ [34])))
def body (l : List At) : List UInt8 := l.flatMap piece
theorem body_cons (a : At) (l : List At) : body (a :: l) = piece a ++ body l := rfl
/-- What ends a tag. -/
def ends (self : Bool) (more : List UInt8) : List UInt8 := if self then 47 :: 62 :: more else 62 :: more
theorem tg_ends (P more : List UInt8) (self : Bool) (f : Nat) (acc : List At) : tg (P ++ ends self more) (f + 1) P.length acc = some (acc, self, P.length + (if self then 2 else 1)) := by
  have e : skp (P ++ ends self more) P.length = P.length := by
    have := run_at spC P [] (ends self more) (fun c hc => by cases hc) (fun c S h => by
      cases self <;> (injection h with h1 _; rw [← h1]; rfl))
    simpa using this
  rw [tg_step, e]
  cases self with
  | true =>
    have h1 : (P ++ ends true more)[P.length]? = some 47 := get_at P _ 47
    have h2 : (P ++ ends true more)[P.length + 1]? = some 62 := by
      have := get_at (P ++ [47]) more 62
      rw [List.length_append, List.append_assoc] at this
      exact this
    rw [h1, h2]; rfl
  | false =>
    have h1 : (P ++ ends false more)[P.length]? = some 62 := get_at P _ 62
    rw [h1]; rfl
theorem cons_app (c : UInt8) (R : List UInt8) : c :: R = [c] ++ R := rfl
theorem tg_piece (P R : List UInt8) (a : At) (f : Nat) (acc : List At) (hn : fairB a.1 = true) : tg (P ++ (piece a ++ R)) (f + 1) P.length acc = tg (P ++ (piece a ++ R)) f (P ++ piece a).length (addL acc a) := by
  obtain ⟨h1, _, c, l, hcl, hc⟩ := fair_yes hn
  have hcf := fc_stop c (h1 c (by rw [hcl]; exact List.mem_cons_self))
  obtain ⟨v, hv⟩ : ∃ v, v = esc true a.2.data.toList := ⟨_, rfl⟩
  have hq : ∀ x ∈ v, (x != 34) = true := by
    intro x hx
    rw [hv] at hx
    have := E.esc_none true 34 (.inr (.inr ⟨rfl, rfl⟩)) a.2.data.toList
    have hne : x ≠ 34 := fun e => this (by rw [← e]; exact hx)
    simpa using hne
  have hdec : decT (mkB v) = a.2 := by
    apply C.eq_of_list
    unfold decT
    rw [C.mkB_list, C.mkB_list, hv, E.dec_esc]
  obtain ⟨L, hL⟩ : ∃ L, L = P ++ (piece a ++ R) := ⟨_, rfl⟩
  have hp : piece a = 32 :: (a.1.data.toList ++ (61 :: 34 :: (v ++ [34]))) := by unfold piece; rw [hv]
  -- the ways in which the text is cut
  have L0 : L = P ++ ([32] ++ (c :: (l ++ (61 :: 34 :: (v ++ (34 :: R)))))) := by rw [hL, hp, hcl]; simp
  have L1 : L = (P ++ [32]) ++ (c :: (l ++ (61 :: 34 :: (v ++ (34 :: R))))) := by rw [L0]; simp
  have L1' : L = (P ++ [32]) ++ ((c :: l) ++ (61 :: 34 :: (v ++ (34 :: R)))) := by rw [L0]; simp
  have L2 : L = (P ++ [32, c]) ++ (l ++ (61 :: 34 :: (v ++ (34 :: R)))) := by rw [L0]; simp
  have L3 : L = (P ++ [32] ++ (c :: l)) ++ (61 :: 34 :: (v ++ (34 :: R))) := by rw [L0]; simp
  have L4 : L = (P ++ [32] ++ (c :: l) ++ [61]) ++ (34 :: (v ++ (34 :: R))) := by rw [L0]; simp
  have L5 : L = (P ++ [32] ++ (c :: l) ++ [61, 34]) ++ (v ++ (34 :: R)) := by rw [L0]; simp
  obtain ⟨n0, hn0⟩ : ∃ n0, n0 = P.length := ⟨_, rfl⟩
  obtain ⟨m, hm⟩ : ∃ m, m = l.length := ⟨_, rfl⟩
  have s0 : skp L n0 = n0 + 1 := by
    have := run_at spC P [32] (c :: (l ++ (61 :: 34 :: (v ++ (34 :: R))))) (fun x hx => by rw [List.mem_singleton.1 hx]; rfl) (fun x S h => by injection h with h _; rw [← h]; exact hcf.2.2.1)
    rw [← L0, ← hn0] at this; exact this
  have g0 : L[n0 + 1]? = some c := by
    have := get_at (P ++ [32]) (l ++ (61 :: 34 :: (v ++ (34 :: R)))) c
    rw [← L1, List.length_append, ← hn0] at this; exact this
  have s1 : run stopA L (n0 + 1 + 1) = n0 + 2 + m := by
    have := run_at stopA (P ++ [32, c]) l (61 :: 34 :: (v ++ (34 :: R))) (fun x hx => (fc_stop x (h1 x (by rw [hcl]; exact List.mem_cons_of_mem _ hx))).1) (fun x S h => by injection h with h _; rw [← h]; rfl)
    rw [← L2, List.length_append, ← hn0, ← hm] at this; exact this
  have s2 : skp L (n0 + 2 + m) = n0 + 2 + m := by
    have := run_at spC (P ++ [32] ++ (c :: l)) [] (61 :: 34 :: (v ++ (34 :: R))) (fun x hx => by cases hx) (fun x S h => by injection h with h _; rw [← h]; rfl)
    rw [List.nil_append, ← L3] at this
    have e : (P ++ [32] ++ (c :: l)).length = n0 + 2 + m := by simp [hn0, hm]; omega
    rw [e] at this; exact this
  have g2 : L[n0 + 2 + m]? = some 61 := by
    have := get_at (P ++ [32] ++ (c :: l)) (34 :: (v ++ (34 :: R))) 61
    have e : (P ++ [32] ++ (c :: l)).length = n0 + 2 + m := by simp [hn0, hm]; omega
    rw [← L3, e] at this; exact this
  have s3 : skp L (n0 + 2 + m + 1) = n0 + 2 + m + 1 := by
    have := run_at spC (P ++ [32] ++ (c :: l) ++ [61]) [] (34 :: (v ++ (34 :: R))) (fun x hx => by cases hx) (fun x S h => by injection h with h _; rw [← h]; rfl)
    rw [List.nil_append, ← L4] at this
    have e : (P ++ [32] ++ (c :: l) ++ [61]).length = n0 + 2 + m + 1 := by simp [hn0, hm]; omega
    rw [e] at this; exact this
  have g3 : L[n0 + 2 + m + 1]? = some 34 := by
    have := get_at (P ++ [32] ++ (c :: l) ++ [61]) (v ++ (34 :: R)) 34
    have e : (P ++ [32] ++ (c :: l) ++ [61]).length = n0 + 2 + m + 1 := by simp [hn0, hm]; omega
    rw [← L4, e] at this; exact this
  have e5 : (P ++ [32] ++ (c :: l) ++ [61, 34]).length = n0 + 2 + m + 1 + 1 := by simp [hn0, hm]; omega
  have s4 : run (· != 34) L (n0 + 2 + m + 1 + 1) = n0 + 2 + m + 1 + 1 + v.length := by
    have := run_at (· != 34) (P ++ [32] ++ (c :: l) ++ [61, 34]) v (34 :: R) hq (fun x S h => by injection h with h _; rw [← h]; rfl)
    rw [← L5, e5] at this; exact this
  have c4 : cut L (n0 + 2 + m + 1 + 1) (n0 + 2 + m + 1 + 1 + v.length) = mkB v := by
    have := cut_at (P ++ [32] ++ (c :: l) ++ [61, 34]) v (34 :: R)
    rw [← L5, e5] at this; exact this
  have c1 : cut L (n0 + 1) (n0 + 2 + m) = mkB (c :: l) := by
    have := cut_at (P ++ [32]) (c :: l) (61 :: 34 :: (v ++ (34 :: R)))
    rw [← L1', List.length_append, ← hn0] at this
    have e : n0 + [(32 : UInt8)].length + (c :: l).length = n0 + 2 + m := by simp [hm]; omega
    rw [e] at this; exact this
  have hlen : n0 + 2 + m + 1 + 1 + v.length < L.length := by
    rw [L5, List.length_append, e5, List.length_append, List.length_cons]; omega
  obtain ⟨hk3, gq⟩ := get_lt g3
  have hval : valG L (n0 + 2 + m + 1) = some (mkB v, n0 + 2 + m + 1 + 1 + v.length + 1) := by
    unfold valG
    rw [dif_pos hk3, if_pos (.inl gq), gq, s4, if_pos hlen, c4]
  have hatr : atr L (n0 + 1) = some (a, n0 + 2 + m + 1 + 1 + v.length + 1) := by
    unfold atr
    rw [s1, s2, if_pos g2, s3, hval, c1]
    show some ((lowS (mkB (c :: l)), decT (mkB v)), _) = _
    rw [hdec, ← hcl, low_mk h1]
  have hend : (P ++ piece a).length = n0 + 2 + m + 1 + 1 + v.length + 1 := by
    rw [hp, hcl]; simp [hn0, hm]; omega
  rw [← hL, ← hn0, hend, tg_step, s0, g0, if_neg (by simp), if_neg (by intro e; injection e with e; exact hcf.2.2.2.2.2 e), if_neg (by intro e; injection e with e; exact hcf.2.2.2.2.1 e), hatr]
/-- No name is there twice. -/
def lone (l : List At) : Prop := l.Pairwise fun a b => a.1 ≠ b.1
theorem lone_add {acc : List At} {a : At} {l : List At} (h : lone (acc ++ a :: l)) : addL acc a = acc ++ [a] := by
  unfold addL
  have : getB a.1 acc = false := by
    rw [A.getB_no]
    intro x hx
    unfold lone at h
    rw [List.pairwise_append] at h
    exact h.2.2 x hx a List.mem_cons_self
  rw [this]; rfl
theorem tg_body (self : Bool) (more : List UInt8) : ∀ (l : List At) (P : List UInt8) (f : Nat) (acc : List At), (∀ a ∈ l, fairB a.1 = true) → lone (acc ++ l) → l.length < f →
    tg (P ++ (body l ++ ends self more)) f P.length acc = some (acc ++ l, self, P.length + (body l).length + (if self then 2 else 1))
  | [], P, f, acc, _, _, hf => by
    obtain ⟨f, rfl⟩ : ∃ g, f = g + 1 := ⟨f - 1, by simp at hf; omega⟩
    rw [show body [] = [] from rfl, List.nil_append, tg_ends, List.append_nil]; rfl
  | a :: l, P, f, acc, hn, hu, hf => by
    obtain ⟨f, rfl⟩ : ∃ g, f = g + 1 := ⟨f - 1, by simp at hf; omega⟩
    rw [body_cons, List.append_assoc, tg_piece P _ a f acc (hn a List.mem_cons_self), lone_add hu, ← List.append_assoc P]
    have hu2 : lone ((acc ++ [a]) ++ l) := by rw [List.append_assoc]; exact hu
    rw [tg_body self more l (P ++ piece a) f (acc ++ [a]) (fun x hx => hn x (List.mem_cons_of_mem _ hx)) hu2 (by simp at hf; omega)]
    rw [List.append_assoc acc, List.length_append, List.length_append]
    simp only [List.singleton_append]
    congr 3
    omega
theorem ends_head (self : Bool) (more : List UInt8) (l : List At) : ∀ c S, body l ++ ends self more = c :: S → stopN c = false := by
  intro c S h
  cases l with
  | nil => cases self <;> (injection h with h _; rw [← h]; rfl)
  | cons a l => injection h with h _; rw [← h]; rfl
/-- What Read makes of a tag that was written. -/
theorem rd_back (name : ByteArray) (l : List At) (self : Bool) (more : List UInt8) (hn : fairB name = true) (hl : ∀ a ∈ l, fairB a.1 = true) (hu : lone l) :
    rdT (60 :: (name.data.toList ++ (body l ++ ends self more))) = ⟨1, name, l, self, 1 + name.size + (body l).length + (if self then 2 else 1), true⟩ := by
  obtain ⟨h1, _, c, r, hcl, hc⟩ := fair_yes hn
  have hcf := fc_stop c (h1 c (by rw [hcl]; exact List.mem_cons_self))
  obtain ⟨L, hL⟩ : ∃ L, L = 60 :: (name.data.toList ++ (body l ++ ends self more)) := ⟨_, rfl⟩
  have hL1 : L = [60] ++ (name.data.toList ++ (body l ++ ends self more)) := hL
  have hL2 : L = ([60] ++ name.data.toList) ++ (body l ++ ends self more) := by rw [hL]; simp
  have g1 : L[1]? = some c := by rw [hL, hcl]; rfl
  have hf : fromB L = 1 := by unfold fromB; rw [g1, if_neg (by intro e; injection e with e; exact hcf.2.2.2.2.1 e)]
  have hb : begins L = true := by
    unfold begins
    rw [hf, g1]
    show (decide (L[0]? = some 60) && leI (c.toNat : Int)) = true
    rw [lc_letter c hc, hL]; rfl
  have hne : nmE L = 1 + name.size := by
    unfold nmE
    rw [hf]
    have := run_at stopN [60] name.data.toList (body l ++ ends self more) (fun x hx => (fc_stop x (h1 x hx)).2.1) (ends_head self more l)
    rw [← hL1, C.size_list] at this; exact this
  have hcut : cut L 1 (1 + name.size) = mkB name.data.toList := by
    have := cut_at [60] name.data.toList (body l ++ ends self more)
    rw [← hL1, C.size_list] at this; exact this
  have hlen : l.length < L.length + 1 := by
    have hb : l.length ≤ (body l).length := by
      clear hL hL1 hL2 g1 hf hb hne hcut hl hu
      induction l with
      | nil => exact Nat.le_refl _
      | cons a l ih => rw [body_cons, List.length_append, List.length_cons]; unfold piece; rw [List.length_cons]; omega
    rw [hL]; simp; omega
  have ht := tg_body self more l ([60] ++ name.data.toList) (L.length + 1) [] hl hu hlen
  rw [← hL2, List.length_append, C.size_list] at ht
  rw [← hL]
  unfold rdT
  rw [if_pos hb, hne]
  have ht2 : tg L (L.length + 1) (1 + name.size) [] = some (l, self, 1 + name.size + (body l).length + (if self then 2 else 1)) := ht
  rw [ht2]
  show (if fromB L = 2 then _ else _) = _
  rw [hf, if_neg (by decide), hcut, low_mk h1]
end Go.Proofs.YtkfaenhidjekdaaDoor.T
