/-
  Several texts in one: QPlain QLeaf QText QScript QRscript QFind.
-/
import Derived.Test.YtceelfomgcbkiaaGreatDoorTClosesZ
import Derived.Test.YtceelfomgcbkiaaGreatDoorGAZ
import Derived.Test.YtceelfomgcbkiaaGreatDoorTThroughZ
/-
  Layer 10 (raw) in plain functions: where text ends within which tags do not count. No walk stands here.
-/
namespace Go.Proofs.YtceelfomgcbkiaaGreatDoor.Q
open Go.RowKit
open Go.Proofs.YtceelfomgcbkiaaGreatDoor.I (spI foldB foldB_eq lowL lowB)
open Go.Proofs.YtceelfomgcbkiaaGreatDoor.T (clB hitB endI)

/-- The first one of f places from k on at which p holds; the place behind them, if there is none. -/
def fst (p : Nat → Bool) : Nat → Nat → Nat
  | 0, k => k
  | f + 1, k => if p k = true then k else fst p f (k + 1)
theorem fst_yes {p : Nat → Bool} {f k : Nat} (hf : 0 < f) (h : p k = true) : fst p f k = k := by
  obtain ⟨g, rfl⟩ : ∃ g, f = g + 1 := ⟨f - 1, by omega⟩
  unfold fst; rw [if_pos h]
theorem fst_no {p : Nat → Bool} {f k : Nat} (hf : 0 < f) (h : p k = false) : fst p f k = fst p (f - 1) (k + 1) := by
  obtain ⟨g, rfl⟩ : ∃ g, f = g + 1 := ⟨f - 1, by omega⟩
  conv => lhs; unfold fst
  rw [if_neg (by rw [h]; decide)]; rfl
theorem fst_is (p : Nat → Bool) : ∀ (f k : Nat), k ≤ fst p f k ∧ fst p f k ≤ k + f ∧ (fst p f k = k + f ∨ p (fst p f k) = true)
  | 0, k => ⟨Nat.le_refl _, Nat.le_refl _, .inl rfl⟩
  | f + 1, k => by
    unfold fst
    split
    · rename_i h; exact ⟨Nat.le_refl _, by omega, .inr h⟩
    · obtain ⟨h1, h2, h3⟩ := fst_is p f (k + 1)
      exact ⟨by omega, by omega, by rcases h3 with h | h; exact .inl (by omega); exact .inr h⟩

/-- What is left from a place on. -/
abbrev tl (s : ByteArray) (k : Nat) : ByteArray := s.extract k s.size
/-- Does s begin so? -/
def preB (s p : ByteArray) : Bool := p.data.toList.isPrefixOf s.data.toList
theorem preB_has (s p : ByteArray) : Lib.hasPrefix s.data.toList p.data.toList = preB s p := rfl
theorem pre_take : ∀ (p l : List UInt8), p.isPrefixOf l = (decide (p.length ≤ l.length) && l.take p.length == p)
  | [], l => by simp [List.isPrefixOf]
  | a :: p, [] => by simp [List.isPrefixOf]
  | a :: p, b :: l => by
    have ih := pre_take p l
    rw [Bool.eq_iff_iff] at ih ⊢
    simp only [List.isPrefixOf, Bool.and_eq_true, decide_eq_true_eq, beq_iff_eq, List.length_cons, List.take_succ_cons, List.cons.injEq, Nat.add_le_add_iff_right] at ih ⊢
    constructor
    · rintro ⟨h1, h2⟩; have := ih.1 h2; exact ⟨this.1, h1.symm, this.2⟩
    · rintro ⟨h1, h2, h3⟩; exact ⟨h2.symm, ih.2 ⟨h1, h3⟩⟩
theorem preB_short {s p : ByteArray} (h : s.size < p.size) : preB s p = false := by
  unfold preB
  rw [pre_take, C.size_list, C.size_list, decide_eq_false (by omega)]; rfl
theorem preB_long {s p : ByteArray} (h : p.size ≤ s.size) : preB s p = ((s.extract 0 p.size).toList == p.toList) := by
  unfold preB
  rw [pre_take, C.size_list, C.size_list, decide_eq_true (by omega), ByteArray.toList_eq, ByteArray.toList_eq, C.ext_list]
  rfl
theorem preB_size {s p : ByteArray} (h : preB s p = true) : p.size ≤ s.size := by
  rcases Nat.lt_or_ge s.size p.size with h2 | h2
  · rw [preB_short h2] at h; cases h
  · exact h2
theorem preB_head {s p : ByteArray} {c : UInt8} {r : List UInt8} (e : p.data.toList = c :: r) (h : preB s p = true) : s.data.toList.head? = some c := by
  unfold preB at h
  rw [e] at h
  cases hs : s.data.toList with
  | nil => rw [hs] at h; simp [List.isPrefixOf] at h
  | cons b l => rw [hs] at h; simp [List.isPrefixOf] at h; rw [h.1]; rfl

/-- A script begins within: <script, and what ends a name. -/
def opB (s : ByteArray) : Bool := if h : 7 < s.size then foldB (s.extract 0 7) ⟨#[60, 115, 99, 114, 105, 112, 116]⟩ && endI (s[7].toNat : Int) else false
/-- Nothing is left, or the end tag comes next. -/
def ovB (s name : ByteArray) : Bool := s.size == 0 || clB s name
def pEnd : ByteArray := ⟨#[45, 45, 62]⟩
def pBeg : ByteArray := ⟨#[60, 33, 45, 45]⟩
def pScr : ByteArray := ⟨#[115, 99, 114, 105, 112, 116]⟩
/-- A script, from place k on, open (0), hidden (1) or deep (2): where it ends. -/
def scr (s name : ByteArray) : Nat → Nat → Nat → Nat
  | 0, _, k => k
  | f + 1, 0, k => if ovB (tl s k) name = true then k else if preB (tl s k) pBeg = true then scr s name f 1 (k + 2) else scr s name f 0 (k + 1)
  | f + 1, 1, k => if ovB (tl s k) name = true then k else if preB (tl s k) pEnd = true then scr s name f 0 (k + 1) else if opB (tl s k) = true then scr s name f 2 (k + 1) else scr s name f 1 (k + 1)
  | f + 1, _ + 2, k => if (tl s k).size = 0 then k else if preB (tl s k) pEnd = true then scr s name f 0 (k + 1) else if clB (tl s k) pScr = true then scr s name f 1 (k + 1) else scr s name f 2 (k + 1)
theorem tl_size (s : ByteArray) (k : Nat) : (tl s k).size = s.size - k := by rw [ByteArray.size_extract]; omega
theorem ov_end {s name : ByteArray} {k : Nat} (h : s.size ≤ k) : ovB (tl s k) name = true := by
  unfold ovB
  rw [tl_size, show s.size - k = 0 by omega]; rfl
theorem ov_in {s name : ByteArray} {k : Nat} (h : k < s.size) : ovB (tl s k) name = clB (tl s k) name := by
  unfold ovB
  rw [show ((tl s k).size == 0) = false by rw [tl_size]; simp; omega]; rfl
theorem beg_room {s : ByteArray} {k : Nat} (h : preB (tl s k) pBeg = true) : k + 4 ≤ s.size := by
  have := preB_size h
  rw [tl_size] at this
  have e : pBeg.size = 4 := rfl
  omega
theorem end_room {s : ByteArray} {k : Nat} (h : preB (tl s k) pEnd = true) : k + 3 ≤ s.size := by
  have := preB_size h
  rw [tl_size] at this
  have e : pEnd.size = 3 := rfl
  omega
/-- What was found: within the text; nothing is behind it, or the end tag. -/
theorem scr_is (s name : ByteArray) : ∀ (f m k : Nat), k ≤ s.size → s.size - k < f → scr s name f m k ≤ s.size ∧ (scr s name f m k = s.size ∨ clB (tl s (scr s name f m k)) name = true)
  | 0, _, _, _, h => absurd h (Nat.not_lt_zero _)
  | f + 1, 0, k, hk, hf => by
    unfold scr
    split
    · rename_i h
      refine ⟨hk, ?_⟩
      rcases Nat.lt_or_ge k s.size with h2 | h2
      · rw [ov_in h2] at h; exact .inr h
      · exact .inl (by omega)
    · rename_i h
      have hlt : k < s.size := by
        rcases Nat.lt_or_ge k s.size with h2 | h2
        · exact h2
        · exact absurd (ov_end h2) h
      split
      · rename_i h2
        have := beg_room h2
        exact scr_is s name f _ _ (by omega) (by omega)
      · exact scr_is s name f _ _ (by omega) (by omega)
  | f + 1, 1, k, hk, hf => by
    unfold scr
    split
    · rename_i h
      refine ⟨hk, ?_⟩
      rcases Nat.lt_or_ge k s.size with h2 | h2
      · rw [ov_in h2] at h; exact .inr h
      · exact .inl (by omega)
    · rename_i h
      have hlt : k < s.size := by
        rcases Nat.lt_or_ge k s.size with h2 | h2
        · exact h2
        · exact absurd (ov_end h2) h
      split
      · exact scr_is s name f _ _ (by omega) (by omega)
      · split
        · exact scr_is s name f _ _ (by omega) (by omega)
        · exact scr_is s name f _ _ (by omega) (by omega)
  | f + 1, m + 2, k, hk, hf => by
    unfold scr
    split
    · rename_i h
      rw [tl_size] at h
      exact ⟨hk, .inl (by omega)⟩
    · rename_i h
      rw [tl_size] at h
      split
      · exact scr_is s name f _ _ (by omega) (by omega)
      · split
        · exact scr_is s name f _ _ (by omega) (by omega)
        · exact scr_is s name f _ _ (by omega) (by omega)
/-- Where an element of that name ends, in that state. -/
def fndR (s name : ByteArray) (state : Int) : Nat :=
  if state = 0 then 0
  else if state = 1 ∨ state = 2 then fst (fun k => clB (tl s k) name) s.size 0
  else if state = 3 then scr s name (s.size + 1) 0 0
  else s.size
theorem fndR_is (s name : ByteArray) (state : Int) : fndR s name state ≤ s.size ∧ (state ≠ 0 → (fndR s name state = s.size ∨ clB (tl s (fndR s name state)) name = true)) := by
  unfold fndR
  split
  · rename_i h; exact ⟨Nat.zero_le _, fun h2 => absurd h h2⟩
  · split
    · have h := fst_is (fun k => clB (tl s k) name) s.size 0
      rw [Nat.zero_add] at h
      exact ⟨h.2.1, fun _ => h.2.2⟩
    · split
      · have h := scr_is s name (s.size + 1) 0 0 (Nat.zero_le _) (by omega)
        exact ⟨h.1, fun _ => h.2⟩
      · exact ⟨Nat.le_refl _, fun _ => .inl rfl⟩
/-! ### what begins with < does not begin with - -/
theorem cl_head {s name : ByteArray} (h : clB s name = true) : s.data.toList.head? = some 60 := by
  unfold clB at h
  split at h
  · simp only [Bool.and_eq_true] at h
    have := T.hitB_iff.1 h.1.1.2.1
    rw [List.head?_eq_getElem?]; exact this
  · cases h
theorem end_head {s : ByteArray} (h : preB s pEnd = true) : s.data.toList.head? = some 45 := preB_head (c := 45) (r := [45, 62]) rfl h
theorem cl_end {s name : ByteArray} (h : clB s name = true) : preB s pEnd = false := by
  cases hp : preB s pEnd with
  | false => rfl
  | true => have h1 := cl_head h; rw [end_head hp] at h1; cases h1
theorem lowB_60 {c : UInt8} (h : lowB c = 60) : c = 60 := by
  have h1 := I.lowB_nat c
  rw [h] at h1
  have h2 : ((60 : UInt8).toNat : Int) = 60 := rfl
  unfold I.smI at h1
  have hc := c.toNat_lt
  apply I.byte_inj
  rw [h2] at h1 ⊢
  split at h1 <;> omega
theorem op_head {s : ByteArray} (h : opB s = true) : s.data.toList.head? = some 60 := by
  unfold opB at h
  split at h
  · rename_i hl
    rw [Bool.and_eq_true, foldB_eq, C.ext_list] at h
    have h1 := eq_of_beq h.1
    cases hs : s.data.toList with
    | nil => rw [← C.size_list, hs] at hl; simp at hl
    | cons c r =>
      rw [hs] at h1
      have h2 : lowB c = 60 := by
        have h3 := congrArg List.head? h1
        have h4 : lowB c = lowB 60 := by simpa [lowL] using h3
        exact h4.trans (by decide)
      rw [lowB_60 h2]; rfl
  · cases h
theorem op_end {s : ByteArray} (h : opB s = true) : preB s pEnd = false := by
  cases hp : preB s pEnd with
  | false => rfl
  | true => have h1 := op_head h; rw [end_head hp] at h1; cases h1
end Go.Proofs.YtceelfomgcbkiaaGreatDoor.Q

/-
  The walks of over and opens, and of the document's own begins and opens.
-/
namespace Go.Proofs.YtceelfomgcbkiaaGreatDoor.Q
open Go.RowKit
open Go.Proofs.YtceelfomgcbkiaaGreatDoor.I (spI foldB foldB_eq lowL lowB ret_bool space_any rspace_any fold_any rfold_any)
open Go.Proofs.YtceelfomgcbkiaaGreatDoor.T (clB endI closes_any rcloses_any end_47 end_62 end_sp)

set_option maxHeartbeats 1600000 in
theorem over_any (s name : ByteArray) (w : World) (hs : s.size ≤ 10000) (hn : name.size ≤ 10000) :
    Calls Tryz.prog 74 #[.string s, .string name] w fun e w' => e = .returned (.bool (ovB s name)) ∧ Below w.heap.size w w' := by
  by_cases h0 : s.size = 0
  · have HF : Hid (true = ovB s name) := Lib.hid (by unfold ovB; rw [h0]; rfl)
    obtain ⟨e1, e2⟩ := C.empty_yes h0
    clear h0
    go_enter Tryz.func74, Tryz.ntmps74
    go_wp2
    go_ret
    exact ⟨ret_bool HF.out, Below.refl _ _⟩
  · have HF : Hid (clB s name = ovB s name) := Lib.hid (by unfold ovB; rw [show (s.size == 0) = false by simpa using h0]; rfl)
    have HC := Lib.hid (closes_any s name w hs hn)
    obtain ⟨e1, e2⟩ := C.empty_no h0
    clear h0
    generalize clB s name = q at *
    go_enter Tryz.func74, Tryz.ntmps74
    go_wp2_with fail
    refine HC.out.mono ?_
    rintro e w1 ⟨rfl, hbl⟩
    have HB := Lib.hid hbl
    clear hbl
    go_wp2
    go_ret
    exact ⟨ret_bool HF.out, HB.out⟩

theorem rbegins_any (s p : ByteArray) (w : World) :
    Calls Tryz.prog 82 #[.string s, .string p] w fun e w' => e = .returned (.bool (preB s p)) ∧ w = w' := by
  by_cases h : p.size ≤ s.size
  · have HF : Hid (((s.extract 0 p.size).toList == p.toList) = preB s p) := Lib.hid (preB_long h).symm
    have h1 : (0 : Int) ≤ (p.size : Int) := by omega
    have h2 : (p.size : Int) ≤ (s.size : Int) := by omega
    have hd : decide ((p.size : Int) ≤ (s.size : Int)) = true := by simpa using h
    go_enter Tryz.func82, Tryz.ntmps82
    go_wp2
    go_ret
    exact ⟨ret_bool HF.out, rfl⟩
  · have HF : Hid (false = preB s p) := Lib.hid (preB_short (by omega)).symm
    have hd : decide ((p.size : Int) ≤ (s.size : Int)) = false := by simpa using h
    go_enter Tryz.func82, Tryz.ntmps82
    go_wp2
    go_ret
    exact ⟨ret_bool HF.out, rfl⟩

theorem op_short {s : ByteArray} (h : ¬ 7 < s.size) : opB s = false := by unfold opB; rw [dif_neg h]
theorem op_is {s : ByteArray} (h : 7 < s.size) : opB s = (foldB (s.extract 0 7) ⟨#[60, 115, 99, 114, 105, 112, 116]⟩ && endI (s[7].toNat : Int)) := by unfold opB; rw [dif_pos h]
/-- The document holds < by itself against the first byte. -/
theorem fold_seven {s : ByteArray} (h : 7 < s.size) : foldB (s.extract 0 7) ⟨#[60, 115, 99, 114, 105, 112, 116]⟩ = (((s[0].toNat : Int) == 60) && foldB (s.extract 1 7) pScr) := by
  rw [foldB_eq, foldB_eq, C.ext_list, C.ext_list]
  have e : s.data.toList = s[0] :: s.data.toList.drop 1 := by
    have := C.drop_at s 0 (by omega)
    simpa using this
  rw [e]
  generalize s.data.toList.drop 1 = l
  generalize s[0] = c
  have e1 : ((c :: l).take 7).drop 0 = c :: l.take 6 := by simp
  have e2 : ((c :: l).take 7).drop 1 = l.take 6 := by simp
  rw [e1, e2]
  have e3 : lowL (⟨#[60, 115, 99, 114, 105, 112, 116]⟩ : ByteArray).data.toList = 60 :: lowL pScr.data.toList := by decide
  rw [e3]
  have e4 : lowL (c :: l.take 6) = lowB c :: lowL (l.take 6) := rfl
  rw [e4, Bool.eq_iff_iff]
  simp only [beq_iff_eq, List.cons.injEq, Bool.and_eq_true]
  constructor
  · rintro ⟨h1, h2⟩
    refine ⟨?_, h2⟩
    rw [lowB_60 h1]; rfl
  · rintro ⟨h1, h2⟩
    refine ⟨?_, h2⟩
    obtain rfl : c = 60 := I.byte_inj (by rw [h1]; rfl)
    rfl

set_option maxHeartbeats 1600000 in
theorem opens_any (s : ByteArray) (w : World) (hs : s.size ≤ 10000) :
    Calls Tryz.prog 75 #[.string s] w fun e w' => e = .returned (.bool (opB s)) ∧ Below w.heap.size w w' := by
  by_cases hl : 7 < s.size
  · have HI := Lib.hid (op_is hl)
    have HFo := Lib.hid (fun W => fold_any (s.extract 0 7) ⟨#[60, 115, 99, 114, 105, 112, 116]⟩ W (by rw [ByteArray.size_extract]; unfold maxLen; omega))
    have hd : decide ((s.size : Int) ≤ 7) = false := by simp; omega
    have h7 : (7 : Int) ≤ (s.size : Int) := by omega
    have h8 : (7 : Int) < (s.size : Int) := by omega
    have hc := s[7].toNat_lt
    generalize foldB (s.extract 0 7) ⟨#[60, 115, 99, 114, 105, 112, 116]⟩ = fo at *
    cases fo with
    | false =>
      have HF : Hid (false = opB s) := Lib.hid (by rw [HI.out]; rfl)
      clear HI
      go_enter Tryz.func75, Tryz.ntmps75
      go_wp2_with fail
      refine (HFo.out _).mono ?_
      rintro e w1 ⟨rfl, hbl⟩
      have HB := Lib.hid hbl
      clear hbl
      go_wp2
      go_ret
      exact ⟨ret_bool HF.out, HB.out⟩
    | true =>
      have HS := Lib.hid (fun W => space_any (s[7].toNat : Int) W (by omega) (by omega))
      have HI2 : Hid (opB s = endI (s[7].toNat : Int)) := Lib.hid (by rw [HI.out, Bool.true_and])
      clear HI
      cases a1 : ((s[7].toNat : Int) == 47) with
      | true =>
        have HF : Hid (true = opB s) := Lib.hid (by rw [HI2.out, (end_47 a1).1])
        rw [(end_47 a1).2] at HS
        go_enter Tryz.func75, Tryz.ntmps75
        go_wp2_with fail
        refine (HFo.out _).mono ?_
        rintro e w1 ⟨rfl, hbl⟩
        have HB := Lib.hid hbl
        clear hbl
        go_wp2_with (go_at_call 78; refine (HS.out _).mono ?_; rintro e w' ⟨rfl, rfl⟩)
        go_ret
        exact ⟨ret_bool HF.out, HB.out⟩
      | false =>
        cases a2 : ((s[7].toNat : Int) == 62) with
        | true =>
          have HF : Hid (true = opB s) := Lib.hid (by rw [HI2.out, (end_62 a2).1])
          rw [(end_62 a2).2] at HS
          go_enter Tryz.func75, Tryz.ntmps75
          go_wp2_with fail
          refine (HFo.out _).mono ?_
          rintro e w1 ⟨rfl, hbl⟩
          have HB := Lib.hid hbl
          clear hbl
          go_wp2_with (go_at_call 78; refine (HS.out _).mono ?_; rintro e w' ⟨rfl, rfl⟩)
          go_ret
          exact ⟨ret_bool HF.out, HB.out⟩
        | false =>
          have HF : Hid (spI (s[7].toNat : Int) = opB s) := Lib.hid (by rw [HI2.out, end_sp a1 a2])
          generalize spI (s[7].toNat : Int) = sp at *
          cases sp
          all_goals
            go_enter Tryz.func75, Tryz.ntmps75
            go_wp2_with fail
            refine (HFo.out _).mono ?_
            rintro e w1 ⟨rfl, hbl⟩
            have HB := Lib.hid hbl
            clear hbl
            go_wp2_with (go_at_call 78; refine (HS.out _).mono ?_; rintro e w' ⟨rfl, rfl⟩)
            go_ret
            exact ⟨ret_bool HF.out, HB.out⟩
  · have HF : Hid (false = opB s) := Lib.hid (op_short hl).symm
    have hd : decide ((s.size : Int) ≤ 7) = true := by simp; omega
    go_enter Tryz.func75, Tryz.ntmps75
    go_wp2
    go_ret
    exact ⟨ret_bool HF.out, Below.refl _ _⟩

set_option maxHeartbeats 1600000 in
theorem ropens_any (s : ByteArray) (w : World) (hs : s.size ≤ 10000) :
    Calls Tryz.prog 83 #[.string s] w fun e w' => e = .returned (.bool (opB s)) ∧ Below w.heap.size w w' := by
  by_cases hl : 7 < s.size
  · have HI := Lib.hid (op_is hl)
    rw [fold_seven hl] at HI
    have HFo := Lib.hid (fun W => rfold_any (s.extract 1 7) pScr W (by rw [ByteArray.size_extract]; unfold maxLen; omega) (by unfold maxLen; decide))
    have hd : decide ((s.size : Int) ≤ 7) = false := by simp; omega
    have h7 : (7 : Int) ≤ (s.size : Int) := by omega
    have h8 : (7 : Int) < (s.size : Int) := by omega
    have h00 : (0 : Int) < (s.size : Int) := by omega
    have hc := s[7].toNat_lt
    have hc0 := s[0].toNat_lt
    generalize foldB (s.extract 1 7) pScr = fo at *
    unfold pScr at HFo
    cases a0 : ((s[0].toNat : Int) == 60) with
    | false =>
      have HF : Hid (false = opB s) := Lib.hid (by rw [HI.out, a0]; rfl)
      clear HI
      go_enter Tryz.func83, Tryz.ntmps83
      go_wp2
      go_ret
      exact ⟨ret_bool HF.out, Below.refl _ _⟩
    | true =>
      cases fo with
      | false =>
        have HF : Hid (false = opB s) := Lib.hid (by rw [HI.out, a0]; rfl)
        clear HI
        go_enter Tryz.func83, Tryz.ntmps83
        go_wp2_with fail
        refine (HFo.out _).mono ?_
        rintro e w1 ⟨rfl, hbl⟩
        have HB := Lib.hid hbl
        clear hbl
        go_wp2
        go_ret
        exact ⟨ret_bool HF.out, HB.out⟩
      | true =>
        have HS := Lib.hid (fun W => rspace_any (s[7].toNat : Int) W (by omega) (by omega))
        have HI2 : Hid (opB s = endI (s[7].toNat : Int)) := Lib.hid (by rw [HI.out, a0, Bool.true_and, Bool.true_and])
        clear HI
        cases a1 : ((s[7].toNat : Int) == 47) with
        | true =>
          have HF : Hid (true = opB s) := Lib.hid (by rw [HI2.out, (end_47 a1).1])
          go_enter Tryz.func83, Tryz.ntmps83
          go_wp2_with fail
          refine (HFo.out _).mono ?_
          rintro e w1 ⟨rfl, hbl⟩
          have HB := Lib.hid hbl
          clear hbl
          go_wp2
          go_ret
          exact ⟨ret_bool HF.out, HB.out⟩
        | false =>
          cases a2 : ((s[7].toNat : Int) == 62) with
          | true =>
            have HF : Hid (true = opB s) := Lib.hid (by rw [HI2.out, (end_62 a2).1])
            go_enter Tryz.func83, Tryz.ntmps83
            go_wp2_with fail
            refine (HFo.out _).mono ?_
            rintro e w1 ⟨rfl, hbl⟩
            have HB := Lib.hid hbl
            clear hbl
            go_wp2
            go_ret
            exact ⟨ret_bool HF.out, HB.out⟩
          | false =>
            have HF : Hid (spI (s[7].toNat : Int) = opB s) := Lib.hid (by rw [HI2.out, end_sp a1 a2])
            generalize spI (s[7].toNat : Int) = sp at *
            cases sp
            all_goals
              go_enter Tryz.func83, Tryz.ntmps83
              go_wp2_with fail
              refine (HFo.out _).mono ?_
              rintro e w1 ⟨rfl, hbl⟩
              have HB := Lib.hid hbl
              clear hbl
              go_wp2_with (go_at_call 47; refine (HS.out _).mono ?_; rintro e w' ⟨rfl, rfl⟩)
              go_ret
              exact ⟨ret_bool HF.out, HB.out⟩
  · have HF : Hid (false = opB s) := Lib.hid (op_short hl).symm
    have hd : decide ((7 : Int) < s.size) = false := by simp; omega
    go_enter Tryz.func83, Tryz.ntmps83
    go_wp2
    go_ret
    exact ⟨ret_bool HF.out, Below.refl _ _⟩
end Go.Proofs.YtceelfomgcbkiaaGreatDoor.Q

/-
  The walk of text.
-/
namespace Go.Proofs.YtceelfomgcbkiaaGreatDoor.Q
open Go.RowKit
open Go.Proofs.YtceelfomgcbkiaaGreatDoor.T (clB closes_any rcloses_any)

theorem ret_int {a b : Int} (h : a = b) : Ending.returned (.int .i64 a) = .returned (.int .i64 b) := by rw [h]
theorem tl_le {s : ByteArray} {k n : Nat} (h : s.size ≤ n) : (s.extract k s.size).size ≤ n := by rw [ByteArray.size_extract]; omega
def clN (s name : ByteArray) (k : Nat) : Bool := clB (s.extract k s.size) name
theorem fndR_one (s name : ByteArray) : fndR s name 1 = fst (clN s name) s.size 0 := rfl
theorem fndR_two (s name : ByteArray) : fndR s name 2 = fst (clN s name) s.size 0 := rfl
theorem fndR_three (s name : ByteArray) : fndR s name 3 = scr s name (s.size + 1) 0 0 := rfl
theorem fndR_zero (s name : ByteArray) : fndR s name 0 = 0 := rfl
theorem fndR_else (s name : ByteArray) (state : Int) (h0 : state ≠ 0) (h1 : state ≠ 1) (h2 : state ≠ 2) (h3 : state ≠ 3) : fndR s name state = s.size := by
  unfold fndR
  rw [if_neg h0, if_neg (by omega), if_neg h3]

set_option maxHeartbeats 1600000 in
theorem text_any (s name : ByteArray) (w : World) (hs : s.size ≤ 10000) (hn : name.size ≤ 10000) :
    Calls Tryz.prog 38 #[.string s, .string name] w fun e w' => e = .returned (.int .i64 (fst (clN s name) s.size 0 : Nat)) ∧ Below w.heap.size w w' := by
  obtain ⟨R, hR⟩ : ∃ R, R = fst (clN s name) s.size 0 := ⟨_, rfl⟩
  rw [← hR]
  have HR := Lib.hid hR
  clear hR
  go_enter Tryz.func38, Tryz.ntmps38
  go_wp2
  go_loopw [8] (fun i wr => ∃ k : Nat, k ≤ s.size ∧ i = .int .i64 k ∧ R = fst (clN s name) (s.size - k) k ∧ Below w.heap.size w wr) (fun i _ => s.size - (intOf i).toNat)
  case atStart => exact ⟨0, Nat.zero_le _, rfl, HR.out, Below.refl _ _⟩
  case round =>
    obtain ⟨k, hk, rfl, hh, hbel⟩ := hrel
    have HH := Lib.hid hh
    have HB := Lib.hid hbel
    clear hh hbel
    by_cases hlt : k < s.size
    · have hi0 : (0 : Int) ≤ (k : Int) := by omega
      have hi1 : (k : Int) ≤ (s.size : Int) := by omega
      have HC := Lib.hid (fun W => closes_any (s.extract k s.size) name W (tl_le hs) hn)
      cases hq : clB (s.extract k s.size) name with
      | true =>
        have HF := Lib.hid (HH.out.trans (fst_yes (by omega) hq))
        rw [hq] at HC
        clear hq
        go_wp2_with fail
        refine (HC.out _).mono ?_
        rintro e w1 ⟨rfl, hbl⟩
        have HB1 : Hid (Below w.heap.size w w1) := Lib.hid (HB.out.trans (hbl.mono HB.out.size))
        clear hbl
        go_wp2
        go_ret
        exact ⟨ret_int (by rw [HF.out]), HB1.out⟩
      | false =>
        have HF := Lib.hid (HH.out.trans (fst_no (by omega) hq))
        rw [hq] at HC
        clear hq
        go_wp2_with fail
        refine (HC.out _).mono ?_
        rintro e w1 ⟨rfl, hbl⟩
        have HB1 : Hid (Below w.heap.size w w1) := Lib.hid (HB.out.trans (hbl.mono HB.out.size))
        clear hbl
        go_wp2
        go_roundw
        case rel => exact ⟨k + 1, by omega, by go_num, HF.out, HB1.out⟩
        case measure => simp [intOf]; omega
    · obtain rfl : k = s.size := by omega
      have HF : Hid (R = s.size) := Lib.hid (by rw [HH.out, Nat.sub_self]; rfl)
      go_wp2
      go_ret
      exact ⟨ret_int (by rw [HF.out]), HB.out⟩

set_option maxHeartbeats 1600000 in
theorem rtext_any (s name : ByteArray) (state : Int) (hst : state = 1 ∨ state = 2) (w : World) (hs : s.size ≤ 10000) (hn : name.size ≤ 10000) :
    Calls Tryz.prog 27 #[.string s, .string name, .int .i64 state] w fun e w' => e = .returned (.int .i64 (fst (clN s name) s.size 0 : Nat)) ∧ Below w.heap.size w w' := by
  obtain ⟨R, hR⟩ : ∃ R, R = fst (clN s name) s.size 0 := ⟨_, rfl⟩
  rw [← hR]
  have HR := Lib.hid hR
  clear hR
  have a0 : (state == 0) = false := by rw [beq_eq_false_iff_ne]; omega
  have a3 : (state == 3) = false := by rw [beq_eq_false_iff_ne]; omega
  have a12 : ((state != 1) = true ∧ (state != 2) = false) ∨ (state != 1) = false := by
    rcases hst with rfl | rfl
    · exact .inr rfl
    · exact .inl ⟨rfl, rfl⟩
  clear hst
  have key : ∀ b : Bool, (b = true → (state != 2) = false) → (state != 1) = b →
      Calls Tryz.prog 27 #[.string s, .string name, .int .i64 state] w fun e w' => e = .returned (.int .i64 (R : Nat)) ∧ Below w.heap.size w w' := by
    intro b h2 h1
    cases b
    all_goals
      try have h2' := h2 rfl
      clear h2
      go_enter Tryz.func27, Tryz.ntmps27
      go_wp2
      go_loopw [7] (fun i wr => ∃ k : Nat, k ≤ s.size ∧ i = .int .i64 k ∧ R = fst (clN s name) (s.size - k) k ∧ Below w.heap.size w wr) (fun i _ => s.size - (intOf i).toNat)
      case atStart => exact ⟨0, Nat.zero_le _, rfl, HR.out, Below.refl _ _⟩
      case round =>
        obtain ⟨k, hk, rfl, hh, hbel⟩ := hrel
        have HH := Lib.hid hh
        have HB := Lib.hid hbel
        clear hh hbel
        by_cases hlt : k < s.size
        · have hi0 : (0 : Int) ≤ (k : Int) := by omega
          have hi1 : (k : Int) ≤ (s.size : Int) := by omega
          have HC := Lib.hid (fun W => rcloses_any (s.extract k s.size) name W (tl_le hs) hn)
          cases hq : clB (s.extract k s.size) name with
          | true =>
            have HF := Lib.hid (HH.out.trans (fst_yes (by omega) hq))
            rw [hq] at HC
            clear hq
            go_wp2_with fail
            refine (HC.out _).mono ?_
            rintro e w1 ⟨rfl, hbl⟩
            have HB1 : Hid (Below w.heap.size w w1) := Lib.hid (HB.out.trans (hbl.mono HB.out.size))
            clear hbl
            go_wp2
            go_ret
            exact ⟨ret_int (by rw [HF.out]), HB1.out⟩
          | false =>
            have HF := Lib.hid (HH.out.trans (fst_no (by omega) hq))
            rw [hq] at HC
            clear hq
            go_wp2_with fail
            refine (HC.out _).mono ?_
            rintro e w1 ⟨rfl, hbl⟩
            have HB1 : Hid (Below w.heap.size w w1) := Lib.hid (HB.out.trans (hbl.mono HB.out.size))
            clear hbl
            go_wp2
            go_roundw
            case rel => exact ⟨k + 1, by omega, by go_num, HF.out, HB1.out⟩
            case measure => simp [intOf]; omega
        · obtain rfl : k = s.size := by omega
          have HF : Hid (R = s.size) := Lib.hid (by rw [HH.out, Nat.sub_self]; rfl)
          go_wp2
          go_ret
          exact ⟨ret_int (by rw [HF.out]), HB.out⟩
  rcases a12 with ⟨h1, h2⟩ | h1
  · exact key true (fun _ => h2) h1
  · exact key false (fun h => by cases h) h1
end Go.Proofs.YtceelfomgcbkiaaGreatDoor.Q

/-
  The walk of script: a script is gone through by goto, between three labels.
-/
namespace Go.Proofs.YtceelfomgcbkiaaGreatDoor.Q
open Go.RowKit
open Go.Proofs.YtceelfomgcbkiaaGreatDoor.A (below_step)
open Go.Proofs.YtceelfomgcbkiaaGreatDoor.T (clB closes_any)

theorem scr_0 (s name : ByteArray) (f k : Nat) : scr s name (f + 1) 0 k = if ovB (tl s k) name = true then k else if preB (tl s k) pBeg = true then scr s name f 1 (k + 2) else scr s name f 0 (k + 1) := rfl
theorem scr_1 (s name : ByteArray) (f k : Nat) : scr s name (f + 1) 1 k = if ovB (tl s k) name = true then k else if preB (tl s k) pEnd = true then scr s name f 0 (k + 1) else if opB (tl s k) = true then scr s name f 2 (k + 1) else scr s name f 1 (k + 1) := rfl
theorem scr_2 (s name : ByteArray) (f k : Nat) : scr s name (f + 1) 2 k = if (tl s k).size = 0 then k else if preB (tl s k) pEnd = true then scr s name f 0 (k + 1) else if clB (tl s k) pScr = true then scr s name f 1 (k + 1) else scr s name f 2 (k + 1) := rfl
/-- What holds at a jump. -/
def JS (w : World) (s name : ByteArray) (R : Nat) (g l : Nat) (a : Act) (w' : World) : Prop :=
  ∃ k : Nat, (∃ u2 u3 u4 u6 u7 u8 u9 u10 u11 u12 u13 u14 u15 u16 u17 u18 u19 u20 u21 u22 u23 u24 u25 u26 u27 u28 u29 u30 u31 u32 u33 u34 u35 u36 u37 u38 u39 u40 u41 u42 u43 u44 u45 u46 u47 u48 u49 u50 u51 u52 u53 u54 u55 u56 u57 u58 u59 u60 u61 u62 u63 u64 u65 u66 : Value, a = { tmps := #[.string s, .string name, u2, u3, u4, .int .i64 (k : Nat), u6, u7, u8, u9, u10, u11, u12, u13, u14, u15, u16, u17, u18, u19, u20, u21, u22, u23, u24, u25, u26, u27, u28, u29, u30, u31, u32, u33, u34, u35, u36, u37, u38, u39, u40, u41, u42, u43, u44, u45, u46, u47, u48, u49, u50, u51, u52, u53, u54, u55, u56, u57, u58, u59, u60, u61, u62, u63, u64, u65, u66], defers := [] }) ∧
    k ≤ s.size ∧ s.size - k < g ∧ Below w.heap.size w w' ∧ ((l = 1 ∧ R = scr s name g 0 k) ∨ (l = 0 ∧ R = scr s name g 1 k) ∨ (l = 2 ∧ R = scr s name g 2 k))

set_option maxRecDepth 100000 in
set_option maxHeartbeats 6400000 in
theorem script_any (s name : ByteArray) (w : World) (hs : s.size ≤ 10000) (hn : name.size ≤ 10000) :
    Calls Tryz.prog 39 #[.string s, .string name] w fun e w' => e = .returned (.int .i64 (scr s name (s.size + 1) 0 0 : Nat)) ∧ Below w.heap.size w w' := by
  obtain ⟨R, hR⟩ : ∃ R, R = scr s name (s.size + 1) 0 0 := ⟨_, rfl⟩
  rw [← hR]
  have HR := Lib.hid hR
  clear hR
  go_enter Tryz.func39, Tryz.ntmps39
  go_wp2
  refine wp_scope_many (JS w s name R) ?_ ?_
  · obtain ⟨f, k, hf, hk, hT, hz⟩ : ∃ f k : Nat, s.size - k < f + 1 ∧ k ≤ s.size ∧ R = scr s name (f + 1) 0 k ∧ (0 : Int) = (k : Int) := ⟨s.size, 0, by omega, Nat.zero_le _, HR.out, rfl⟩
    have HB := Lib.hid (Below.refl w.heap.size w)
    have HT := Lib.hid hT
    rw [hz]
    clear hT HR hz
    go_wp2
    refine wp_label ?_
    have hi0 : (0 : Int) ≤ (k : Int) := by omega
    have hi1 : (k : Int) ≤ (s.size : Int) := by omega
    have HO := Lib.hid (fun W => over_any (s.extract k s.size) name W (tl_le hs) hn)
    cases hq : ovB (s.extract k s.size) name with
    | true =>
      have HF : Hid (R = k) := Lib.hid (by rw [HT.out, scr_0, if_pos hq])
      rw [hq] at HO
      clear hq
      go_wp2_with fail
      refine (HO.out _).mono ?_
      rintro e w1 ⟨rfl, hbl⟩
      have HB1 := below_step HB hbl
      clear hbl
      go_wp2
      simp only [Exit.jumps]
      go_ret
      exact ⟨ret_int (by rw [HF.out]), HB1.out⟩
    | false =>
      have hlt : k < s.size := by
        rcases Nat.lt_or_ge k s.size with h2 | h2
        · exact h2
        · rw [ov_end h2] at hq; cases hq
      have HT2 := Lib.hid (HT.out.trans ((scr_0 s name f k).trans (if_neg (by rw [hq]; decide))))
      rw [hq] at HO
      clear hq
      go_wp2_with fail
      refine (HO.out _).mono ?_
      rintro e w1 ⟨rfl, hbl⟩
      have HB1 := below_step HB hbl
      clear hbl
      have HP := Lib.hid (fun W => Tryz.strings_HasPrefix (s.extract k s.size) ⟨#[60, 33, 45, 45]⟩ W)
      cases hq : preB (s.extract k s.size) pBeg with
      | true =>
        have hr := beg_room hq
        have HF := Lib.hid (HT2.out.trans (if_pos hq))
        rw [preB_has, show preB (s.extract k s.size) ⟨#[60, 33, 45, 45]⟩ = true from hq] at HP
        clear hq
        go_wp2_with (go_at_call 63; refine (HP.out _).mono ?_; rintro e w' ⟨rfl, rfl⟩)
        go_step3
        exact ⟨f, k + 2, ⟨_, _, _, _, _, _, _, _, _, _, _, _, _, _, _, _, _, _, _, _, _, _, _, _, _, _, _, _, _, _, _, _, _, _, _, _, _, _, _, _, _, _, _, _, _, _, _, _, _, _, _, _, _, _, _, _, _, _, _, _, _, _, _, _, rfl⟩, by omega, by omega, HB1.out, .inr (.inl ⟨rfl, HF.out⟩)⟩
      | false =>
        have HF := Lib.hid (HT2.out.trans (if_neg (by rw [hq]; decide)))
        rw [preB_has, show preB (s.extract k s.size) ⟨#[60, 33, 45, 45]⟩ = false from hq] at HP
        clear hq
        go_wp2_with (go_at_call 63; refine (HP.out _).mono ?_; rintro e w' ⟨rfl, rfl⟩)
        go_step3
        exact ⟨f, k + 1, ⟨_, _, _, _, _, _, _, _, _, _, _, _, _, _, _, _, _, _, _, _, _, _, _, _, _, _, _, _, _, _, _, _, _, _, _, _, _, _, _, _, _, _, _, _, _, _, _, _, _, _, _, _, _, _, _, _, _, _, _, _, _, _, _, _, rfl⟩, by omega, by omega, HB1.out, .inl ⟨rfl, HF.out⟩⟩
  · intro g l a w0 hJ
    obtain ⟨k, ⟨u2, u3, u4, u6, u7, u8, u9, u10, u11, u12, u13, u14, u15, u16, u17, u18, u19, u20, u21, u22, u23, u24, u25, u26, u27, u28, u29, u30, u31, u32, u33, u34, u35, u36, u37, u38, u39, u40, u41, u42, u43, u44, u45, u46, u47, u48, u49, u50, u51, u52, u53, u54, u55, u56, u57, u58, u59, u60, u61, u62, u63, u64, u65, u66, rfl⟩, hk, hf, hbel, hc⟩ := hJ
    have HB := Lib.hid hbel
    clear hbel HR
    obtain ⟨f, rfl⟩ : ∃ f, g = f + 1 := ⟨g - 1, by omega⟩
    rcases hc with ⟨rfl, hT⟩ | ⟨rfl, hT⟩ | ⟨rfl, hT⟩
    · refine ⟨_, rfl, ?_⟩
      have HT := Lib.hid hT
      clear hT
      have hi0 : (0 : Int) ≤ (k : Int) := by omega
      have hi1 : (k : Int) ≤ (s.size : Int) := by omega
      have HO := Lib.hid (fun W => over_any (s.extract k s.size) name W (tl_le hs) hn)
      cases hq : ovB (s.extract k s.size) name with
      | true =>
        have HF : Hid (R = k) := Lib.hid (by rw [HT.out, scr_0, if_pos hq])
        rw [hq] at HO
        clear hq
        go_wp2_with fail
        refine (HO.out _).mono ?_
        rintro e w1 ⟨rfl, hbl⟩
        have HB1 := below_step HB hbl
        clear hbl
        go_wp2
        simp only [Exit.jumps]
        go_ret
        exact ⟨ret_int (by rw [HF.out]), HB1.out⟩
      | false =>
        have hlt : k < s.size := by
          rcases Nat.lt_or_ge k s.size with h2 | h2
          · exact h2
          · rw [ov_end h2] at hq; cases hq
        have HT2 := Lib.hid (HT.out.trans ((scr_0 s name f k).trans (if_neg (by rw [hq]; decide))))
        rw [hq] at HO
        clear hq
        go_wp2_with fail
        refine (HO.out _).mono ?_
        rintro e w1 ⟨rfl, hbl⟩
        have HB1 := below_step HB hbl
        clear hbl
        have HP := Lib.hid (fun W => Tryz.strings_HasPrefix (s.extract k s.size) ⟨#[60, 33, 45, 45]⟩ W)
        cases hq : preB (s.extract k s.size) pBeg with
        | true =>
          have hr := beg_room hq
          have HF := Lib.hid (HT2.out.trans (if_pos hq))
          rw [preB_has, show preB (s.extract k s.size) ⟨#[60, 33, 45, 45]⟩ = true from hq] at HP
          clear hq
          go_wp2_with (go_at_call 63; refine (HP.out _).mono ?_; rintro e w' ⟨rfl, rfl⟩)
          go_step3
          exact ⟨f, by omega, k + 2, ⟨_, _, _, _, _, _, _, _, _, _, _, _, _, _, _, _, _, _, _, _, _, _, _, _, _, _, _, _, _, _, _, _, _, _, _, _, _, _, _, _, _, _, _, _, _, _, _, _, _, _, _, _, _, _, _, _, _, _, _, _, _, _, _, _, rfl⟩, by omega, by omega, HB1.out, .inr (.inl ⟨rfl, HF.out⟩)⟩
        | false =>
          have HF := Lib.hid (HT2.out.trans (if_neg (by rw [hq]; decide)))
          rw [preB_has, show preB (s.extract k s.size) ⟨#[60, 33, 45, 45]⟩ = false from hq] at HP
          clear hq
          go_wp2_with (go_at_call 63; refine (HP.out _).mono ?_; rintro e w' ⟨rfl, rfl⟩)
          go_step3
          exact ⟨f, by omega, k + 1, ⟨_, _, _, _, _, _, _, _, _, _, _, _, _, _, _, _, _, _, _, _, _, _, _, _, _, _, _, _, _, _, _, _, _, _, _, _, _, _, _, _, _, _, _, _, _, _, _, _, _, _, _, _, _, _, _, _, _, _, _, _, _, _, _, _, rfl⟩, by omega, by omega, HB1.out, .inl ⟨rfl, HF.out⟩⟩
    · refine ⟨_, rfl, ?_⟩
      have HT := Lib.hid hT
      clear hT
      have hi0 : (0 : Int) ≤ (k : Int) := by omega
      have hi1 : (k : Int) ≤ (s.size : Int) := by omega
      have HO := Lib.hid (fun W => over_any (s.extract k s.size) name W (tl_le hs) hn)
      cases hq : ovB (s.extract k s.size) name with
      | true =>
        have HF : Hid (R = k) := Lib.hid (by rw [HT.out, scr_1, if_pos hq])
        rw [hq] at HO
        clear hq
        go_wp2_with fail
        refine (HO.out _).mono ?_
        rintro e w1 ⟨rfl, hbl⟩
        have HB1 := below_step HB hbl
        clear hbl
        go_wp2
        simp only [Exit.jumps]
        go_ret
        exact ⟨ret_int (by rw [HF.out]), HB1.out⟩
      | false =>
        have hlt : k < s.size := by
          rcases Nat.lt_or_ge k s.size with h2 | h2
          · exact h2
          · rw [ov_end h2] at hq; cases hq
        have HT2 := Lib.hid (HT.out.trans ((scr_1 s name f k).trans (if_neg (by rw [hq]; decide))))
        rw [hq] at HO
        clear hq
        go_wp2_with fail
        refine (HO.out _).mono ?_
        rintro e w1 ⟨rfl, hbl⟩
        have HB1 := below_step HB hbl
        clear hbl
        have HP := Lib.hid (fun W => Tryz.strings_HasPrefix (s.extract k s.size) ⟨#[45, 45, 62]⟩ W)
        cases hq : preB (s.extract k s.size) pEnd with
        | true =>
          have HF := Lib.hid (HT2.out.trans (if_pos hq))
          rw [preB_has, show preB (s.extract k s.size) ⟨#[45, 45, 62]⟩ = true from hq] at HP
          clear hq
          go_wp2_with (go_at_call 63; refine (HP.out _).mono ?_; rintro e w' ⟨rfl, rfl⟩)
          go_step3
          exact ⟨f, by omega, k + 1, ⟨_, _, _, _, _, _, _, _, _, _, _, _, _, _, _, _, _, _, _, _, _, _, _, _, _, _, _, _, _, _, _, _, _, _, _, _, _, _, _, _, _, _, _, _, _, _, _, _, _, _, _, _, _, _, _, _, _, _, _, _, _, _, _, _, rfl⟩, by omega, by omega, HB1.out, .inl ⟨rfl, HF.out⟩⟩
        | false =>
          have HT3 := Lib.hid (HT2.out.trans (if_neg (by rw [hq]; decide)))
          rw [preB_has, show preB (s.extract k s.size) ⟨#[45, 45, 62]⟩ = false from hq] at HP
          clear hq
          have HX := Lib.hid (fun W => opens_any (s.extract k s.size) W (tl_le hs))
          cases hq : opB (s.extract k s.size) with
          | true =>
            have HF := Lib.hid (HT3.out.trans (if_pos hq))
            rw [hq] at HX
            clear hq
            go_wp2_with (go_at_call 63; refine (HP.out _).mono ?_; rintro e w' ⟨rfl, rfl⟩)
            refine (HX.out _).mono ?_
            rintro e w2 ⟨rfl, hbl⟩
            have HB2 := below_step HB1 hbl
            clear hbl
            go_wp2
            go_step3
            exact ⟨f, by omega, k + 1, ⟨_, _, _, _, _, _, _, _, _, _, _, _, _, _, _, _, _, _, _, _, _, _, _, _, _, _, _, _, _, _, _, _, _, _, _, _, _, _, _, _, _, _, _, _, _, _, _, _, _, _, _, _, _, _, _, _, _, _, _, _, _, _, _, _, rfl⟩, by omega, by omega, HB2.out, .inr (.inr ⟨rfl, HF.out⟩)⟩
          | false =>
            have HF := Lib.hid (HT3.out.trans (if_neg (by rw [hq]; decide)))
            rw [hq] at HX
            clear hq
            go_wp2_with (go_at_call 63; refine (HP.out _).mono ?_; rintro e w' ⟨rfl, rfl⟩)
            refine (HX.out _).mono ?_
            rintro e w2 ⟨rfl, hbl⟩
            have HB2 := below_step HB1 hbl
            clear hbl
            go_wp2
            go_step3
            exact ⟨f, by omega, k + 1, ⟨_, _, _, _, _, _, _, _, _, _, _, _, _, _, _, _, _, _, _, _, _, _, _, _, _, _, _, _, _, _, _, _, _, _, _, _, _, _, _, _, _, _, _, _, _, _, _, _, _, _, _, _, _, _, _, _, _, _, _, _, _, _, _, _, rfl⟩, by omega, by omega, HB2.out, .inr (.inl ⟨rfl, HF.out⟩)⟩
    · refine ⟨_, rfl, ?_⟩
      have HT := Lib.hid hT
      clear hT
      have hi0 : (0 : Int) ≤ (k : Int) := by omega
      have hi1 : (k : Int) ≤ (s.size : Int) := by omega
      by_cases h0 : (s.extract k s.size).size = 0
      · have HF := Lib.hid (HT.out.trans ((scr_2 s name f k).trans (if_pos h0)))
        obtain ⟨e1, e2⟩ := C.empty_yes h0
        clear h0
        go_wp2
        simp only [Exit.jumps]
        go_ret
        exact ⟨ret_int (by rw [HF.out]), HB.out⟩
      · have HT2 := Lib.hid (HT.out.trans ((scr_2 s name f k).trans (if_neg h0)))
        have hlt : k < s.size := by rw [ByteArray.size_extract] at h0; omega
        obtain ⟨e1, e2⟩ := C.empty_no h0
        clear h0
        have HP := Lib.hid (fun W => Tryz.strings_HasPrefix (s.extract k s.size) ⟨#[45, 45, 62]⟩ W)
        cases hq : preB (s.extract k s.size) pEnd with
        | true =>
          have HF := Lib.hid (HT2.out.trans (if_pos hq))
          rw [preB_has, show preB (s.extract k s.size) ⟨#[45, 45, 62]⟩ = true from hq] at HP
          clear hq
          go_wp2_with (go_at_call 63; refine (HP.out _).mono ?_; rintro e w' ⟨rfl, rfl⟩)
          go_step3
          exact ⟨f, by omega, k + 1, ⟨_, _, _, _, _, _, _, _, _, _, _, _, _, _, _, _, _, _, _, _, _, _, _, _, _, _, _, _, _, _, _, _, _, _, _, _, _, _, _, _, _, _, _, _, _, _, _, _, _, _, _, _, _, _, _, _, _, _, _, _, _, _, _, _, rfl⟩, by omega, by omega, HB.out, .inl ⟨rfl, HF.out⟩⟩
        | false =>
          have HT3 := Lib.hid (HT2.out.trans (if_neg (by rw [hq]; decide)))
          rw [preB_has, show preB (s.extract k s.size) ⟨#[45, 45, 62]⟩ = false from hq] at HP
          clear hq
          have HX := Lib.hid (fun W => closes_any (s.extract k s.size) ⟨#[115, 99, 114, 105, 112, 116]⟩ W (tl_le hs) (by decide))
          cases hq : clB (s.extract k s.size) pScr with
          | true =>
            have HF := Lib.hid (HT3.out.trans (if_pos hq))
            rw [show clB (s.extract k s.size) ⟨#[115, 99, 114, 105, 112, 116]⟩ = true from hq] at HX
            clear hq
            go_wp2_with (go_at_call 63; refine (HP.out _).mono ?_; rintro e w' ⟨rfl, rfl⟩)
            refine (HX.out _).mono ?_
            rintro e w2 ⟨rfl, hbl⟩
            have HB2 := below_step HB hbl
            clear hbl
            go_wp2
            go_step3
            exact ⟨f, by omega, k + 1, ⟨_, _, _, _, _, _, _, _, _, _, _, _, _, _, _, _, _, _, _, _, _, _, _, _, _, _, _, _, _, _, _, _, _, _, _, _, _, _, _, _, _, _, _, _, _, _, _, _, _, _, _, _, _, _, _, _, _, _, _, _, _, _, _, _, rfl⟩, by omega, by omega, HB2.out, .inr (.inl ⟨rfl, HF.out⟩)⟩
          | false =>
            have HF := Lib.hid (HT3.out.trans (if_neg (by rw [hq]; decide)))
            rw [show clB (s.extract k s.size) ⟨#[115, 99, 114, 105, 112, 116]⟩ = false from hq] at HX
            clear hq
            go_wp2_with (go_at_call 63; refine (HP.out _).mono ?_; rintro e w' ⟨rfl, rfl⟩)
            refine (HX.out _).mono ?_
            rintro e w2 ⟨rfl, hbl⟩
            have HB2 := below_step HB hbl
            clear hbl
            go_wp2
            go_step3
            exact ⟨f, by omega, k + 1, ⟨_, _, _, _, _, _, _, _, _, _, _, _, _, _, _, _, _, _, _, _, _, _, _, _, _, _, _, _, _, _, _, _, _, _, _, _, _, _, _, _, _, _, _, _, _, _, _, _, _, _, _, _, _, _, _, _, _, _, _, _, _, _, _, _, rfl⟩, by omega, by omega, HB2.out, .inr (.inr ⟨rfl, HF.out⟩)⟩
end Go.Proofs.YtceelfomgcbkiaaGreatDoor.Q

/-
  The walk of the document's own script.
-/
namespace Go.Proofs.YtceelfomgcbkiaaGreatDoor.Q
open Go.RowKit
open Go.Proofs.YtceelfomgcbkiaaGreatDoor.A (below_step)
open Go.Proofs.YtceelfomgcbkiaaGreatDoor.T (clB rcloses_any)

theorem scr_over {s name : ByteArray} {k : Nat} (h : s.size ≤ k) : ∀ f m, m ≤ 2 → scr s name f m k = k
  | 0, m, _ => by unfold scr; rfl
  | f + 1, 0, _ => by rw [scr_0, if_pos (ov_end h)]
  | f + 1, 1, _ => by rw [scr_1, if_pos (ov_end h)]
  | f + 1, 2, _ => by rw [scr_2, if_pos (by rw [tl_size]; omega)]
set_option maxRecDepth 100000 in
set_option maxHeartbeats 6400000 in
theorem rscript_any (s name : ByteArray) (w : World) (hs : s.size ≤ 10000) (hn : name.size ≤ 10000) :
    Calls Tryz.prog 44 #[.string s, .string name] w fun e w' => e = .returned (.int .i64 (scr s name (s.size + 1) 0 0 : Nat)) ∧ Below w.heap.size w w' := by
  obtain ⟨R, hR⟩ : ∃ R, R = scr s name (s.size + 1) 0 0 := ⟨_, rfl⟩
  rw [← hR]
  have HR := Lib.hid hR
  clear hR
  go_enter Tryz.func44, Tryz.ntmps44
  go_wp2
  go_loopw [5, 6] (fun v i wr => ∃ k f : Nat, k ≤ s.size ∧ s.size - k < f ∧ i = .int .i64 k ∧ Below w.heap.size w wr ∧ ((v = .int .i64 0 ∧ R = scr s name f 0 k) ∨ (v = .int .i64 1 ∧ R = scr s name f 1 k) ∨ (v = .int .i64 2 ∧ R = scr s name f 2 k))) (fun _ i _ => s.size - (intOf i).toNat)
  case atStart => exact ⟨0, s.size + 1, Nat.zero_le _, by omega, rfl, Below.refl _ _, .inl ⟨rfl, HR.out⟩⟩
  case round =>
    obtain ⟨k, f, hk, hf, rfl, hbel, hm⟩ := hrel
    have HB := Lib.hid hbel
    clear hbel HR
    by_cases hlt : k < s.size
    · obtain ⟨f, rfl⟩ : ∃ g, f = g + 1 := ⟨f - 1, by omega⟩
      have hi0 : (0 : Int) ≤ (k : Int) := by omega
      have hi1 : (k : Int) ≤ (s.size : Int) := by omega
      have HO := Lib.hid (fun W => rcloses_any (s.extract k s.size) name W (tl_le hs) hn)
      have HCs := Lib.hid (fun W => rcloses_any (s.extract k s.size) ⟨#[115, 99, 114, 105, 112, 116]⟩ W (tl_le hs) (by decide))
      have HBe := Lib.hid (fun W => rbegins_any (s.extract k s.size) ⟨#[60, 33, 45, 45]⟩ W)
      have HEn := Lib.hid (fun W => rbegins_any (s.extract k s.size) ⟨#[45, 45, 62]⟩ W)
      have HOp := Lib.hid (fun W => ropens_any (s.extract k s.size) W (tl_le hs))
      rw [show clB (s.extract k s.size) ⟨#[115, 99, 114, 105, 112, 116]⟩ = clB (s.extract k s.size) pScr from rfl] at HCs
      have HOv := Lib.hid (ov_in (s := s) (name := name) hlt)
      rcases hm with ⟨rfl, hT⟩ | ⟨rfl, hT⟩ | ⟨rfl, hT⟩
      · have HT := Lib.hid hT
        clear hT
        cases q1 : clB (s.extract k s.size) name with
        | true =>
          rw [q1] at HO
          have HF : Hid (R = k) := Lib.hid (by rw [HT.out, scr_0, if_pos (by rw [HOv.out]; exact q1)])
          clear q1 HCs HBe HEn HOp HOv
          go_wp2_with fail
          refine (HO.out _).mono ?_
          rintro e w1 ⟨rfl, hbl⟩
          have HB1 := below_step HB hbl
          clear hbl
          go_wp2
          go_ret
          exact ⟨ret_int (by rw [HF.out]), HB1.out⟩
        | false =>
          rw [q1] at HO
          have HT2 := Lib.hid (HT.out.trans ((scr_0 s name f k).trans (if_neg (by rw [HOv.out, q1]; decide))))
          clear q1 HOv
          cases q2 : preB (s.extract k s.size) pBeg with
          | true =>
            rw [show preB (s.extract k s.size) ⟨#[60, 33, 45, 45]⟩ = true from q2] at HBe
            have hr := beg_room q2
            have HF := Lib.hid (HT2.out.trans (if_pos q2))
            clear q2 HCs HEn HOp
            go_wp2_with fail
            refine (HO.out _).mono ?_
            rintro e w1 ⟨rfl, hbl⟩
            have HB1 := below_step HB hbl
            clear hbl
            go_wp2_with (go_at_call 82; refine (HBe.out _).mono ?_; rintro e w' ⟨rfl, rfl⟩)
            go_roundw
            case rel => exact ⟨k + 2, f, by omega, by omega, by go_num, HB1.out, .inr (.inl ⟨rfl, HF.out⟩)⟩
            case measure => simp [intOf]; omega
          | false =>
            rw [show preB (s.extract k s.size) ⟨#[60, 33, 45, 45]⟩ = false from q2] at HBe
            have HF := Lib.hid (HT2.out.trans (if_neg (by rw [q2]; decide)))
            clear q2 HCs HEn HOp
            go_wp2_with fail
            refine (HO.out _).mono ?_
            rintro e w1 ⟨rfl, hbl⟩
            have HB1 := below_step HB hbl
            clear hbl
            go_wp2_with (go_at_call 82; refine (HBe.out _).mono ?_; rintro e w' ⟨rfl, rfl⟩)
            go_roundw
            case rel => exact ⟨k + 1, f, by omega, by omega, by go_num, HB1.out, .inl ⟨rfl, HF.out⟩⟩
            case measure => simp [intOf]; omega
      · have HT := Lib.hid hT
        clear hT
        cases q1 : clB (s.extract k s.size) name with
        | true =>
          rw [q1] at HO
          have HF : Hid (R = k) := Lib.hid (by rw [HT.out, scr_1, if_pos (by rw [HOv.out]; exact q1)])
          clear q1 HCs HBe HEn HOp HOv
          go_wp2_with fail
          refine (HO.out _).mono ?_
          rintro e w1 ⟨rfl, hbl⟩
          have HB1 := below_step HB hbl
          clear hbl
          go_wp2
          go_ret
          exact ⟨ret_int (by rw [HF.out]), HB1.out⟩
        | false =>
          rw [q1] at HO
          have HT2 := Lib.hid (HT.out.trans ((scr_1 s name f k).trans (if_neg (by rw [HOv.out, q1]; decide))))
          clear q1 HOv
          cases q2 : opB (s.extract k s.size) with
          | true =>
            rw [q2] at HOp
            have HF := Lib.hid (HT2.out.trans ((if_neg (by rw [op_end q2]; decide)).trans (if_pos q2)))
            clear q2 HCs HBe HEn
            go_wp2_with fail
            refine (HO.out _).mono ?_
            rintro e w1 ⟨rfl, hbl⟩
            have HB1 := below_step HB hbl
            clear hbl
            go_wp2_with fail
            refine (HOp.out _).mono ?_
            rintro e w2 ⟨rfl, hbl⟩
            have HB2 := below_step HB1 hbl
            clear hbl
            go_wp2
            go_roundw
            case rel => exact ⟨k + 1, f, by omega, by omega, by go_num, HB2.out, .inr (.inr ⟨rfl, HF.out⟩)⟩
            case measure => simp [intOf]; omega
          | false =>
            rw [q2] at HOp
            cases q3 : preB (s.extract k s.size) pEnd with
            | true =>
              rw [show preB (s.extract k s.size) ⟨#[45, 45, 62]⟩ = true from q3] at HEn
              have HF := Lib.hid (HT2.out.trans (if_pos q3))
              clear q2 q3 HCs HBe
              go_wp2_with fail
              refine (HO.out _).mono ?_
              rintro e w1 ⟨rfl, hbl⟩
              have HB1 := below_step HB hbl
              clear hbl
              go_wp2_with fail
              refine (HOp.out _).mono ?_
              rintro e w2 ⟨rfl, hbl⟩
              have HB2 := below_step HB1 hbl
              clear hbl
              go_wp2_with (go_at_call 82; refine (HEn.out _).mono ?_; rintro e w' ⟨rfl, rfl⟩)
              go_roundw
              case rel => exact ⟨k + 1, f, by omega, by omega, by go_num, HB2.out, .inl ⟨rfl, HF.out⟩⟩
              case measure => simp [intOf]; omega
            | false =>
              rw [show preB (s.extract k s.size) ⟨#[45, 45, 62]⟩ = false from q3] at HEn
              have HF := Lib.hid (HT2.out.trans ((if_neg (by rw [q3]; decide)).trans (if_neg (by rw [q2]; decide))))
              clear q2 q3 HCs HBe
              go_wp2_with fail
              refine (HO.out _).mono ?_
              rintro e w1 ⟨rfl, hbl⟩
              have HB1 := below_step HB hbl
              clear hbl
              go_wp2_with fail
              refine (HOp.out _).mono ?_
              rintro e w2 ⟨rfl, hbl⟩
              have HB2 := below_step HB1 hbl
              clear hbl
              go_wp2_with (go_at_call 82; refine (HEn.out _).mono ?_; rintro e w' ⟨rfl, rfl⟩)
              go_roundw
              case rel => exact ⟨k + 1, f, by omega, by omega, by go_num, HB2.out, .inr (.inl ⟨rfl, HF.out⟩)⟩
              case measure => simp [intOf]; omega
      · have HT := Lib.hid hT
        clear hT
        have HT2 := Lib.hid (HT.out.trans ((scr_2 s name f k).trans (if_neg (by rw [tl_size]; omega))))
        clear HO HOv
        cases q2 : clB (s.extract k s.size) pScr with
        | true =>
          rw [q2] at HCs
          have HF := Lib.hid (HT2.out.trans ((if_neg (by rw [cl_end q2]; decide)).trans (if_pos q2)))
          clear q2 HBe HEn HOp
          go_wp2_with fail
          refine (HCs.out _).mono ?_
          rintro e w1 ⟨rfl, hbl⟩
          have HB1 := below_step HB hbl
          clear hbl
          go_wp2
          go_roundw
          case rel => exact ⟨k + 1, f, by omega, by omega, by go_num, HB1.out, .inr (.inl ⟨rfl, HF.out⟩)⟩
          case measure => simp [intOf]; omega
        | false =>
          rw [q2] at HCs
          cases q3 : preB (s.extract k s.size) pEnd with
          | true =>
            rw [show preB (s.extract k s.size) ⟨#[45, 45, 62]⟩ = true from q3] at HEn
            have HF := Lib.hid (HT2.out.trans (if_pos q3))
            clear q2 q3 HBe HOp
            go_wp2_with fail
            refine (HCs.out _).mono ?_
            rintro e w1 ⟨rfl, hbl⟩
            have HB1 := below_step HB hbl
            clear hbl
            go_wp2_with (go_at_call 82; refine (HEn.out _).mono ?_; rintro e w' ⟨rfl, rfl⟩)
            go_roundw
            case rel => exact ⟨k + 1, f, by omega, by omega, by go_num, HB1.out, .inl ⟨rfl, HF.out⟩⟩
            case measure => simp [intOf]; omega
          | false =>
            rw [show preB (s.extract k s.size) ⟨#[45, 45, 62]⟩ = false from q3] at HEn
            have HF := Lib.hid (HT2.out.trans ((if_neg (by rw [q3]; decide)).trans (if_neg (by rw [q2]; decide))))
            clear q2 q3 HBe HOp
            go_wp2_with fail
            refine (HCs.out _).mono ?_
            rintro e w1 ⟨rfl, hbl⟩
            have HB1 := below_step HB hbl
            clear hbl
            go_wp2_with (go_at_call 82; refine (HEn.out _).mono ?_; rintro e w' ⟨rfl, rfl⟩)
            go_roundw
            case rel => exact ⟨k + 1, f, by omega, by omega, by go_num, HB1.out, .inr (.inr ⟨rfl, HF.out⟩)⟩
            case measure => simp [intOf]; omega
    · obtain rfl : k = s.size := by omega
      have HF : Hid (R = s.size) := Lib.hid (by
        rcases hm with ⟨_, hT⟩ | ⟨_, hT⟩ | ⟨_, hT⟩
        · rw [hT, scr_over (Nat.le_refl _) _ _ (by omega)]
        · rw [hT, scr_over (Nat.le_refl _) _ _ (by omega)]
        · rw [hT, scr_over (Nat.le_refl _) _ _ (by omega)])
      clear hm
      go_wp2
      go_ret
      exact ⟨ret_int (by rw [HF.out]), HB.out⟩
end Go.Proofs.YtceelfomgcbkiaaGreatDoor.Q

/-
  The walks of both Finds; and of awake, some answers that the document fixes.
-/
namespace Go.Proofs.YtceelfomgcbkiaaGreatDoor.Q
open Go.RowKit
open Go.Proofs.YtceelfomgcbkiaaGreatDoor.A (below_step)
open Go.Proofs.YtceelfomgcbkiaaGreatDoor.T (clB)

set_option maxHeartbeats 1600000 in
theorem find_any (s name : ByteArray) (state : Int) (w : World) (hs : s.size ≤ 10000) (hn : name.size ≤ 10000) :
    Calls Tryz.prog 25 #[.string s, .string name, .int .i64 state] w fun e w' => e = .returned (.int .i64 (fndR s name state : Nat)) ∧ Below w.heap.size w w' := by
  by_cases h0 : state = 0
  · subst h0
    rw [fndR_zero]
    go_enter Tryz.func25, Tryz.ntmps25
    go_wp2
    go_ret
    exact ⟨rfl, Below.refl _ _⟩
  · have e0 : (state == 0) = false := by rw [beq_eq_false_iff_ne]; exact h0
    by_cases h12 : state = 1 ∨ state = 2
    · have HF : Hid (fst (clN s name) s.size 0 = fndR s name state) := Lib.hid (by rcases h12 with rfl | rfl; exact (fndR_one s name).symm; exact (fndR_two s name).symm)
      have HT := Lib.hid (fun W => text_any s name W hs hn)
      have a12 : ((state == 1) = false ∧ (state == 2) = true) ∨ (state == 1) = true := by
        rcases h12 with rfl | rfl
        · exact .inr rfl
        · exact .inl ⟨rfl, rfl⟩
      generalize fst (clN s name) s.size 0 = R at *
      clear h12 h0
      rcases a12 with ⟨e1, e2⟩ | e1
      all_goals
        go_enter Tryz.func25, Tryz.ntmps25
        go_wp2_with fail
        refine (HT.out _).mono ?_
        rintro e w1 ⟨rfl, hbl⟩
        have HB := Lib.hid hbl
        clear hbl
        go_wp2
        go_ret
        exact ⟨ret_int (by rw [HF.out]), HB.out⟩
    · have e1 : (state == 1) = false := by rw [beq_eq_false_iff_ne]; omega
      have e2 : (state == 2) = false := by rw [beq_eq_false_iff_ne]; omega
      by_cases h3 : state = 3
      · subst h3
        have HT := Lib.hid (fun W => script_any s name W hs hn)
        rw [fndR_three]
        generalize scr s name (s.size + 1) 0 0 = R at *
        clear h12 h0
        go_enter Tryz.func25, Tryz.ntmps25
        go_wp2_with fail
        refine (HT.out _).mono ?_
        rintro e w1 ⟨rfl, hbl⟩
        have HB := Lib.hid hbl
        clear hbl
        go_wp2
        go_ret
        exact ⟨rfl, HB.out⟩
      · have e3 : (state == 3) = false := by rw [beq_eq_false_iff_ne]; exact h3
        rw [fndR_else s name state h0 (by omega) (by omega) h3]
        clear h12 h0 h3
        go_enter Tryz.func25, Tryz.ntmps25
        go_wp2
        go_ret
        exact ⟨rfl, Below.refl _ _⟩

set_option maxHeartbeats 1600000 in
theorem rfind_any (s name : ByteArray) (state : Int) (w : World) (hs : s.size ≤ 10000) (hn : name.size ≤ 10000) :
    Calls Tryz.prog 27 #[.string s, .string name, .int .i64 state] w fun e w' => e = .returned (.int .i64 (fndR s name state : Nat)) ∧ Below w.heap.size w w' := by
  by_cases h0 : state = 0
  · subst h0
    rw [fndR_zero]
    go_enter Tryz.func27, Tryz.ntmps27
    go_wp2
    go_ret
    exact ⟨rfl, Below.refl _ _⟩
  · by_cases h12 : state = 1 ∨ state = 2
    · have e : fst (clN s name) s.size 0 = fndR s name state := by rcases h12 with rfl | rfl; exact (fndR_one s name).symm; exact (fndR_two s name).symm
      rw [← e]
      exact rtext_any s name state h12 w hs hn
    · have e0 : (state == 0) = false := by rw [beq_eq_false_iff_ne]; exact h0
      have e1 : (state != 1) = true := by rw [bne_iff_ne]; omega
      have e2 : (state != 2) = true := by rw [bne_iff_ne]; omega
      by_cases h3 : state = 3
      · subst h3
        have HT := Lib.hid (fun W => rscript_any s name W hs hn)
        rw [fndR_three]
        generalize scr s name (s.size + 1) 0 0 = R at *
        clear h12 h0
        go_enter Tryz.func27, Tryz.ntmps27
        go_wp2_with fail
        refine (HT.out _).mono ?_
        rintro e w1 ⟨rfl, hbl⟩
        have HB := Lib.hid hbl
        clear hbl
        go_wp2
        go_ret
        exact ⟨rfl, HB.out⟩
      · have e3 : (state == 3) = false := by rw [beq_eq_false_iff_ne]; exact h3
        rw [fndR_else s name state h0 (by omega) (by omega) h3]
        clear h12 h0 h3
        go_enter Tryz.func27, Tryz.ntmps27
        go_wp2
        go_ret
        exact ⟨rfl, Below.refl _ _⟩

def litA : ByteArray := ⟨#[97, 60, 47, 98, 60, 47, 112, 62]⟩
def litB : ByteArray := ⟨#[60, 33, 45, 45, 60, 115, 99, 114, 105, 112, 116, 62, 60, 47, 115, 99, 114, 105, 112, 116, 62, 45, 45, 62, 60, 47, 115, 99, 114, 105, 112, 116, 62]⟩
theorem lit_A : fndR litA ⟨#[112]⟩ 1 = 4 := by kernel_rfl
theorem lit_B : fndR litB ⟨#[115, 99, 114, 105, 112, 116]⟩ 3 = 24 := by kernel_rfl
theorem lit_C : fndR ⟨#[97]⟩ ⟨#[112]⟩ 4 = 1 := by kernel_rfl
theorem lit_D : fndR ⟨#[97]⟩ ⟨#[112]⟩ 0 = 0 := by kernel_rfl
end Go.Proofs.YtceelfomgcbkiaaGreatDoor.Q
