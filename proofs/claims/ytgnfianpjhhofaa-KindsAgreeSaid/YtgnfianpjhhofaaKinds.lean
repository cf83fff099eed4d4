/-
  The walks of layer 6 (kinds): the program's.
-/
import Derived.Test.YtgnfianpjhhofaaKPlain
namespace Go.Proofs.Ytgnfianpjhhofaa.K
open Go.RowKit Go.Proofs.Ytgnfianpjhhofaa.W

theorem ret_int {a b : Int} (h : a = b) : Ending.returned (.int .i64 a) = .returned (.int .i64 b) := by rw [h]
theorem eqL_yes {a : ByteArray} {l : List UInt8} (h : a = ⟨l.toArray⟩) : (a.toList == l) = true := by rw [h, ByteArray.toList_eq]; simp
theorem eqL_no {a : ByteArray} {l : List UInt8} (h : a ≠ ⟨l.toArray⟩) : (a.toList == l) = false := by
  rw [beq_eq_false_iff_ne]; intro e; apply h; apply eq_of_list; rw [ByteArray.toList_eq] at e; rw [e]
theorem int_no {a b : Int} (h : a ≠ b) : (a == b) = false := by simpa using h
set_option maxHeartbeats 1600000 in
set_option maxRecDepth 100000 in
theorem html_any (space : Int) (name list : ByteArray) (hl : list.size ≤ 1000000) (w : World) :
    Calls Try.prog 41 #[.int .i64 space, .string name, .string list] w fun e w' => e = .returned (.bool (isOf space name list)) ∧ Below w.heap.size w w' := by
  by_cases h0 : space = 0
  · subst h0
    rw [isOf_html]
    go_enter Try.func41, Try.ntmps41
    go_wp2_with fail
    refine (in_any list name _ hl).mono ?_
    rintro e w1 ⟨rfl, hb⟩
    have HB := Lib.hid hb
    clear hb
    go_wp2
    go_ret
    exact ⟨rfl, HB.out⟩
  · rw [isOf_other h0]
    have h0' : (space == 0) = false := by simpa using h0
    clear h0
    go_enter Try.func41, Try.ntmps41
    go_wp2
    go_ret
    exact ⟨rfl, Below.refl _ _⟩

set_option maxHeartbeats 1600000 in
set_option maxRecDepth 100000 in
theorem formatting_any (space : Int) (name : ByteArray) (w : World) :
    Calls Try.prog 15 #[.int .i64 space, .string name] w fun e w' => e = .returned (.bool (isOf space name formattingB)) ∧ Below w.heap.size w w' := by
  go_enter Try.func15, Try.ntmps15
  go_wp2_with fail
  refine (html_any space name formattingB sz_formatting _).mono ?_
  rintro e w1 ⟨rfl, hb⟩
  have HB := Lib.hid hb
  clear hb
  go_wp2
  go_ret
  exact ⟨rfl, HB.out⟩

set_option maxHeartbeats 1600000 in
set_option maxRecDepth 100000 in
theorem void_any (space : Int) (name : ByteArray) (w : World) :
    Calls Try.prog 17 #[.int .i64 space, .string name] w fun e w' => e = .returned (.bool (isOf space name voidB)) ∧ Below w.heap.size w w' := by
  go_enter Try.func17, Try.ntmps17
  go_wp2_with fail
  refine (html_any space name voidB sz_void _).mono ?_
  rintro e w1 ⟨rfl, hb⟩
  have HB := Lib.hid hb
  clear hb
  go_wp2
  go_ret
  exact ⟨rfl, HB.out⟩

set_option maxHeartbeats 1600000 in
set_option maxRecDepth 100000 in
theorem heading_any (space : Int) (name : ByteArray) (w : World) :
    Calls Try.prog 19 #[.int .i64 space, .string name] w fun e w' => e = .returned (.bool (isOf space name headingB)) ∧ Below w.heap.size w w' := by
  go_enter Try.func19, Try.ntmps19
  go_wp2_with fail
  refine (html_any space name headingB sz_heading _).mono ?_
  rintro e w1 ⟨rfl, hb⟩
  have HB := Lib.hid hb
  clear hb
  go_wp2
  go_ret
  exact ⟨rfl, HB.out⟩

set_option maxHeartbeats 1600000 in
set_option maxRecDepth 100000 in
theorem implied_any (space : Int) (name : ByteArray) (w : World) :
    Calls Try.prog 21 #[.int .i64 space, .string name] w fun e w' => e = .returned (.bool (isOf space name impliedB)) ∧ Below w.heap.size w w' := by
  go_enter Try.func21, Try.ntmps21
  go_wp2_with fail
  refine (html_any space name impliedB sz_implied _).mono ?_
  rintro e w1 ⟨rfl, hb⟩
  have HB := Lib.hid hb
  clear hb
  go_wp2
  go_ret
  exact ⟨rfl, HB.out⟩

set_option maxHeartbeats 1600000 in
set_option maxRecDepth 100000 in
theorem marker_any (space : Int) (name : ByteArray) (w : World) :
    Calls Try.prog 25 #[.int .i64 space, .string name] w fun e w' => e = .returned (.bool (isOf space name markerB)) ∧ Below w.heap.size w w' := by
  go_enter Try.func25, Try.ntmps25
  go_wp2_with fail
  refine (html_any space name markerB sz_marker _).mono ?_
  rintro e w1 ⟨rfl, hb⟩
  have HB := Lib.hid hb
  clear hb
  go_wp2
  go_ret
  exact ⟨rfl, HB.out⟩

set_option maxHeartbeats 1600000 in
set_option maxRecDepth 100000 in
theorem block_any (name : ByteArray) (w : World) :
    Calls Try.prog 23 #[.string name] w fun e w' => e = .returned (.bool (inL blockB name)) ∧ Below w.heap.size w w' := by
  go_enter Try.func23, Try.ntmps23
  go_wp2_with fail
  refine (in_any blockB name _ sz_block).mono ?_
  rintro e w1 ⟨rfl, hb⟩
  have HB := Lib.hid hb
  clear hb
  go_wp2
  go_ret
  exact ⟨rfl, HB.out⟩

set_option maxHeartbeats 1600000 in
set_option maxRecDepth 100000 in
theorem breakout_any (name : ByteArray) (w : World) :
    Calls Try.prog 29 #[.string name] w fun e w' => e = .returned (.bool (inL breakoutB name)) ∧ Below w.heap.size w w' := by
  go_enter Try.func29, Try.ntmps29
  go_wp2_with fail
  refine (in_any breakoutB name _ sz_breakout).mono ?_
  rintro e w1 ⟨rfl, hb⟩
  have HB := Lib.hid hb
  clear hb
  go_wp2
  go_ret
  exact ⟨rfl, HB.out⟩

set_option maxHeartbeats 1600000 in
set_option maxRecDepth 100000 in
theorem special_any (space : Int) (name : ByteArray) (w : World) :
    Calls Try.prog 13 #[.int .i64 space, .string name] w fun e w' => e = .returned (.bool (specialK space name)) ∧ Below w.heap.size w w' := by
  by_cases h0 : space = 0
  · subst h0
    rw [specialK_html]
    go_enter Try.func13, Try.ntmps13
    go_wp2_with fail
    refine (in_any specialHtmlB name _ sz_specialHtml).mono ?_
    rintro e w1 ⟨rfl, hb⟩
    have HB := Lib.hid hb
    clear hb
    go_wp2
    go_ret
    exact ⟨rfl, HB.out⟩
  · by_cases h1 : space = 1
    · subst h1
      rw [specialK_svg]
      go_enter Try.func13, Try.ntmps13
      go_wp2_with fail
      refine (in_any specialSvgB name _ sz_specialSvg).mono ?_
      rintro e w1 ⟨rfl, hb⟩
      have HB := Lib.hid hb
      clear hb
      go_wp2
      go_ret
      exact ⟨rfl, HB.out⟩
    · by_cases h2 : space = 2
      · subst h2
        rw [specialK_math]
        go_enter Try.func13, Try.ntmps13
        go_wp2_with fail
        refine (in_any specialMathB name _ sz_specialMath).mono ?_
        rintro e w1 ⟨rfl, hb⟩
        have HB := Lib.hid hb
        clear hb
        go_wp2
        go_ret
        exact ⟨rfl, HB.out⟩
      · rw [specialK_other h0 h1 h2]
        have h0' := int_no h0
        have h1' := int_no h1
        have h2' := int_no h2
        clear h0 h1 h2
        go_enter Try.func13, Try.ntmps13
        go_wp2
        go_ret
        exact ⟨rfl, Below.refl _ _⟩

set_option maxHeartbeats 1600000 in
set_option maxRecDepth 100000 in
theorem few_any (space : Int) (name : ByteArray) (w : World) :
    Calls Try.prog 43 #[.int .i64 space, .string name] w fun e w' => e = .returned (.bool (fewK space name)) ∧ Below w.heap.size w w' := by
  by_cases h0 : space = 0
  · subst h0
    rw [fewK_html]
    go_enter Try.func43, Try.ntmps43
    go_wp2_with fail
    refine (in_any stopsDefaultB name _ sz_stopsDefault).mono ?_
    rintro e w1 ⟨rfl, hb⟩
    have HB := Lib.hid hb
    clear hb
    go_wp2
    go_ret
    exact ⟨rfl, HB.out⟩
  · rw [fewK_other h0]
    have h0' := int_no h0
    clear h0
    go_enter Try.func43, Try.ntmps43
    go_wp2_with fail
    refine (special_any space name _).mono ?_
    rintro e w1 ⟨rfl, hb⟩
    have HB := Lib.hid hb
    clear hb
    go_wp2
    go_ret
    exact ⟨rfl, HB.out⟩

theorem below_step {w w1 w2 : World} (h : Hid (Below w.heap.size w w1)) (h2 : Below w1.heap.size w1 w2) : Hid (Below w.heap.size w w2) := Lib.hid (h.out.trans (h2.mono h.out.size))

set_option maxHeartbeats 1600000 in
set_option maxRecDepth 100000 in
theorem stops_any (scope space : Int) (name : ByteArray) (w : World) :
    Calls Try.prog 27 #[.int .i64 scope, .int .i64 space, .string name] w fun e w' => e = .returned (.bool (stopsK scope space name)) ∧ Below w.heap.size w w' := by
  by_cases s0 : scope = 0
  · subst s0
    show Calls _ _ _ _ fun e w' => e = .returned (.bool (fewK space name)) ∧ _
    go_enter Try.func27, Try.ntmps27
    go_wp2_with fail
    refine (few_any space name _).mono ?_
    rintro e w1 ⟨rfl, hb⟩
    have HB := Lib.hid hb
    clear hb
    go_wp2
    go_ret
    exact ⟨rfl, HB.out⟩
  have s0' := int_no s0
  by_cases s1 : scope = 1
  · subst s1
    show Calls _ _ _ _ fun e w' => e = .returned (.bool (fewK space name || isOf space name stopsItemB)) ∧ _
    clear s0 s0'
    have HF := Lib.hid (fun W => few_any space name W)
    generalize fewK space name = b at *
    cases b with
    | true =>
      go_enter Try.func27, Try.ntmps27
      go_wp2_with fail
      refine (HF.out _).mono ?_
      rintro e w1 ⟨rfl, hb⟩
      have HB := Lib.hid hb
      clear hb
      go_wp2
      go_ret
      exact ⟨rfl, HB.out⟩
    | false =>
      go_enter Try.func27, Try.ntmps27
      go_wp2_with fail
      refine (HF.out _).mono ?_
      rintro e w1 ⟨rfl, hb⟩
      have HB := Lib.hid hb
      clear hb
      go_wp2_with fail
      refine (html_any space name stopsItemB sz_stopsItem _).mono ?_
      rintro e w2 ⟨rfl, hb⟩
      replace HB := below_step HB hb
      clear hb
      go_wp2
      go_ret
      exact ⟨by rw [Bool.false_or]; rfl, HB.out⟩
  have s1' := int_no s1
  by_cases s2 : scope = 2
  · subst s2
    show Calls _ _ _ _ fun e w' => e = .returned (.bool (fewK space name || isOf space name stopsButtonB)) ∧ _
    clear s0 s0' s1 s1'
    have HF := Lib.hid (fun W => few_any space name W)
    generalize fewK space name = b at *
    cases b with
    | true =>
      go_enter Try.func27, Try.ntmps27
      go_wp2_with fail
      refine (HF.out _).mono ?_
      rintro e w1 ⟨rfl, hb⟩
      have HB := Lib.hid hb
      clear hb
      go_wp2
      go_ret
      exact ⟨rfl, HB.out⟩
    | false =>
      go_enter Try.func27, Try.ntmps27
      go_wp2_with fail
      refine (HF.out _).mono ?_
      rintro e w1 ⟨rfl, hb⟩
      have HB := Lib.hid hb
      clear hb
      go_wp2_with fail
      refine (html_any space name stopsButtonB sz_stopsButton _).mono ?_
      rintro e w2 ⟨rfl, hb⟩
      replace HB := below_step HB hb
      clear hb
      go_wp2
      go_ret
      exact ⟨by rw [Bool.false_or]; rfl, HB.out⟩
  have s2' := int_no s2
  by_cases s3 : scope = 3
  · subst s3
    show Calls _ _ _ _ fun e w' => e = .returned (.bool (isOf space name stopsTableB)) ∧ _
    clear s0 s0' s1 s1' s2 s2'
    go_enter Try.func27, Try.ntmps27
    go_wp2_with fail
    refine (html_any space name stopsTableB sz_stopsTable _).mono ?_
    rintro e w1 ⟨rfl, hb⟩
    have HB := Lib.hid hb
    clear hb
    go_wp2
    go_ret
    exact ⟨rfl, HB.out⟩
  have s3' := int_no s3
  by_cases s4 : scope = 4
  · subst s4
    show Calls _ _ _ _ fun e w' => e = .returned (.bool (!isOf space name passesSelectB)) ∧ _
    clear s0 s0' s1 s1' s2 s2' s3 s3'
    go_enter Try.func27, Try.ntmps27
    go_wp2_with fail
    refine (html_any space name passesSelectB sz_passesSelect _).mono ?_
    rintro e w1 ⟨rfl, hb⟩
    have HB := Lib.hid hb
    clear hb
    go_wp2
    go_ret
    exact ⟨rfl, HB.out⟩
  have s4' := int_no s4
  have hv : stopsK scope space name = true := by unfold stopsK; rw [if_neg s0, if_neg s1, if_neg s2, if_neg s3, if_neg s4]
  rw [hv]
  clear s0 s1 s2 s3 s4 hv
  go_enter Try.func27, Try.ntmps27
  go_wp2
  go_ret
  exact ⟨rfl, Below.refl _ _⟩

set_option maxHeartbeats 1600000 in
set_option maxRecDepth 100000 in
theorem lexed_any (name : ByteArray) (w : World) :
    Calls Try.prog 31 #[.string name] w fun e w' => e = .returned (.int .i64 (lexedK name)) ∧ Below w.heap.size w w' := by
  have HA := Lib.hid (fun W => in_any rcdataB name W sz_rcdata)
  have HC := Lib.hid (fun W => in_any rawtextB name W sz_rawtext)
  unfold lexedK inL
  generalize hasW (spl rcdataB) name = a at *
  generalize hasW (spl rawtextB) name = c at *
  cases a with
  | true =>
    rw [if_pos rfl]
    go_enter Try.func31, Try.ntmps31
    go_wp2_with fail
    refine (HA.out _).mono ?_
    rintro e w1 ⟨rfl, hb⟩
    have HB := Lib.hid hb
    clear hb
    go_wp2
    go_ret
    exact ⟨rfl, HB.out⟩
  | false =>
    rw [if_neg (by decide)]
    cases c with
    | true =>
      rw [if_pos rfl]
      go_enter Try.func31, Try.ntmps31
      go_wp2_with fail
      refine (HA.out _).mono ?_
      rintro e w1 ⟨rfl, hb⟩
      have HB := Lib.hid hb
      clear hb
      go_wp2_with fail
      refine (HC.out _).mono ?_
      rintro e w2 ⟨rfl, hb⟩
      replace HB := below_step HB hb
      clear hb
      go_wp2
      go_ret
      exact ⟨rfl, HB.out⟩
    | false =>
      rw [if_neg (by decide)]
      by_cases h1 : name = ⟨#[115, 99, 114, 105, 112, 116]⟩
      · rw [if_pos h1]
        have q1 := eqL_yes h1
        have H1 := Lib.hid h1
        clear h1
        go_enter Try.func31, Try.ntmps31
        go_wp2_with fail
        refine (HA.out _).mono ?_
        rintro e w1 ⟨rfl, hb⟩
        have HB := Lib.hid hb
        clear hb
        go_wp2_with fail
        refine (HC.out _).mono ?_
        rintro e w2 ⟨rfl, hb⟩
        replace HB := below_step HB hb
        clear hb
        go_wp2
        go_ret
        exact ⟨rfl, HB.out⟩
      · rw [if_neg h1]
        have q1 := eqL_no h1
        clear h1
        by_cases h2 : name = ⟨#[112, 108, 97, 105, 110, 116, 101, 120, 116]⟩
        · rw [if_pos h2]
          have q2 := eqL_yes h2
          have H2 := Lib.hid h2
          clear h2
          go_enter Try.func31, Try.ntmps31
          go_wp2_with fail
          refine (HA.out _).mono ?_
          rintro e w1 ⟨rfl, hb⟩
          have HB := Lib.hid hb
          clear hb
          go_wp2_with fail
          refine (HC.out _).mono ?_
          rintro e w2 ⟨rfl, hb⟩
          replace HB := below_step HB hb
          clear hb
          go_wp2
          go_ret
          exact ⟨rfl, HB.out⟩
        · rw [if_neg h2]
          have q2 := eqL_no h2
          clear h2
          go_enter Try.func31, Try.ntmps31
          go_wp2_with fail
          refine (HA.out _).mono ?_
          rintro e w1 ⟨rfl, hb⟩
          have HB := Lib.hid hb
          clear hb
          go_wp2_with fail
          refine (HC.out _).mono ?_
          rintro e w2 ⟨rfl, hb⟩
          replace HB := below_step HB hb
          clear hb
          go_wp2
          go_ret
          exact ⟨rfl, HB.out⟩
end Go.Proofs.Ytgnfianpjhhofaa.K
