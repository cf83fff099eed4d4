/-
  The walks of layer 6 (kinds): the document's own.
-/
import Derived.Test.YtgnfianpjhhofaaKinds
namespace Go.Proofs.Ytgnfianpjhhofaa.K
open Go.RowKit Go.Proofs.Ytgnfianpjhhofaa.W

set_option maxHeartbeats 1600000 in
set_option maxRecDepth 100000 in
theorem rhtml_any (space : Int) (name list : ByteArray) (hl : list.size ≤ 1000000) (w : World) :
    Calls Try.prog 40 #[.int .i64 space, .string name, .string list] w fun e w' => e = .returned (.bool (isOf space name list)) ∧ Below w.heap.size w w' := by
  by_cases h0 : space = 0
  · subst h0
    rw [isOf_html]
    go_enter Try.func40, Try.ntmps40
    go_wp2_with fail
    refine (rin_any list name _ hl).mono ?_
    rintro e w1 ⟨rfl, hb⟩
    have HB := Lib.hid hb
    clear hb
    go_wp2
    go_ret
    exact ⟨rfl, HB.out⟩
  · rw [isOf_other h0]
    have h0' : (space == 0) = false := by simpa using h0
    clear h0
    go_enter Try.func40, Try.ntmps40
    go_wp2
    go_ret
    exact ⟨rfl, Below.refl _ _⟩

set_option maxHeartbeats 1600000 in
set_option maxRecDepth 100000 in
theorem rformatting_any (space : Int) (name : ByteArray) (w : World) :
    Calls Try.prog 16 #[.int .i64 space, .string name] w fun e w' => e = .returned (.bool (isOf space name formattingB)) ∧ Below w.heap.size w w' := by
  go_enter Try.func16, Try.ntmps16
  go_wp2_with fail
  refine (rhtml_any space name formattingB sz_formatting _).mono ?_
  rintro e w1 ⟨rfl, hb⟩
  have HB := Lib.hid hb
  clear hb
  go_wp2
  go_ret
  exact ⟨rfl, HB.out⟩

set_option maxHeartbeats 1600000 in
set_option maxRecDepth 100000 in
theorem rvoid_any (space : Int) (name : ByteArray) (w : World) :
    Calls Try.prog 18 #[.int .i64 space, .string name] w fun e w' => e = .returned (.bool (isOf space name voidB)) ∧ Below w.heap.size w w' := by
  go_enter Try.func18, Try.ntmps18
  go_wp2_with fail
  refine (rhtml_any space name voidB sz_void _).mono ?_
  rintro e w1 ⟨rfl, hb⟩
  have HB := Lib.hid hb
  clear hb
  go_wp2
  go_ret
  exact ⟨rfl, HB.out⟩

set_option maxHeartbeats 1600000 in
set_option maxRecDepth 100000 in
theorem rheading_any (space : Int) (name : ByteArray) (w : World) :
    Calls Try.prog 20 #[.int .i64 space, .string name] w fun e w' => e = .returned (.bool (isOf space name headingB)) ∧ Below w.heap.size w w' := by
  go_enter Try.func20, Try.ntmps20
  go_wp2_with fail
  refine (rhtml_any space name headingB sz_heading _).mono ?_
  rintro e w1 ⟨rfl, hb⟩
  have HB := Lib.hid hb
  clear hb
  go_wp2
  go_ret
  exact ⟨rfl, HB.out⟩

set_option maxHeartbeats 1600000 in
set_option maxRecDepth 100000 in
theorem rimplied_any (space : Int) (name : ByteArray) (w : World) :
    Calls Try.prog 22 #[.int .i64 space, .string name] w fun e w' => e = .returned (.bool (isOf space name impliedB)) ∧ Below w.heap.size w w' := by
  go_enter Try.func22, Try.ntmps22
  go_wp2_with fail
  refine (rhtml_any space name impliedB sz_implied _).mono ?_
  rintro e w1 ⟨rfl, hb⟩
  have HB := Lib.hid hb
  clear hb
  go_wp2
  go_ret
  exact ⟨rfl, HB.out⟩

set_option maxHeartbeats 1600000 in
set_option maxRecDepth 100000 in
theorem rmarker_any (space : Int) (name : ByteArray) (w : World) :
    Calls Try.prog 26 #[.int .i64 space, .string name] w fun e w' => e = .returned (.bool (isOf space name markerB)) ∧ Below w.heap.size w w' := by
  go_enter Try.func26, Try.ntmps26
  go_wp2_with fail
  refine (rhtml_any space name markerB sz_marker _).mono ?_
  rintro e w1 ⟨rfl, hb⟩
  have HB := Lib.hid hb
  clear hb
  go_wp2
  go_ret
  exact ⟨rfl, HB.out⟩

set_option maxHeartbeats 1600000 in
set_option maxRecDepth 100000 in
theorem rblock_any (name : ByteArray) (w : World) :
    Calls Try.prog 24 #[.string name] w fun e w' => e = .returned (.bool (inL blockB name)) ∧ Below w.heap.size w w' := by
  go_enter Try.func24, Try.ntmps24
  go_wp2_with fail
  refine (rin_any blockB name _ sz_block).mono ?_
  rintro e w1 ⟨rfl, hb⟩
  have HB := Lib.hid hb
  clear hb
  go_wp2
  go_ret
  exact ⟨rfl, HB.out⟩

set_option maxHeartbeats 1600000 in
set_option maxRecDepth 100000 in
theorem rbreakout_any (name : ByteArray) (w : World) :
    Calls Try.prog 30 #[.string name] w fun e w' => e = .returned (.bool (inL breakoutB name)) ∧ Below w.heap.size w w' := by
  go_enter Try.func30, Try.ntmps30
  go_wp2_with fail
  refine (rin_any breakoutB name _ sz_breakout).mono ?_
  rintro e w1 ⟨rfl, hb⟩
  have HB := Lib.hid hb
  clear hb
  go_wp2
  go_ret
  exact ⟨rfl, HB.out⟩

theorem forK_math (name : ByteArray) : forK 2 name = inL specialMathB name := by show (true && inL specialMathB name || (false && _)) = _; simp
theorem forK_svg (name : ByteArray) : forK 1 name = inL specialSvgB name := by show (false || (true && inL specialSvgB name)) = _; simp

set_option maxHeartbeats 1600000 in
set_option maxRecDepth 100000 in
theorem rforeign_any (space : Int) (name : ByteArray) (w : World) :
    Calls Try.prog 39 #[.int .i64 space, .string name] w fun e w' => e = .returned (.bool (forK space name)) ∧ Below w.heap.size w w' := by
  by_cases h2 : space = 2
  · subst h2
    rw [forK_math]
    have HM := Lib.hid (fun W => rin_any specialMathB name W sz_specialMath)
    unfold inL
    generalize hasW (spl specialMathB) name = b at *
    cases b with
    | true =>
      go_enter Try.func39, Try.ntmps39
      go_wp2_with fail
      refine (HM.out _).mono ?_
      rintro e w1 ⟨rfl, hb⟩
      have HB := Lib.hid hb
      clear hb
      go_wp2
      go_ret
      exact ⟨rfl, HB.out⟩
    | false =>
      go_enter Try.func39, Try.ntmps39
      go_wp2_with fail
      refine (HM.out _).mono ?_
      rintro e w1 ⟨rfl, hb⟩
      have HB := Lib.hid hb
      clear hb
      go_wp2
      go_ret
      exact ⟨rfl, HB.out⟩
  · have h2' := int_no h2
    by_cases h1 : space = 1
    · subst h1
      rw [forK_svg]
      clear h2 h2'
      go_enter Try.func39, Try.ntmps39
      go_wp2_with fail
      refine (rin_any specialSvgB name _ sz_specialSvg).mono ?_
      rintro e w1 ⟨rfl, hb⟩
      have HB := Lib.hid hb
      clear hb
      go_wp2
      go_ret
      exact ⟨rfl, HB.out⟩
    · rw [forK_other h1 h2]
      have h1' := int_no h1
      clear h1 h2
      go_enter Try.func39, Try.ntmps39
      go_wp2
      go_ret
      exact ⟨rfl, Below.refl _ _⟩

set_option maxHeartbeats 1600000 in
set_option maxRecDepth 100000 in
theorem rspecial_any (space : Int) (name : ByteArray) (w : World) :
    Calls Try.prog 14 #[.int .i64 space, .string name] w fun e w' => e = .returned (.bool (specialK space name)) ∧ Below w.heap.size w w' := by
  unfold specialK
  have HF := Lib.hid (fun W => rforeign_any space name W)
  generalize forK space name = b at *
  cases b with
  | true =>
    go_enter Try.func14, Try.ntmps14
    go_wp2_with fail
    refine (HF.out _).mono ?_
    rintro e w1 ⟨rfl, hb⟩
    have HB := Lib.hid hb
    clear hb
    go_wp2
    go_ret
    exact ⟨rfl, HB.out⟩
  | false =>
    go_enter Try.func14, Try.ntmps14
    go_wp2_with fail
    refine (HF.out _).mono ?_
    rintro e w1 ⟨rfl, hb⟩
    have HB := Lib.hid hb
    clear hb
    go_wp2_with fail
    refine (rhtml_any space name specialHtmlB sz_specialHtml _).mono ?_
    rintro e w2 ⟨rfl, hb⟩
    replace HB := below_step HB hb
    clear hb
    go_wp2
    go_ret
    exact ⟨by rw [Bool.false_or]; rfl, HB.out⟩

set_option maxHeartbeats 1600000 in
set_option maxRecDepth 100000 in
theorem rstops_any (scope space : Int) (name : ByteArray) (w : World) :
    Calls Try.prog 28 #[.int .i64 scope, .int .i64 space, .string name] w fun e w' => e = .returned (.bool (stopsK scope space name)) ∧ Below w.heap.size w w' := by
  have HF := Lib.hid (fun W => rforeign_any space name W)
  have HD := Lib.hid (fun W => rhtml_any space name stopsDefaultB sz_stopsDefault W)
  have HI := Lib.hid (fun W => rhtml_any space name stopsItemB sz_stopsItem W)
  have HU := Lib.hid (fun W => rhtml_any space name stopsButtonB sz_stopsButton W)
  have HT := Lib.hid (fun W => rhtml_any space name stopsTableB sz_stopsTable W)
  have HP := Lib.hid (fun W => rhtml_any space name passesSelectB sz_passesSelect W)
  unfold stopsK fewK
  generalize forK space name = f at *
  generalize isOf space name stopsDefaultB = d at *
  generalize isOf space name stopsItemB = i at *
  generalize isOf space name stopsButtonB = u at *
  generalize isOf space name stopsTableB = t at *
  generalize isOf space name passesSelectB = p at *
  have key : ∃ s : Nat, (s = 0 ∧ scope = 0) ∨ (s = 1 ∧ scope = 1) ∨ (s = 2 ∧ scope = 2) ∨ (s = 3 ∧ scope = 3) ∨ (s = 4 ∧ scope = 4) ∨ (s = 5 ∧ scope ≠ 0 ∧ scope ≠ 1 ∧ scope ≠ 2 ∧ scope ≠ 3 ∧ scope ≠ 4) := by
    by_cases s0 : scope = 0
    · exact ⟨0, by simp [s0]⟩
    by_cases s1 : scope = 1
    · exact ⟨1, by simp [s1]⟩
    by_cases s2 : scope = 2
    · exact ⟨2, by simp [s2]⟩
    by_cases s3 : scope = 3
    · exact ⟨3, by simp [s3]⟩
    by_cases s4 : scope = 4
    · exact ⟨4, by simp [s4]⟩
    exact ⟨5, by simp [s0, s1, s2, s3, s4]⟩
  obtain ⟨_, ⟨_, rfl⟩ | ⟨_, rfl⟩ | ⟨_, rfl⟩ | ⟨_, rfl⟩ | ⟨_, rfl⟩ | ⟨_, s0, s1, s2, s3, s4⟩⟩ := key
  · clear HI HU HT HP
    show Calls _ _ _ _ fun e w' => e = .returned (.bool (f || d)) ∧ _
    cases f with
    | true =>
      go_enter Try.func28, Try.ntmps28
      go_wp2_with fail
      refine (HF.out _).mono ?_
      rintro e w1 ⟨rfl, hb⟩
      have HB := Lib.hid hb
      clear hb
      go_wp2
      go_ret
      exact ⟨rfl, HB.out⟩
    | false =>
      cases d with
      | true =>
        go_enter Try.func28, Try.ntmps28
        go_wp2_with fail
        refine (HF.out _).mono ?_
        rintro e w1 ⟨rfl, hb⟩
        have HB := Lib.hid hb
        clear hb
        go_wp2_with fail
        refine (HD.out _).mono ?_
        rintro e w2 ⟨rfl, hb⟩
        replace HB := below_step HB hb
        clear hb
        go_wp2
        go_ret
        exact ⟨rfl, HB.out⟩
      | false =>
        go_enter Try.func28, Try.ntmps28
        go_wp2_with fail
        refine (HF.out _).mono ?_
        rintro e w1 ⟨rfl, hb⟩
        have HB := Lib.hid hb
        clear hb
        go_wp2_with fail
        refine (HD.out _).mono ?_
        rintro e w2 ⟨rfl, hb⟩
        replace HB := below_step HB hb
        clear hb
        go_wp2
        go_ret
        exact ⟨rfl, HB.out⟩
  · clear HU HT HP
    show Calls _ _ _ _ fun e w' => e = .returned (.bool ((f || d) || i)) ∧ _
    cases f with
    | true =>
      go_enter Try.func28, Try.ntmps28
      go_wp2_with fail
      refine (HF.out _).mono ?_
      rintro e w1 ⟨rfl, hb⟩
      have HB := Lib.hid hb
      clear hb
      go_wp2
      go_ret
      exact ⟨by first | rfl | (rw [Bool.false_or]; rfl) | (simp; done), HB.out⟩
    | false =>
      cases d with
      | true =>
        go_enter Try.func28, Try.ntmps28
        go_wp2_with fail
        refine (HF.out _).mono ?_
        rintro e w1 ⟨rfl, hb⟩
        have HB := Lib.hid hb
        clear hb
        go_wp2_with fail
        refine (HD.out _).mono ?_
        rintro e w2 ⟨rfl, hb⟩
        replace HB := below_step HB hb
        clear hb
        go_wp2
        go_ret
        exact ⟨by first | rfl | (rw [Bool.false_or]; rfl) | (simp; done), HB.out⟩
      | false =>
        go_enter Try.func28, Try.ntmps28
        go_wp2_with fail
        refine (HF.out _).mono ?_
        rintro e w1 ⟨rfl, hb⟩
        have HB := Lib.hid hb
        clear hb
        go_wp2_with fail
        refine (HD.out _).mono ?_
        rintro e w2 ⟨rfl, hb⟩
        replace HB := below_step HB hb
        clear hb
        go_wp2_with fail
        refine (HI.out _).mono ?_
        rintro e w3 ⟨rfl, hb⟩
        replace HB := below_step HB hb
        clear hb
        go_wp2
        go_ret
        exact ⟨by first | rfl | (rw [Bool.false_or]; rfl) | (simp; done), HB.out⟩
  · clear HI HT HP
    show Calls _ _ _ _ fun e w' => e = .returned (.bool ((f || d) || u)) ∧ _
    cases f with
    | true =>
      go_enter Try.func28, Try.ntmps28
      go_wp2_with fail
      refine (HF.out _).mono ?_
      rintro e w1 ⟨rfl, hb⟩
      have HB := Lib.hid hb
      clear hb
      go_wp2
      go_ret
      exact ⟨by first | rfl | (rw [Bool.false_or]; rfl) | (simp; done), HB.out⟩
    | false =>
      cases d with
      | true =>
        go_enter Try.func28, Try.ntmps28
        go_wp2_with fail
        refine (HF.out _).mono ?_
        rintro e w1 ⟨rfl, hb⟩
        have HB := Lib.hid hb
        clear hb
        go_wp2_with fail
        refine (HD.out _).mono ?_
        rintro e w2 ⟨rfl, hb⟩
        replace HB := below_step HB hb
        clear hb
        go_wp2
        go_ret
        exact ⟨by first | rfl | (rw [Bool.false_or]; rfl) | (simp; done), HB.out⟩
      | false =>
        go_enter Try.func28, Try.ntmps28
        go_wp2_with fail
        refine (HF.out _).mono ?_
        rintro e w1 ⟨rfl, hb⟩
        have HB := Lib.hid hb
        clear hb
        go_wp2_with fail
        refine (HD.out _).mono ?_
        rintro e w2 ⟨rfl, hb⟩
        replace HB := below_step HB hb
        clear hb
        go_wp2_with fail
        refine (HU.out _).mono ?_
        rintro e w3 ⟨rfl, hb⟩
        replace HB := below_step HB hb
        clear hb
        go_wp2
        go_ret
        exact ⟨by first | rfl | (rw [Bool.false_or]; rfl) | (simp; done), HB.out⟩
  · clear HI HU HP
    show Calls _ _ _ _ fun e w' => e = .returned (.bool (t)) ∧ _
    cases f with
    | true =>
      go_enter Try.func28, Try.ntmps28
      go_wp2_with fail
      refine (HF.out _).mono ?_
      rintro e w1 ⟨rfl, hb⟩
      have HB := Lib.hid hb
      clear hb
      go_wp2_with fail
      refine (HT.out _).mono ?_
      rintro e w2 ⟨rfl, hb⟩
      replace HB := below_step HB hb
      clear hb
      go_wp2
      go_ret
      exact ⟨rfl, HB.out⟩
    | false =>
      cases d with
      | true =>
        go_enter Try.func28, Try.ntmps28
        go_wp2_with fail
        refine (HF.out _).mono ?_
        rintro e w1 ⟨rfl, hb⟩
        have HB := Lib.hid hb
        clear hb
        go_wp2_with fail
        refine (HD.out _).mono ?_
        rintro e w2 ⟨rfl, hb⟩
        replace HB := below_step HB hb
        clear hb
        go_wp2_with fail
        refine (HT.out _).mono ?_
        rintro e w3 ⟨rfl, hb⟩
        replace HB := below_step HB hb
        clear hb
        go_wp2
        go_ret
        exact ⟨rfl, HB.out⟩
      | false =>
        go_enter Try.func28, Try.ntmps28
        go_wp2_with fail
        refine (HF.out _).mono ?_
        rintro e w1 ⟨rfl, hb⟩
        have HB := Lib.hid hb
        clear hb
        go_wp2_with fail
        refine (HD.out _).mono ?_
        rintro e w2 ⟨rfl, hb⟩
        replace HB := below_step HB hb
        clear hb
        go_wp2_with fail
        refine (HT.out _).mono ?_
        rintro e w3 ⟨rfl, hb⟩
        replace HB := below_step HB hb
        clear hb
        go_wp2
        go_ret
        exact ⟨rfl, HB.out⟩
  · clear HI HU HT
    show Calls _ _ _ _ fun e w' => e = .returned (.bool (!p)) ∧ _
    cases f with
    | true =>
      go_enter Try.func28, Try.ntmps28
      go_wp2_with fail
      refine (HF.out _).mono ?_
      rintro e w1 ⟨rfl, hb⟩
      have HB := Lib.hid hb
      clear hb
      go_wp2_with fail
      refine (HP.out _).mono ?_
      rintro e w2 ⟨rfl, hb⟩
      replace HB := below_step HB hb
      clear hb
      go_wp2
      go_ret
      exact ⟨rfl, HB.out⟩
    | false =>
      cases d with
      | true =>
        go_enter Try.func28, Try.ntmps28
        go_wp2_with fail
        refine (HF.out _).mono ?_
        rintro e w1 ⟨rfl, hb⟩
        have HB := Lib.hid hb
        clear hb
        go_wp2_with fail
        refine (HD.out _).mono ?_
        rintro e w2 ⟨rfl, hb⟩
        replace HB := below_step HB hb
        clear hb
        go_wp2_with fail
        refine (HP.out _).mono ?_
        rintro e w3 ⟨rfl, hb⟩
        replace HB := below_step HB hb
        clear hb
        go_wp2
        go_ret
        exact ⟨rfl, HB.out⟩
      | false =>
        go_enter Try.func28, Try.ntmps28
        go_wp2_with fail
        refine (HF.out _).mono ?_
        rintro e w1 ⟨rfl, hb⟩
        have HB := Lib.hid hb
        clear hb
        go_wp2_with fail
        refine (HD.out _).mono ?_
        rintro e w2 ⟨rfl, hb⟩
        replace HB := below_step HB hb
        clear hb
        go_wp2_with fail
        refine (HP.out _).mono ?_
        rintro e w3 ⟨rfl, hb⟩
        replace HB := below_step HB hb
        clear hb
        go_wp2
        go_ret
        exact ⟨rfl, HB.out⟩
  · clear HI HU HT HP
    rw [if_neg s0, if_neg s1, if_neg s2, if_neg s3, if_neg s4]
    have s0' := int_no s0
    have s1' := int_no s1
    have s2' := int_no s2
    have s3' := int_no s3
    have s4' : (scope != 4) = true := by simpa using s4
    clear s0 s1 s2 s3 s4
    cases f with
    | true =>
      go_enter Try.func28, Try.ntmps28
      go_wp2_with fail
      refine (HF.out _).mono ?_
      rintro e w1 ⟨rfl, hb⟩
      have HB := Lib.hid hb
      clear hb
      go_wp2
      go_ret
      exact ⟨rfl, HB.out⟩
    | false =>
      cases d with
      | true =>
        go_enter Try.func28, Try.ntmps28
        go_wp2_with fail
        refine (HF.out _).mono ?_
        rintro e w1 ⟨rfl, hb⟩
        have HB := Lib.hid hb
        clear hb
        go_wp2_with fail
        refine (HD.out _).mono ?_
        rintro e w2 ⟨rfl, hb⟩
        replace HB := below_step HB hb
        clear hb
        go_wp2
        go_ret
        exact ⟨rfl, HB.out⟩
      | false =>
        go_enter Try.func28, Try.ntmps28
        go_wp2_with fail
        refine (HF.out _).mono ?_
        rintro e w1 ⟨rfl, hb⟩
        have HB := Lib.hid hb
        clear hb
        go_wp2_with fail
        refine (HD.out _).mono ?_
        rintro e w2 ⟨rfl, hb⟩
        replace HB := below_step HB hb
        clear hb
        go_wp2
        go_ret
        exact ⟨rfl, HB.out⟩

set_option maxHeartbeats 1600000 in
set_option maxRecDepth 100000 in
theorem rlexed_any (name : ByteArray) (w : World) :
    Calls Try.prog 32 #[.string name] w fun e w' => e = .returned (.int .i64 (lexedK name)) ∧ Below w.heap.size w w' := by
  have HA := Lib.hid (fun W => rin_any rcdataB name W sz_rcdata)
  have HC := Lib.hid (fun W => rin_any rawtextB name W sz_rawtext)
  unfold lexedK inL
  generalize hasW (spl rcdataB) name = a at *
  generalize hasW (spl rawtextB) name = c at *
  cases a with
  | true =>
    rw [if_pos rfl]
    go_enter Try.func32, Try.ntmps32
    go_wp2_with fail
    refine (HA.out _).mono ?_
    rintro e w1 ⟨rfl, hb⟩
    have HB := Lib.hid hb
    clear hb
    go_wp2
    go_ret
    exact ⟨rfl, HB.out⟩
  | false =>
    rw [if_neg (by decide)]
    cases c with
    | true =>
      rw [if_pos rfl]
      go_enter Try.func32, Try.ntmps32
      go_wp2_with fail
      refine (HA.out _).mono ?_
      rintro e w1 ⟨rfl, hb⟩
      have HB := Lib.hid hb
      clear hb
      go_wp2_with fail
      refine (HC.out _).mono ?_
      rintro e w2 ⟨rfl, hb⟩
      replace HB := below_step HB hb
      clear hb
      go_wp2
      go_ret
      exact ⟨rfl, HB.out⟩
    | false =>
      rw [if_neg (by decide)]
      by_cases h1 : name = ⟨#[115, 99, 114, 105, 112, 116]⟩
      · rw [if_pos h1]
        have q1 := eqL_yes h1
        have H1 := Lib.hid h1
        clear h1
        go_enter Try.func32, Try.ntmps32
        go_wp2_with fail
        refine (HA.out _).mono ?_
        rintro e w1 ⟨rfl, hb⟩
        have HB := Lib.hid hb
        clear hb
        go_wp2_with fail
        refine (HC.out _).mono ?_
        rintro e w2 ⟨rfl, hb⟩
        replace HB := below_step HB hb
        clear hb
        go_wp2
        go_ret
        exact ⟨rfl, HB.out⟩
      · rw [if_neg h1]
        have q1 := eqL_no h1
        clear h1
        by_cases h2 : name = ⟨#[112, 108, 97, 105, 110, 116, 101, 120, 116]⟩
        · rw [if_pos h2]
          have q2 := eqL_yes h2
          have H2 := Lib.hid h2
          clear h2
          go_enter Try.func32, Try.ntmps32
          go_wp2_with fail
          refine (HA.out _).mono ?_
          rintro e w1 ⟨rfl, hb⟩
          have HB := Lib.hid hb
          clear hb
          go_wp2_with fail
          refine (HC.out _).mono ?_
          rintro e w2 ⟨rfl, hb⟩
          replace HB := below_step HB hb
          clear hb
          go_wp2
          go_ret
          exact ⟨rfl, HB.out⟩
        · rw [if_neg h2]
          have q2 := eqL_no h2
          clear h2
          go_enter Try.func32, Try.ntmps32
          go_wp2_with fail
          refine (HA.out _).mono ?_
          rintro e w1 ⟨rfl, hb⟩
          have HB := Lib.hid hb
          clear hb
          go_wp2_with fail
          refine (HC.out _).mono ?_
          rintro e w2 ⟨rfl, hb⟩
          replace HB := below_step HB hb
          clear hb
          go_wp2
          go_ret
          exact ⟨rfl, HB.out⟩
end Go.Proofs.Ytgnfianpjhhofaa.K
