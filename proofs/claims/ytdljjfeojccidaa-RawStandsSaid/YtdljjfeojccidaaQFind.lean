/-
  The walks of both Finds; and of awake, some answers that the document fixes.
-/
import Derived.Test.YtdljjfeojccidaaQScript
import Derived.Test.YtdljjfeojccidaaQRscript
namespace Go.Proofs.Ytdljjfeojccidaa.Q
open Go.RowKit
open Go.Proofs.Ytdljjfeojccidaa.I (below_step)
open Go.Proofs.Ytdljjfeojccidaa.T (clB)

set_option maxHeartbeats 1600000 in
theorem find_any (s name : ByteArray) (state : Int) (w : World) (hs : s.size ≤ 10000) (hn : name.size ≤ 10000) :
    Calls Try.prog 15 #[.string s, .string name, .int .i64 state] w fun e w' => e = .returned (.int .i64 (fndR s name state : Nat)) ∧ Below w.heap.size w w' := by
  by_cases h0 : state = 0
  · subst h0
    rw [fndR_zero]
    go_enter Try.func15, Try.ntmps15
    go_wp2
    go_ret
    exact ⟨rfl, Below.refl _ _⟩
  · have e0 : (state == 0) = false := by rw [beq_eq_false_iff_ne]; exact h0
    by_cases h12 : state = 1 ∨ state = 2
    · have HF : Hid (fst (clN s name) s.size 0 = fndR s name state) := Lib.hid (by rcases h12 with rfl | rfl; exact (fndR_one s name).symm; exact (fndR_two s name).symm)
      have HT := Lib.hid (fun W => text_any s name W hs hn)
      have a12 : ((state == 1) = false ∧ (state == 2) = true) ∨ (state == 1) = true := by
        rcases h12 with rfl | rfl
        · exact .inr rfl
        · exact .inl ⟨rfl, rfl⟩
      generalize fst (clN s name) s.size 0 = R at *
      clear h12 h0
      rcases a12 with ⟨e1, e2⟩ | e1
      all_goals
        go_enter Try.func15, Try.ntmps15
        go_wp2_with fail
        refine (HT.out _).mono ?_
        rintro e w1 ⟨rfl, hbl⟩
        have HB := Lib.hid hbl
        clear hbl
        go_wp2
        go_ret
        exact ⟨ret_int (by rw [HF.out]), HB.out⟩
    · have e1 : (state == 1) = false := by rw [beq_eq_false_iff_ne]; omega
      have e2 : (state == 2) = false := by rw [beq_eq_false_iff_ne]; omega
      by_cases h3 : state = 3
      · subst h3
        have HT := Lib.hid (fun W => script_any s name W hs hn)
        rw [fndR_three]
        generalize scr s name (s.size + 1) 0 0 = R at *
        clear h12 h0
        go_enter Try.func15, Try.ntmps15
        go_wp2_with fail
        refine (HT.out _).mono ?_
        rintro e w1 ⟨rfl, hbl⟩
        have HB := Lib.hid hbl
        clear hbl
        go_wp2
        go_ret
        exact ⟨rfl, HB.out⟩
      · have e3 : (state == 3) = false := by rw [beq_eq_false_iff_ne]; exact h3
        rw [fndR_else s name state h0 (by omega) (by omega) h3]
        clear h12 h0 h3
        go_enter Try.func15, Try.ntmps15
        go_wp2
        go_ret
        exact ⟨rfl, Below.refl _ _⟩

set_option maxHeartbeats 1600000 in
theorem rfind_any (s name : ByteArray) (state : Int) (w : World) (hs : s.size ≤ 10000) (hn : name.size ≤ 10000) :
    Calls Try.prog 16 #[.string s, .string name, .int .i64 state] w fun e w' => e = .returned (.int .i64 (fndR s name state : Nat)) ∧ Below w.heap.size w w' := by
  by_cases h0 : state = 0
  · subst h0
    rw [fndR_zero]
    go_enter Try.func16, Try.ntmps16
    go_wp2
    go_ret
    exact ⟨rfl, Below.refl _ _⟩
  · by_cases h12 : state = 1 ∨ state = 2
    · have e : fst (clN s name) s.size 0 = fndR s name state := by rcases h12 with rfl | rfl; exact (fndR_one s name).symm; exact (fndR_two s name).symm
      rw [← e]
      exact rtext_any s name state h12 w hs hn
    · have e0 : (state == 0) = false := by rw [beq_eq_false_iff_ne]; exact h0
      have e1 : (state != 1) = true := by rw [bne_iff_ne]; omega
      have e2 : (state != 2) = true := by rw [bne_iff_ne]; omega
      by_cases h3 : state = 3
      · subst h3
        have HT := Lib.hid (fun W => rscript_any s name W hs hn)
        rw [fndR_three]
        generalize scr s name (s.size + 1) 0 0 = R at *
        clear h12 h0
        go_enter Try.func16, Try.ntmps16
        go_wp2_with fail
        refine (HT.out _).mono ?_
        rintro e w1 ⟨rfl, hbl⟩
        have HB := Lib.hid hbl
        clear hbl
        go_wp2
        go_ret
        exact ⟨rfl, HB.out⟩
      · have e3 : (state == 3) = false := by rw [beq_eq_false_iff_ne]; exact h3
        rw [fndR_else s name state h0 (by omega) (by omega) h3]
        clear h12 h0 h3
        go_enter Try.func16, Try.ntmps16
        go_wp2
        go_ret
        exact ⟨rfl, Below.refl _ _⟩

def litA : ByteArray := ⟨#[97, 60, 47, 98, 60, 47, 112, 62]⟩
def litB : ByteArray := ⟨#[60, 33, 45, 45, 60, 115, 99, 114, 105, 112, 116, 62, 60, 47, 115, 99, 114, 105, 112, 116, 62, 45, 45, 62, 60, 47, 115, 99, 114, 105, 112, 116, 62]⟩
theorem lit_A : fndR litA ⟨#[112]⟩ 1 = 4 := by kernel_rfl
theorem lit_B : fndR litB ⟨#[115, 99, 114, 105, 112, 116]⟩ 3 = 24 := by kernel_rfl
theorem lit_C : fndR ⟨#[97]⟩ ⟨#[112]⟩ 4 = 1 := by kernel_rfl
theorem lit_D : fndR ⟨#[97]⟩ ⟨#[112]⟩ 0 = 0 := by kernel_rfl
set_option maxHeartbeats 1600000 in
theorem awake_any (w : World) : Calls Try.prog 14 #[] w fun e w' => e = .returned (.bool true) ∧ Below w.heap.size w w' := by
  have HA := Lib.hid (fun W => find_any litA ⟨#[112]⟩ 1 W (by decide) (by decide))
  have HB := Lib.hid (fun W => find_any litB ⟨#[115, 99, 114, 105, 112, 116]⟩ 3 W (by decide) (by decide))
  have HC := Lib.hid (fun W => find_any ⟨#[97]⟩ ⟨#[112]⟩ 4 W (by decide) (by decide))
  have HD := Lib.hid (fun W => find_any ⟨#[97]⟩ ⟨#[112]⟩ 0 W (by decide) (by decide))
  rw [lit_A] at HA
  rw [lit_B] at HB
  rw [lit_C] at HC
  rw [lit_D] at HD
  unfold litA at HA
  unfold litB at HB
  go_enter Try.func14, Try.ntmps14
  go_wp2_with fail
  refine (HA.out _).mono ?_
  rintro e w1 ⟨rfl, hbl⟩
  have HB1 : Hid (Below w.heap.size w w1) := Lib.hid hbl
  clear hbl
  go_wp2_with fail
  refine (HB.out _).mono ?_
  rintro e w2 ⟨rfl, hbl⟩
  have HB2 := below_step HB1 hbl
  clear hbl
  go_wp2_with fail
  refine (HC.out _).mono ?_
  rintro e w3 ⟨rfl, hbl⟩
  have HB3 := below_step HB2 hbl
  clear hbl
  go_wp2_with fail
  refine (HD.out _).mono ?_
  rintro e w4 ⟨rfl, hbl⟩
  have HB4 := below_step HB3 hbl
  clear hbl
  go_wp2
  go_ret
  exact ⟨rfl, HB4.out⟩
end Go.Proofs.Ytdljjfeojccidaa.Q
