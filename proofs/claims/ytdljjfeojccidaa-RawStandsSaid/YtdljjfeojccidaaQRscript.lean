/-
  The walk of the document's own script.
-/
import Derived.Test.YtdljjfeojccidaaQScript
namespace Go.Proofs.Ytdljjfeojccidaa.Q
open Go.RowKit
open Go.Proofs.Ytdljjfeojccidaa.I (below_step)
open Go.Proofs.Ytdljjfeojccidaa.T (clB rcloses_any)

theorem scr_over {s name : ByteArray} {k : Nat} (h : s.size ≤ k) : ∀ f m, m ≤ 2 → scr s name f m k = k
  | 0, m, _ => by unfold scr; rfl
  | f + 1, 0, _ => by rw [scr_0, if_pos (ov_end h)]
  | f + 1, 1, _ => by rw [scr_1, if_pos (ov_end h)]
  | f + 1, 2, _ => by rw [scr_2, if_pos (by rw [tl_size]; omega)]
set_option maxRecDepth 100000 in
set_option maxHeartbeats 6400000 in
theorem rscript_any (s name : ByteArray) (w : World) (hs : s.size ≤ 10000) (hn : name.size ≤ 10000) :
    Calls Try.prog 36 #[.string s, .string name] w fun e w' => e = .returned (.int .i64 (scr s name (s.size + 1) 0 0 : Nat)) ∧ Below w.heap.size w w' := by
  obtain ⟨R, hR⟩ : ∃ R, R = scr s name (s.size + 1) 0 0 := ⟨_, rfl⟩
  rw [← hR]
  have HR := Lib.hid hR
  clear hR
  go_enter Try.func36, Try.ntmps36
  go_wp2
  go_loopw [5, 6] (fun v i wr => ∃ k f : Nat, k ≤ s.size ∧ s.size - k < f ∧ i = .int .i64 k ∧ Below w.heap.size w wr ∧ ((v = .int .i64 0 ∧ R = scr s name f 0 k) ∨ (v = .int .i64 1 ∧ R = scr s name f 1 k) ∨ (v = .int .i64 2 ∧ R = scr s name f 2 k))) (fun _ i _ => s.size - (intOf i).toNat)
  case atStart => exact ⟨0, s.size + 1, Nat.zero_le _, by omega, rfl, Below.refl _ _, .inl ⟨rfl, HR.out⟩⟩
  case round =>
    obtain ⟨k, f, hk, hf, rfl, hbel, hm⟩ := hrel
    have HB := Lib.hid hbel
    clear hbel HR
    by_cases hlt : k < s.size
    · obtain ⟨f, rfl⟩ : ∃ g, f = g + 1 := ⟨f - 1, by omega⟩
      have hi0 : (0 : Int) ≤ (k : Int) := by omega
      have hi1 : (k : Int) ≤ (s.size : Int) := by omega
      have HO := Lib.hid (fun W => rcloses_any (s.extract k s.size) name W (tl_le hs) hn)
      have HCs := Lib.hid (fun W => rcloses_any (s.extract k s.size) ⟨#[115, 99, 114, 105, 112, 116]⟩ W (tl_le hs) (by decide))
      have HBe := Lib.hid (fun W => rbegins_any (s.extract k s.size) ⟨#[60, 33, 45, 45]⟩ W)
      have HEn := Lib.hid (fun W => rbegins_any (s.extract k s.size) ⟨#[45, 45, 62]⟩ W)
      have HOp := Lib.hid (fun W => ropens_any (s.extract k s.size) W (tl_le hs))
      rw [show clB (s.extract k s.size) ⟨#[115, 99, 114, 105, 112, 116]⟩ = clB (s.extract k s.size) pScr from rfl] at HCs
      have HOv := Lib.hid (ov_in (s := s) (name := name) hlt)
      rcases hm with ⟨rfl, hT⟩ | ⟨rfl, hT⟩ | ⟨rfl, hT⟩
      · have HT := Lib.hid hT
        clear hT
        cases q1 : clB (s.extract k s.size) name with
        | true =>
          rw [q1] at HO
          have HF : Hid (R = k) := Lib.hid (by rw [HT.out, scr_0, if_pos (by rw [HOv.out]; exact q1)])
          clear q1 HCs HBe HEn HOp HOv
          go_wp2_with fail
          refine (HO.out _).mono ?_
          rintro e w1 ⟨rfl, hbl⟩
          have HB1 := below_step HB hbl
          clear hbl
          go_wp2
          go_ret
          exact ⟨ret_int (by rw [HF.out]), HB1.out⟩
        | false =>
          rw [q1] at HO
          have HT2 := Lib.hid (HT.out.trans ((scr_0 s name f k).trans (if_neg (by rw [HOv.out, q1]; decide))))
          clear q1 HOv
          cases q2 : preB (s.extract k s.size) pBeg with
          | true =>
            rw [show preB (s.extract k s.size) ⟨#[60, 33, 45, 45]⟩ = true from q2] at HBe
            have hr := beg_room q2
            have HF := Lib.hid (HT2.out.trans (if_pos q2))
            clear q2 HCs HEn HOp
            go_wp2_with fail
            refine (HO.out _).mono ?_
            rintro e w1 ⟨rfl, hbl⟩
            have HB1 := below_step HB hbl
            clear hbl
            go_wp2_with (go_at_call 49; refine (HBe.out _).mono ?_; rintro e w' ⟨rfl, rfl⟩)
            go_roundw
            case rel => exact ⟨k + 2, f, by omega, by omega, by go_num, HB1.out, .inr (.inl ⟨rfl, HF.out⟩)⟩
            case measure => simp [intOf]; omega
          | false =>
            rw [show preB (s.extract k s.size) ⟨#[60, 33, 45, 45]⟩ = false from q2] at HBe
            have HF := Lib.hid (HT2.out.trans (if_neg (by rw [q2]; decide)))
            clear q2 HCs HEn HOp
            go_wp2_with fail
            refine (HO.out _).mono ?_
            rintro e w1 ⟨rfl, hbl⟩
            have HB1 := below_step HB hbl
            clear hbl
            go_wp2_with (go_at_call 49; refine (HBe.out _).mono ?_; rintro e w' ⟨rfl, rfl⟩)
            go_roundw
            case rel => exact ⟨k + 1, f, by omega, by omega, by go_num, HB1.out, .inl ⟨rfl, HF.out⟩⟩
            case measure => simp [intOf]; omega
      · have HT := Lib.hid hT
        clear hT
        cases q1 : clB (s.extract k s.size) name with
        | true =>
          rw [q1] at HO
          have HF : Hid (R = k) := Lib.hid (by rw [HT.out, scr_1, if_pos (by rw [HOv.out]; exact q1)])
          clear q1 HCs HBe HEn HOp HOv
          go_wp2_with fail
          refine (HO.out _).mono ?_
          rintro e w1 ⟨rfl, hbl⟩
          have HB1 := below_step HB hbl
          clear hbl
          go_wp2
          go_ret
          exact ⟨ret_int (by rw [HF.out]), HB1.out⟩
        | false =>
          rw [q1] at HO
          have HT2 := Lib.hid (HT.out.trans ((scr_1 s name f k).trans (if_neg (by rw [HOv.out, q1]; decide))))
          clear q1 HOv
          cases q2 : opB (s.extract k s.size) with
          | true =>
            rw [q2] at HOp
            have HF := Lib.hid (HT2.out.trans ((if_neg (by rw [op_end q2]; decide)).trans (if_pos q2)))
            clear q2 HCs HBe HEn
            go_wp2_with fail
            refine (HO.out _).mono ?_
            rintro e w1 ⟨rfl, hbl⟩
            have HB1 := below_step HB hbl
            clear hbl
            go_wp2_with fail
            refine (HOp.out _).mono ?_
            rintro e w2 ⟨rfl, hbl⟩
            have HB2 := below_step HB1 hbl
            clear hbl
            go_wp2
            go_roundw
            case rel => exact ⟨k + 1, f, by omega, by omega, by go_num, HB2.out, .inr (.inr ⟨rfl, HF.out⟩)⟩
            case measure => simp [intOf]; omega
          | false =>
            rw [q2] at HOp
            cases q3 : preB (s.extract k s.size) pEnd with
            | true =>
              rw [show preB (s.extract k s.size) ⟨#[45, 45, 62]⟩ = true from q3] at HEn
              have HF := Lib.hid (HT2.out.trans (if_pos q3))
              clear q2 q3 HCs HBe
              go_wp2_with fail
              refine (HO.out _).mono ?_
              rintro e w1 ⟨rfl, hbl⟩
              have HB1 := below_step HB hbl
              clear hbl
              go_wp2_with fail
              refine (HOp.out _).mono ?_
              rintro e w2 ⟨rfl, hbl⟩
              have HB2 := below_step HB1 hbl
              clear hbl
              go_wp2_with (go_at_call 49; refine (HEn.out _).mono ?_; rintro e w' ⟨rfl, rfl⟩)
              go_roundw
              case rel => exact ⟨k + 1, f, by omega, by omega, by go_num, HB2.out, .inl ⟨rfl, HF.out⟩⟩
              case measure => simp [intOf]; omega
            | false =>
              rw [show preB (s.extract k s.size) ⟨#[45, 45, 62]⟩ = false from q3] at HEn
              have HF := Lib.hid (HT2.out.trans ((if_neg (by rw [q3]; decide)).trans (if_neg (by rw [q2]; decide))))
              clear q2 q3 HCs HBe
              go_wp2_with fail
              refine (HO.out _).mono ?_
              rintro e w1 ⟨rfl, hbl⟩
              have HB1 := below_step HB hbl
              clear hbl
              go_wp2_with fail
              refine (HOp.out _).mono ?_
              rintro e w2 ⟨rfl, hbl⟩
              have HB2 := below_step HB1 hbl
              clear hbl
              go_wp2_with (go_at_call 49; refine (HEn.out _).mono ?_; rintro e w' ⟨rfl, rfl⟩)
              go_roundw
              case rel => exact ⟨k + 1, f, by omega, by omega, by go_num, HB2.out, .inr (.inl ⟨rfl, HF.out⟩)⟩
              case measure => simp [intOf]; omega
      · have HT := Lib.hid hT
        clear hT
        have HT2 := Lib.hid (HT.out.trans ((scr_2 s name f k).trans (if_neg (by rw [tl_size]; omega))))
        clear HO HOv
        cases q2 : clB (s.extract k s.size) pScr with
        | true =>
          rw [q2] at HCs
          have HF := Lib.hid (HT2.out.trans ((if_neg (by rw [cl_end q2]; decide)).trans (if_pos q2)))
          clear q2 HBe HEn HOp
          go_wp2_with fail
          refine (HCs.out _).mono ?_
          rintro e w1 ⟨rfl, hbl⟩
          have HB1 := below_step HB hbl
          clear hbl
          go_wp2
          go_roundw
          case rel => exact ⟨k + 1, f, by omega, by omega, by go_num, HB1.out, .inr (.inl ⟨rfl, HF.out⟩)⟩
          case measure => simp [intOf]; omega
        | false =>
          rw [q2] at HCs
          cases q3 : preB (s.extract k s.size) pEnd with
          | true =>
            rw [show preB (s.extract k s.size) ⟨#[45, 45, 62]⟩ = true from q3] at HEn
            have HF := Lib.hid (HT2.out.trans (if_pos q3))
            clear q2 q3 HBe HOp
            go_wp2_with fail
            refine (HCs.out _).mono ?_
            rintro e w1 ⟨rfl, hbl⟩
            have HB1 := below_step HB hbl
            clear hbl
            go_wp2_with (go_at_call 49; refine (HEn.out _).mono ?_; rintro e w' ⟨rfl, rfl⟩)
            go_roundw
            case rel => exact ⟨k + 1, f, by omega, by omega, by go_num, HB1.out, .inl ⟨rfl, HF.out⟩⟩
            case measure => simp [intOf]; omega
          | false =>
            rw [show preB (s.extract k s.size) ⟨#[45, 45, 62]⟩ = false from q3] at HEn
            have HF := Lib.hid (HT2.out.trans ((if_neg (by rw [q3]; decide)).trans (if_neg (by rw [q2]; decide))))
            clear q2 q3 HBe HOp
            go_wp2_with fail
            refine (HCs.out _).mono ?_
            rintro e w1 ⟨rfl, hbl⟩
            have HB1 := below_step HB hbl
            clear hbl
            go_wp2_with (go_at_call 49; refine (HEn.out _).mono ?_; rintro e w' ⟨rfl, rfl⟩)
            go_roundw
            case rel => exact ⟨k + 1, f, by omega, by omega, by go_num, HB1.out, .inr (.inr ⟨rfl, HF.out⟩)⟩
            case measure => simp [intOf]; omega
    · obtain rfl : k = s.size := by omega
      have HF : Hid (R = s.size) := Lib.hid (by
        rcases hm with ⟨_, hT⟩ | ⟨_, hT⟩ | ⟨_, hT⟩
        · rw [hT, scr_over (Nat.le_refl _) _ _ (by omega)]
        · rw [hT, scr_over (Nat.le_refl _) _ _ (by omega)]
        · rw [hT, scr_over (Nat.le_refl _) _ _ (by omega)])
      clear hm
      go_wp2
      go_ret
      exact ⟨ret_int (by rw [HF.out]), HB.out⟩
end Go.Proofs.Ytdljjfeojccidaa.Q
