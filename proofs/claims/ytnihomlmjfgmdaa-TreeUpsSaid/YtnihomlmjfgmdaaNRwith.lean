/-
  The walks of the document's own with, and of its Put.
-/
import Derived.Test.YtnihomlmjfgmdaaNRcut
namespace Go.Proofs.Ytnihomlmjfgmdaa
open Go.RowKit

def RetSome (m : Nat) (w : World) (e : Ending) (w' : World) : Prop := ∃ v ys, e = .returned v ∧ KR w' v ys ∧ ys.length ≤ m ∧ (∀ k, v.ownBlock = some k → w.heap.size ≤ k) ∧ Below w.heap.size w w'

set_option maxHeartbeats 3200000 in
theorem with_any (v : Value) (xs : List Int) (at_ kid : Int) (w : World) (hK : KR w v xs) (hs : xs.length ≤ 1000000) :
    Calls Try.prog 38 #[v, .int .i64 at_, .int .i64 kid] w (RetSome (xs.length + 1) w) := by
  have HK := Lib.hid hK
  obtain ⟨ka, kc, hkv, hkle, hkm, hknone, hkc⟩ := hK.form
  have HKc := Lib.hid hkc
  have HKn := Lib.hid hknone
  subst hkv
  clear hknone hkc hK
  go_enter Try.func38, Try.ntmps38
  go_wp2
  go_loopw [7, 8] (fun t q wr => ∃ (k c : Nat) (ys : List Int), k ≤ xs.length + 1 ∧ q = .int .i64 k ∧ KR wr t ys ∧ ys.length ≤ min k xs.length + c ∧ c ≤ 1 ∧ ((k : Int) ≤ at_ → c = 0) ∧ (∀ j, t.ownBlock = some j → w.heap.size ≤ j) ∧ Below w.heap.size w wr) (fun _ q _ => xs.length + 1 - (intOf q).toNat)
  case atStart => exact ⟨0, 0, [], Nat.zero_le _, rfl, KR.nil _, Nat.zero_le _, Nat.zero_le _, fun _ => rfl, (fun j hj => by cases hj), Below.refl _ _⟩
  case round =>
    obtain ⟨k, c, ys, hk, rfl, hkr, hyl, hc1, hc0, hown, hbr⟩ := hrel
    have HKr := Lib.hid hkr
    have HOr := Lib.hid hown
    have HBr := Lib.hid hbr
    have HC0 := Lib.hid hc0
    clear hkr hown hbr hc0
    have hyl2 : ys.length ≤ 1000002 := by omega
    by_cases hle : k ≤ xs.length
    · have d1 : decide ((k : Int) ≤ (xs.length : Int)) = true := by simp; omega
      have d1' : decide (k ≤ xs.length) = true := by simpa using hle
      by_cases hat : (k : Int) = at_
      · have b1 : ((k : Int) == at_) = true := by simp [hat]
        have hcz : c = 0 := HC0.out (by omega)
        have HAt := Lib.hid hat
        have HCz := Lib.hid hcz
        clear hat hcz
        by_cases hlt : k < xs.length
        · cases ka with
          | none => have := HKn.out rfl; omega
          | some kad =>
            obtain ⟨q, rfl, hq, hcc, _⟩ := HKc.out kad rfl
            have hcw : w.cell? ⟨q, k, none⟩ = some (.int .i64 xs[k]) := hcc k hlt
            have HCw := Lib.hid hcw
            have hq0 : wr.cell? ⟨q, k, none⟩ = some (.int .i64 xs[k]) := (HBr.out.cell (p := ⟨q, k, none⟩) hq).trans hcw
            have hm0 : (0 : Int) ≤ (k : Int) := by omega
            have hm1 : (k : Int) < (xs.length : Int) := by omega
            clear hcc hcw
            generalize xs[k] = z at *
            go_upto_region 7 with (at_builtin; refine wpList_append_ints _ rfl _ _ rfl _ _ rfl (HKr.out.alloc _) (some ⟨wr.heap.size, 0, none⟩) 1 [kid] rfl (one_int wr kid) (by simp; omega) ?_; intro v2 w2 hk2 hgrow2 hat2)
            have HK2 := Lib.hid hk2
            have HB2 : Hid (Below w.heap.size w w2) := Lib.hid ((HBr.out.alloc HBr.out.size _).grown hgrow2 (by have := HBr.out.size; simp; omega) HOr.out)
            have HO2 : Hid (∀ j, v2.ownBlock = some j → w.heap.size ≤ j) := Lib.hid (fun j hj => by
              rcases hat2 with e | e
              · exact HOr.out j (e ▸ hj)
              · rw [e] at hj; injection hj with hj; have := HBr.out.size; simp at hj; omega)
            have hq2 : w2.cell? ⟨q, k, none⟩ = some (.int .i64 z) := (HB2.out.cell (p := ⟨q, k, none⟩) hq).trans HCw.out
            clear hk2 hgrow2 hat2 hq0
            go_wp2_with (at_builtin; refine wpList_append_ints _ rfl _ _ rfl _ _ rfl (HK2.out.alloc _) (some ⟨w2.heap.size, 0, none⟩) 1 [z] rfl (one_int w2 z) (by simp; omega) ?_; intro v3 w3 hk3 hgrow3 hat3)
            go_roundw
            case rel =>
              refine ⟨k + 1, 1, (ys ++ [kid]) ++ [z], by omega, by go_num, hk3, ?_, Nat.le_refl _, fun h => by have := HAt.out; omega, fun j hj => ?_, (HB2.out.alloc HB2.out.size _).grown hgrow3 (by have := HB2.out.size; simp; omega) HO2.out⟩
              · have := HCz.out; simp; omega
              · rcases hat3 with e | e
                · exact HO2.out j (e ▸ hj)
                · rw [e] at hj; injection hj with hj; have := HB2.out.size; simp at hj; omega
            case measure => simp [intOf]; omega
        · have hm1 : ¬ (k : Int) < (xs.length : Int) := by omega
          go_wp2_with (at_builtin; refine wpList_append_ints _ rfl _ _ rfl _ _ rfl (HKr.out.alloc _) (some ⟨wr.heap.size, 0, none⟩) 1 [kid] rfl (one_int wr kid) (by simp; omega) ?_; intro v2 w2 hk2 hgrow2 hat2)
          go_roundw
          case rel =>
            refine ⟨k + 1, 1, ys ++ [kid], by omega, by go_num, hk2, ?_, Nat.le_refl _, fun h => by have := HAt.out; omega, fun j hj => ?_, (HBr.out.alloc HBr.out.size _).grown hgrow2 (by have := HBr.out.size; simp; omega) HOr.out⟩
            · have := HCz.out; simp; omega
            · rcases hat2 with e | e
              · exact HOr.out j (e ▸ hj)
              · rw [e] at hj; injection hj with hj; have := HBr.out.size; simp at hj; omega
          case measure => simp [intOf]; omega
      · have b1 : ((k : Int) == at_) = false := by simp [hat]
        have HAt := Lib.hid hat
        clear hat
        by_cases hlt : k < xs.length
        · cases ka with
          | none => have := HKn.out rfl; omega
          | some kad =>
            obtain ⟨q, rfl, hq, hcc, _⟩ := HKc.out kad rfl
            have hq0 : wr.cell? ⟨q, k, none⟩ = some (.int .i64 xs[k]) := (HBr.out.cell (p := ⟨q, k, none⟩) hq).trans (hcc k hlt)
            have hm0 : (0 : Int) ≤ (k : Int) := by omega
            have hm1 : (k : Int) < (xs.length : Int) := by omega
            clear hcc
            generalize xs[k] = z at *
            go_wp2_with (at_builtin; refine wpList_append_ints _ rfl _ _ rfl _ _ rfl (HKr.out.alloc _) (some ⟨wr.heap.size, 0, none⟩) 1 [z] rfl (one_int wr z) (by simp; omega) ?_; intro v2 w2 hk2 hgrow2 hat2)
            go_roundw
            case rel =>
              refine ⟨k + 1, c, ys ++ [z], by omega, by go_num, hk2, by simp; omega, hc1, fun h => HC0.out (by omega), fun j hj => ?_, (HBr.out.alloc HBr.out.size _).grown hgrow2 (by have := HBr.out.size; simp; omega) HOr.out⟩
              rcases hat2 with e | e
              · exact HOr.out j (e ▸ hj)
              · rw [e] at hj; injection hj with hj; have := HBr.out.size; simp at hj; omega
            case measure => simp [intOf]; omega
        · have hm1 : ¬ (k : Int) < (xs.length : Int) := by omega
          go_wp2
          go_roundw
          case rel => exact ⟨k + 1, c, ys, by omega, by go_num, HKr.out, by omega, hc1, fun h => HC0.out (by omega), HOr.out, HBr.out⟩
          case measure => simp [intOf]; omega
    · have d1 : decide ((k : Int) ≤ (xs.length : Int)) = false := by simp; omega
      have d1' : decide (k ≤ xs.length) = false := by simpa using hle
      have hfin : ys.length ≤ xs.length + 1 := by omega
      go_wp2
      go_ret
      exact ⟨_, ys, rfl, HKr.out, hfin, HOr.out, HBr.out⟩
end Go.Proofs.Ytnihomlmjfgmdaa
