/-
  The law TagReads.
-/
import Derived.Test.YtkfaenhidjekdaaDoorTRread
import Derived.Test.YtkfaenhidjekdaaDoorTSame
import Derived.Test.YtkfaenhidjekdaaDoorTAwake
namespace Go.Proofs.YtkfaenhidjekdaaDoor.T
open Go.RowKit
open Go.Proofs.YtkfaenhidjekdaaDoor.C (StAt)
open Go.Proofs.YtkfaenhidjekdaaDoor.A (At AttrsAt below_step addL)

theorem tg_len {l : List UInt8} : ∀ {f i : Nat} {acc ys : List At} {sf : Bool} {n : Nat}, tg l f i acc = some (ys, sf, n) → ys.length ≤ acc.length + f
  | 0, _, _, _, _, _, h => by cases h
  | f + 1, i, acc, ys, sf, n, h => by
    rw [tg_step] at h
    split at h
    · cases h
    · split at h
      · injection h with h; injection h with h1 _; rw [← h1]; omega
      · split at h
        · split at h
          · injection h with h; injection h with h1 _; rw [← h1]; omega
          · have := tg_len h; omega
        · split at h
          · cases h
          · have := tg_len h
            have h2 := add_len acc ‹At›
            omega
theorem rd_len (s : ByteArray) : (rdT s.data.toList).attrs.length ≤ s.size + 1 := by
  unfold rdT
  split
  · split
    · exact Nat.zero_le _
    · rename_i h
      split
      · exact Nat.zero_le _
      · have := tg_len h
        rw [C.size_list] at this
        show _ ≤ _
        simpa using this
  · exact Nat.zero_le _
theorem row_of {w : World} {B : Nat} {v0 v1 v2 v3 v4 : Value} (h : w.heap[B]? = some (.cells #[v0, v1, v2, v3, v4] 25 (0, 0))) :
    w.cell? ⟨B, 0, none⟩ = some v0 ∧ w.cell? ⟨B, 1, none⟩ = some v1 ∧ w.cell? ⟨B, 2, none⟩ = some v2 ∧ w.cell? ⟨B, 3, none⟩ = some v3 ∧ w.cell? ⟨B, 4, none⟩ = some v4 :=
  ⟨cell_of_row w B 0 _ _ (0, 0) h, cell_of_row w B 1 _ _ (0, 0) h, cell_of_row w B 2 _ _ (0, 0) h, cell_of_row w B 3 _ _ (0, 0) h, cell_of_row w B 4 _ _ (0, 0) h⟩

set_option maxRecDepth 100000 in
set_option maxHeartbeats 3200000 in
theorem reads_walk (s name : ByteArray) (w : World) (hT : StAt w) (ws : s.size ≤ maxLen) (wn : name.size ≤ maxLen) :
    Calls Tryd.prog 3 #[.string s, .string name] w fun e w' => e = .returned (.bool true) ∧ Below w.heap.size w w' := by
  unfold maxLen at ws wn
  have HT := Lib.hid hT
  clear hT
  by_cases h400 : 400 < s.size
  · have h4 : (400 : Int) < s.size := by omega
    clear h400
    go_enter Tryd.func3, Tryd.ntmps3
    go_wp2_with fail
    refine (awake_any _ HT.out).mono ?_
    rintro e w1 ⟨rfl, hb⟩
    have HB := Lib.hid hb
    clear hb
    go_wp2
    go_ret
    exact ⟨rfl, HB.out⟩
  · have h4 : ¬ (400 : Int) < s.size := by omega
    by_cases h40 : 40 < name.size
    · have h4' : (40 : Int) < name.size := by omega
      clear h400 h40
      go_enter Tryd.func3, Tryd.ntmps3
      go_wp2_with fail
      refine (awake_any _ HT.out).mono ?_
      rintro e w1 ⟨rfl, hb⟩
      have HB := Lib.hid hb
      clear hb
      go_wp2
      go_ret
      exact ⟨rfl, HB.out⟩
    · have h4' : ¬ (40 : Int) < name.size := by omega
      have HR := Lib.hid (read_any s w HT.out (by omega))
      have HRR := Lib.hid (fun W => rread_any s W (by omega))
      have HC := Lib.hid (fun W => closes_any s name W (by omega) (by omega))
      have HCR := Lib.hid (fun W => rcloses_any s name W (by omega) (by omega))
      generalize clB s name = cl at *
      have hlen := rd_len s
      have hlen2 : (rdT s.data.toList).attrs.length ≤ 1000000 := by omega
      clear hlen
      generalize rdT s.data.toList = t at *
      obtain ⟨kind, nm, attrs, self, n, ok⟩ := t
      have HL : Hid (attrs.length ≤ 1000000) := Lib.hid hlen2
      clear hlen2 h400 h40
      go_enter Tryd.func3, Tryd.ntmps3
      go_wp2_with fail
      refine HR.out.mono ?_
      rintro e w1 ⟨a, cap, _, he, hat, hbl⟩
      unfold tokV at he
      subst he
      have HB1 : Hid (Below w.heap.size w w1) := Lib.hid hbl
      have HB2 := Lib.hid (HB1.out.alloc HB1.out.size (.cells #[.int .i64 kind, .string nm, .slice a attrs.length cap, .bool self, .string ⟨#[]⟩] 25))
      have HH2 := Lib.hid (heap_alloc_new w1 (.cells #[.int .i64 kind, .string nm, .slice a attrs.length cap, .bool self, .string ⟨#[]⟩] 25))
      have HA2 := Lib.hid (A.AttrsAt.alloc (show AttrsAt w1 a attrs from hat) (.cells #[.int .i64 kind, .string nm, .slice a attrs.length cap, .bool self, .string ⟨#[]⟩] 25))
      clear hbl hat HB1 HR
      go_upto_region 4 with fail
      obtain ⟨w2, ew⟩ : ∃ w2, w2 = w1.alloc (.cells #[.int .i64 kind, .string nm, .slice a attrs.length cap, .bool self, .string ⟨#[]⟩] 25) := ⟨_, rfl⟩
      rw [← show (⟨#[]⟩ : ByteArray) = ByteArray.empty from rfl]
      rw [← ew] at HB2 HH2 HA2 ⊢
      clear ew
      go_wp2_with fail
      refine (HRR.out w2).mono ?_
      rintro e w3 ⟨a', cap', _, he, hat, hbl⟩
      unfold tokV at he
      subst he
      have HB3 := below_step HB2 hbl
      have HH3 := Lib.hid (heap_keep hbl HH2.out)
      have HA3 := Lib.hid (HA2.out.below hbl)
      have HB4 := Lib.hid (HB3.out.alloc HB3.out.size (.cells #[.int .i64 kind, .string nm, .slice a' attrs.length cap', .bool self, .string ⟨#[]⟩] 25))
      have HH4 := Lib.hid (heap_keep ((Below.refl w3.heap.size w3).alloc (Nat.le_refl _) (.cells #[.int .i64 kind, .string nm, .slice a' attrs.length cap', .bool self, .string ⟨#[]⟩] 25)) HH3.out)
      have HK4 := Lib.hid (heap_alloc_new w3 (.cells #[.int .i64 kind, .string nm, .slice a' attrs.length cap', .bool self, .string ⟨#[]⟩] 25))
      have HA4 := Lib.hid (HA3.out.alloc (.cells #[.int .i64 kind, .string nm, .slice a' attrs.length cap', .bool self, .string ⟨#[]⟩] 25))
      have HM4 := Lib.hid (A.AttrsAt.alloc (show AttrsAt w3 a' attrs from hat) (.cells #[.int .i64 kind, .string nm, .slice a' attrs.length cap', .bool self, .string ⟨#[]⟩] 25))
      clear hbl hat HB2 HH2 HA2 HB3 HH3 HA3 HRR
      go_upto_region 5 with fail
      obtain ⟨w4, ew⟩ : ∃ w4, w4 = w3.alloc (.cells #[.int .i64 kind, .string nm, .slice a' attrs.length cap', .bool self, .string ⟨#[]⟩] 25) := ⟨_, rfl⟩
      rw [← show (⟨#[]⟩ : ByteArray) = ByteArray.empty from rfl]
      rw [← ew] at HB4 HH4 HK4 HA4 HM4 ⊢
      clear ew
      obtain ⟨c0, c1, c2, c3, c4⟩ := row_of HH4.out
      obtain ⟨d0, d1, d2, d3, d4⟩ := row_of HK4.out
      have HS := Lib.hid (tsame_any ⟨kind, nm, attrs, self, n, ok⟩ a a' cap cap' w4 HL.out HA4.out HM4.out)
      unfold tokV at HS
      rw [← show (⟨#[]⟩ : ByteArray) = ByteArray.empty from rfl] at HS
      clear HH4 HK4 HA4 HM4 HL
      go_wp2_with fail
      refine HS.out.mono ?_
      rintro e w5 ⟨rfl, hb⟩
      have HB5 := below_step HB4 hb
      clear hb c0 c1 c2 c3 c4 d0 d1 d2 d3 d4 HS HB4
      go_wp2_with fail
      refine (HC.out _).mono ?_
      rintro e w6 ⟨rfl, hb⟩
      have HB6 := below_step HB5 hb
      clear hb HB5 HC
      go_wp2_with fail
      refine (HCR.out _).mono ?_
      rintro e w7 ⟨rfl, hb⟩
      have HB7 := below_step HB6 hb
      clear hb HB6 HCR
      have HT7 := Lib.hid (C.StAt.below HT.out HB7.out)
      go_wp2_with fail
      refine (awake_any _ HT7.out).mono ?_
      rintro e w8 ⟨rfl, hb⟩
      have HB8 := below_step HB7 hb
      clear hb HB7
      go_wp2
      go_ret
      exact ⟨rfl, HB8.out⟩
end Go.Proofs.YtkfaenhidjekdaaDoor.T
