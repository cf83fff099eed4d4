/-
  The walks of the two laws on words.
-/
import Derived.Test.YtphplpkmimckkaaAwake
namespace Go.Proofs.Ytphplpkmimckkaa
open Go.RowKit

theorem below_step {w w1 w2 : World} (h : Hid (Below w.heap.size w w1)) (h2 : Below w1.heap.size w1 w2) : Hid (Below w.heap.size w w2) := Lib.hid (h.out.trans (h2.mono h.out.size))

set_option maxHeartbeats 3000000 in
theorem back_walk (s : ByteArray) (w : World) (ws : s.size ≤ maxLen) :
    Calls Try.prog 4 #[.string s] w fun e w' => e = .returned (.bool true) ∧ Below w.heap.size w w' := by
  unfold maxLen at ws
  by_cases h500 : 500 < s.size
  · have h5 : (500 : Int) < s.size := by omega
    clear h500
    go_enter Try.func4, Try.ntmps4
    go_wp2_with fail
    refine (awake_any _).mono ?_
    rintro e w1 ⟨rfl, hb⟩
    have HB := Lib.hid hb
    clear hb
    go_wp2
    go_ret
    exact ⟨rfl, HB.out⟩
  · have h5 : ¬ (500 : Int) < s.size := by omega
    have hs : s.size ≤ 1000000 := by omega
    have hlen := spl_len s
    have hll : (spl s).length ≤ 1000000 := by omega
    have HZ : Hid (∀ x ∈ spl s, x.size ≤ 1000000) := Lib.hid (fun x hx => by have := spl_size s x hx; omega)
    have HN : Hid (∀ k (h : k < (spl s).length), (spl s)[k].size ≠ 0 ∧ hasW (spl s) (spl s)[k] = true) := Lib.hid (fun k h => ⟨spl_mem_size s _ (List.getElem_mem h), (hasW_iff _ _).2 (List.getElem_mem h)⟩)
    have HSp := Lib.hid (split_any s w hs)
    have HIn : Hid (∀ (x : ByteArray) (W : World), Calls Try.prog 10 #[.string s, .string x] W fun e w' => e = .returned (.bool (hasW (spl s) x)) ∧ Below W.heap.size W w') := Lib.hid (fun x W => in_any s x W hs)
    have HJz : Hid ((jnS (spl s)).size ≤ 1000000) := Lib.hid (by have := jnS_spl s; omega)
    have HSJ : Hid (∀ W, Calls Try.prog 8 #[.string (jnS (spl s))] W (RetStrs (spl s) W)) := Lib.hid (fun W => by
      have := split_any (jnS (spl s)) W HJz.out
      rw [spl_join] at this; exact this)
    clear h500
    generalize spl s = L at *
    go_enter Try.func4, Try.ntmps4
    go_wp2_with fail
    refine HSp.out.mono ?_
    rintro e w1 ⟨a1, c1, hc1, rfl, hst, hb⟩
    have HS1 := Lib.hid hst
    have HB1 := Lib.hid hb
    clear hst hb
    go_wp2_with fail
    go_loopw [15] (fun i wr => ∃ k : Nat, k ≤ L.length ∧ i = .int .i64 k ∧ Below w1.heap.size w1 wr) (fun i _ => L.length - (intOf i).toNat)
    case atStart => exact ⟨0, Nat.zero_le _, rfl, Below.refl _ _⟩
    case round =>
      obtain ⟨k, hk, rfl, hbel⟩ := hrel
      have HBk := Lib.hid hbel
      clear hbel
      by_cases hlt : k < L.length
      · obtain ⟨b, off, rfl, hbk, hc⟩ := HS1.out (fun e => by rw [e] at hlt; simp at hlt)
        have hck : wr.cell? ⟨b, off + k, none⟩ = some (.string L[k]) := (HBk.out.cell (p := ⟨b, off + k, none⟩) hbk).trans (hc k hlt)
        obtain ⟨hn1, hn2⟩ := HN.out k hlt
        have HI := Lib.hid (HIn.out L[k] wr)
        rw [hn2] at HI
        clear hc hn2
        generalize L[k] = x at *
        have he := (empty_no hn1).2
        have he2 := (empty_no hn1).1
        clear hn1
        go_wp2_with fail
        refine HI.out.mono ?_
        rintro e w2 ⟨rfl, hb⟩
        have HB2 := Lib.hid hb
        clear hb
        go_wp2
        go_roundw
        case rel => exact ⟨k + 1, by omega, by go_num, HBk.out.trans (HB2.out.mono HBk.out.size)⟩
        case measure => simp [intOf]; omega
      · have HSk : Hid (StrsAt wr a1 L) := Lib.hid (HS1.out.below HBk.out)
        have HB : Hid (Below w.heap.size w wr) := below_step HB1 HBk.out
        go_wp2_with fail
        refine (once_any a1 c1 L wr hll HZ.out HSk.out).mono ?_
        rintro e w2 ⟨a2, c2, hc2, rfl, hst, hb⟩
        have HS2 := Lib.hid hst
        have HB2 := below_step HB hb
        have HSk2 := Lib.hid (HSk.out.below hb)
        have HLm : Hid ((onc L).length ≤ L.length) := Lib.hid (onc_len L)
        have HZm : Hid (∀ x ∈ onc L, x.size ≤ 1000000) := Lib.hid (oncG_size L [] 1000000 (by simp) HZ.out)
        have HOO := Lib.hid (onc_onc L)
        clear hst hb
        generalize onc L = M at *
        go_wp2_with fail
        refine (join_any a1 c1 L w2 hll hc1 (by have := HJz.out; omega) HSk2.out).mono ?_
        rintro e w3 ⟨rfl, hb⟩
        have HB3 := below_step HB2 hb
        have HSk3 := Lib.hid (HSk2.out.below hb)
        have HS3 := Lib.hid (HS2.out.below hb)
        clear hb
        go_wp2_with fail
        refine (HSJ.out w3).mono ?_
        rintro e w4 ⟨a4, c4, hc4, rfl, hst, hb⟩
        have HB4 := below_step HB3 hb
        have HSk4 := Lib.hid (HSk3.out.below hb)
        have HS4 := Lib.hid (HS3.out.below hb)
        have HT4 := Lib.hid hst
        clear hb hst
        go_wp2_with fail
        refine (equal_same a4 a1 c4 c1 L w4 hll HT4.out HSk4.out).mono ?_
        rintro e w5 ⟨rfl, hb⟩
        have HB5 := below_step HB4 hb
        have HS5 := Lib.hid (HS4.out.below hb)
        clear hb
        have hml : M.length ≤ L.length := HLm.out
        go_wp2_with fail
        refine (once_any a2 c2 M w5 (by omega) HZm.out HS5.out).mono ?_
        rw [HOO.out]
        rintro e w6 ⟨a6, c6, hc6, rfl, hst, hb⟩
        have HB6 := below_step HB5 hb
        have HS6 := Lib.hid (HS5.out.below hb)
        have HT6 := Lib.hid hst
        clear hb hst
        go_wp2_with fail
        refine (equal_same a6 a2 c6 c2 M w6 (by omega) HT6.out HS6.out).mono ?_
        rintro e w7 ⟨rfl, hb⟩
        have HB7 := below_step HB6 hb
        clear hb
        go_wp2_with fail
        refine (awake_any _).mono ?_
        rintro e w8 ⟨rfl, hb⟩
        have HB8 := below_step HB7 hb
        clear hb
        go_wp2
        go_ret
        exact ⟨rfl, HB8.out⟩

set_option maxHeartbeats 3000000 in
theorem tell_walk (s word : ByteArray) (a : Option Addr) (cap : Nat) (l : List ByteArray) (w : World) (ws : s.size ≤ maxLen) (ww : word.size ≤ maxLen) (hll : l.length ≤ 9223372036854775807) (hcap : l.length ≤ cap) (hA : StrsAt w a l) :
    Calls Try.prog 3 #[.string s, .string word, .slice a l.length cap] w fun e w' => e = .returned (.bool true) ∧ Below w.heap.size w w' := by
  unfold maxLen at ws ww
  have HA := Lib.hid hA
  clear hA
  have HAw : Hid (∀ W, Calls Try.prog 6 #[] W fun e w' => e = .returned (.bool true) ∧ Below W.heap.size W w') := Lib.hid awake_any
  by_cases h500 : 500 < s.size
  · have h5 : (500 : Int) < s.size := by omega
    clear h500
    go_enter Try.func3, Try.ntmps3
    go_wp2_with fail
    refine (HAw.out _).mono ?_
    rintro e w1 ⟨rfl, hb⟩
    have HB := Lib.hid hb
    clear hb
    go_wp2
    go_ret
    exact ⟨rfl, HB.out⟩
  have h5 : ¬ (500 : Int) < s.size := by omega
  have hs : s.size ≤ 1000000 := by omega
  clear h500
  by_cases h100 : 100 < word.size
  · have h6 : (100 : Int) < word.size := by omega
    clear h100
    go_enter Try.func3, Try.ntmps3
    go_wp2_with fail
    refine (HAw.out _).mono ?_
    rintro e w1 ⟨rfl, hb⟩
    have HB := Lib.hid hb
    clear hb
    go_wp2
    go_ret
    exact ⟨rfl, HB.out⟩
  have h6 : ¬ (100 : Int) < word.size := by omega
  clear h100
  have HF := Lib.hid (few_any a cap l 60 w hll (by omega) HA.out)
  by_cases hfew : fewW 60 l = true
  · rw [hfew] at HF
    obtain ⟨hl60, hl100⟩ := fewW_yes hfew
    have HZ : Hid (∀ x ∈ l, x.size ≤ 1000000) := Lib.hid (fun x hx => by have := hl100 x hx; omega)
    have hl1 : l.length ≤ 1000000 := by omega
    have HJz : Hid ((jnS l).size ≤ 100000000) := Lib.hid (by
      have h1 := jnS_len l 100 hl100
      omega)
    have hlen := spl_len s
    have hsl : (spl s).length ≤ 1000000 := by omega
    have HSp : Hid (∀ W, Calls Try.prog 8 #[.string s] W (RetStrs (spl s) W)) := Lib.hid (fun W => split_any s W hs)
    have HRp : Hid (∀ W, Calls Try.prog 9 #[.string s] W (RetStrs (spl s) W)) := Lib.hid (fun W => rsplit_any s W hs)
    have HIn : Hid (∀ (W : World), Calls Try.prog 10 #[.string s, .string word] W fun e w' => e = .returned (.bool (hasW (spl s) word)) ∧ Below W.heap.size W w') := Lib.hid (fun W => in_any s word W hs)
    have HRn : Hid (∀ (W : World), Calls Try.prog 11 #[.string s, .string word] W fun e w' => e = .returned (.bool (hasW (spl s) word)) ∧ Below W.heap.size W w') := Lib.hid (fun W => rin_any s word W hs)
    have hom := onc_len l
    clear hfew hl100
    generalize hasW (spl s) word = X at *
    generalize spl s = L at *
    go_enter Try.func3, Try.ntmps3
    go_wp2_with fail
    refine HF.out.mono ?_
    rintro e w0 ⟨rfl, rfl⟩
    go_wp2_with fail
    refine (HSp.out w).mono ?_
    rintro e w1 ⟨a1, c1, hc1, rfl, hst, hb⟩
    have HS1 := Lib.hid hst
    have HB1 := Lib.hid hb
    clear hst hb
    go_wp2_with fail
    refine (HRp.out w1).mono ?_
    rintro e w2 ⟨a2, c2, hc2, rfl, hst, hb⟩
    have HS2 := Lib.hid hst
    have HS12 := Lib.hid (HS1.out.below hb)
    have HB2 := below_step HB1 hb
    clear hst hb
    go_wp2_with fail
    refine (equal_same a1 a2 c1 c2 L w2 hsl HS12.out HS2.out).mono ?_
    rintro e w3 ⟨rfl, hb⟩
    have HB3 := below_step HB2 hb
    clear hb
    go_wp2_with fail
    refine (HIn.out w3).mono ?_
    rintro e w4 ⟨rfl, hb⟩
    have HB4 := below_step HB3 hb
    clear hb
    go_wp2_with fail
    refine (HRn.out w4).mono ?_
    rintro e w5 ⟨rfl, hb⟩
    have HB5 := below_step HB4 hb
    have HA5 := Lib.hid (HA.out.below HB5.out)
    clear hb
    go_wp2_with fail
    refine (join_any a cap l w5 hl1 hcap HJz.out HA5.out).mono ?_
    rintro e w6 ⟨rfl, hb⟩
    have HB6 := below_step HB5 hb
    have HA6 := Lib.hid (HA.out.below HB6.out)
    clear hb
    go_wp2_with fail
    refine (rjoin_any a cap l w6 hl1 HZ.out HA6.out).mono ?_
    rintro e w6' ⟨rfl, rfl⟩
    generalize jnS l = J at *
    go_wp2_with fail
    refine (once_any a cap l w6 hl1 HZ.out HA6.out).mono ?_
    rintro e w7 ⟨a7, c7, hc7, rfl, hst, hb⟩
    have HB7 := below_step HB6 hb
    have HA7 := Lib.hid (HA.out.below HB7.out)
    have HS7 := Lib.hid hst
    clear hb hst
    go_wp2_with fail
    refine (ronce_any a cap l w7 hl1 HA7.out).mono ?_
    rintro e w8 ⟨a8, c8, hc8, rfl, hst, hb⟩
    have HB8 := below_step HB7 hb
    have HS8 := Lib.hid hst
    have HS78 := Lib.hid (HS7.out.below hb)
    clear hb hst
    generalize onc l = M at *
    go_wp2_with fail
    refine (equal_same a7 a8 c7 c8 M w8 (by omega) HS78.out HS8.out).mono ?_
    rintro e w9 ⟨rfl, hb⟩
    have HB9 := below_step HB8 hb
    clear hb
    go_wp2_with fail
    refine (HAw.out _).mono ?_
    rintro e w10 ⟨rfl, hb⟩
    have HB10 := below_step HB9 hb
    clear hb
    go_wp2
    go_ret
    exact ⟨rfl, HB10.out⟩
  · have hno : fewW 60 l = false := by simpa using hfew
    rw [hno] at HF
    clear hfew hno
    go_enter Try.func3, Try.ntmps3
    go_wp2_with fail
    refine HF.out.mono ?_
    rintro e w0 ⟨rfl, rfl⟩
    go_wp2_with fail
    refine (HAw.out _).mono ?_
    rintro e w1 ⟨rfl, hb⟩
    have HB := Lib.hid hb
    clear hb
    go_wp2
    go_ret
    exact ⟨rfl, HB.out⟩
end Go.Proofs.Ytphplpkmimckkaa
