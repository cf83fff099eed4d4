/-
  The walk of the document's own Decode.
-/
import Derived.Test.YtljpiamlbdknlaaDoorOne
import Derived.Test.YtljpiamlbdknlaaDoorEncode
import Derived.OwnWalk
import Derived.Lib.AppendStr
namespace Go.Proofs.YtljpiamlbdknlaaDoor
open Go.RowKit Go.Lib

theorem infoByte : (Tryd.prog.info? 5).map (fun i => (i.zero, i.size, i.bytes)) = some (some (.int .u8 0), 1, 1) := by kernel_rfl

/-- A slice that the call has made holds these bytes, and no more of the world has turned. -/
def Holds (w : World) (v : Value) (l : List UInt8) (wr : World) : Prop := wr.ownsRow w.heap.size 5 1 v l.length (Lib.byteCells l) ∧ Below w.heap.size w wr
theorem holds_nil (w : World) : Holds w (.slice none 0 0) [] w := ⟨World.ownsRow_nil _ _ _ _, Below.refl _ _⟩
theorem holds_more {w wr w' : World} {v v' : Value} {l m : List UInt8} {n : Nat} {cs : List Value} (h : Holds w v l wr) (hn : n = m.length) (hc : cs = Lib.byteCells m) (ho : w'.ownsRow w.heap.size 5 1 v' (l.length + n) (Lib.byteCells l ++ cs)) (hg : wr.grownBy w' v.ownBlock) : Holds w v' (l ++ m) w' := by
  refine ⟨?_, h.2.grown hg h.2.size fun k hk => (h.1.lt k hk).1⟩
  rw [List.length_append, ← byteCells_app, ← hn, ← hc]; exact ho
theorem holds_alloc {w wr : World} {v : Value} {l : List UInt8} (h : Holds w v l wr) (o : Obj) : Holds w v l (wr.alloc o) := ⟨h.1.alloc o, h.2.alloc h.2.size o⟩
theorem bytesIn_drop {w : World} {b off : Nat} {l : List UInt8} (h : BytesIn w b off l) (k : Nat) : BytesIn w b (off + k) (l.drop k) := fun j hj => by
  rw [List.length_drop] at hj
  rw [at0_drop, Nat.add_assoc]; exact h (k + j) (by omega)
theorem bytesIn_below {w w' : World} {b off : Nat} {l : List UInt8} (h : BytesIn w b off l) (hb : Below w.heap.size w w') : BytesIn w' b off l := fun j hj => by
  have := h j hj
  rw [← this]
  exact hb.cell (p := ⟨b, off + j, none⟩) (World.block_lt_of_cell? w _ this)
theorem enc_other : encS 65533 = ⟨#[239, 191, 189]⟩ := by unfold encS; rw [if_pos (by decide)]; decide

set_option maxHeartbeats 8000000 in
set_option maxRecDepth 100000 in
theorem rdecode_in (b off len cap : Nat) (l : List UInt8) (w : World) (hlen : l.length = len) (hcap : len ≤ cap) (hl : len ≤ 1000000) (hm : cap ≤ maxLen) (hne : 0 < len) (hA : BytesIn w b off l) :
    Calls Tryd.prog 8 #[.slice (some ⟨b, off, none⟩) len cap] w fun e w' => e = .returned (.string ⟨(decL l).toArray⟩) ∧ Below w.heap.size w w' := by
  unfold maxLen at hm
  obtain ⟨i0, hi, hz0, hz1, hz2⟩ := info_parts infoByte
  have HA := Lib.hid hA
  have HZ := Lib.hid hlen
  have HI := Lib.hid (And.intro hi (And.intro hz0 (And.intro hz1 hz2)))
  clear hA hlen hi hz0 hz1 hz2
  go_enter Tryd.func8, Tryd.ntmps8
  go_wp2
  go_loopw [3, 4] (fun x y wr => ∃ (v : Value) (k : Nat) (acc : List UInt8), x = v ∧ y = .int .i64 k ∧ k ≤ len ∧ acc.length ≤ 3 * k ∧ decL l = acc ++ decL (l.drop k) ∧ Holds w v acc wr) (fun _ y _ => len - (intOf y).toNat)
  case atStart => exact ⟨_, 0, [], rfl, rfl, Nat.zero_le _, Nat.le_refl _, by simp, holds_nil w⟩
  case round =>
    obtain ⟨v, k, acc, rfl, rfl, hk, hacc, hdec, hH⟩ := hrel
    have HH := Lib.hid hH
    have HD := Lib.hid hdec
    clear hH hdec
    by_cases hlt : k < len
    · have hkc : k < cap := by omega
      have hdl : (l.drop k).length = len - k := by rw [List.length_drop, HZ.out]
      have hdne : l.drop k ≠ [] := by intro e; rw [e] at hdl; simp at hdl; omega
      have hB : BytesIn wr b off l := bytesIn_below HA.out HH.out.2
      have hc0 := hB k (by rw [HZ.out]; exact hlt)
      have hv0 := at0_lt l k
      have hone := one_any b (off + k) (len - k) (cap - k) (l.drop k) wr hdl (by omega) (by unfold maxLen; omega) (bytesIn_drop hB k)
      unfold OnePost at hone
      have hsl := stepL_le (l.drop k) hdne
      rw [hdl] at hsl
      have hsp := stepL_pos (l.drop k)
      have HS := Lib.hid (decL_step (l.drop k) hdne)
      have hst := stepL_len (l.drop k) hdne
      have ha0 : at0 (l.drop k) 0 = at0 l k := by rw [at0_drop]; rfl
      by_cases hok : (oneL (l.drop k)).2 = false
      · have hs : stepL (l.drop k) = ([239, 191, 189], (oneL (l.drop k)).1) := by unfold stepL; rw [if_pos (.inl hok)]
        rw [hs] at hsl hsp hst
        have HS2 : Hid (decL (l.drop k) = [239, 191, 189] ++ decL (l.drop (k + (oneL (l.drop k)).1))) := by
          have := HS.out; rw [hs, List.drop_drop] at this; exact this
        rw [hok] at hone
        clear hs HS hdne hB ha0 hok
        generalize (oneL (l.drop k)).1 = n at *
        have hR := Lib.hid (fun W => rencode_any 65533 W (by omega) (by omega))
        have HO := Lib.hid hone
        clear hone hc0
        go_wp2_with (first
          | (go_at_call 21; refine HO.out.mono ?_; rintro e w1 ⟨rfl, rfl⟩)
          | (go_at_call 14; refine (hR.out _).mono ?_; rintro e w1 ⟨rfl, rfl⟩; rw [enc_other])
          | (at_builtin; refine Lib.wpList_append_own_string _ rfl (.tmp 27) (.tmp 28) 22 9 rfl w.heap.size 5 i0 Tryd.underlying22 Tryd.underlying9 HI.out.1 HI.out.2.1 HI.out.2.2.1 HI.out.2.2.2 _ acc.length (Lib.byteCells acc) rfl HH.out.1 ⟨#[239, 191, 189]⟩ rfl (by show acc.length + 3 ≤ maxLen; unfold maxLen; omega) (by show acc.length + 3 ≤ _; omega) HH.out.2.size ?_; intro v' w' ho hg _; have HN := Lib.hid (holds_more HH.out (m := [239, 191, 189]) rfl rfl ho hg); clear ho hg))
        go_roundw
        case rel => exact ⟨_, k + n, acc ++ [239, 191, 189], rfl, by go_num, by omega, by rw [List.length_append]; simp at hst ⊢; omega, by rw [HD.out, HS2.out, List.append_assoc], HN.out⟩
        case measure => simp [intOf]; omega
      · have hok1 : (oneL (l.drop k)).2 = true := by simpa using hok
        by_cases h00 : at0 l k = 0
        · have hhd : (l.drop k).head? = some 0 := (head_at0 hdne 0).2 (by rw [ha0]; exact h00)
          have hs : stepL (l.drop k) = ([239, 191, 189], (oneL (l.drop k)).1) := by unfold stepL; rw [if_pos (.inr hhd)]
          rw [hs] at hsl hsp hst
          have HS2 : Hid (decL (l.drop k) = [239, 191, 189] ++ decL (l.drop (k + (oneL (l.drop k)).1))) := by
            have := HS.out; rw [hs, List.drop_drop] at this; exact this
          rw [hok1] at hone
          rw [h00] at hc0
          clear hs HS hdne hB ha0 hok hok1 hhd h00
          generalize (oneL (l.drop k)).1 = n at *
          have hR := Lib.hid (fun W => rencode_any 65533 W (by omega) (by omega))
          have HO := Lib.hid hone
          clear hone
          go_wp2_with (first
            | (go_at_call 21; refine HO.out.mono ?_; rintro e w1 ⟨rfl, rfl⟩)
            | (go_at_call 14; refine (hR.out _).mono ?_; rintro e w1 ⟨rfl, rfl⟩; rw [enc_other])
            | (at_builtin; refine Lib.wpList_append_own_string _ rfl (.tmp 27) (.tmp 28) 22 9 rfl w.heap.size 5 i0 Tryd.underlying22 Tryd.underlying9 HI.out.1 HI.out.2.1 HI.out.2.2.1 HI.out.2.2.2 _ acc.length (Lib.byteCells acc) rfl HH.out.1 ⟨#[239, 191, 189]⟩ rfl (by show acc.length + 3 ≤ maxLen; unfold maxLen; omega) (by show acc.length + 3 ≤ _; omega) HH.out.2.size ?_; intro v' w' ho hg _; have HN := Lib.hid (holds_more HH.out (m := [239, 191, 189]) rfl rfl ho hg); clear ho hg))
          go_roundw
          case rel => exact ⟨_, k + n, acc ++ [239, 191, 189], rfl, by go_num, by omega, by rw [List.length_append]; simp at hst ⊢; omega, by rw [HD.out, HS2.out, List.append_assoc], HN.out⟩
          case measure => simp [intOf]; omega
        · have n0 : ¬ (l.drop k).head? = some 0 := fun e => h00 (by have := (head_at0 hdne 0).1 e; rw [ha0] at this; exact this)
          have n1 : ¬ ((oneL (l.drop k)).2 = false ∨ (l.drop k).head? = some 0) := by rintro (q | q); exact hok q; exact n0 q
          by_cases h13 : at0 l k = 13
          · have hhd : (l.drop k).head? = some 13 := (head_at0 hdne 13).2 (by rw [ha0]; exact h13)
            have hn1 : (oneL (l.drop k)).1 = 1 := by
              cases hm : l.drop k with
              | nil => exact absurd hm hdne
              | cons c r => rw [oneL_cons, if_pos (by rw [hm] at ha0; have : at0 (c :: r) 0 = c.toNat := rfl; omega)]
            have he1 : (l.drop k)[1]? = l[k + 1]? := by rw [List.getElem?_drop]
            rw [hok1, hn1] at hone
            rw [h13] at hc0
            have HO := Lib.hid hone
            clear hone
            by_cases hk1 : k + 1 < len
            · have hcc : at0 l (k + 1) = (l[k + 1]'(by rw [HZ.out]; exact hk1)).toNat := at0_getElem _ _ _
              by_cases h10 : at0 l (k + 1) = 10
              · have hs : stepL (l.drop k) = ([10], 2) := by
                  unfold stepL
                  rw [if_neg n1, if_pos hhd, he1, List.getElem?_eq_getElem (by rw [HZ.out]; exact hk1), if_pos (by rw [hcc] at h10; congr 1; exact UInt8.toNat_inj.1 h10)]
                have HS2 : Hid (decL (l.drop k) = [10] ++ decL (l.drop (k + 2))) := by
                  have := HS.out; rw [hs, List.drop_drop] at this; exact this
                clear hs HS hdne hB ha0 hok hok1 hhd h00 n0 n1 hn1 he1 hcc hsl hsp hst
                go_wp2_with (first
                  | (go_at_call 21; refine HO.out.mono ?_; rintro e w1 ⟨rfl, rfl⟩)
                  | (at_builtin; refine wpList_append_own _ rfl (.tmp 35) (.tmp 36) 22 rfl w.heap.size 5 i0 (.int .u8 0) 1 1 Tryd.underlying22 HI.out.1 HI.out.2.1 HI.out.2.2.1 HI.out.2.2.2 rfl (by decide) _ acc.length (Lib.byteCells acc) rfl (HH.out.1.alloc _) ⟨wr.heap.size, 0, none⟩ 1 1 [.int .u8 10] rfl rfl (by intro j u hj; match j, hj with | 0, hj => (simp at hj; subst hj; simp [Addr.add])) (by intro u hu; simp at hu; subst hu; rfl) (by unfold maxLen; omega) (by omega) (holds_alloc HH.out _).2.size ?_; intro v' w' ho hg _; have HN := Lib.hid (holds_more (holds_alloc HH.out _) (m := [10]) rfl rfl ho hg); clear ho hg; have hc1 := bytesIn_below HA.out HN.out.2 (k + 1) (by rw [HZ.out]; exact hk1); rw [h10] at hc1))
                go_roundw
                case rel => exact ⟨_, k + 2, acc ++ [10], rfl, by go_num, by omega, by rw [List.length_append]; simp; omega, by rw [HD.out, HS2.out, List.append_assoc], HN.out⟩
                case measure => simp [intOf]; omega
              · have hs : stepL (l.drop k) = ([10], 1) := by
                  unfold stepL
                  rw [if_neg n1, if_pos hhd, he1, hn1, List.getElem?_eq_getElem (by rw [HZ.out]; exact hk1), if_neg (by intro e; apply h10; rw [hcc, Option.some.inj e]; rfl)]
                have HS2 : Hid (decL (l.drop k) = [10] ++ decL (l.drop (k + 1))) := by
                  have := HS.out; rw [hs, List.drop_drop] at this; exact this
                have hne10 : (((at0 l (k + 1) : Nat) : Int) == 10) = false := by simp; omega
                have hlt2 := at0_lt l (k + 1)
                clear hs HS hdne hB ha0 hok hok1 hhd h00 n0 n1 hn1 he1 hcc hsl hsp hst h10
                go_wp2_with (first
                  | (go_at_call 21; refine HO.out.mono ?_; rintro e w1 ⟨rfl, rfl⟩)
                  | (at_builtin; refine wpList_append_own _ rfl (.tmp 35) (.tmp 36) 22 rfl w.heap.size 5 i0 (.int .u8 0) 1 1 Tryd.underlying22 HI.out.1 HI.out.2.1 HI.out.2.2.1 HI.out.2.2.2 rfl (by decide) _ acc.length (Lib.byteCells acc) rfl (HH.out.1.alloc _) ⟨wr.heap.size, 0, none⟩ 1 1 [.int .u8 10] rfl rfl (by intro j u hj; match j, hj with | 0, hj => (simp at hj; subst hj; simp [Addr.add])) (by intro u hu; simp at hu; subst hu; rfl) (by unfold maxLen; omega) (by omega) (holds_alloc HH.out _).2.size ?_; intro v' w' ho hg hx; clear hx; have HN := Lib.hid (holds_more (holds_alloc HH.out _) (m := [10]) rfl rfl ho hg); clear ho hg; have hc1 := bytesIn_below HA.out HN.out.2 (k + 1) (by rw [HZ.out]; exact hk1)))
                go_roundw
                case rel => exact ⟨_, k + 1, acc ++ [10], rfl, by go_num, by omega, by rw [List.length_append]; simp; omega, by rw [HD.out, HS2.out, List.append_assoc], HN.out⟩
                case measure => simp [intOf]; omega
            · have hs : stepL (l.drop k) = ([10], 1) := by
                unfold stepL
                rw [if_neg n1, if_pos hhd, he1, hn1, List.getElem?_eq_none (by rw [HZ.out]; omega), if_neg (by simp)]
              have HS2 : Hid (decL (l.drop k) = [10] ++ decL (l.drop (k + 1))) := by
                have := HS.out; rw [hs, List.drop_drop] at this; exact this
              clear hs HS hdne hB ha0 hok hok1 hhd h00 n0 n1 hn1 he1 hsl hsp hst
              go_wp2_with (first
                | (go_at_call 21; refine HO.out.mono ?_; rintro e w1 ⟨rfl, rfl⟩)
                | (at_builtin; refine wpList_append_own _ rfl (.tmp 35) (.tmp 36) 22 rfl w.heap.size 5 i0 (.int .u8 0) 1 1 Tryd.underlying22 HI.out.1 HI.out.2.1 HI.out.2.2.1 HI.out.2.2.2 rfl (by decide) _ acc.length (Lib.byteCells acc) rfl (HH.out.1.alloc _) ⟨wr.heap.size, 0, none⟩ 1 1 [.int .u8 10] rfl rfl (by intro j u hj; match j, hj with | 0, hj => (simp at hj; subst hj; simp [Addr.add])) (by intro u hu; simp at hu; subst hu; rfl) (by unfold maxLen; omega) (by omega) (holds_alloc HH.out _).2.size ?_; intro v' w' ho hg hx; clear hx; have HN := Lib.hid (holds_more (holds_alloc HH.out _) (m := [10]) rfl rfl ho hg); clear ho hg))
              go_roundw
              case rel => exact ⟨_, k + 1, acc ++ [10], rfl, by go_num, by omega, by rw [List.length_append]; simp; omega, by rw [HD.out, HS2.out, List.append_assoc], HN.out⟩
              case measure => simp [intOf]; omega
          · have n2 : ¬ (l.drop k).head? = some 13 := fun e => h13 (by have := (head_at0 hdne 13).1 e; rw [ha0] at this; exact this)
            have hs : stepL (l.drop k) = ((l.drop k).take (oneL (l.drop k)).1, (oneL (l.drop k)).1) := by
              unfold stepL; rw [if_neg n1, if_neg n2]
            rw [hs] at hsl hsp hst
            have HS2 : Hid (decL (l.drop k) = (l.drop k).take (oneL (l.drop k)).1 ++ decL (l.drop (k + (oneL (l.drop k)).1))) := by
              have := HS.out; rw [hs, List.drop_drop] at this; exact this
            rw [hok1] at hone
            have hq0 : (((at0 l k : Nat) : Int) == 0) = false := by simp; omega
            have hq13 : (((at0 l k : Nat) : Int) == 13) = false := by simp; omega
            have HT : Hid (((l.drop k).take (oneL (l.drop k)).1).length = (oneL (l.drop k)).1) := Lib.hid (by rw [List.length_take, hdl]; omega)
            have HC : Hid (∀ j u, (Lib.byteCells ((l.drop k).take (oneL (l.drop k)).1))[j]? = some u → wr.cell? ((⟨b, off + k, none⟩ : Addr).add j) = some u) := Lib.hid (by
              intro j u hj
              have hjl : j < (oneL (l.drop k)).1 := by
                have := (List.getElem?_eq_some_iff.1 hj).1
                rw [Lib.byteCells_length, HT.out] at this; exact this
              have hcj := bytesIn_drop hB k j (by rw [hdl]; omega)
              rw [show (⟨b, off + k, none⟩ : Addr).add j = ⟨b, off + k + j, none⟩ from Go.WideShapes.add_plain ..]
              rw [hcj, ← hj]
              simp only [Lib.byteCells, List.getElem?_map, List.getElem?_take, hjl, if_true]
              rw [List.getElem?_eq_getElem (by rw [hdl]; omega), at0_getElem _ _ (by rw [hdl]; omega)]
              rfl)
            have HO1 : Hid (∀ u ∈ Lib.byteCells ((l.drop k).take (oneL (l.drop k)).1), u.oneCell' = true) := Lib.hid (by
              intro u hu
              simp only [Lib.byteCells, List.mem_map] at hu
              obtain ⟨x, _, rfl⟩ := hu
              rfl)
            clear hs HS hdne hB ha0 hok hok1 h00 h13 n0 n1 n2 hst
            have HO := Lib.hid hone
            clear hone
            generalize hpp : (l.drop k).take (oneL (l.drop k)).1 = pp at *
            clear hpp
            generalize (oneL (l.drop k)).1 = n at *
            have hkn : k + n ≤ cap := by omega
            go_wp2_with (first
              | (go_at_call 21; refine HO.out.mono ?_; rintro e w1 ⟨rfl, rfl⟩)
              | (at_builtin; refine wpList_append_own _ rfl (.tmp 51) (.tmp 57) 22 rfl w.heap.size 5 i0 (.int .u8 0) 1 1 Tryd.underlying22 HI.out.1 HI.out.2.1 HI.out.2.2.1 HI.out.2.2.2 rfl (by decide) _ acc.length (Lib.byteCells acc) rfl HH.out.1 ⟨b, off + k, none⟩ n (cap - k) (Lib.byteCells pp) (by first | rfl | (show Value.slice _ _ _ = _; congr 1; omega) | (go_show; rfl)) (by rw [Lib.byteCells_length, HT.out, Nat.mul_one]) HC.out HO1.out (by unfold maxLen; omega) (by omega) HH.out.2.size ?_; intro v' w' ho hg hx; clear hx; have HN := Lib.hid (holds_more HH.out (m := pp) HT.out.symm rfl ho hg); clear ho hg))
            go_roundw
            case rel => exact ⟨_, k + n, acc ++ pp, rfl, by go_num, by omega, by rw [List.length_append, HT.out]; omega, by rw [HD.out, HS2.out, List.append_assoc], HN.out⟩
            case measure => simp [intOf]; omega
    · obtain rfl : k = len := by omega
      have hfin : decL l = acc := by
        rw [HD.out, List.drop_of_length_le (by rw [HZ.out]; exact Nat.le_refl _), decL_nil, List.append_nil]
      have HF := Lib.hid hfin
      have hback : (convert 22 9 u3).run Tryd.prog wr = .ok (.string ⟨acc.toArray⟩) wr := by
        obtain ⟨⟨hl1, hown⟩, _⟩ := HH.out
        rcases hown with ⟨rfl, hn0⟩ | ⟨g, cp, cur, rfl, hg, hh, h1, h2, h3, h4⟩
        · have : acc = [] := List.eq_nil_of_length_eq_zero hn0
          subst this
          exact to_text (.inl ⟨rfl, rfl⟩) 0
        · refine to_text (.inr ⟨_, rfl, fun j hj => ?_⟩) cp
          rw [show (⟨g, 0, none⟩ : Addr).add j = ⟨g, 0 + j, none⟩ from Go.WideShapes.add_plain .., Nat.zero_add]
          have hx : (cur.toList.take (acc.length * 1))[j]? = (Lib.byteCells acc)[j]? := by rw [h4]
          rw [List.getElem?_take, if_pos (by omega)] at hx
          simp only [Lib.byteCells, List.getElem?_map, List.getElem?_eq_getElem hj, Option.map_some] at hx
          simp only [World.cell?, hh]
          simpa using hx
      clear hfin
      go_wp2
      go_ret
      exact ⟨ret_str (by rw [HF.out]), HH.out.2⟩

theorem rdecode_nil (a : Option Addr) (cap : Nat) (w : World) :
    Calls Tryd.prog 8 #[.slice a 0 cap] w fun e w' => e = .returned (.string ⟨#[]⟩) ∧ Below w.heap.size w w' := by
  have hback : (convert 22 9 (.slice none 0 0)).run Tryd.prog w = .ok (.string ⟨#[]⟩) w := to_text (w := w) (a := none) (l := []) (.inl ⟨rfl, rfl⟩) 0
  go_enter Tryd.func8, Tryd.ntmps8
  go_wp2
  refine wp_loop_rounds 1 ?_
  rw [rounds_succ]
  go_wp2
  go_ret
  exact ⟨rfl, Below.refl _ _⟩
end Go.Proofs.YtljpiamlbdknlaaDoor
