/-
  The walk of the law UtfStays: a closure is handed to the library's Map.
-/
import Derived.Test.YtljpiamlbdknlaaDoorLawB
namespace Go.Proofs.YtljpiamlbdknlaaDoor
open Go.RowKit Go.Lib

/-- The closure: a character from 32 to 126. -/
def lowF (x : Int) : Int := 32 + x % 95
theorem lowF_bd (x : Int) (_ : 0 ≤ x) : 32 ≤ lowF x ∧ lowF x ≤ 126 := by unfold lowF; omega

theorem lit_any (x : Nat) (w : World) (hx : x ≤ 1114111) :
    Calls Tryd.prog 16 #[.int .i32 (x : Nat)] w fun e w' => e = .returned (.int .i32 (lowF x)) ∧ w = w' := by
  have e : lowF x = 32 + (x : Int) % 95 := rfl
  rw [e]; clear e
  go_enter Tryd.func16, Tryd.ntmps16
  go_wp2
  go_ret
  exact ⟨rfl, rfl⟩

theorem map_low (s : ByteArray) (w : World) (hT : Tabs w) (hs : s.size ≤ 100000) :
    Calls Tryd.prog 15 #[.func (.func 16) #[] #[], .string s] w fun e w' => e = .returned (.string ⟨(Lib.mapD lowF s.data.toList).toArray⟩) ∧ Below w.heap.size w w' :=
  Tryd.strings_Map_runes 16 #[] (enters_of Tryd.func16 (by kernel_rfl) rfl) lowF s w (by omega)
    (fun W x hx _ => (lit_any x W hx).mono fun e w' h => ⟨h.1, 0, h.2.symm⟩)
    (fun x _ => by have := lowF_bd x (by omega); omega) hT

/-- A text made bytes, and decoded. -/
theorem decode_copy (s : ByteArray) (W : World) (hT : Tabs W) (hs : s.size ≤ 100000) :
    Calls Tryd.prog 7 #[.slice (some ⟨W.heap.size, 0, none⟩) s.size (grownCap W s.size 0 5)] (W.alloc (.cells (bytesRow s (grownCap W s.size 0 5)) 5 ((bytesRow s (grownCap W s.size 0 5)).size, (bytesRow s (grownCap W s.size 0 5)).size + 1))).drew
      fun e w' => e = .returned (.string ⟨(decL s.data.toList).toArray⟩) ∧ Below W.heap.size W w' := by
  have hb : Below W.heap.size W (W.alloc (.cells (bytesRow s (grownCap W s.size 0 5)) 5 ((bytesRow s (grownCap W s.size 0 5)).size, (bytesRow s (grownCap W s.size 0 5)).size + 1))).drew := ((Below.refl _ _).alloc (Nat.le_refl _) _).drew
  have := decode_any (some ⟨W.heap.size, 0, none⟩) (grownCap W s.size 0 5) s.data.toList _ (tabs_below hT hb (tabs_size hT)) (by rw [size_list]; omega) (.inr ⟨_, rfl, fun j hj => by
    have hj' : j < s.size := by rw [← size_list]; exact hj
    rw [show (⟨W.heap.size, 0, none⟩ : Addr).add j = ⟨W.heap.size, 0 + j, none⟩ from Go.WideShapes.add_plain .., Nat.zero_add]
    refine (World.cell?_alloc_mark W _ 5 _ j).trans ?_
    rw [bytesRow_at s _ j hj']
    rfl⟩)
  rw [size_list] at this
  exact this.mono fun e w' h => ⟨h.1, hb.trans (h.2.mono (by simp))⟩

set_option maxHeartbeats 4000000 in
theorem stays_walk (a : Option Addr) (cap : Nat) (l : List UInt8) (w : World) (hT : Tabs w) (hA : Came w a cap l) :
    Calls Tryd.prog 5 #[.slice a l.length cap] w fun e w' => e = .returned (.bool true) ∧ Below w.heap.size w w' := by
  have HT := Lib.hid hT
  have HB := Lib.hid (Below.refl w.heap.size w)
  have HA : Hid (∀ W, Below w.heap.size w W → Calls Tryd.prog 6 #[] W fun e w' => e = .returned (.bool true) ∧ Below W.heap.size W w') :=
    Lib.hid (fun W hb => awake_any W (tabs_below HT.out hb (tabs_size HT.out)))
  have hmm := hA.cap1
  have hmm2 := hA.cap2
  unfold maxLen at hmm2
  clear hT
  by_cases h500 : 500 < l.length
  · have h5 : (500 : Int) < l.length := by omega
    clear hA h500
    go_enter Tryd.func5, Tryd.ntmps5
    go_wp2_with (go_at_call 6; refine (HA.out _ HB.out).mono ?_; rintro e w2 ⟨rfl, hb⟩; replace HB := Lib.hid (HB.out.trans (hb.mono HB.out.size)); clear hb)
    go_ret
    exact ⟨rfl, HB.out⟩
  · have h5 : ¬ (500 : Int) < l.length := by omega
    have HD : Hid (∀ W, Below w.heap.size w W → Calls Tryd.prog 7 #[.slice a l.length cap] W fun e w' => e = .returned (.string ⟨(decL l).toArray⟩) ∧ Below W.heap.size W w') :=
      Lib.hid (fun W hb => decode_any a cap l W (tabs_below HT.out hb (tabs_size HT.out)) (by omega) (came_below hA hb).at')
    have hdl := decL_len l
    have hlow : decL (Lib.mapD lowF (decL l)) = Lib.mapD lowF (decL l) := plain_stays _ (mapD_plain lowF lowF_bd _ _)
    have hlowlen : (Lib.mapD lowF (decL l)).length ≤ (decL l).length := mapD_len lowF lowF_bd _ _
    have hid := decL_idem l
    have hok := (decL_eq (decL l)).1 hid
    have hst := stL_decL l
    have hstl := stL_le l
    generalize decL l = D at *
    have hDl : (ByteArray.mk D.toArray).data.toList = D := by simp
    have hDs : (ByteArray.mk D.toArray).size = D.length := by show D.toArray.size = _; simp
    have HM : Hid (∀ W, Below w.heap.size w W → Calls Tryd.prog 15 #[.func (.func 16) #[] #[], .string ⟨D.toArray⟩] W fun e w' => e = .returned (.string ⟨(Lib.mapD lowF D).toArray⟩) ∧ Below W.heap.size W w') :=
      Lib.hid (fun W hb => by
        have := map_low ⟨D.toArray⟩ W (tabs_below HT.out hb (tabs_size HT.out)) (by rw [hDs]; omega)
        rw [hDl] at this; exact this)
    have HV : Hid (∀ W, Below w.heap.size w W → Calls Tryd.prog 9 #[.string ⟨D.toArray⟩] W fun e w' => e = .returned (.bool true) ∧ Below W.heap.size W w') :=
      Lib.hid (fun W hb => by
        have := valid_any ⟨D.toArray⟩ W (tabs_below HT.out hb (tabs_size HT.out)) (by rw [hDs]; unfold maxLen; omega)
        rw [hDl, hok] at this; exact this)
    have HC : Hid (∀ W, Below w.heap.size w W → Calls Tryd.prog 11 #[.string ⟨D.toArray⟩] W fun e w' => e = .returned (.int .i64 (stL l : Nat)) ∧ Below W.heap.size W w') :=
      Lib.hid (fun W hb => by
        have := count_any ⟨D.toArray⟩ W (tabs_below HT.out hb (tabs_size HT.out)) (by rw [hDs]; unfold maxLen; omega)
        rw [hDl, hst] at this; exact this)
    generalize Lib.mapD lowF D = M at *
    have hMl : (ByteArray.mk M.toArray).data.toList = M := by simp
    have hMs : (ByteArray.mk M.toArray).size = M.length := by show M.toArray.size = _; simp
    have K1 : Hid (∀ W, Below w.heap.size w W → Calls Tryd.prog 7 #[.slice (some ⟨W.heap.size, 0, none⟩) (ByteArray.mk D.toArray).size (grownCap W (ByteArray.mk D.toArray).size 0 5)] (W.alloc (.cells (bytesRow ⟨D.toArray⟩ (grownCap W (ByteArray.mk D.toArray).size 0 5)) 5 ((bytesRow ⟨D.toArray⟩ (grownCap W (ByteArray.mk D.toArray).size 0 5)).size, (bytesRow ⟨D.toArray⟩ (grownCap W (ByteArray.mk D.toArray).size 0 5)).size + 1))).drew fun e w' => e = .returned (.string ⟨D.toArray⟩) ∧ Below W.heap.size W w') :=
      Lib.hid (fun W hb => by
        have := decode_copy ⟨D.toArray⟩ W (tabs_below HT.out hb (tabs_size HT.out)) (by rw [hDs]; omega)
        rw [hDl, hid] at this; exact this)
    have K2 : Hid (∀ W, Below w.heap.size w W → Calls Tryd.prog 7 #[.slice (some ⟨W.heap.size, 0, none⟩) (ByteArray.mk M.toArray).size (grownCap W (ByteArray.mk M.toArray).size 0 5)] (W.alloc (.cells (bytesRow ⟨M.toArray⟩ (grownCap W (ByteArray.mk M.toArray).size 0 5)) 5 ((bytesRow ⟨M.toArray⟩ (grownCap W (ByteArray.mk M.toArray).size 0 5)).size, (bytesRow ⟨M.toArray⟩ (grownCap W (ByteArray.mk M.toArray).size 0 5)).size + 1))).drew fun e w' => e = .returned (.string ⟨M.toArray⟩) ∧ Below W.heap.size W w') :=
      Lib.hid (fun W hb => by
        have := decode_copy ⟨M.toArray⟩ W (tabs_below HT.out hb (tabs_size HT.out)) (by rw [hMs]; omega)
        rw [hMl, hlow] at this; exact this)
    clear hA h500 hid hok hst hlow hdl hlowlen hDl hDs hMl hMs
    generalize ByteArray.mk D.toArray = s at *
    generalize ByteArray.mk M.toArray = m at *
    have hcs := fun W => run_bytes_of_string (P := Tryd.prog) W 9 22 5 s Tryd.underlying9 Tryd.underlying22 Tryd.underlying5
    have hcm := fun W => run_bytes_of_string (P := Tryd.prog) W 9 22 5 m Tryd.underlying9 Tryd.underlying22 Tryd.underlying5
    go_enter Tryd.func5, Tryd.ntmps5
    go_wp2_with fail
    refine (HD.out _ HB.out).mono ?_
    rintro e w2 ⟨rfl, hb⟩
    replace HB := Lib.hid (HB.out.trans (hb.mono HB.out.size))
    clear hb
    go_wp2_with fail
    refine (HM.out _ HB.out).mono ?_
    rintro e w3 ⟨rfl, hb⟩
    replace HB := Lib.hid (HB.out.trans (hb.mono HB.out.size))
    clear hb
    go_wp2_with (first
      | (go_at_call 9; refine (HV.out _ HB.out).mono ?_; rintro e w2 ⟨rfl, hb⟩; replace HB := Lib.hid (HB.out.trans (hb.mono HB.out.size)); clear hb)
      | (go_at_call 7; fail))
    refine (K1.out _ HB.out).mono ?_
    rintro e w4 ⟨rfl, hb⟩
    replace HB := Lib.hid (HB.out.trans (hb.mono HB.out.size))
    clear hb
    go_wp2_with fail
    refine (K2.out _ HB.out).mono ?_
    rintro e w5 ⟨rfl, hb⟩
    replace HB := Lib.hid (HB.out.trans (hb.mono HB.out.size))
    clear hb
    go_wp2_with (first
      | (go_at_call 11; refine (HC.out _ HB.out).mono ?_; rintro e w2 ⟨rfl, hb⟩; replace HB := Lib.hid (HB.out.trans (hb.mono HB.out.size)); clear hb)
      | (go_at_call 6; refine (HA.out _ HB.out).mono ?_; rintro e w2 ⟨rfl, hb⟩; replace HB := Lib.hid (HB.out.trans (hb.mono HB.out.size)); clear hb))
    go_ret
    exact ⟨rfl, HB.out⟩
end Go.Proofs.YtljpiamlbdknlaaDoor
