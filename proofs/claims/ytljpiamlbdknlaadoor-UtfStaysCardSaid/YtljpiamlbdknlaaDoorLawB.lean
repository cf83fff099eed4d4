/-
  The walks of the three laws on utf.
-/
import Derived.Test.YtljpiamlbdknlaaDoorLawA
namespace Go.Proofs.YtljpiamlbdknlaaDoor
open Go.RowKit Go.Lib

theorem eqS (a b : ByteArray) (h : a = b) : (a.toList == b.toList) = true := by rw [h]; simp

set_option maxHeartbeats 2000000 in
theorem encodes_walk (n : Int) (w : World) (hT : Tabs w) (h1 : -9223372036854775808 ≤ n) (h2 : n ≤ 9223372036854775807) :
    Calls Tryd.prog 4 #[.int .i64 n] w fun e w' => e = .returned (.bool true) ∧ Below w.heap.size w w' := by
  have HT := Lib.hid hT
  have HB := Lib.hid (Below.refl w.heap.size w)
  clear hT
  have HC : Hid (∀ W, Below w.heap.size w W → Calls Tryd.prog 11 #[.string (encS n)] W fun e w' => e = .returned (.int .i64 1) ∧ Below W.heap.size W w') :=
    Lib.hid (fun W hb => by
      have := count_any (encS n) W (tabs_below HT.out hb (tabs_size HT.out)) (by have := encS_size n; unfold maxLen; omega)
      rw [encS_count n] at this
      exact this)
  have HV : Hid (∀ W, n ≠ 0 → n ≠ 13 → Below w.heap.size w W → Calls Tryd.prog 9 #[.string (encS n)] W fun e w' => e = .returned (.bool true) ∧ Below W.heap.size W w') :=
    Lib.hid (fun W h0 h13 hb => by
      have := valid_any (encS n) W (tabs_below HT.out hb (tabs_size HT.out)) (by have := encS_size n; unfold maxLen; omega)
      rw [(char_ok (encS_char n h0 h13)).1] at this
      exact this)
  have HA : Hid (∀ W, Below w.heap.size w W → Calls Tryd.prog 6 #[] W fun e w' => e = .returned (.bool true) ∧ Below W.heap.size W w') :=
    Lib.hid (fun W hb => awake_any W (tabs_below HT.out hb (tabs_size HT.out)))
  by_cases h0 : n = 0
  · have q0 : (n == 0) = true := by simpa using h0
    clear h0
    go_enter Tryd.func4, Tryd.ntmps4
    go_wp2_with (first
      | (go_at_call 13; refine (encode_any _ _ h1 h2).mono ?_; rintro e w2 ⟨rfl, rfl⟩)
      | (go_at_call 14; refine (rencode_any _ _ h1 h2).mono ?_; rintro e w2 ⟨rfl, rfl⟩)
      | (go_at_call 11; refine (HC.out _ HB.out).mono ?_; rintro e w2 ⟨rfl, hb⟩; replace HB := Lib.hid (HB.out.trans (hb.mono HB.out.size)); clear hb)
      | (go_at_call 6; refine (HA.out _ HB.out).mono ?_; rintro e w2 ⟨rfl, hb⟩; replace HB := Lib.hid (HB.out.trans (hb.mono HB.out.size)); clear hb))
    go_ret
    exact ⟨rfl, HB.out⟩
  · by_cases h13 : n = 13
    · have q0 : (n == 0) = false := by simpa using h0
      have q13 : (n == 13) = true := by simpa using h13
      clear h0 h13
      go_enter Tryd.func4, Tryd.ntmps4
      go_wp2_with (first
        | (go_at_call 13; refine (encode_any _ _ h1 h2).mono ?_; rintro e w2 ⟨rfl, rfl⟩)
        | (go_at_call 14; refine (rencode_any _ _ h1 h2).mono ?_; rintro e w2 ⟨rfl, rfl⟩)
        | (go_at_call 11; refine (HC.out _ HB.out).mono ?_; rintro e w2 ⟨rfl, hb⟩; replace HB := Lib.hid (HB.out.trans (hb.mono HB.out.size)); clear hb)
        | (go_at_call 6; refine (HA.out _ HB.out).mono ?_; rintro e w2 ⟨rfl, hb⟩; replace HB := Lib.hid (HB.out.trans (hb.mono HB.out.size)); clear hb))
      go_ret
      exact ⟨rfl, HB.out⟩
    · have q0 : (n == 0) = false := by simpa using h0
      have q13 : (n == 13) = false := by simpa using h13
      have HV2 := Lib.hid (fun W => HV.out W h0 h13)
      clear h0 h13
      go_enter Tryd.func4, Tryd.ntmps4
      go_wp2_with (first
        | (go_at_call 13; refine (encode_any _ _ h1 h2).mono ?_; rintro e w2 ⟨rfl, rfl⟩)
        | (go_at_call 14; refine (rencode_any _ _ h1 h2).mono ?_; rintro e w2 ⟨rfl, rfl⟩)
        | (go_at_call 9; refine (HV2.out _ HB.out).mono ?_; rintro e w2 ⟨rfl, hb⟩; replace HB := Lib.hid (HB.out.trans (hb.mono HB.out.size)); clear hb)
        | (go_at_call 11; refine (HC.out _ HB.out).mono ?_; rintro e w2 ⟨rfl, hb⟩; replace HB := Lib.hid (HB.out.trans (hb.mono HB.out.size)); clear hb)
        | (go_at_call 6; refine (HA.out _ HB.out).mono ?_; rintro e w2 ⟨rfl, hb⟩; replace HB := Lib.hid (HB.out.trans (hb.mono HB.out.size)); clear hb))
      go_ret
      exact ⟨rfl, HB.out⟩

/-- What a law is told of a slice of bytes that came in. -/
structure Came (w : World) (a : Option Addr) (cap : Nat) (l : List UInt8) : Prop where
  cap1 : l.length ≤ cap
  cap2 : cap ≤ maxLen
  at' : BytesAt w a l
  in' : l ≠ [] → ∃ b off, a = some ⟨b, off, none⟩ ∧ BytesIn w b off l
theorem came_below {w W : World} {a : Option Addr} {cap : Nat} {l : List UInt8} (h : Came w a cap l) (hb : Below w.heap.size w W) : Came W a cap l := by
  refine ⟨h.cap1, h.cap2, ?_, fun hne => ?_⟩
  · rcases h.at' with h | ⟨x, h1, h2⟩
    · exact .inl h
    · exact .inr ⟨x, h1, fun j hj => (hb.cell (p := x.add j) (World.block_lt_of_cell? w _ (h2 j hj))).trans (h2 j hj)⟩
  · obtain ⟨b, off, h1, h2⟩ := h.in' hne
    exact ⟨b, off, h1, bytesIn_below h2 hb⟩
theorem rdecode_came {W : World} {a : Option Addr} {cap : Nat} {l : List UInt8} (h : Came W a cap l) (hl : l.length ≤ 1000000) :
    Calls Tryd.prog 8 #[.slice a l.length cap] W fun e w' => e = .returned (.string ⟨(decL l).toArray⟩) ∧ Below W.heap.size W w' := by
  by_cases hne : l = []
  · subst hne; exact rdecode_nil a cap W
  · obtain ⟨b, off, rfl, h2⟩ := h.in' hne
    exact rdecode_any b off l.length cap l W rfl h.cap1 hl h.cap2 h2

set_option maxHeartbeats 4000000 in
theorem decodes_walk (a : Option Addr) (cap : Nat) (l : List UInt8) (w : World) (hT : Tabs w) (hA : Came w a cap l) :
    Calls Tryd.prog 3 #[.slice a l.length cap] w fun e w' => e = .returned (.bool true) ∧ Below w.heap.size w w' := by
  have HT := Lib.hid hT
  have HB := Lib.hid (Below.refl w.heap.size w)
  have HA : Hid (∀ W, Below w.heap.size w W → Calls Tryd.prog 6 #[] W fun e w' => e = .returned (.bool true) ∧ Below W.heap.size W w') :=
    Lib.hid (fun W hb => awake_any W (tabs_below HT.out hb (tabs_size HT.out)))
  have hmm := hA.cap1
  have hmm2 := hA.cap2
  unfold maxLen at hmm2
  clear hT
  by_cases h500 : 500 < l.length
  · have h5 : (500 : Int) < l.length := by omega
    clear hA h500
    go_enter Tryd.func3, Tryd.ntmps3
    go_wp2_with (go_at_call 6; refine (HA.out _ HB.out).mono ?_; rintro e w2 ⟨rfl, hb⟩; replace HB := Lib.hid (HB.out.trans (hb.mono HB.out.size)); clear hb)
    go_ret
    exact ⟨rfl, HB.out⟩
  · have h5 : ¬ (500 : Int) < l.length := by omega
    have hconv := to_text hA.at' cap
    have hlist : (ByteArray.mk l.toArray).data.toList = l := by simp
    have hsz : (ByteArray.mk l.toArray).size = l.length := by show l.toArray.size = _; simp
    have HD : Hid (∀ W, Below w.heap.size w W → Calls Tryd.prog 7 #[.slice a l.length cap] W fun e w' => e = .returned (.string ⟨(decL l).toArray⟩) ∧ Below W.heap.size W w') :=
      Lib.hid (fun W hb => decode_any a cap l W (tabs_below HT.out hb (tabs_size HT.out)) (by omega) (came_below hA hb).at')
    have HRD : Hid (∀ W, Below w.heap.size w W → Calls Tryd.prog 8 #[.slice a l.length cap] W fun e w' => e = .returned (.string ⟨(decL l).toArray⟩) ∧ Below W.heap.size W w') :=
      Lib.hid (fun W hb => rdecode_came (came_below hA hb) (by omega))
    have HV : Hid (∀ W, Below w.heap.size w W → Calls Tryd.prog 9 #[.string ⟨l.toArray⟩] W fun e w' => e = .returned (.bool (okU l)) ∧ Below W.heap.size W w') :=
      Lib.hid (fun W hb => by
        have := valid_any ⟨l.toArray⟩ W (tabs_below HT.out hb (tabs_size HT.out)) (by rw [hsz]; unfold maxLen; omega)
        rw [hlist] at this; exact this)
    have HRV : Hid (∀ W, Calls Tryd.prog 10 #[.string ⟨l.toArray⟩] W fun e w' => e = .returned (.bool (okU l)) ∧ Below W.heap.size W w') :=
      Lib.hid (fun W => by
        have := rvalid_any ⟨l.toArray⟩ W (by rw [hsz]; omega)
        rw [hlist] at this; exact this)
    have HC : Hid (∀ W, Below w.heap.size w W → Calls Tryd.prog 11 #[.string ⟨l.toArray⟩] W fun e w' => e = .returned (.int .i64 (stL l : Nat)) ∧ Below W.heap.size W w') :=
      Lib.hid (fun W hb => by
        have := count_any ⟨l.toArray⟩ W (tabs_below HT.out hb (tabs_size HT.out)) (by rw [hsz]; unfold maxLen; omega)
        rw [hlist] at this; exact this)
    have HRC : Hid (∀ W, Calls Tryd.prog 12 #[.string ⟨l.toArray⟩] W fun e w' => e = .returned (.int .i64 (stL l : Nat)) ∧ Below W.heap.size W w') :=
      Lib.hid (fun W => by
        have := rcount_any ⟨l.toArray⟩ W (by rw [hsz]; omega)
        rw [hlist] at this; exact this)
    clear hA hlist hsz h500
    generalize hs : ByteArray.mk l.toArray = s at *
    clear hs
    generalize decL l = D at *
    generalize okU l = V at *
    generalize stL l = N at *
    go_enter Tryd.func3, Tryd.ntmps3
    go_wp2_with (first
      | (go_at_call 7; refine (HD.out _ HB.out).mono ?_; rintro e w2 ⟨rfl, hb⟩; replace HB := Lib.hid (HB.out.trans (hb.mono HB.out.size)); clear hb)
      | (go_at_call 8; refine (HRD.out _ HB.out).mono ?_; rintro e w2 ⟨rfl, hb⟩; replace HB := Lib.hid (HB.out.trans (hb.mono HB.out.size)); clear hb)
      | (go_at_call 9; refine (HV.out _ HB.out).mono ?_; rintro e w2 ⟨rfl, hb⟩; replace HB := Lib.hid (HB.out.trans (hb.mono HB.out.size)); clear hb)
      | (go_at_call 10; refine (HRV.out _).mono ?_; rintro e w2 ⟨rfl, hb⟩; replace HB := Lib.hid (HB.out.trans (hb.mono HB.out.size)); clear hb)
      | (go_at_call 11; refine (HC.out _ HB.out).mono ?_; rintro e w2 ⟨rfl, hb⟩; replace HB := Lib.hid (HB.out.trans (hb.mono HB.out.size)); clear hb)
      | (go_at_call 12; refine (HRC.out _).mono ?_; rintro e w2 ⟨rfl, hb⟩; replace HB := Lib.hid (HB.out.trans (hb.mono HB.out.size)); clear hb)
      | (go_at_call 6; refine (HA.out _ HB.out).mono ?_; rintro e w2 ⟨rfl, hb⟩; replace HB := Lib.hid (HB.out.trans (hb.mono HB.out.size)); clear hb))
    go_ret
    exact ⟨rfl, HB.out⟩
end Go.Proofs.YtljpiamlbdknlaaDoor
