/-
  The walk of the library's FullRuneInString, at texts of two bytes or more whose first byte is above 127.
-/
import Derived.Test.YtljpiamlbdknlaaDoorRows
import Derived.Test.YtljpiamlbdknlaaDoorText
import Derived.Test.YtljpiamlbdknlaaDoorShelf2
import Derived.WalkKit
import Derived.WalkSpells
import Derived.WalkSmall
import Derived.Lib.Hide
import Derived.Deep.QuietTactic
import Derived.BigQuiet
namespace Go.Proofs.YtljpiamlbdknlaaDoor
open Go.RowKit Go.Lib

def Tabs (w : World) : Prop := Lib.Utf8Tabs 0 1 w
theorem tabs_size {w : World} (h : Tabs w) : 1 < w.heap.size := by
  have := (h.2 0 (by omega)).1
  rcases Nat.lt_or_ge 1 w.heap.size with h1 | h1
  · exact h1
  · simp [World.cell?, Array.getElem?_eq_none h1] at this
theorem tabs_below {w w' : World} {B : Nat} (h : Tabs w) (hb : Below B w w') (hB : 1 < B) : Tabs w' :=
  ⟨fun c hc => (hb.cell (p := ⟨_, c, none⟩) (by show _ < B; exact Nat.lt_of_le_of_lt (Nat.zero_le _) hB)).trans (h.1 c hc),
   fun i hi => ⟨(hb.cell (p := ⟨_, 2 * i, none⟩) (by show _ < B; exact hB)).trans (h.2 i hi).1, (hb.cell (p := ⟨_, 2 * i + 1, none⟩) (by show _ < B; exact hB)).trans (h.2 i hi).2⟩⟩

set_option maxHeartbeats 1000000 in
theorem full_two (t : ByteArray) (w : World) (hT : Tabs w) (h2 : 2 ≤ t.size) (hs : t.size ≤ maxLen) (hx : firstT (t[0]'(by omega)).toNat = 2) :
    Calls Tryd.prog 41 #[.string t] w fun e w' => e = .returned (.bool true) ∧ Below w.heap.size w w' := by
  unfold maxLen at hs
  have hc := (t[0]'(by omega)).toNat_lt
  have hcell := hT.1 _ hc
  rw [hx] at hcell
  have HT := Lib.hid hT
  clear hT hx
  go_enter Tryd.func41, Tryd.ntmps41
  go_wp2
  go_ret
  exact ⟨rfl, Below.refl _ _⟩

def Long (x i lo hi sz : Nat) : Prop :=
  (x = 19 ∧ i = 1 ∧ lo = 160 ∧ hi = 191 ∧ sz = 3) ∨ (x = 35 ∧ i = 2 ∧ lo = 128 ∧ hi = 159 ∧ sz = 3) ∨ (x = 3 ∧ i = 0 ∧ lo = 128 ∧ hi = 191 ∧ sz = 3) ∨
  (x = 52 ∧ i = 3 ∧ lo = 144 ∧ hi = 191 ∧ sz = 4) ∨ (x = 68 ∧ i = 4 ∧ lo = 128 ∧ hi = 143 ∧ sz = 4) ∨ (x = 4 ∧ i = 0 ∧ lo = 128 ∧ hi = 191 ∧ sz = 4)

set_option maxHeartbeats 4000000 in
set_option maxRecDepth 100000 in
theorem full_enough (t : ByteArray) (w : World) (hT : Tabs w) (x i lo hi sz : Nat) (hL : Long x i lo hi sz) (h2 : sz ≤ t.size) (h0 : 0 < t.size) (hs : t.size ≤ maxLen) (hx : firstT (t[0]'h0).toNat = x) :
    Calls Tryd.prog 41 #[.string t] w fun e w' => e = .returned (.bool true) ∧ Below w.heap.size w w' := by
  unfold maxLen at hs
  have hc := (t[0]'h0).toNat_lt
  have hcell := hT.1 _ hc
  rw [hx] at hcell
  clear hT hx
  rcases hL with ⟨rfl, rfl, rfl, rfl, rfl⟩ | ⟨rfl, rfl, rfl, rfl, rfl⟩ | ⟨rfl, rfl, rfl, rfl, rfl⟩ | ⟨rfl, rfl, rfl, rfl, rfl⟩ | ⟨rfl, rfl, rfl, rfl, rfl⟩ | ⟨rfl, rfl, rfl, rfl, rfl⟩
  all_goals
    go_enter Tryd.func41, Tryd.ntmps41
    go_wp2
    go_ret
    exact ⟨rfl, Below.refl _ _⟩

theorem below_new {w : World} (n : Nat) (o : Obj) : Below w.heap.size w ((w.alloc o).drewN n) := below_drewN ((Below.refl _ _).alloc (Nat.le_refl _) _) n

set_option maxHeartbeats 4000000 in
set_option maxRecDepth 100000 in
theorem full_out_19 (t : ByteArray) (w : World) (hT : Tabs w) (h2 : t.size < 3) (h1 : 1 < t.size) (hx : firstT (t[0]'(by omega)).toNat = 19)
    (hb : (t[1]'h1).toNat < 160 ∨ 191 < (t[1]'h1).toNat) :
    Calls Tryd.prog 41 #[.string t] w fun e w' => e = .returned (.bool true) ∧ Below w.heap.size w w' := by
  have hc := (t[0]'(by omega)).toNat_lt
  have hcell := hT.1 _ hc
  rw [hx] at hcell
  clear hx
  have hd1 : decide ((1 : Int) < (t.size : Int)) = true := by simp; omega
  have hi1 : (1 : Int) < (t.size : Int) := by omega
  obtain ⟨a1, a2⟩ := hT.2 1 (by omega)
  rw [show accLo 1 = 160 from rfl] at a1
  rw [show accHi 1 = 191 from rfl] at a2
  have a1' : w.cell? ⟨1, 2, none⟩ = some (.int .u8 160) := a1
  have a2' : w.cell? ⟨1, 3, none⟩ = some (.int .u8 191) := a2
  clear a1 a2
  clear hT
  rcases hb with hb | hb
  · have hd2 : decide (((t[1]'h1).toNat : Int) < 160) = true := by simp; omega
    go_enter Tryd.func41, Tryd.ntmps41
    go_wp2
    go_quiet (fail)
    go_wp2
    go_ret
    exact ⟨rfl, below_new _ _⟩
  · have hd2 : decide (((t[1]'h1).toNat : Int) < 160) = false := by simp; omega
    have hd3 : decide ((191 : Int) < ((t[1]'h1).toNat : Int)) = true := by simp; omega
    go_enter Tryd.func41, Tryd.ntmps41
    go_wp2
    go_quiet (fail)
    go_wp2
    go_ret
    exact ⟨rfl, below_new _ _⟩
set_option maxHeartbeats 4000000 in
set_option maxRecDepth 100000 in
theorem full_in_19 (t : ByteArray) (w : World) (hT : Tabs w) (h2 : t.size < 3) (h1 : 1 < t.size) (hx : firstT (t[0]'(by omega)).toNat = 19)
    (hb : 160 ≤ (t[1]'h1).toNat ∧ (t[1]'h1).toNat ≤ 191) (R : Bool) (hR : R = decide (∃ h : 2 < t.size, (t[2]'h).toNat < 128 ∨ 191 < (t[2]'h).toNat)) :
    Calls Tryd.prog 41 #[.string t] w fun e w' => e = .returned (.bool R) ∧ Below w.heap.size w w' := by
  have hc := (t[0]'(by omega)).toNat_lt
  have hcell := hT.1 _ hc
  rw [hx] at hcell
  clear hx
  have hd1 : decide ((1 : Int) < (t.size : Int)) = true := by simp; omega
  have hi1 : (1 : Int) < (t.size : Int) := by omega
  obtain ⟨a1, a2⟩ := hT.2 1 (by omega)
  rw [show accLo 1 = 160 from rfl] at a1
  rw [show accHi 1 = 191 from rfl] at a2
  have a1' : w.cell? ⟨1, 2, none⟩ = some (.int .u8 160) := a1
  have a2' : w.cell? ⟨1, 3, none⟩ = some (.int .u8 191) := a2
  clear a1 a2
  clear hT
  have hd2 : decide (((t[1]'h1).toNat : Int) < 160) = false := by simp; omega
  have hd3 : decide ((191 : Int) < ((t[1]'h1).toNat : Int)) = false := by simp; omega
  obtain rfl : R = false := by rw [hR]; exact decide_eq_false (by rintro ⟨q, _⟩; omega)
  clear hR
  go_enter Tryd.func41, Tryd.ntmps41
  go_wp2
  go_quiet (fail)
  go_wp2
  go_ret
  exact ⟨rfl, below_new _ _⟩
set_option maxHeartbeats 4000000 in
set_option maxRecDepth 100000 in
theorem full_out_35 (t : ByteArray) (w : World) (hT : Tabs w) (h2 : t.size < 3) (h1 : 1 < t.size) (hx : firstT (t[0]'(by omega)).toNat = 35)
    (hb : (t[1]'h1).toNat < 128 ∨ 159 < (t[1]'h1).toNat) :
    Calls Tryd.prog 41 #[.string t] w fun e w' => e = .returned (.bool true) ∧ Below w.heap.size w w' := by
  have hc := (t[0]'(by omega)).toNat_lt
  have hcell := hT.1 _ hc
  rw [hx] at hcell
  clear hx
  have hd1 : decide ((1 : Int) < (t.size : Int)) = true := by simp; omega
  have hi1 : (1 : Int) < (t.size : Int) := by omega
  obtain ⟨a1, a2⟩ := hT.2 2 (by omega)
  rw [show accLo 2 = 128 from rfl] at a1
  rw [show accHi 2 = 159 from rfl] at a2
  have a1' : w.cell? ⟨1, 4, none⟩ = some (.int .u8 128) := a1
  have a2' : w.cell? ⟨1, 5, none⟩ = some (.int .u8 159) := a2
  clear a1 a2
  clear hT
  rcases hb with hb | hb
  · have hd2 : decide (((t[1]'h1).toNat : Int) < 128) = true := by simp; omega
    go_enter Tryd.func41, Tryd.ntmps41
    go_wp2
    go_quiet (fail)
    go_wp2
    go_ret
    exact ⟨rfl, below_new _ _⟩
  · have hd2 : decide (((t[1]'h1).toNat : Int) < 128) = false := by simp; omega
    have hd3 : decide ((159 : Int) < ((t[1]'h1).toNat : Int)) = true := by simp; omega
    go_enter Tryd.func41, Tryd.ntmps41
    go_wp2
    go_quiet (fail)
    go_wp2
    go_ret
    exact ⟨rfl, below_new _ _⟩
set_option maxHeartbeats 4000000 in
set_option maxRecDepth 100000 in
theorem full_in_35 (t : ByteArray) (w : World) (hT : Tabs w) (h2 : t.size < 3) (h1 : 1 < t.size) (hx : firstT (t[0]'(by omega)).toNat = 35)
    (hb : 128 ≤ (t[1]'h1).toNat ∧ (t[1]'h1).toNat ≤ 159) (R : Bool) (hR : R = decide (∃ h : 2 < t.size, (t[2]'h).toNat < 128 ∨ 191 < (t[2]'h).toNat)) :
    Calls Tryd.prog 41 #[.string t] w fun e w' => e = .returned (.bool R) ∧ Below w.heap.size w w' := by
  have hc := (t[0]'(by omega)).toNat_lt
  have hcell := hT.1 _ hc
  rw [hx] at hcell
  clear hx
  have hd1 : decide ((1 : Int) < (t.size : Int)) = true := by simp; omega
  have hi1 : (1 : Int) < (t.size : Int) := by omega
  obtain ⟨a1, a2⟩ := hT.2 2 (by omega)
  rw [show accLo 2 = 128 from rfl] at a1
  rw [show accHi 2 = 159 from rfl] at a2
  have a1' : w.cell? ⟨1, 4, none⟩ = some (.int .u8 128) := a1
  have a2' : w.cell? ⟨1, 5, none⟩ = some (.int .u8 159) := a2
  clear a1 a2
  clear hT
  have hd2 : decide (((t[1]'h1).toNat : Int) < 128) = false := by simp; omega
  have hd3 : decide ((159 : Int) < ((t[1]'h1).toNat : Int)) = false := by simp; omega
  obtain rfl : R = false := by rw [hR]; exact decide_eq_false (by rintro ⟨q, _⟩; omega)
  clear hR
  go_enter Tryd.func41, Tryd.ntmps41
  go_wp2
  go_quiet (fail)
  go_wp2
  go_ret
  exact ⟨rfl, below_new _ _⟩
set_option maxHeartbeats 4000000 in
set_option maxRecDepth 100000 in
theorem full_out_3 (t : ByteArray) (w : World) (hT : Tabs w) (h2 : t.size < 3) (h1 : 1 < t.size) (hx : firstT (t[0]'(by omega)).toNat = 3)
    (hb : (t[1]'h1).toNat < 128 ∨ 191 < (t[1]'h1).toNat) :
    Calls Tryd.prog 41 #[.string t] w fun e w' => e = .returned (.bool true) ∧ Below w.heap.size w w' := by
  have hc := (t[0]'(by omega)).toNat_lt
  have hcell := hT.1 _ hc
  rw [hx] at hcell
  clear hx
  have hd1 : decide ((1 : Int) < (t.size : Int)) = true := by simp; omega
  have hi1 : (1 : Int) < (t.size : Int) := by omega
  obtain ⟨a1, a2⟩ := hT.2 0 (by omega)
  rw [show accLo 0 = 128 from rfl] at a1
  rw [show accHi 0 = 191 from rfl] at a2
  have a1' : w.cell? ⟨1, 0, none⟩ = some (.int .u8 128) := a1
  have a2' : w.cell? ⟨1, 1, none⟩ = some (.int .u8 191) := a2
  clear a1 a2
  clear hT
  rcases hb with hb | hb
  · have hd2 : decide (((t[1]'h1).toNat : Int) < 128) = true := by simp; omega
    go_enter Tryd.func41, Tryd.ntmps41
    go_wp2
    go_quiet (fail)
    go_wp2
    go_ret
    exact ⟨rfl, below_new _ _⟩
  · have hd2 : decide (((t[1]'h1).toNat : Int) < 128) = false := by simp; omega
    have hd3 : decide ((191 : Int) < ((t[1]'h1).toNat : Int)) = true := by simp; omega
    go_enter Tryd.func41, Tryd.ntmps41
    go_wp2
    go_quiet (fail)
    go_wp2
    go_ret
    exact ⟨rfl, below_new _ _⟩
set_option maxHeartbeats 4000000 in
set_option maxRecDepth 100000 in
theorem full_in_3 (t : ByteArray) (w : World) (hT : Tabs w) (h2 : t.size < 3) (h1 : 1 < t.size) (hx : firstT (t[0]'(by omega)).toNat = 3)
    (hb : 128 ≤ (t[1]'h1).toNat ∧ (t[1]'h1).toNat ≤ 191) (R : Bool) (hR : R = decide (∃ h : 2 < t.size, (t[2]'h).toNat < 128 ∨ 191 < (t[2]'h).toNat)) :
    Calls Tryd.prog 41 #[.string t] w fun e w' => e = .returned (.bool R) ∧ Below w.heap.size w w' := by
  have hc := (t[0]'(by omega)).toNat_lt
  have hcell := hT.1 _ hc
  rw [hx] at hcell
  clear hx
  have hd1 : decide ((1 : Int) < (t.size : Int)) = true := by simp; omega
  have hi1 : (1 : Int) < (t.size : Int) := by omega
  obtain ⟨a1, a2⟩ := hT.2 0 (by omega)
  rw [show accLo 0 = 128 from rfl] at a1
  rw [show accHi 0 = 191 from rfl] at a2
  have a1' : w.cell? ⟨1, 0, none⟩ = some (.int .u8 128) := a1
  have a2' : w.cell? ⟨1, 1, none⟩ = some (.int .u8 191) := a2
  clear a1 a2
  clear hT
  have hd2 : decide (((t[1]'h1).toNat : Int) < 128) = false := by simp; omega
  have hd3 : decide ((191 : Int) < ((t[1]'h1).toNat : Int)) = false := by simp; omega
  obtain rfl : R = false := by rw [hR]; exact decide_eq_false (by rintro ⟨q, _⟩; omega)
  clear hR
  go_enter Tryd.func41, Tryd.ntmps41
  go_wp2
  go_quiet (fail)
  go_wp2
  go_ret
  exact ⟨rfl, below_new _ _⟩
set_option maxHeartbeats 4000000 in
set_option maxRecDepth 100000 in
theorem full_out_52 (t : ByteArray) (w : World) (hT : Tabs w) (h2 : t.size < 4) (h1 : 1 < t.size) (hx : firstT (t[0]'(by omega)).toNat = 52)
    (hb : (t[1]'h1).toNat < 144 ∨ 191 < (t[1]'h1).toNat) :
    Calls Tryd.prog 41 #[.string t] w fun e w' => e = .returned (.bool true) ∧ Below w.heap.size w w' := by
  have hc := (t[0]'(by omega)).toNat_lt
  have hcell := hT.1 _ hc
  rw [hx] at hcell
  clear hx
  have hd1 : decide ((1 : Int) < (t.size : Int)) = true := by simp; omega
  have hi1 : (1 : Int) < (t.size : Int) := by omega
  obtain ⟨a1, a2⟩ := hT.2 3 (by omega)
  rw [show accLo 3 = 144 from rfl] at a1
  rw [show accHi 3 = 191 from rfl] at a2
  have a1' : w.cell? ⟨1, 6, none⟩ = some (.int .u8 144) := a1
  have a2' : w.cell? ⟨1, 7, none⟩ = some (.int .u8 191) := a2
  clear a1 a2
  clear hT
  rcases hb with hb | hb
  · have hd2 : decide (((t[1]'h1).toNat : Int) < 144) = true := by simp; omega
    go_enter Tryd.func41, Tryd.ntmps41
    go_wp2
    go_quiet (fail)
    go_wp2
    go_ret
    exact ⟨rfl, below_new _ _⟩
  · have hd2 : decide (((t[1]'h1).toNat : Int) < 144) = false := by simp; omega
    have hd3 : decide ((191 : Int) < ((t[1]'h1).toNat : Int)) = true := by simp; omega
    go_enter Tryd.func41, Tryd.ntmps41
    go_wp2
    go_quiet (fail)
    go_wp2
    go_ret
    exact ⟨rfl, below_new _ _⟩
set_option maxHeartbeats 4000000 in
set_option maxRecDepth 100000 in
theorem full_in_52 (t : ByteArray) (w : World) (hT : Tabs w) (h2 : t.size < 4) (h1 : 1 < t.size) (hx : firstT (t[0]'(by omega)).toNat = 52)
    (hb : 144 ≤ (t[1]'h1).toNat ∧ (t[1]'h1).toNat ≤ 191) (R : Bool) (hR : R = decide (∃ h : 2 < t.size, (t[2]'h).toNat < 128 ∨ 191 < (t[2]'h).toNat)) :
    Calls Tryd.prog 41 #[.string t] w fun e w' => e = .returned (.bool R) ∧ Below w.heap.size w w' := by
  have hc := (t[0]'(by omega)).toNat_lt
  have hcell := hT.1 _ hc
  rw [hx] at hcell
  clear hx
  have hd1 : decide ((1 : Int) < (t.size : Int)) = true := by simp; omega
  have hi1 : (1 : Int) < (t.size : Int) := by omega
  obtain ⟨a1, a2⟩ := hT.2 3 (by omega)
  rw [show accLo 3 = 144 from rfl] at a1
  rw [show accHi 3 = 191 from rfl] at a2
  have a1' : w.cell? ⟨1, 6, none⟩ = some (.int .u8 144) := a1
  have a2' : w.cell? ⟨1, 7, none⟩ = some (.int .u8 191) := a2
  clear a1 a2
  clear hT
  have hd2 : decide (((t[1]'h1).toNat : Int) < 144) = false := by simp; omega
  have hd3 : decide ((191 : Int) < ((t[1]'h1).toNat : Int)) = false := by simp; omega
  by_cases h3 : 2 < t.size
  · by_cases h4 : (t[2]'h3).toNat < 128
    · obtain rfl : R = true := by rw [hR]; exact decide_eq_true ⟨h3, .inl h4⟩
      clear hR
      go_enter Tryd.func41, Tryd.ntmps41
      go_wp2
      go_quiet (fail)
      go_wp2
      go_ret
      exact ⟨rfl, below_new _ _⟩
    · by_cases h5 : 191 < (t[2]'h3).toNat
      · obtain rfl : R = true := by rw [hR]; exact decide_eq_true ⟨h3, .inr h5⟩
        clear hR
        go_enter Tryd.func41, Tryd.ntmps41
        go_wp2
        go_quiet (fail)
        go_wp2
        go_ret
        exact ⟨rfl, below_new _ _⟩
      · obtain rfl : R = false := by rw [hR]; exact decide_eq_false (by rintro ⟨_, q⟩; omega)
        clear hR
        go_enter Tryd.func41, Tryd.ntmps41
        go_wp2
        go_quiet (fail)
        go_wp2
        go_ret
        exact ⟨rfl, below_new _ _⟩
  · obtain rfl : R = false := by rw [hR]; exact decide_eq_false (by rintro ⟨q, _⟩; omega)
    clear hR
    go_enter Tryd.func41, Tryd.ntmps41
    go_wp2
    go_quiet (fail)
    go_wp2
    go_ret
    exact ⟨rfl, below_new _ _⟩
set_option maxHeartbeats 4000000 in
set_option maxRecDepth 100000 in
theorem full_out_68 (t : ByteArray) (w : World) (hT : Tabs w) (h2 : t.size < 4) (h1 : 1 < t.size) (hx : firstT (t[0]'(by omega)).toNat = 68)
    (hb : (t[1]'h1).toNat < 128 ∨ 143 < (t[1]'h1).toNat) :
    Calls Tryd.prog 41 #[.string t] w fun e w' => e = .returned (.bool true) ∧ Below w.heap.size w w' := by
  have hc := (t[0]'(by omega)).toNat_lt
  have hcell := hT.1 _ hc
  rw [hx] at hcell
  clear hx
  have hd1 : decide ((1 : Int) < (t.size : Int)) = true := by simp; omega
  have hi1 : (1 : Int) < (t.size : Int) := by omega
  obtain ⟨a1, a2⟩ := hT.2 4 (by omega)
  rw [show accLo 4 = 128 from rfl] at a1
  rw [show accHi 4 = 143 from rfl] at a2
  have a1' : w.cell? ⟨1, 8, none⟩ = some (.int .u8 128) := a1
  have a2' : w.cell? ⟨1, 9, none⟩ = some (.int .u8 143) := a2
  clear a1 a2
  clear hT
  rcases hb with hb | hb
  · have hd2 : decide (((t[1]'h1).toNat : Int) < 128) = true := by simp; omega
    go_enter Tryd.func41, Tryd.ntmps41
    go_wp2
    go_quiet (fail)
    go_wp2
    go_ret
    exact ⟨rfl, below_new _ _⟩
  · have hd2 : decide (((t[1]'h1).toNat : Int) < 128) = false := by simp; omega
    have hd3 : decide ((143 : Int) < ((t[1]'h1).toNat : Int)) = true := by simp; omega
    go_enter Tryd.func41, Tryd.ntmps41
    go_wp2
    go_quiet (fail)
    go_wp2
    go_ret
    exact ⟨rfl, below_new _ _⟩
set_option maxHeartbeats 4000000 in
set_option maxRecDepth 100000 in
theorem full_in_68 (t : ByteArray) (w : World) (hT : Tabs w) (h2 : t.size < 4) (h1 : 1 < t.size) (hx : firstT (t[0]'(by omega)).toNat = 68)
    (hb : 128 ≤ (t[1]'h1).toNat ∧ (t[1]'h1).toNat ≤ 143) (R : Bool) (hR : R = decide (∃ h : 2 < t.size, (t[2]'h).toNat < 128 ∨ 191 < (t[2]'h).toNat)) :
    Calls Tryd.prog 41 #[.string t] w fun e w' => e = .returned (.bool R) ∧ Below w.heap.size w w' := by
  have hc := (t[0]'(by omega)).toNat_lt
  have hcell := hT.1 _ hc
  rw [hx] at hcell
  clear hx
  have hd1 : decide ((1 : Int) < (t.size : Int)) = true := by simp; omega
  have hi1 : (1 : Int) < (t.size : Int) := by omega
  obtain ⟨a1, a2⟩ := hT.2 4 (by omega)
  rw [show accLo 4 = 128 from rfl] at a1
  rw [show accHi 4 = 143 from rfl] at a2
  have a1' : w.cell? ⟨1, 8, none⟩ = some (.int .u8 128) := a1
  have a2' : w.cell? ⟨1, 9, none⟩ = some (.int .u8 143) := a2
  clear a1 a2
  clear hT
  have hd2 : decide (((t[1]'h1).toNat : Int) < 128) = false := by simp; omega
  have hd3 : decide ((143 : Int) < ((t[1]'h1).toNat : Int)) = false := by simp; omega
  by_cases h3 : 2 < t.size
  · by_cases h4 : (t[2]'h3).toNat < 128
    · obtain rfl : R = true := by rw [hR]; exact decide_eq_true ⟨h3, .inl h4⟩
      clear hR
      go_enter Tryd.func41, Tryd.ntmps41
      go_wp2
      go_quiet (fail)
      go_wp2
      go_ret
      exact ⟨rfl, below_new _ _⟩
    · by_cases h5 : 191 < (t[2]'h3).toNat
      · obtain rfl : R = true := by rw [hR]; exact decide_eq_true ⟨h3, .inr h5⟩
        clear hR
        go_enter Tryd.func41, Tryd.ntmps41
        go_wp2
        go_quiet (fail)
        go_wp2
        go_ret
        exact ⟨rfl, below_new _ _⟩
      · obtain rfl : R = false := by rw [hR]; exact decide_eq_false (by rintro ⟨_, q⟩; omega)
        clear hR
        go_enter Tryd.func41, Tryd.ntmps41
        go_wp2
        go_quiet (fail)
        go_wp2
        go_ret
        exact ⟨rfl, below_new _ _⟩
  · obtain rfl : R = false := by rw [hR]; exact decide_eq_false (by rintro ⟨q, _⟩; omega)
    clear hR
    go_enter Tryd.func41, Tryd.ntmps41
    go_wp2
    go_quiet (fail)
    go_wp2
    go_ret
    exact ⟨rfl, below_new _ _⟩
set_option maxHeartbeats 4000000 in
set_option maxRecDepth 100000 in
theorem full_out_4 (t : ByteArray) (w : World) (hT : Tabs w) (h2 : t.size < 4) (h1 : 1 < t.size) (hx : firstT (t[0]'(by omega)).toNat = 4)
    (hb : (t[1]'h1).toNat < 128 ∨ 191 < (t[1]'h1).toNat) :
    Calls Tryd.prog 41 #[.string t] w fun e w' => e = .returned (.bool true) ∧ Below w.heap.size w w' := by
  have hc := (t[0]'(by omega)).toNat_lt
  have hcell := hT.1 _ hc
  rw [hx] at hcell
  clear hx
  have hd1 : decide ((1 : Int) < (t.size : Int)) = true := by simp; omega
  have hi1 : (1 : Int) < (t.size : Int) := by omega
  obtain ⟨a1, a2⟩ := hT.2 0 (by omega)
  rw [show accLo 0 = 128 from rfl] at a1
  rw [show accHi 0 = 191 from rfl] at a2
  have a1' : w.cell? ⟨1, 0, none⟩ = some (.int .u8 128) := a1
  have a2' : w.cell? ⟨1, 1, none⟩ = some (.int .u8 191) := a2
  clear a1 a2
  clear hT
  rcases hb with hb | hb
  · have hd2 : decide (((t[1]'h1).toNat : Int) < 128) = true := by simp; omega
    go_enter Tryd.func41, Tryd.ntmps41
    go_wp2
    go_quiet (fail)
    go_wp2
    go_ret
    exact ⟨rfl, below_new _ _⟩
  · have hd2 : decide (((t[1]'h1).toNat : Int) < 128) = false := by simp; omega
    have hd3 : decide ((191 : Int) < ((t[1]'h1).toNat : Int)) = true := by simp; omega
    go_enter Tryd.func41, Tryd.ntmps41
    go_wp2
    go_quiet (fail)
    go_wp2
    go_ret
    exact ⟨rfl, below_new _ _⟩
set_option maxHeartbeats 4000000 in
set_option maxRecDepth 100000 in
theorem full_in_4 (t : ByteArray) (w : World) (hT : Tabs w) (h2 : t.size < 4) (h1 : 1 < t.size) (hx : firstT (t[0]'(by omega)).toNat = 4)
    (hb : 128 ≤ (t[1]'h1).toNat ∧ (t[1]'h1).toNat ≤ 191) (R : Bool) (hR : R = decide (∃ h : 2 < t.size, (t[2]'h).toNat < 128 ∨ 191 < (t[2]'h).toNat)) :
    Calls Tryd.prog 41 #[.string t] w fun e w' => e = .returned (.bool R) ∧ Below w.heap.size w w' := by
  have hc := (t[0]'(by omega)).toNat_lt
  have hcell := hT.1 _ hc
  rw [hx] at hcell
  clear hx
  have hd1 : decide ((1 : Int) < (t.size : Int)) = true := by simp; omega
  have hi1 : (1 : Int) < (t.size : Int) := by omega
  obtain ⟨a1, a2⟩ := hT.2 0 (by omega)
  rw [show accLo 0 = 128 from rfl] at a1
  rw [show accHi 0 = 191 from rfl] at a2
  have a1' : w.cell? ⟨1, 0, none⟩ = some (.int .u8 128) := a1
  have a2' : w.cell? ⟨1, 1, none⟩ = some (.int .u8 191) := a2
  clear a1 a2
  clear hT
  have hd2 : decide (((t[1]'h1).toNat : Int) < 128) = false := by simp; omega
  have hd3 : decide ((191 : Int) < ((t[1]'h1).toNat : Int)) = false := by simp; omega
  by_cases h3 : 2 < t.size
  · by_cases h4 : (t[2]'h3).toNat < 128
    · obtain rfl : R = true := by rw [hR]; exact decide_eq_true ⟨h3, .inl h4⟩
      clear hR
      go_enter Tryd.func41, Tryd.ntmps41
      go_wp2
      go_quiet (fail)
      go_wp2
      go_ret
      exact ⟨rfl, below_new _ _⟩
    · by_cases h5 : 191 < (t[2]'h3).toNat
      · obtain rfl : R = true := by rw [hR]; exact decide_eq_true ⟨h3, .inr h5⟩
        clear hR
        go_enter Tryd.func41, Tryd.ntmps41
        go_wp2
        go_quiet (fail)
        go_wp2
        go_ret
        exact ⟨rfl, below_new _ _⟩
      · obtain rfl : R = false := by rw [hR]; exact decide_eq_false (by rintro ⟨_, q⟩; omega)
        clear hR
        go_enter Tryd.func41, Tryd.ntmps41
        go_wp2
        go_quiet (fail)
        go_wp2
        go_ret
        exact ⟨rfl, below_new _ _⟩
  · obtain rfl : R = false := by rw [hR]; exact decide_eq_false (by rintro ⟨q, _⟩; omega)
    clear hR
    go_enter Tryd.func41, Tryd.ntmps41
    go_wp2
    go_quiet (fail)
    go_wp2
    go_ret
    exact ⟨rfl, below_new _ _⟩
end Go.Proofs.YtljpiamlbdknlaaDoor
