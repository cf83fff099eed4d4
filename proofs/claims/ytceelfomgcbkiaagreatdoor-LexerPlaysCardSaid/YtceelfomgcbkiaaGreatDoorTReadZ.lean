/-
  The walk of Read.
-/
import Derived.Test.YtceelfomgcbkiaaGreatDoorTBeginZ
import Derived.Deep.RegionHeld3
namespace Go.Proofs.YtceelfomgcbkiaaGreatDoor.T
open Go.RowKit Go.Maps
open Go.Proofs.YtceelfomgcbkiaaGreatDoor.I (lowS lower_any)
open Go.Proofs.YtceelfomgcbkiaaGreatDoor.A (At AttrsAt clA)
open Go.Proofs.YtceelfomgcbkiaaGreatDoor.C (StAt)

theorem stAt_lt {w : World} (h : StAt w) : 1 < w.heap.size := World.block_lt_of_cell? w ⟨1, 0, none⟩ (h 0 (by omega))
/-- A token as a value. -/
def tokV (t : Tok) (a : Option Addr) (cap : Nat) : Value := .agg #[.int .i64 t.kind, .string t.name, .slice a t.attrs.length cap, .bool t.self, .string ByteArray.empty]
/-- What Read leaves. -/
def RetTok (t : Tok) (w : World) (e : Ending) (w' : World) : Prop :=
  ∃ a cap, t.attrs.length ≤ cap ∧ e = .returned (.tuple #[tokV t a cap, .int .i64 t.n, .bool t.ok]) ∧ AttrsAt w' a t.attrs ∧ Below w.heap.size w w'
theorem ret_tok {t t' : Tok} {w w' : World} {a : Option Addr} {cap : Nat} (h : t = t') (hc : t.attrs.length ≤ cap) (ha : AttrsAt w' a t.attrs) (hb : Below w.heap.size w w') : RetTok t' w (.returned (.tuple #[tokV t a cap, .int .i64 t.n, .bool t.ok])) w' := by
  subst h
  exact ⟨a, cap, hc, rfl, ha, hb⟩
def noTok (n : Nat) : Tok := ⟨0, ByteArray.empty, [], false, n, false⟩

theorem own_at {w : World} {base c : Nat} {a : Option Addr} {l : List At} (h : w.ownsRow base 51 2 (.slice a l.length c) l.length (clA l)) : AttrsAt w a l ∧ l.length ≤ c := by
  obtain ⟨a', c', hc, he, hat⟩ := A.own_attrs h
  injection he with h1 _ h2
  subst h1 h2
  exact ⟨hat, hc⟩
/-- The cells of an empty token. -/
def tok0 : Array Value := #[.int .i64 0, .string ByteArray.empty, .slice none 0 0, .bool false, .string ByteArray.empty]
/-- The world in which the reader begins. -/
def W3 (w : World) (s : ByteArray) (k : Nat) : World := ((w.alloc (.cells tok0 34)).alloc (.map #[] 0)).alloc (.cells (rdC s k false (.slice none 0 0) (.map (some (w.heap.size + 1)))) 76)
theorem w3_size (w : World) (s : ByteArray) (k : Nat) : (W3 w s k).heap.size = w.heap.size + 3 := by simp [W3]
theorem w3_below (w : World) (s : ByteArray) (k : Nat) : Below w.heap.size w (W3 w s k) := (((Below.refl _ _).alloc (Nat.le_refl _) _).alloc (by simp) _).alloc (by simp; omega) _
theorem w3_rd (w : World) (s : ByteArray) (k : Nat) : Rd (W3 w s k) (w.heap.size + 1) (w.heap.size + 1 + 1) (w.heap.size + 1) s k false [] := by
  have h1 : (w.alloc (.cells tok0 34)).heap.size = w.heap.size + 1 := by simp
  have h2 : ((w.alloc (.cells tok0 34)).alloc (.map #[] 0)).heap.size = w.heap.size + 1 + 1 := by simp
  have hs := SetS.made (w.alloc (.cells tok0 34))
  rw [h1] at hs
  have hr : RB (W3 w s k) (w.heap.size + 1 + 1) s k false (.slice none 0 0) (.map (some (w.heap.size + 1))) := by
    have := heap_alloc_new ((w.alloc (.cells tok0 34)).alloc (.map #[] 0)) (.cells (rdC s k false (.slice none 0 0) (.map (some (w.heap.size + 1)))) 76)
    rw [h2] at this; exact this
  exact ⟨_, hr, World.ownsRow_nil _ _ _ _, (hs.kept (World.grownBy_alloc _ _ none) (by simp)).congr (fun x => by simp [A.getB, A.pos]), by omega, Nat.le_refl _, Nat.zero_le _⟩
theorem w3_tok (w : World) (s : ByteArray) (k : Nat) : (W3 w s k).heap[w.heap.size]? = some (.cells tok0 34 (0, 0)) := by
  have h0 := heap_alloc_new w (.cells tok0 34)
  have h1 := (World.grownBy_alloc (w.alloc (.cells tok0 34)) (.map #[] 0) none).block w.heap.size (by simp) (by simp)
  have h2 := (World.grownBy_alloc ((w.alloc (.cells tok0 34)).alloc (.map #[] 0)) (.cells (rdC s k false (.slice none 0 0) (.map (some (w.heap.size + 1)))) 76) none).block w.heap.size (by simp; omega) (by simp)
  exact h2.trans (h1.trans h0)

/-- Five cells stored, one after the other. -/
def S5 (w : World) (B : Nat) (v0 v1 v2 v3 v4 : Value) : World := ((((w.setCell ⟨B, 0, none⟩ v0).setCell ⟨B, 1, none⟩ v1).setCell ⟨B, 2, none⟩ v2).setCell ⟨B, 3, none⟩ v3).setCell ⟨B, 4, none⟩ v4
theorem s5_heap {w : World} {B : Nat} {T : TypeId} {u0 u1 u2 u3 u4 : Value} (v0 v1 v2 v3 v4 : Value) (h : w.heap[B]? = some (.cells #[u0, u1, u2, u3, u4] T (0, 0))) : (S5 w B v0 v1 v2 v3 v4).heap[B]? = some (.cells #[v0, v1, v2, v3, v4] T (0, 0)) :=
  heap_setCell_same _ B 4 _ _ _ (heap_setCell_same _ B 3 _ _ _ (heap_setCell_same _ B 2 _ _ _ (heap_setCell_same _ B 1 _ _ _ (heap_setCell_same w B 0 _ _ _ h))))
theorem s5_cell (w : World) (B : Nat) (v0 v1 v2 v3 v4 : Value) (a : Addr) (h : a.block ≠ B) : (S5 w B v0 v1 v2 v3 v4).cell? a = w.cell? a := by
  have e : ∀ (w : World) (i : Nat) (v : Value), (w.setCell ⟨B, i, none⟩ v).cell? a = w.cell? a := fun w i v => World.cell?_setCell_other w _ _ v (fun e => h (by rw [← e]))
  unfold S5
  rw [e, e, e, e, e]
theorem drew_cell (w : World) (a : Addr) : w.drew.cell? a = w.cell? a := rfl
theorem s5_keep {w : World} {B R : Nat} {v0 v1 v2 v3 v4 u1 u2 u3 : Value} (h : R ≠ B) (h1 : w.cell? ⟨R, 1, none⟩ = some u1) (h2 : w.cell? ⟨R, 2, none⟩ = some u2) (h3 : w.cell? ⟨R, 3, none⟩ = some u3) :
    (((((w.setCell ⟨B, 0, none⟩ v0).setCell ⟨B, 1, none⟩ v1).setCell ⟨B, 2, none⟩ v2).setCell ⟨B, 3, none⟩ v3).setCell ⟨B, 4, none⟩ v4).drew.cell? ⟨R, 1, none⟩ = some u1 ∧
    (((((w.setCell ⟨B, 0, none⟩ v0).setCell ⟨B, 1, none⟩ v1).setCell ⟨B, 2, none⟩ v2).setCell ⟨B, 3, none⟩ v3).setCell ⟨B, 4, none⟩ v4).drew.cell? ⟨R, 2, none⟩ = some u2 ∧
    (((((w.setCell ⟨B, 0, none⟩ v0).setCell ⟨B, 1, none⟩ v1).setCell ⟨B, 2, none⟩ v2).setCell ⟨B, 3, none⟩ v3).setCell ⟨B, 4, none⟩ v4).drew.cell? ⟨R, 3, none⟩ = some u3 :=
  ⟨by rw [drew_cell]; exact (s5_cell w B v0 v1 v2 v3 v4 ⟨R, 1, none⟩ h).trans h1, by rw [drew_cell]; exact (s5_cell w B v0 v1 v2 v3 v4 ⟨R, 2, none⟩ h).trans h2, by rw [drew_cell]; exact (s5_cell w B v0 v1 v2 v3 v4 ⟨R, 3, none⟩ h).trans h3⟩
theorem s5_grown (w : World) (B : Nat) (v0 v1 v2 v3 v4 : Value) : w.grownBy (S5 w B v0 v1 v2 v3 v4) (some B) :=
  ((((grown_set w B 0 v0).trans (grown_set _ B 1 v1)).trans (grown_set _ B 2 v2)).trans (grown_set _ B 3 v3)).trans (grown_set _ B 4 v4)

set_option maxRecDepth 100000 in
set_option maxHeartbeats 3200000 in
theorem read_any (s : ByteArray) (w : World) (hT : StAt w) (hs : s.size ≤ 10000) : Calls Tryz.prog 26 #[.string s] w (RetTok (rdT s.data.toList) w) := by
  have HT := Lib.hid hT
  clear hT
  have HBg := Lib.hid (fun W => begin_any s W (by omega))
  have hmm := @run_makeMap Tryz.prog
  by_cases hb : begins s.data.toList = true
  · rw [bgN_yes hb] at HBg
    have hfs : fromB s.data.toList < s.size := by
      rcases Nat.lt_or_ge (fromB s.data.toList) s.size with h | h
      · exact h
      · rw [begins_short h] at hb; cases hb
    have hf12 : fromB s.data.toList = 1 ∨ fromB s.data.toList = 2 := by unfold fromB; split; exact .inr rfl; exact .inl rfl
    have HRdT : Hid (rdT s.data.toList = match tg s.data.toList (s.data.toList.length + 1) (nmE s.data.toList) [] with
      | none => noTok s.size
      | some (xs, sf, n) => if fromB s.data.toList = 2 then ⟨2, lowS (cut s.data.toList 2 (nmE s.data.toList)), [], false, n, true⟩ else ⟨1, lowS (cut s.data.toList 1 (nmE s.data.toList)), xs, sf, n, true⟩) := Lib.hid (by
        unfold rdT
        rw [if_pos hb, C.size_list]; rfl)
    clear hb
    have HU : Hid (∀ k, k ≤ s.size → ∀ W v m, RB W (w.heap.size + 1 + 1) s k false v m → Calls Tryz.prog 42 #[.pointer (some ⟨w.heap.size + 1 + 1, 0, none⟩), .string ⟨#[47, 62]⟩] W fun e w' => e = .returned (.string (cut s.data.toList k (run stopN s.data.toList k))) ∧ Mv W w' (w.heap.size + 1 + 1) s (run stopN s.data.toList k) false v m) := Lib.hid (fun k hk W v m h => by
      have := upTo_any ⟨#[47, 62]⟩ W h hk (by omega)
      have e2 : ((⟨#[47, 62]⟩ : ByteArray).data.toList) = [47, 62] := rfl
      rw [e2, up_name] at this; exact this)
    rcases hf12 with hf | hf
    · have HE : Hid (nmE s.data.toList = run stopN s.data.toList 1) := Lib.hid (by unfold nmE; rw [hf])
      rw [hf] at HBg hfs
      have HF := Lib.hid hf
      clear hf
      go_enter Tryz.func26, Tryz.ntmps26
      go_wp2_with (go_at_call 40; refine (HBg.out _).mono ?_; rintro e w' ⟨rfl, rfl⟩)
      obtain ⟨v0, hR0, hO0, hS0, hbR0, hbM0, hl0⟩ := w3_rd w s 1
      have HR0 := Lib.hid hR0
      have HO0 := Lib.hid hO0
      have HS0 := Lib.hid hS0
      have HUp := Lib.hid (HU.out 1 (by omega) _ _ _ hR0)
      have HTk := Lib.hid (w3_tok w s 1)
      have HBl := Lib.hid (w3_below w s 1)
      have hsz := w3_size w s 1
      clear hR0 hO0 hS0
      rw [← HE.out] at HUp
      have hnl := run_le stopN s.data.toList 1 (by rw [C.size_list]; omega)
      rw [C.size_list, ← HE.out] at hnl
      generalize nmE s.data.toList = ne at *
      refine HUp.out.mono ?_
      rintro e w4 ⟨rfl, hmv⟩
      have HRd4 := Lib.hid (Rd.mv HO0.out HS0.out HR0.out hbR0 hbM0 (Nat.zero_le _) hmv)
      have HTk4 : Hid (w4.heap[w.heap.size]? = some (.cells tok0 34 (0, 0))) := Lib.hid ((hmv.2.block _ (by omega) (by simp; omega)).trans HTk.out)
      have HB4 : Hid (Below w.heap.size w w4) := Lib.hid (mv_below HBl.out (by omega) (by omega) hmv)
      have hz4 := hmv.2.size
      have HLw := Lib.hid (lower_any (cut s.data.toList 1 ne) w4 (by have := cut_size s 1 ne; unfold maxLen; omega))
      clear hmv
      generalize lowS (cut s.data.toList 1 ne) = nm at *
      go_wp2_with fail
      refine HLw.out.mono ?_
      rintro e w5 ⟨rfl, hbl⟩
      have HRd5 : Hid (Rd w5 (w.heap.size + 1) (w.heap.size + 1 + 1) (w.heap.size + 1) s ne false []) := Lib.hid (HRd4.out.below hbl)
      have HTk5 : Hid (w5.heap[w.heap.size]? = some (.cells tok0 34 (0, 0))) := Lib.hid ((hbl.block _ (by omega)).trans HTk4.out)
      have HB5 : Hid (Below w.heap.size w w5) := Lib.hid (HB4.out.trans (hbl.mono HB4.out.size))
      have hz5 := hbl.size
      clear hbl
      have HTh := Lib.hid (through_any w5 (w.heap.size + 1) (w.heap.size + 1 + 1) (w.heap.size + 1) s ne (C.StAt.below HT.out HB5.out) (Nat.lt_succ_of_lt (stAt_lt HT.out)) (by omega) HRd5.out hnl hs)
      go_wp2_with fail
      refine HTh.out.mono ?_
      rintro e w6 ⟨b, n, sf, ys, rfl, hrd, hbel, hn, htg⟩
      obtain ⟨v6, hR6, hO6, hS6, _, _, _⟩ := hrd
      obtain ⟨a6, c6, hc6, rfl, hat6⟩ := A.own_attrs hO6
      have HB6 : Hid (Below w.heap.size w w6) := Lib.hid (HB5.out.trans (hbel.mono (Nat.le_succ _)))
      have hTk6 := (hbel.block w.heap.size (Nat.lt_succ_self _)).trans HTk5.out
      have b0 : w6.cell? ⟨w.heap.size, 0, none⟩ = some (.int .i64 0) := cell_of_row w6 w.heap.size 0 _ _ (0, 0) hTk6
      have b1 : w6.cell? ⟨w.heap.size, 1, none⟩ = some (.string ByteArray.empty) := cell_of_row w6 w.heap.size 1 _ _ (0, 0) hTk6
      have b2 : w6.cell? ⟨w.heap.size, 2, none⟩ = some (.slice none 0 0) := cell_of_row w6 w.heap.size 2 _ _ (0, 0) hTk6
      have b3 : w6.cell? ⟨w.heap.size, 3, none⟩ = some (.bool false) := cell_of_row w6 w.heap.size 3 _ _ (0, 0) hTk6
      have b4 : w6.cell? ⟨w.heap.size, 4, none⟩ = some (.string ByteArray.empty) := cell_of_row w6 w.heap.size 4 _ _ (0, 0) hTk6
      have f0 := frozen_of_row w6 w.heap.size 0 _ _ hTk6
      have f1 := frozen_of_row w6 w.heap.size 1 _ _ hTk6
      have f2 := frozen_of_row w6 w.heap.size 2 _ _ hTk6
      have f3 := frozen_of_row w6 w.heap.size 3 _ _ hTk6
      have f4 := frozen_of_row w6 w.heap.size 4 _ _ hTk6
      have r1 := hR6.c1
      have r2 := hR6.c2
      have r3 := hR6.c3
      have HO6 := Lib.hid hO6
      have HTk6 := Lib.hid hTk6
      clear hR6 hO6 hS6 hbel hTk6 hat6
      cases htgE : tg s.data.toList (s.data.toList.length + 1) ne [] with
      | none =>
        rw [htgE] at htg
        subst htg
        have HF : Hid (noTok s.size = rdT s.data.toList) := Lib.hid (by rw [HRdT.out, htgE])
        clear htgE r1 r2 r3
        go_wp2
        change bodyPost _ _ _ _ _ (S5 w6 w.heap.size _ _ _ _ _)
        have HG := Lib.hid (s5_grown w6 w.heap.size (.int .i64 0) (.string ByteArray.empty) (.slice none 0 0) (.bool false) (.string ByteArray.empty))
        have hH := s5_heap (.int .i64 0) (.string ByteArray.empty) (.slice none 0 0) (.bool false) (.string ByteArray.empty) HTk6.out
        have HBf : Hid (Below w.heap.size w (S5 w6 w.heap.size (.int .i64 0) (.string ByteArray.empty) (.slice none 0 0) (.bool false) (.string ByteArray.empty))) := Lib.hid (HB6.out.grown HG.out HB6.out.size (fun j hj => by cases hj; exact Nat.le_refl _))
        clear HG b0 b1 b2 b3 b4
        obtain ⟨wf, ewf⟩ : ∃ wf, wf = S5 w6 w.heap.size (.int .i64 0) (.string ByteArray.empty) (.slice none 0 0) (.bool false) (.string ByteArray.empty) := ⟨_, rfl⟩
        rw [← ewf] at hH HBf
        have d0 : wf.cell? ⟨w.heap.size, 0, none⟩ = some (.int .i64 0) := cell_of_row wf w.heap.size 0 _ _ (0, 0) hH
        have d1 : wf.cell? ⟨w.heap.size, 1, none⟩ = some (.string ByteArray.empty) := cell_of_row wf w.heap.size 1 _ _ (0, 0) hH
        have d2 : wf.cell? ⟨w.heap.size, 2, none⟩ = some (.slice none 0 0) := cell_of_row wf w.heap.size 2 _ _ (0, 0) hH
        have d3 : wf.cell? ⟨w.heap.size, 3, none⟩ = some (.bool false) := cell_of_row wf w.heap.size 3 _ _ (0, 0) hH
        have d4 : wf.cell? ⟨w.heap.size, 4, none⟩ = some (.string ByteArray.empty) := cell_of_row wf w.heap.size 4 _ _ (0, 0) hH
        show bodyPost _ _ _ _ _ (S5 w6 w.heap.size (.int .i64 0) (.string ByteArray.empty) (.slice none 0 0) (.bool false) (.string ByteArray.empty))
        rw [← ewf]
        clear ewf hH
        refine bodyPost_ret (v := .tuple #[tokV (noTok s.size) none 0, .int .i64 (noTok s.size).n, .bool (noTok s.size).ok]) (by simp [results, Tryz.results26, go_sem, tokV, noTok, d0, d1, d2, d3, d4]) rfl ?_
        exact ret_tok HF.out (Nat.zero_le _) (A.AttrsAt.nil _ _) HBf.out
      | some r =>
        obtain ⟨xs, sf', n'⟩ := r
        rw [htgE] at htg
        obtain ⟨rfl, rfl, rfl, rfl⟩ : b = true ∧ ys = xs ∧ sf = sf' ∧ n = n' := htg
        have HFt : Hid ((⟨1, nm, ys, sf, n, true⟩ : Tok) = rdT s.data.toList) := Lib.hid (by rw [HRdT.out, htgE, HF.out]; rfl)
        clear htgE
        have hne : w.heap.size + 1 + 1 ≠ w.heap.size := by omega
        go_wp2
        go_region_held3 (fun w' => w'.cell? ⟨w.heap.size + 1 + 1, 1, none⟩ = some (.int .i64 n) ∧ w'.cell? ⟨w.heap.size + 1 + 1, 2, none⟩ = some (.bool sf) ∧ w'.cell? ⟨w.heap.size + 1 + 1, 3, none⟩ = some (.slice a6 ys.length c6)) (first | with_reducible exact s5_keep hne r1 r2 r3 | go_keep) (fail)
        go_wp2
        change bodyPost _ _ _ _ _ (World.drew (S5 w6 w.heap.size _ _ _ _ _))
        have HG := Lib.hid (s5_grown w6 w.heap.size (.int .i64 1) (.string nm) (.slice a6 ys.length c6) (.bool sf) (.string ByteArray.empty))
        have hH := s5_heap (.int .i64 1) (.string nm) (.slice a6 ys.length c6) (.bool sf) (.string ByteArray.empty) HTk6.out
        have HBf : Hid (Below w.heap.size w (S5 w6 w.heap.size (.int .i64 1) (.string nm) (.slice a6 ys.length c6) (.bool sf) (.string ByteArray.empty)).drew) := Lib.hid (drewB1 (HB6.out.grown HG.out HB6.out.size (fun j hj => by cases hj; exact Nat.le_refl _)))
        have HAf : Hid (AttrsAt (S5 w6 w.heap.size (.int .i64 1) (.string nm) (.slice a6 ys.length c6) (.bool sf) (.string ByteArray.empty)).drew a6 ys) := Lib.hid (own_at (l := ys) (HO6.out.kept HG.out (.inr (fun e => by have := (HO6.out.lt _ e).1; omega)))).1
        clear HG b0 b1 b2 b3 b4 r1 r2 r3
        obtain ⟨wf, ewf⟩ : ∃ wf, wf = (S5 w6 w.heap.size (.int .i64 1) (.string nm) (.slice a6 ys.length c6) (.bool sf) (.string ByteArray.empty)).drew := ⟨_, rfl⟩
        replace hH : wf.heap[w.heap.size]? = some (.cells #[.int .i64 1, .string nm, .slice a6 ys.length c6, .bool sf, .string ByteArray.empty] 34 (0, 0)) := by rw [ewf]; exact hH
        rw [← ewf] at HBf HAf
        have d0 := cell_of_row wf w.heap.size 0 _ _ (0, 0) hH
        have d1 := cell_of_row wf w.heap.size 1 _ _ (0, 0) hH
        have d2 := cell_of_row wf w.heap.size 2 _ _ (0, 0) hH
        have d3 := cell_of_row wf w.heap.size 3 _ _ (0, 0) hH
        have d4 := cell_of_row wf w.heap.size 4 _ _ (0, 0) hH
        show bodyPost _ _ _ _ _ (World.drew (S5 w6 w.heap.size (.int .i64 1) (.string nm) (.slice a6 ys.length c6) (.bool sf) (.string ByteArray.empty)))
        rw [← ewf]
        clear ewf hH
        refine bodyPost_ret (v := .tuple #[tokV ⟨1, nm, ys, sf, n, true⟩ a6 c6, .int .i64 (n : Int), .bool true]) (by simp [results, Tryz.results26, go_sem, tokV, d0, d1, d2, d3, d4]) rfl ?_
        exact ret_tok HFt.out hc6 HAf.out HBf.out
    · have HE : Hid (nmE s.data.toList = run stopN s.data.toList 2) := Lib.hid (by unfold nmE; rw [hf])
      rw [hf] at HBg hfs
      have HF := Lib.hid hf
      clear hf
      go_enter Tryz.func26, Tryz.ntmps26
      go_wp2_with (go_at_call 40; refine (HBg.out _).mono ?_; rintro e w' ⟨rfl, rfl⟩)
      obtain ⟨v0, hR0, hO0, hS0, hbR0, hbM0, hl0⟩ := w3_rd w s 2
      have HR0 := Lib.hid hR0
      have HO0 := Lib.hid hO0
      have HS0 := Lib.hid hS0
      have HUp := Lib.hid (HU.out 2 (by omega) _ _ _ hR0)
      have HTk := Lib.hid (w3_tok w s 2)
      have HBl := Lib.hid (w3_below w s 2)
      have hsz := w3_size w s 2
      clear hR0 hO0 hS0
      rw [← HE.out] at HUp
      have hnl := run_le stopN s.data.toList 2 (by rw [C.size_list]; omega)
      rw [C.size_list, ← HE.out] at hnl
      generalize nmE s.data.toList = ne at *
      refine HUp.out.mono ?_
      rintro e w4 ⟨rfl, hmv⟩
      have HRd4 := Lib.hid (Rd.mv HO0.out HS0.out HR0.out hbR0 hbM0 (Nat.zero_le _) hmv)
      have HTk4 : Hid (w4.heap[w.heap.size]? = some (.cells tok0 34 (0, 0))) := Lib.hid ((hmv.2.block _ (by omega) (by simp; omega)).trans HTk.out)
      have HB4 : Hid (Below w.heap.size w w4) := Lib.hid (mv_below HBl.out (by omega) (by omega) hmv)
      have hz4 := hmv.2.size
      have HLw := Lib.hid (lower_any (cut s.data.toList 2 ne) w4 (by have := cut_size s 2 ne; unfold maxLen; omega))
      clear hmv
      generalize lowS (cut s.data.toList 2 ne) = nm at *
      go_wp2_with fail
      refine HLw.out.mono ?_
      rintro e w5 ⟨rfl, hbl⟩
      have HRd5 : Hid (Rd w5 (w.heap.size + 1) (w.heap.size + 1 + 1) (w.heap.size + 1) s ne false []) := Lib.hid (HRd4.out.below hbl)
      have HTk5 : Hid (w5.heap[w.heap.size]? = some (.cells tok0 34 (0, 0))) := Lib.hid ((hbl.block _ (by omega)).trans HTk4.out)
      have HB5 : Hid (Below w.heap.size w w5) := Lib.hid (HB4.out.trans (hbl.mono HB4.out.size))
      have hz5 := hbl.size
      clear hbl
      have HTh := Lib.hid (through_any w5 (w.heap.size + 1) (w.heap.size + 1 + 1) (w.heap.size + 1) s ne (C.StAt.below HT.out HB5.out) (Nat.lt_succ_of_lt (stAt_lt HT.out)) (by omega) HRd5.out hnl hs)
      go_wp2_with fail
      refine HTh.out.mono ?_
      rintro e w6 ⟨b, n, sf, ys, rfl, hrd, hbel, hn, htg⟩
      obtain ⟨v6, hR6, hO6, hS6, _, _, _⟩ := hrd
      obtain ⟨a6, c6, hc6, rfl, hat6⟩ := A.own_attrs hO6
      have HB6 : Hid (Below w.heap.size w w6) := Lib.hid (HB5.out.trans (hbel.mono (Nat.le_succ _)))
      have hTk6 := (hbel.block w.heap.size (Nat.lt_succ_self _)).trans HTk5.out
      have b0 : w6.cell? ⟨w.heap.size, 0, none⟩ = some (.int .i64 0) := cell_of_row w6 w.heap.size 0 _ _ (0, 0) hTk6
      have b1 : w6.cell? ⟨w.heap.size, 1, none⟩ = some (.string ByteArray.empty) := cell_of_row w6 w.heap.size 1 _ _ (0, 0) hTk6
      have b2 : w6.cell? ⟨w.heap.size, 2, none⟩ = some (.slice none 0 0) := cell_of_row w6 w.heap.size 2 _ _ (0, 0) hTk6
      have b3 : w6.cell? ⟨w.heap.size, 3, none⟩ = some (.bool false) := cell_of_row w6 w.heap.size 3 _ _ (0, 0) hTk6
      have b4 : w6.cell? ⟨w.heap.size, 4, none⟩ = some (.string ByteArray.empty) := cell_of_row w6 w.heap.size 4 _ _ (0, 0) hTk6
      have f0 := frozen_of_row w6 w.heap.size 0 _ _ hTk6
      have f1 := frozen_of_row w6 w.heap.size 1 _ _ hTk6
      have f2 := frozen_of_row w6 w.heap.size 2 _ _ hTk6
      have f3 := frozen_of_row w6 w.heap.size 3 _ _ hTk6
      have f4 := frozen_of_row w6 w.heap.size 4 _ _ hTk6
      have r1 := hR6.c1
      have r2 := hR6.c2
      have r3 := hR6.c3
      have HO6 := Lib.hid hO6
      have HTk6 := Lib.hid hTk6
      clear hR6 hO6 hS6 hbel hTk6 hat6
      cases htgE : tg s.data.toList (s.data.toList.length + 1) ne [] with
      | none =>
        rw [htgE] at htg
        subst htg
        have HF : Hid (noTok s.size = rdT s.data.toList) := Lib.hid (by rw [HRdT.out, htgE])
        clear htgE r1 r2 r3
        go_wp2
        change bodyPost _ _ _ _ _ (S5 w6 w.heap.size _ _ _ _ _)
        have HG := Lib.hid (s5_grown w6 w.heap.size (.int .i64 0) (.string ByteArray.empty) (.slice none 0 0) (.bool false) (.string ByteArray.empty))
        have hH := s5_heap (.int .i64 0) (.string ByteArray.empty) (.slice none 0 0) (.bool false) (.string ByteArray.empty) HTk6.out
        have HBf : Hid (Below w.heap.size w (S5 w6 w.heap.size (.int .i64 0) (.string ByteArray.empty) (.slice none 0 0) (.bool false) (.string ByteArray.empty))) := Lib.hid (HB6.out.grown HG.out HB6.out.size (fun j hj => by cases hj; exact Nat.le_refl _))
        clear HG b0 b1 b2 b3 b4
        obtain ⟨wf, ewf⟩ : ∃ wf, wf = S5 w6 w.heap.size (.int .i64 0) (.string ByteArray.empty) (.slice none 0 0) (.bool false) (.string ByteArray.empty) := ⟨_, rfl⟩
        rw [← ewf] at hH HBf
        have d0 : wf.cell? ⟨w.heap.size, 0, none⟩ = some (.int .i64 0) := cell_of_row wf w.heap.size 0 _ _ (0, 0) hH
        have d1 : wf.cell? ⟨w.heap.size, 1, none⟩ = some (.string ByteArray.empty) := cell_of_row wf w.heap.size 1 _ _ (0, 0) hH
        have d2 : wf.cell? ⟨w.heap.size, 2, none⟩ = some (.slice none 0 0) := cell_of_row wf w.heap.size 2 _ _ (0, 0) hH
        have d3 : wf.cell? ⟨w.heap.size, 3, none⟩ = some (.bool false) := cell_of_row wf w.heap.size 3 _ _ (0, 0) hH
        have d4 : wf.cell? ⟨w.heap.size, 4, none⟩ = some (.string ByteArray.empty) := cell_of_row wf w.heap.size 4 _ _ (0, 0) hH
        show bodyPost _ _ _ _ _ (S5 w6 w.heap.size (.int .i64 0) (.string ByteArray.empty) (.slice none 0 0) (.bool false) (.string ByteArray.empty))
        rw [← ewf]
        clear ewf hH
        refine bodyPost_ret (v := .tuple #[tokV (noTok s.size) none 0, .int .i64 (noTok s.size).n, .bool (noTok s.size).ok]) (by simp [results, Tryz.results26, go_sem, tokV, noTok, d0, d1, d2, d3, d4]) rfl ?_
        exact ret_tok HF.out (Nat.zero_le _) (A.AttrsAt.nil _ _) HBf.out
      | some r =>
        obtain ⟨xs, sf', n'⟩ := r
        rw [htgE] at htg
        obtain ⟨rfl, rfl, rfl, rfl⟩ : b = true ∧ ys = xs ∧ sf = sf' ∧ n = n' := htg
        have HFt : Hid ((⟨2, nm, [], false, n, true⟩ : Tok) = rdT s.data.toList) := Lib.hid (by rw [HRdT.out, htgE, HF.out]; rfl)
        clear htgE
        have hne : w.heap.size + 1 + 1 ≠ w.heap.size := by omega
        go_wp2
        go_region_held3 (fun w' => w'.cell? ⟨w.heap.size + 1 + 1, 1, none⟩ = some (.int .i64 n) ∧ w'.cell? ⟨w.heap.size + 1 + 1, 2, none⟩ = some (.bool sf) ∧ w'.cell? ⟨w.heap.size + 1 + 1, 3, none⟩ = some (.slice a6 ys.length c6)) (first | with_reducible exact s5_keep hne r1 r2 r3 | go_keep) (fail)
        go_wp2
        change bodyPost _ _ _ _ _ (World.drew (S5 w6 w.heap.size _ _ _ _ _))
        have HG := Lib.hid (s5_grown w6 w.heap.size (.int .i64 2) (.string nm) (.slice none 0 0) (.bool false) (.string ByteArray.empty))
        have hH := s5_heap (.int .i64 2) (.string nm) (.slice none 0 0) (.bool false) (.string ByteArray.empty) HTk6.out
        have HBf : Hid (Below w.heap.size w (S5 w6 w.heap.size (.int .i64 2) (.string nm) (.slice none 0 0) (.bool false) (.string ByteArray.empty)).drew) := Lib.hid (drewB1 (HB6.out.grown HG.out HB6.out.size (fun j hj => by cases hj; exact Nat.le_refl _)))
        have HAf : Hid (AttrsAt (S5 w6 w.heap.size (.int .i64 2) (.string nm) (.slice none 0 0) (.bool false) (.string ByteArray.empty)).drew none []) := Lib.hid (A.AttrsAt.nil _ _)
        clear HG b0 b1 b2 b3 b4 r1 r2 r3
        obtain ⟨wf, ewf⟩ : ∃ wf, wf = (S5 w6 w.heap.size (.int .i64 2) (.string nm) (.slice none 0 0) (.bool false) (.string ByteArray.empty)).drew := ⟨_, rfl⟩
        replace hH : wf.heap[w.heap.size]? = some (.cells #[.int .i64 2, .string nm, .slice none 0 0, .bool false, .string ByteArray.empty] 34 (0, 0)) := by rw [ewf]; exact hH
        rw [← ewf] at HBf HAf
        have d0 := cell_of_row wf w.heap.size 0 _ _ (0, 0) hH
        have d1 := cell_of_row wf w.heap.size 1 _ _ (0, 0) hH
        have d2 := cell_of_row wf w.heap.size 2 _ _ (0, 0) hH
        have d3 := cell_of_row wf w.heap.size 3 _ _ (0, 0) hH
        have d4 := cell_of_row wf w.heap.size 4 _ _ (0, 0) hH
        show bodyPost _ _ _ _ _ (World.drew (S5 w6 w.heap.size (.int .i64 2) (.string nm) (.slice none 0 0) (.bool false) (.string ByteArray.empty)))
        rw [← ewf]
        clear ewf hH
        refine bodyPost_ret (v := .tuple #[tokV ⟨2, nm, [], false, n, true⟩ none 0, .int .i64 (n : Int), .bool true]) (by simp [results, Tryz.results26, go_sem, tokV, d0, d1, d2, d3, d4]) rfl ?_
        exact ret_tok HFt.out (Nat.zero_le _) HAf.out HBf.out
  · have hb2 : begins s.data.toList = false := by simpa using hb
    have HF : Hid (noTok 0 = rdT s.data.toList) := Lib.hid (by unfold rdT; rw [hb2]; rfl)
    rw [bgN_no hb2] at HBg
    clear hb hb2
    go_enter Tryz.func26, Tryz.ntmps26
    go_wp2_with (go_at_call 40; refine (HBg.out _).mono ?_; rintro e w' ⟨rfl, rfl⟩)
    exact bodyPost_ret (v := .tuple #[tokV (noTok 0) none 0, .int .i64 (noTok 0).n, .bool (noTok 0).ok]) (by simp [results, Tryz.results26, go_sem, tokV, noTok]; rfl) rfl (ret_tok HF.out (Nat.zero_le _) (A.AttrsAt.nil _ _) ((Below.refl _ _).alloc (Nat.le_refl _) _))
end Go.Proofs.YtceelfomgcbkiaaGreatDoor.T
