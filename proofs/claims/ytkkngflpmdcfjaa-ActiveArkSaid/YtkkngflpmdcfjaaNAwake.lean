/-
  The walks of New and of awake.
-/
import Derived.Test.YtkkngflpmdcfjaaNSmall
import Derived.Test.YtkkngflpmdcfjaaNPut
namespace Go.Proofs.Ytkkngflpmdcfjaa
open Go.RowKit

def rootN : Nd := ⟨0, 0, ⟨#[]⟩, .slice none 0 0, ⟨#[]⟩, -1, .slice none 0 0, [], []⟩
theorem new_nodes (w : World) (R : Nat → Prop) (hr : R w.heap.size) (hl : ∀ k, R k → k < (w.alloc (box rootN)).heap.size) : NodesAt (w.alloc (box rootN)) R (.slice (some ⟨w.heap.size, 0, none⟩) 1 1) [rootN] := by
  refine ⟨⟨World.ownsRow_lit w rootN.cells.toArray 1 (Nat.zero_le _) (by unfold maxLen; omega) rfl, okRow.alloc fun j u h => fine_ok ⟨⟨_, _, _, rfl⟩, ⟨_, _, _, rfl⟩⟩ j u (by simpa using h)⟩, fun i hi => ?_, fun i hi => ?_, fun k hk => ?_, fun i hi k hk => ?_, fun i j hi hj k h1 => ?_, hl⟩
  · obtain rfl : i = 0 := by simp at hi; omega
    exact KR.nil _
  · obtain rfl : i = 0 := by simp at hi; omega
    exact ⟨none, 0, rfl, A.AttrsAt.nil _ _, fun _ _ h => absurd rfl h⟩
  · injection hk with hk; rw [← hk]; exact hr
  · obtain rfl : i = 0 := by simp at hi; omega
    cases hk
  · obtain rfl : i = 0 := by simp at hi; omega
    cases h1
/-- What New leaves. -/
def RetNew (w : World) (e : Ending) (w' : World) : Prop := ∃ v, e = .returned (.agg #[v]) ∧ Below w.heap.size w w' ∧ NodesAt w' (RN NoR w w') v [rootN]

set_option maxHeartbeats 800000 in
theorem new_any (w : World) : Calls Try.prog 81 #[] w (RetNew w) := by
  go_enter Try.func81, Try.ntmps81
  go_wp2
  have hs : (w.alloc (.cells #[.slice (some ⟨w.heap.size + 1, 0, none⟩) 1 1] 24)).heap.size = w.heap.size + 1 := by simp
  have hn := new_nodes (w.alloc (.cells #[.slice (some ⟨w.heap.size + 1, 0, none⟩) 1 1] 24)) (RN NoR w ((w.alloc (.cells #[.slice (some ⟨w.heap.size + 1, 0, none⟩) 1 1] 24)).alloc (box rootN))) (.inr ⟨by simp, by simp⟩) (rn_lt fun k h => h.elim)
  rw [hs] at hn
  refine bodyPost_ret (v := .agg #[.slice (some ⟨w.heap.size + 1, 0, none⟩) 1 1]) (by simp [results, Try.results81, go_sem]) rfl ?_
  exact ⟨_, rfl, (below_box w _).alloc (by simp) _, hn⟩
theorem norm_cons_two {l : List Nd} {a b : Nd} (h : l.map norm = [a, b]) : ∃ x y, l = [x, y] ∧ norm x = a ∧ norm y = b := by
  match l, h with
  | [x, y], h => simp at h; exact ⟨x, y, rfl, h.1, h.2⟩

def RetT (w : World) (e : Ending) (w' : World) : Prop := e = .returned (.bool true) ∧ Below w.heap.size w w'
def aN (av : Value) : Nd := ⟨1, 0, ⟨#[97]⟩, av, ⟨#[]⟩, -1, .slice none 0 0, [], []⟩
end Go.Proofs.Ytkkngflpmdcfjaa
