/- PILE: high. -/
import Derived.Test.YtckchahangnfiaaGreatDoorPlF
import Derived.Deep.RegionHeld3
namespace Go.Proofs.YtckchahangnfiaaGreatDoor
open Go.RowKit

/-- Two blocks that were laid first: what they hold. -/
def Two (N : Nat) (A B : Array Value) (w w' : World) : Prop := (∀ o, w'.cell? ⟨N, o, none⟩ = A[o]?) ∧ (∀ o, w'.cell? ⟨N + 1, o, none⟩ = B[o]?) ∧ Below N w w' ∧ N + 1 < w'.heap.size
theorem two_keep {N : Nat} {A B : Array Value} {w W w' : World} (h0 : ∀ o, W.cell? ⟨N, o, none⟩ = A[o]?) (h1 : ∀ o, W.cell? ⟨N + 1, o, none⟩ = B[o]?) (hB : Below N w W) (hz : N + 1 < W.heap.size) (hB1 : Below W.heap.size W w') :
    (∀ o, w'.cell? ⟨N, o, none⟩ = A[o]?) ∧ (∀ o, w'.cell? ⟨N + 1, o, none⟩ = B[o]?) ∧ Below N w w' ∧ N + 1 < w'.heap.size :=
  ⟨fun o => (hB1.cell (p := ⟨N, o, none⟩) (by show N < _; omega)).trans (h0 o), fun o => (hB1.cell (p := ⟨N + 1, o, none⟩) hz).trans (h1 o), hB.trans (hB1.mono (by omega)), Nat.lt_of_lt_of_le hz hB1.size⟩

set_option maxRecDepth 100000 in
set_option maxHeartbeats 4000000 in
theorem phigh_no (P : Value) (L : Int) (x y v : Nat → Int) (a b : Nat) (w : World) (ha : a < 32) (hb : b < 32) (h0 : ∀ j, j < 5 → 0 ≤ v j) (h9 : ∀ j, j < 5 → v j ≤ 999) (hs : sumOf v (a ||| b) ≤ L) :
    Calls Tryz.prog 50 #[.agg (yCells P L x y v), .agg (pCells a b)] w fun e w' => e = .returned (.bool false) ∧ Below w.heap.size w w' := by
  have h32 : a ||| b < 32 := Nat.or_lt_two_pow (n := 5) ha hb
  have hpo := fun W => pof_any v (a ||| b) h32 W h0 h9
  have HPO := Go.Lib.hid hpo; clear hpo
  have hd : decide (L < sumOf v (a ||| b)) = false := by simp; omega
  have HD := Go.Lib.hid hd; clear hd
  clear h0 h9
  go_enter Tryz.func50, Tryz.ntmps50
  go_wp2_with fail
  have b0 : ∀ o, ((w.alloc (.cells (yCells P L x y v) 55)).alloc (.cells (pCells a b) 58)).cell? ⟨w.heap.size, o, none⟩ = (yCells P L x y v)[o]? := fun o => by
    rw [← cellH (heap_alloc_new w (.cells (yCells P L x y v) 55)) o]; simp
  have b1 : ∀ o, ((w.alloc (.cells (yCells P L x y v) 55)).alloc (.cells (pCells a b) 58)).cell? ⟨w.heap.size + 1, o, none⟩ = (pCells a b)[o]? := fun o => by
    have := cellH (heap_alloc_new (w.alloc (.cells (yCells P L x y v) 55)) (.cells (pCells a b) 58)) o
    rwa [World.size_alloc] at this
  have hB0 : Below w.heap.size w ((w.alloc (.cells (yCells P L x y v) 55)).alloc (.cells (pCells a b) 58)) := ((Below.refl _ w).alloc (Nat.le_refl _) _).alloc (by simp) _
  obtain ⟨W0, hW0⟩ : ∃ W0, (w.alloc (.cells (yCells P L x y v) 55)).alloc (.cells (pCells a b) 58) = W0 := ⟨_, rfl⟩
  have hz0 : w.heap.size + 1 < W0.heap.size := by rw [← hW0]; simp
  rw [hW0] at b0 b1 hB0 ⊢
  clear hW0
  go_region_held3 (fun w' => (∀ o, w'.cell? ⟨w.heap.size, o, none⟩ = (yCells P L x y v)[o]?) ∧ (∀ o, w'.cell? ⟨w.heap.size + 1, o, none⟩ = (pCells a b)[o]?) ∧ Below w.heap.size w w' ∧ w.heap.size + 1 < w'.heap.size)
    (first | (exact ⟨b0, b1, hB0.drew, by show w.heap.size + 1 < W0.heap.size; omega⟩) | (go_split_ands; exact two_keep (by assumption) (by assumption) (by assumption) (by assumption) (by assumption)) | go_keep)
    (first | (go_at_call 29; refine (ppieces_any a b _ ha hb).mono ?_; rintro e w1 ⟨rfl, hB1⟩) | (go_at_call 65; refine (HPO.out _).mono ?_; rintro e w1 ⟨rfl, hB1⟩))
  rename_i hS
  obtain ⟨_, _, hB2, _⟩ := hS
  go_wp2
  go_ret
  exact ⟨congrArg (fun x => Ending.returned (.bool x)) HD.out, hB2⟩

end Go.Proofs.YtckchahangnfiaaGreatDoor
