/- PILE: standing, surely. -/
import Derived.Test.YtckchahangnfiaaGreatDoorPlI
namespace Go.Proofs.YtckchahangnfiaaGreatDoor
open Go.RowKit

set_option maxRecDepth 100000 in
set_option maxHeartbeats 4000000 in
theorem pstanding_yes (qb n qcap : Nat) (L : Int) (z v br : Nat → Int) (a b : Nat) (w : World) (D : Duo w qb n br a b) (V : Weighs v b) (h : sumOf v b ≤ br (tz a)) :
    Calls Tryz.prog 22 #[.agg (yCells (.slice (some ⟨qb, 0, none⟩) n qcap) L v v z), .agg (pCells a b)] w fun e w' => e = .returned (.int .i64 1) ∧ Below w.heap.size w w' := by
  have hst : ∀ W, Below w.heap.size w W → Calls Tryz.prog 46 #[.agg (yCells (.slice (some ⟨qb, 0, none⟩) n qcap) L v v z), .agg (pCells a b), .agg (nCells v)] W fun e w' => e = .returned (.bool true) ∧ Below W.heap.size W w' :=
    fun W hB => pstands_yes qb n qcap L v v z v br a b W (D.below hB D.qb_) V h
  have HST := Go.Lib.hid hst; clear hst
  clear D V h
  go_enter Tryz.func22, Tryz.ntmps22
  go_wp2_with fail
  obtain ⟨b0, b1, hB0, hz0⟩ := boxes2 w (yCells (.slice (some ⟨qb, 0, none⟩) n qcap) L v v z) (pCells a b) 55 58
  obtain ⟨W0, hW0⟩ : ∃ W0, (w.alloc (.cells (yCells (.slice (some ⟨qb, 0, none⟩) n qcap) L v v z) 55)).alloc (.cells (pCells a b) 58) = W0 := ⟨_, rfl⟩
  rw [hW0] at b0 b1 hB0 hz0 ⊢
  clear hW0
  go_region_held3 (fun w' => (∀ o, w'.cell? ⟨w.heap.size, o, none⟩ = (yCells (.slice (some ⟨qb, 0, none⟩) n qcap) L v v z)[o]?) ∧ (∀ o, w'.cell? ⟨w.heap.size + 1, o, none⟩ = (pCells a b)[o]?) ∧ Below w.heap.size w w' ∧ w.heap.size + 1 < w'.heap.size)
    (first | (exact ⟨b0, b1, hB0.drew, by show w.heap.size + 1 < W0.heap.size; omega⟩) | (go_split_ands; exact two_keep (by assumption) (by assumption) (by assumption) (by assumption) (by assumption)) | go_keep)
    (first | (go_at_call 46; refine (HST.out _ (by first | exact hB0.drew | (go_split_ands; assumption))).mono ?_; rintro e w1 ⟨rfl, hB1⟩) | (go_at_call 45; refine (pverdict_yes _).mono ?_; rintro e w1 ⟨rfl, rfl⟩))
  rename_i hS
  obtain ⟨_, _, hB2, _⟩ := hS
  go_wp2
  go_ret
  exact ⟨rfl, hB2⟩

set_option maxRecDepth 100000 in
set_option maxHeartbeats 4000000 in
theorem pstanding_no (qb n qcap : Nat) (L : Int) (z v br : Nat → Int) (a b : Nat) (w : World) (D : Duo w qb n br a b) (V : Weighs v b) (h : br (tz a) < sumOf v b) :
    Calls Tryz.prog 22 #[.agg (yCells (.slice (some ⟨qb, 0, none⟩) n qcap) L v v z), .agg (pCells a b)] w fun e w' => e = .returned (.int .i64 2) ∧ Below w.heap.size w w' := by
  have hst : ∀ W, Below w.heap.size w W → Calls Tryz.prog 46 #[.agg (yCells (.slice (some ⟨qb, 0, none⟩) n qcap) L v v z), .agg (pCells a b), .agg (nCells v)] W fun e w' => e = .returned (.bool false) ∧ Below W.heap.size W w' :=
    fun W hB => pstands_no qb n qcap L v v z v br a b W (D.below hB D.qb_) V h
  have HST := Go.Lib.hid hst; clear hst
  clear D V h
  go_enter Tryz.func22, Tryz.ntmps22
  go_wp2_with fail
  obtain ⟨b0, b1, hB0, hz0⟩ := boxes2 w (yCells (.slice (some ⟨qb, 0, none⟩) n qcap) L v v z) (pCells a b) 55 58
  obtain ⟨W0, hW0⟩ : ∃ W0, (w.alloc (.cells (yCells (.slice (some ⟨qb, 0, none⟩) n qcap) L v v z) 55)).alloc (.cells (pCells a b) 58) = W0 := ⟨_, rfl⟩
  rw [hW0] at b0 b1 hB0 hz0 ⊢
  clear hW0
  go_region_held3 (fun w' => (∀ o, w'.cell? ⟨w.heap.size, o, none⟩ = (yCells (.slice (some ⟨qb, 0, none⟩) n qcap) L v v z)[o]?) ∧ (∀ o, w'.cell? ⟨w.heap.size + 1, o, none⟩ = (pCells a b)[o]?) ∧ Below w.heap.size w w' ∧ w.heap.size + 1 < w'.heap.size)
    (first | (exact ⟨b0, b1, hB0.drew, by show w.heap.size + 1 < W0.heap.size; omega⟩) | (go_split_ands; exact two_keep (by assumption) (by assumption) (by assumption) (by assumption) (by assumption)) | go_keep)
    (first | (go_at_call 46; refine (HST.out _ (by first | exact hB0.drew | (go_split_ands; assumption))).mono ?_; rintro e w1 ⟨rfl, hB1⟩) | (go_at_call 45; refine (pverdict_no _).mono ?_; rintro e w1 ⟨rfl, rfl⟩))
  rename_i hS
  obtain ⟨_, _, hB2, _⟩ := hS
  go_wp2
  go_ret
  exact ⟨rfl, hB2⟩

set_option maxRecDepth 100000 in
set_option maxHeartbeats 4000000 in
theorem psurely_any (qb n qcap : Nat) (L : Int) (x z v br : Nat → Int) (a b : Nat) (w : World) (D : Duo w qb n br a b) (V : Weighs v b) (z0 : ∀ j, j < 5 → 0 ≤ z j) (z9 : ∀ j, j < 5 → z j ≤ 999) (hs : sumOf z (a ||| b) ≤ L) (r : Bool) (hr : (r = true ∧ sumOf v b ≤ br (tz a)) ∨ (r = false ∧ br (tz a) < sumOf v b)) :
    Calls Tryz.prog 34 #[.agg (yCells (.slice (some ⟨qb, 0, none⟩) n qcap) L x v z), .agg (pCells a b)] w fun e w' => e = .returned (.bool r) ∧ Below w.heap.size w w' := by
  have hst : ∀ W, Below w.heap.size w W → Calls Tryz.prog 46 #[.agg (yCells (.slice (some ⟨qb, 0, none⟩) n qcap) L x v z), .agg (pCells a b), .agg (nCells v)] W fun e w' => e = .returned (.bool r) ∧ Below W.heap.size W w' := by
    intro W hB
    rcases hr with ⟨rfl, h⟩ | ⟨rfl, h⟩
    · exact pstands_yes qb n qcap L x v z v br a b W (D.below hB D.qb_) V h
    · exact pstands_no qb n qcap L x v z v br a b W (D.below hB D.qb_) V h
  have hhi := fun W => phigh_no (.slice (some ⟨qb, 0, none⟩) n qcap) L x v z a b W D.a32 D.b32 z0 z9 hs
  have HST := Go.Lib.hid hst; clear hst
  have HHI := Go.Lib.hid hhi; clear hhi
  clear D V hr z0 z9 hs
  obtain ⟨b0, b1, hB0, hz0⟩ := boxes2 w (yCells (.slice (some ⟨qb, 0, none⟩) n qcap) L x v z) (pCells a b) 55 58
  have HT := Go.Lib.hid (And.intro b0 (And.intro b1 (And.intro hB0 hz0)))
  clear b0 b1 hB0 hz0
  go_enter Tryz.func34, Tryz.ntmps34
  go_wp2_with (first
    | (go_at_call 50; refine (HHI.out _).mono ?_; rintro e w1 ⟨rfl, hB1⟩
       obtain ⟨c0, c1, hB2, hz2⟩ := two_keep HT.out.1 HT.out.2.1 HT.out.2.2.1 HT.out.2.2.2 hB1)
    | (go_at_call 46; refine (HST.out _ (by assumption)).mono ?_; rintro e w3 ⟨rfl, hB3⟩))
  go_ret
  exact ⟨rfl, hB2.trans (hB3.mono (by omega))⟩

end Go.Proofs.YtckchahangnfiaaGreatDoor
