/- SHELF: checkLanes, checkBags. -/
import Derived.Test.YtckchahangnfiaaGreatDoorShF
import Derived.Lib.Hide
namespace Go.Proofs.YtckchahangnfiaaGreatDoor
open Go.RowKit

theorem checkLanes_yes (lb lcap n : Nat) (w : World) (h1 : 1 ≤ n) (hl : LaneAt w lb n) :
    Calls Tryz.prog 35 #[.slice (some ⟨lb, 0, none⟩) 1 lcap] w fun e w' => e = .returned (.int .i64 0) ∧ w = w' := by
  obtain ⟨ln, hln1, hln9, hl⟩ := hl
  go_enter Tryz.func35, Tryz.ntmps35
  go_wp2
  go_loop [13] (fun i => ∃ k : Nat, k ≤ 1 ∧ i = .int .i64 k) (fun i => 1 - (intOf i).toNat)
  case atStart => exact ⟨0, by omega, rfl⟩
  case round =>
    obtain ⟨k, hk, rfl⟩ := hrel
    by_cases hlt : k < 1
    · obtain rfl : k = 0 := by omega
      go_wp2_with (go_at_call 39; refine (within_yes _ _ _ _ (by omega) (by omega)).mono ?_; rintro e w' ⟨rfl, rfl⟩)
      go_round
      case rel => exact ⟨1, by omega, by go_num⟩
      case measure => simp [intOf]
    · obtain rfl : k = 1 := by omega
      go_wp2
      go_ret
      exact ⟨rfl, rfl⟩

/-- Pieces that are one long, and fetched at known hours. -/
structure BagsAt (w : World) (bb n : Nat) (h : Nat → Int) : Prop where
  long : ∀ j, j < n → w.cell? ⟨bb, j * 3, none⟩ = some (.int .i64 1)
  lo : ∀ j, j < n → w.cell? ⟨bb, j * 3 + 1, none⟩ = some (.int .i64 (h j))
  hi : ∀ j, j < n → w.cell? ⟨bb, j * 3 + 2, none⟩ = some (.int .i64 (h j))
  ge : ∀ j, j < n → 0 ≤ h j
  le : ∀ j, j < n → h j ≤ 6
theorem BagsAt.keep {w w' : World} {bb n : Nat} {h : Nat → Int} (H : BagsAt w bb n h) (k : ∀ o, w'.cell? ⟨bb, o, none⟩ = w.cell? ⟨bb, o, none⟩) : BagsAt w' bb n h :=
  ⟨fun j hj => (k _).trans (H.long j hj), fun j hj => (k _).trans (H.lo j hj), fun j hj => (k _).trans (H.hi j hj), H.ge, H.le⟩
theorem BagsAt.below {w w' : World} {bb n N : Nat} {h : Nat → Int} (H : BagsAt w bb n h) (hB : Below N w w') (hb : bb < N) : BagsAt w' bb n h :=
  H.keep fun o => hB.cell (p := ⟨bb, o, none⟩) hb

set_option maxHeartbeats 1000000 in
theorem checkBags_yes (bb n bcap : Nat) (h : Nat → Int) (w : World) (hn : n ≤ 5) (hbb : bb < w.heap.size) (H : BagsAt w bb n h) :
    Calls Tryz.prog 36 #[.slice (some ⟨bb, 0, none⟩) n bcap] w fun e w' => e = .returned (.int .i64 0) ∧ Below w.heap.size w w' := by
  have HH := Go.Lib.hid H; clear H
  go_enter Tryz.func36, Tryz.ntmps36
  go_wp2
  go_loopw [11] (fun i wr => ∃ k : Nat, k ≤ n ∧ i = .int .i64 k ∧ Below w.heap.size w wr) (fun i _ => n - (intOf i).toNat)
  case atStart => exact ⟨0, by omega, rfl, Below.refl _ _⟩
  case round =>
    obtain ⟨k, hk, rfl, hB⟩ := hrel
    by_cases hlt : k < n
    · have H1 := HH.out.below hB hbb
      have c0 := H1.long k hlt
      have c1 := H1.lo k hlt
      have c2 := H1.hi k hlt
      have g0 := H1.ge k hlt
      have g1 := H1.le k hlt
      have hz := hB.size
      clear H1
      go_wp2_with (go_at_call 55; refine (checkBag_yes _ _ _ _ (by omega) (by omega) g0 (by omega) g1).mono ?_; rintro e w' ⟨rfl, hB1⟩)
      go_roundw
      case rel => exact ⟨k + 1, by omega, by go_num, (hB.alloc hz _).trans (hB1.mono (by simp; omega))⟩
      case measure => simp [intOf]; omega
    · obtain rfl : k = n := by omega
      go_wp2
      go_ret
      exact ⟨rfl, hB⟩

end Go.Proofs.YtckchahangnfiaaGreatDoor
