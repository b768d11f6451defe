/- SHELF: row, the iterator over a set, room. -/
import Derived.Test.YtckchahangnfiaaGreatDoorShA
namespace Go.Proofs.YtckchahangnfiaaGreatDoor
open Go.RowKit

theorem slice_plan (a : Addr) (c : Nat) (h : c ≤ 5) (w : World) :
    (Instr.sliceAt 62 (.pointer (some a)) none (some (.int .i64 c)) none).run Tryz.prog w = .ok (.slice (some a) c 5) w := by
  rcases (show c = 0 ∨ c = 1 ∨ c = 2 ∨ c = 3 ∨ c = 4 ∨ c = 5 by omega) with rfl | rfl | rfl | rfl | rfl | rfl
  all_goals kernel_rfl

set_option maxRecDepth 100000 in
theorem row_low (L B P M : Value) (c : Nat) (w : World) (hc : c ≤ 5) :
    Calls Tryz.prog 40 #[.agg (cellsAt L B P M c), .int .i64 0] w fun e w' => e = .returned (.int .u8 (low c)) ∧ Below w.heap.size w w' := by
  have hsl := fun a w => slice_plan a c hc w
  have hpl : ∀ k, k < c → (w.alloc (.cells (cellsAt L B P M c) 66)).cell? ⟨w.heap.size, 3 + k, none⟩ = some (.int .i64 0) := by
    intro k hk
    have : k = 0 ∨ k = 1 ∨ k = 2 ∨ k = 3 ∨ k = 4 := by omega
    rcases this with rfl | rfl | rfl | rfl | rfl <;> simp
  go_enter Tryz.func40, Tryz.ntmps40
  go_wp2
  clear hsl
  go_loop [5, 13] (fun s i => ∃ k : Nat, k ≤ c ∧ i = .int .i64 k ∧ s = .int .u8 (low k)) (fun _ i => c - (intOf i).toNat)
  case atStart => exact ⟨0, Nat.zero_le _, rfl, rfl⟩
  case round =>
    obtain ⟨k, hk, rfl, rfl⟩ := hrel
    by_cases hlt : k < c
    · have hcell := hpl k hlt
      clear hpl
      have hw := with_any (low k) k (w.alloc (.cells (cellsAt L B P M c) 66)) (low_lt (by omega)) (by omega)
      have HS := Go.Lib.hid (low_succ ⟨k, by omega⟩)
      go_wp2_with (go_at_call 43; refine hw.mono ?_; rintro e w' ⟨rfl, rfl⟩)
      go_round
      case rel => exact ⟨k + 1, by omega, by go_num, by rw [HS.out]⟩
      case measure => simp [intOf]; omega
    · clear hpl
      obtain rfl : k = c := by omega
      go_wp2
      go_ret
      exact ⟨rfl, (Below.refl _ _).alloc (Nat.le_refl _) _⟩

/-- The one lane, long enough for n. -/
def LaneAt (w : World) (lb n : Nat) : Prop := ∃ ln : Nat, n ≤ ln ∧ ln ≤ 9 ∧ w.cell? ⟨lb, 0, none⟩ = some (.int .i64 ln)
theorem LaneAt.below {w w' : World} {lb n N : Nat} (h : LaneAt w lb n) (hB : Below N w w') (hb : lb < N) : LaneAt w' lb n := by
  obtain ⟨ln, h1, h2, h3⟩ := h
  exact ⟨ln, h1, h2, (hB.cell (p := ⟨lb, 0, none⟩) hb).trans h3⟩
/-- What is left of it when c stand in it. -/
def RoomOk (n c : Nat) (w : World) (e : Ending) (w' : World) : Prop := ∃ r : Int, (n : Int) - c ≤ r ∧ r ≤ 9 ∧ e = .returned (.int .i64 r) ∧ Below w.heap.size w w'

end Go.Proofs.YtckchahangnfiaaGreatDoor
