/- SHELF: math/bits.TrailingZeros8 at the sets of five. -/
import Derived.Test.YtckchahangnfiaaGreatDoorShB
namespace Go.Proofs.YtckchahangnfiaaGreatDoor
open Go.RowKit
/-- The least member of a set. -/
def tz (s : Nat) : Nat := ((List.range 5).find? fun i => s.testBit i).getD 8
set_option maxRecDepth 1000000 in
theorem tz_0 (w : World) : Calls Tryz.prog 61 #[.int .u8 0] w fun e w' => e = .returned (.int .i64 8) ∧ w = w' := by
  go_enter Tryz.func61, Tryz.ntmps61
  go_wp2
  go_ret
  exact ⟨by kernel_rfl, rfl⟩
set_option maxRecDepth 1000000 in
theorem tz_1 (w : World) : Calls Tryz.prog 61 #[.int .u8 1] w fun e w' => e = .returned (.int .i64 0) ∧ w = w' := by
  go_enter Tryz.func61, Tryz.ntmps61
  go_wp2
  go_ret
  exact ⟨by kernel_rfl, rfl⟩
set_option maxRecDepth 1000000 in
theorem tz_2 (w : World) : Calls Tryz.prog 61 #[.int .u8 2] w fun e w' => e = .returned (.int .i64 1) ∧ w = w' := by
  go_enter Tryz.func61, Tryz.ntmps61
  go_wp2
  go_ret
  exact ⟨by kernel_rfl, rfl⟩
set_option maxRecDepth 1000000 in
theorem tz_3 (w : World) : Calls Tryz.prog 61 #[.int .u8 3] w fun e w' => e = .returned (.int .i64 0) ∧ w = w' := by
  go_enter Tryz.func61, Tryz.ntmps61
  go_wp2
  go_ret
  exact ⟨by kernel_rfl, rfl⟩
set_option maxRecDepth 1000000 in
theorem tz_4 (w : World) : Calls Tryz.prog 61 #[.int .u8 4] w fun e w' => e = .returned (.int .i64 2) ∧ w = w' := by
  go_enter Tryz.func61, Tryz.ntmps61
  go_wp2
  go_ret
  exact ⟨by kernel_rfl, rfl⟩
set_option maxRecDepth 1000000 in
theorem tz_5 (w : World) : Calls Tryz.prog 61 #[.int .u8 5] w fun e w' => e = .returned (.int .i64 0) ∧ w = w' := by
  go_enter Tryz.func61, Tryz.ntmps61
  go_wp2
  go_ret
  exact ⟨by kernel_rfl, rfl⟩
set_option maxRecDepth 1000000 in
theorem tz_6 (w : World) : Calls Tryz.prog 61 #[.int .u8 6] w fun e w' => e = .returned (.int .i64 1) ∧ w = w' := by
  go_enter Tryz.func61, Tryz.ntmps61
  go_wp2
  go_ret
  exact ⟨by kernel_rfl, rfl⟩
set_option maxRecDepth 1000000 in
theorem tz_7 (w : World) : Calls Tryz.prog 61 #[.int .u8 7] w fun e w' => e = .returned (.int .i64 0) ∧ w = w' := by
  go_enter Tryz.func61, Tryz.ntmps61
  go_wp2
  go_ret
  exact ⟨by kernel_rfl, rfl⟩
set_option maxRecDepth 1000000 in
theorem tz_8 (w : World) : Calls Tryz.prog 61 #[.int .u8 8] w fun e w' => e = .returned (.int .i64 3) ∧ w = w' := by
  go_enter Tryz.func61, Tryz.ntmps61
  go_wp2
  go_ret
  exact ⟨by kernel_rfl, rfl⟩
set_option maxRecDepth 1000000 in
theorem tz_9 (w : World) : Calls Tryz.prog 61 #[.int .u8 9] w fun e w' => e = .returned (.int .i64 0) ∧ w = w' := by
  go_enter Tryz.func61, Tryz.ntmps61
  go_wp2
  go_ret
  exact ⟨by kernel_rfl, rfl⟩
set_option maxRecDepth 1000000 in
theorem tz_10 (w : World) : Calls Tryz.prog 61 #[.int .u8 10] w fun e w' => e = .returned (.int .i64 1) ∧ w = w' := by
  go_enter Tryz.func61, Tryz.ntmps61
  go_wp2
  go_ret
  exact ⟨by kernel_rfl, rfl⟩
set_option maxRecDepth 1000000 in
theorem tz_11 (w : World) : Calls Tryz.prog 61 #[.int .u8 11] w fun e w' => e = .returned (.int .i64 0) ∧ w = w' := by
  go_enter Tryz.func61, Tryz.ntmps61
  go_wp2
  go_ret
  exact ⟨by kernel_rfl, rfl⟩
set_option maxRecDepth 1000000 in
theorem tz_12 (w : World) : Calls Tryz.prog 61 #[.int .u8 12] w fun e w' => e = .returned (.int .i64 2) ∧ w = w' := by
  go_enter Tryz.func61, Tryz.ntmps61
  go_wp2
  go_ret
  exact ⟨by kernel_rfl, rfl⟩
set_option maxRecDepth 1000000 in
theorem tz_13 (w : World) : Calls Tryz.prog 61 #[.int .u8 13] w fun e w' => e = .returned (.int .i64 0) ∧ w = w' := by
  go_enter Tryz.func61, Tryz.ntmps61
  go_wp2
  go_ret
  exact ⟨by kernel_rfl, rfl⟩
set_option maxRecDepth 1000000 in
theorem tz_14 (w : World) : Calls Tryz.prog 61 #[.int .u8 14] w fun e w' => e = .returned (.int .i64 1) ∧ w = w' := by
  go_enter Tryz.func61, Tryz.ntmps61
  go_wp2
  go_ret
  exact ⟨by kernel_rfl, rfl⟩
set_option maxRecDepth 1000000 in
theorem tz_15 (w : World) : Calls Tryz.prog 61 #[.int .u8 15] w fun e w' => e = .returned (.int .i64 0) ∧ w = w' := by
  go_enter Tryz.func61, Tryz.ntmps61
  go_wp2
  go_ret
  exact ⟨by kernel_rfl, rfl⟩
set_option maxRecDepth 1000000 in
theorem tz_16 (w : World) : Calls Tryz.prog 61 #[.int .u8 16] w fun e w' => e = .returned (.int .i64 4) ∧ w = w' := by
  go_enter Tryz.func61, Tryz.ntmps61
  go_wp2
  go_ret
  exact ⟨by kernel_rfl, rfl⟩
set_option maxRecDepth 1000000 in
theorem tz_17 (w : World) : Calls Tryz.prog 61 #[.int .u8 17] w fun e w' => e = .returned (.int .i64 0) ∧ w = w' := by
  go_enter Tryz.func61, Tryz.ntmps61
  go_wp2
  go_ret
  exact ⟨by kernel_rfl, rfl⟩
set_option maxRecDepth 1000000 in
theorem tz_18 (w : World) : Calls Tryz.prog 61 #[.int .u8 18] w fun e w' => e = .returned (.int .i64 1) ∧ w = w' := by
  go_enter Tryz.func61, Tryz.ntmps61
  go_wp2
  go_ret
  exact ⟨by kernel_rfl, rfl⟩
set_option maxRecDepth 1000000 in
theorem tz_19 (w : World) : Calls Tryz.prog 61 #[.int .u8 19] w fun e w' => e = .returned (.int .i64 0) ∧ w = w' := by
  go_enter Tryz.func61, Tryz.ntmps61
  go_wp2
  go_ret
  exact ⟨by kernel_rfl, rfl⟩
set_option maxRecDepth 1000000 in
theorem tz_20 (w : World) : Calls Tryz.prog 61 #[.int .u8 20] w fun e w' => e = .returned (.int .i64 2) ∧ w = w' := by
  go_enter Tryz.func61, Tryz.ntmps61
  go_wp2
  go_ret
  exact ⟨by kernel_rfl, rfl⟩
set_option maxRecDepth 1000000 in
theorem tz_21 (w : World) : Calls Tryz.prog 61 #[.int .u8 21] w fun e w' => e = .returned (.int .i64 0) ∧ w = w' := by
  go_enter Tryz.func61, Tryz.ntmps61
  go_wp2
  go_ret
  exact ⟨by kernel_rfl, rfl⟩
set_option maxRecDepth 1000000 in
theorem tz_22 (w : World) : Calls Tryz.prog 61 #[.int .u8 22] w fun e w' => e = .returned (.int .i64 1) ∧ w = w' := by
  go_enter Tryz.func61, Tryz.ntmps61
  go_wp2
  go_ret
  exact ⟨by kernel_rfl, rfl⟩
set_option maxRecDepth 1000000 in
theorem tz_23 (w : World) : Calls Tryz.prog 61 #[.int .u8 23] w fun e w' => e = .returned (.int .i64 0) ∧ w = w' := by
  go_enter Tryz.func61, Tryz.ntmps61
  go_wp2
  go_ret
  exact ⟨by kernel_rfl, rfl⟩
set_option maxRecDepth 1000000 in
theorem tz_24 (w : World) : Calls Tryz.prog 61 #[.int .u8 24] w fun e w' => e = .returned (.int .i64 3) ∧ w = w' := by
  go_enter Tryz.func61, Tryz.ntmps61
  go_wp2
  go_ret
  exact ⟨by kernel_rfl, rfl⟩
set_option maxRecDepth 1000000 in
theorem tz_25 (w : World) : Calls Tryz.prog 61 #[.int .u8 25] w fun e w' => e = .returned (.int .i64 0) ∧ w = w' := by
  go_enter Tryz.func61, Tryz.ntmps61
  go_wp2
  go_ret
  exact ⟨by kernel_rfl, rfl⟩
set_option maxRecDepth 1000000 in
theorem tz_26 (w : World) : Calls Tryz.prog 61 #[.int .u8 26] w fun e w' => e = .returned (.int .i64 1) ∧ w = w' := by
  go_enter Tryz.func61, Tryz.ntmps61
  go_wp2
  go_ret
  exact ⟨by kernel_rfl, rfl⟩
set_option maxRecDepth 1000000 in
theorem tz_27 (w : World) : Calls Tryz.prog 61 #[.int .u8 27] w fun e w' => e = .returned (.int .i64 0) ∧ w = w' := by
  go_enter Tryz.func61, Tryz.ntmps61
  go_wp2
  go_ret
  exact ⟨by kernel_rfl, rfl⟩
set_option maxRecDepth 1000000 in
theorem tz_28 (w : World) : Calls Tryz.prog 61 #[.int .u8 28] w fun e w' => e = .returned (.int .i64 2) ∧ w = w' := by
  go_enter Tryz.func61, Tryz.ntmps61
  go_wp2
  go_ret
  exact ⟨by kernel_rfl, rfl⟩
set_option maxRecDepth 1000000 in
theorem tz_29 (w : World) : Calls Tryz.prog 61 #[.int .u8 29] w fun e w' => e = .returned (.int .i64 0) ∧ w = w' := by
  go_enter Tryz.func61, Tryz.ntmps61
  go_wp2
  go_ret
  exact ⟨by kernel_rfl, rfl⟩
set_option maxRecDepth 1000000 in
theorem tz_30 (w : World) : Calls Tryz.prog 61 #[.int .u8 30] w fun e w' => e = .returned (.int .i64 1) ∧ w = w' := by
  go_enter Tryz.func61, Tryz.ntmps61
  go_wp2
  go_ret
  exact ⟨by kernel_rfl, rfl⟩
set_option maxRecDepth 1000000 in
theorem tz_31 (w : World) : Calls Tryz.prog 61 #[.int .u8 31] w fun e w' => e = .returned (.int .i64 0) ∧ w = w' := by
  go_enter Tryz.func61, Tryz.ntmps61
  go_wp2
  go_ret
  exact ⟨by kernel_rfl, rfl⟩
theorem tz_any (s : Nat) (hs : s < 32) (w : World) :
    Calls Tryz.prog 61 #[.int .u8 s] w fun e w' => e = .returned (.int .i64 (tz s)) ∧ w = w' := by
  match s, hs with
  | 0, _ => exact tz_0 w
  | 1, _ => exact tz_1 w
  | 2, _ => exact tz_2 w
  | 3, _ => exact tz_3 w
  | 4, _ => exact tz_4 w
  | 5, _ => exact tz_5 w
  | 6, _ => exact tz_6 w
  | 7, _ => exact tz_7 w
  | 8, _ => exact tz_8 w
  | 9, _ => exact tz_9 w
  | 10, _ => exact tz_10 w
  | 11, _ => exact tz_11 w
  | 12, _ => exact tz_12 w
  | 13, _ => exact tz_13 w
  | 14, _ => exact tz_14 w
  | 15, _ => exact tz_15 w
  | 16, _ => exact tz_16 w
  | 17, _ => exact tz_17 w
  | 18, _ => exact tz_18 w
  | 19, _ => exact tz_19 w
  | 20, _ => exact tz_20 w
  | 21, _ => exact tz_21 w
  | 22, _ => exact tz_22 w
  | 23, _ => exact tz_23 w
  | 24, _ => exact tz_24 w
  | 25, _ => exact tz_25 w
  | 26, _ => exact tz_26 w
  | 27, _ => exact tz_27 w
  | 28, _ => exact tz_28 w
  | 29, _ => exact tz_29 w
  | 30, _ => exact tz_30 w
  | 31, _ => exact tz_31 w
  | s + 32, h => exact absurd h (by omega)
end Go.Proofs.YtckchahangnfiaaGreatDoor
