/- VAULT: within; the office as a set of bits below 64. -/
import Derived.Test.YtoobopohohoidaaGreatDoorGen
set_option linter.unusedSimpArgs false
set_option linter.unusedVariables false
namespace Go.Proofs.YtoobopohohoidaaGreatDoor
open Go.RowKit

theorem vwithin_yes (x a b : Int) (w : World) (h1 : a ≤ x) (h2 : x ≤ b) :
    Calls Tryz.prog 74 #[.int .i64 x, .int .i64 a, .int .i64 b] w fun e w' => e = .returned (.bool true) ∧ w = w' := by
  go_enter Tryz.func74, Tryz.ntmps74
  go_wp2
  go_ret
  exact ⟨rfl, rfl⟩

/-- The members of a set, ascending; the least one; how many. -/
def els (s : Nat) : List Nat := (List.range 6).filter fun i => s.testBit i
def tz (s : Nat) : Nat := ((List.range 6).find? fun i => s.testBit i).getD 8
def cnt (s : Nat) : Nat := (els s).length
def withP (s p : Nat) : Nat := s ||| 2 ^ p
def sub (s t : Nat) : Nat := s ^^^ (s &&& t)
def lessP (s p : Nat) : Nat := sub s (2 ^ p)
theorem els_step : ∀ s : Fin 64, s.1 ≠ 0 → els s.1 = tz s.1 :: els (s.1 &&& (s.1 - 1)) ∧ (s.1 &&& (s.1 - 1)) < s.1 ∧ bits .and .u8 (s.1 : Int) ((s.1 : Int) - 1) = ((s.1 &&& (s.1 - 1) : Nat) : Int) := by decide +kernel
theorem els_zero : els 0 = [] := by decide
theorem els_length : ∀ s : Fin 64, (els s.1).length ≤ 6 := by decide +kernel
theorem has_lemma : ∀ s : Fin 64, ∀ n : Fin 6, (bits .and .u8 (s.1 : Int) (2 ^ n.1 % 256) != 0) = s.1.testBit n.1 := by decide +kernel
theorem with_lemma : ∀ s : Fin 64, ∀ n : Fin 6, bits .or .u8 (s.1 : Int) (2 ^ n.1 % 256) = (withP s.1 n.1 : Int) := by decide +kernel
theorem less_lemma : ∀ s : Fin 64, ∀ n : Fin 6, bits .andNot .u8 (s.1 : Int) (2 ^ n.1 % 256) = (lessP s.1 n.1 : Int) := by decide +kernel
theorem with_lt : ∀ s : Fin 64, ∀ n : Fin 6, withP s.1 n.1 < 64 := by decide +kernel
theorem less_lt : ∀ s : Fin 64, ∀ n : Fin 6, lessP s.1 n.1 < 64 := by decide +kernel

theorem vhas_any (s n : Nat) (w : World) (h1 : s < 64) (h2 : n < 6) :
    Calls Tryz.prog 55 #[.int .u8 s, .int .i64 n] w fun e w' => e = .returned (.bool (s.testBit n)) ∧ w = w' := by
  have HL := Go.Lib.hid (has_lemma ⟨s, h1⟩ ⟨n, h2⟩)
  go_enter Tryz.func55, Tryz.ntmps55
  go_wp2
  go_ret
  exact ⟨by simpa using HL.out, rfl⟩
theorem vwith_any (s n : Nat) (w : World) (h1 : s < 64) (h2 : n < 6) :
    Calls Tryz.prog 57 #[.int .u8 s, .int .i64 n] w fun e w' => e = .returned (.int .u8 (withP s n)) ∧ w = w' := by
  have HL := Go.Lib.hid (with_lemma ⟨s, h1⟩ ⟨n, h2⟩)
  go_enter Tryz.func57, Tryz.ntmps57
  go_wp2
  go_ret
  exact ⟨by simpa using HL.out, rfl⟩
theorem vwithout_any (s n : Nat) (w : World) (h1 : s < 64) (h2 : n < 6) :
    Calls Tryz.prog 59 #[.int .u8 s, .int .i64 n] w fun e w' => e = .returned (.int .u8 (lessP s n)) ∧ w = w' := by
  have HL := Go.Lib.hid (less_lemma ⟨s, h1⟩ ⟨n, h2⟩)
  go_enter Tryz.func59, Tryz.ntmps59
  go_wp2
  go_ret
  exact ⟨by simpa using HL.out, rfl⟩
set_option maxRecDepth 1000000 in
theorem tz_0 (w : World) : Calls Tryz.prog 94 #[.int .u8 0] w fun e w' => e = .returned (.int .i64 8) ∧ w = w' := by
  go_enter Tryz.func94, Tryz.ntmps94
  go_wp2
  go_ret
  exact ⟨by kernel_rfl, rfl⟩
set_option maxRecDepth 1000000 in
theorem tz_1 (w : World) : Calls Tryz.prog 94 #[.int .u8 1] w fun e w' => e = .returned (.int .i64 0) ∧ w = w' := by
  go_enter Tryz.func94, Tryz.ntmps94
  go_wp2
  go_ret
  exact ⟨by kernel_rfl, rfl⟩
set_option maxRecDepth 1000000 in
theorem tz_2 (w : World) : Calls Tryz.prog 94 #[.int .u8 2] w fun e w' => e = .returned (.int .i64 1) ∧ w = w' := by
  go_enter Tryz.func94, Tryz.ntmps94
  go_wp2
  go_ret
  exact ⟨by kernel_rfl, rfl⟩
set_option maxRecDepth 1000000 in
theorem tz_3 (w : World) : Calls Tryz.prog 94 #[.int .u8 3] w fun e w' => e = .returned (.int .i64 0) ∧ w = w' := by
  go_enter Tryz.func94, Tryz.ntmps94
  go_wp2
  go_ret
  exact ⟨by kernel_rfl, rfl⟩
set_option maxRecDepth 1000000 in
theorem tz_4 (w : World) : Calls Tryz.prog 94 #[.int .u8 4] w fun e w' => e = .returned (.int .i64 2) ∧ w = w' := by
  go_enter Tryz.func94, Tryz.ntmps94
  go_wp2
  go_ret
  exact ⟨by kernel_rfl, rfl⟩
set_option maxRecDepth 1000000 in
theorem tz_5 (w : World) : Calls Tryz.prog 94 #[.int .u8 5] w fun e w' => e = .returned (.int .i64 0) ∧ w = w' := by
  go_enter Tryz.func94, Tryz.ntmps94
  go_wp2
  go_ret
  exact ⟨by kernel_rfl, rfl⟩
set_option maxRecDepth 1000000 in
theorem tz_6 (w : World) : Calls Tryz.prog 94 #[.int .u8 6] w fun e w' => e = .returned (.int .i64 1) ∧ w = w' := by
  go_enter Tryz.func94, Tryz.ntmps94
  go_wp2
  go_ret
  exact ⟨by kernel_rfl, rfl⟩
set_option maxRecDepth 1000000 in
theorem tz_7 (w : World) : Calls Tryz.prog 94 #[.int .u8 7] w fun e w' => e = .returned (.int .i64 0) ∧ w = w' := by
  go_enter Tryz.func94, Tryz.ntmps94
  go_wp2
  go_ret
  exact ⟨by kernel_rfl, rfl⟩
set_option maxRecDepth 1000000 in
theorem tz_8 (w : World) : Calls Tryz.prog 94 #[.int .u8 8] w fun e w' => e = .returned (.int .i64 3) ∧ w = w' := by
  go_enter Tryz.func94, Tryz.ntmps94
  go_wp2
  go_ret
  exact ⟨by kernel_rfl, rfl⟩
set_option maxRecDepth 1000000 in
theorem tz_9 (w : World) : Calls Tryz.prog 94 #[.int .u8 9] w fun e w' => e = .returned (.int .i64 0) ∧ w = w' := by
  go_enter Tryz.func94, Tryz.ntmps94
  go_wp2
  go_ret
  exact ⟨by kernel_rfl, rfl⟩
set_option maxRecDepth 1000000 in
theorem tz_10 (w : World) : Calls Tryz.prog 94 #[.int .u8 10] w fun e w' => e = .returned (.int .i64 1) ∧ w = w' := by
  go_enter Tryz.func94, Tryz.ntmps94
  go_wp2
  go_ret
  exact ⟨by kernel_rfl, rfl⟩
set_option maxRecDepth 1000000 in
theorem tz_11 (w : World) : Calls Tryz.prog 94 #[.int .u8 11] w fun e w' => e = .returned (.int .i64 0) ∧ w = w' := by
  go_enter Tryz.func94, Tryz.ntmps94
  go_wp2
  go_ret
  exact ⟨by kernel_rfl, rfl⟩
set_option maxRecDepth 1000000 in
theorem tz_12 (w : World) : Calls Tryz.prog 94 #[.int .u8 12] w fun e w' => e = .returned (.int .i64 2) ∧ w = w' := by
  go_enter Tryz.func94, Tryz.ntmps94
  go_wp2
  go_ret
  exact ⟨by kernel_rfl, rfl⟩
set_option maxRecDepth 1000000 in
theorem tz_13 (w : World) : Calls Tryz.prog 94 #[.int .u8 13] w fun e w' => e = .returned (.int .i64 0) ∧ w = w' := by
  go_enter Tryz.func94, Tryz.ntmps94
  go_wp2
  go_ret
  exact ⟨by kernel_rfl, rfl⟩
set_option maxRecDepth 1000000 in
theorem tz_14 (w : World) : Calls Tryz.prog 94 #[.int .u8 14] w fun e w' => e = .returned (.int .i64 1) ∧ w = w' := by
  go_enter Tryz.func94, Tryz.ntmps94
  go_wp2
  go_ret
  exact ⟨by kernel_rfl, rfl⟩
set_option maxRecDepth 1000000 in
theorem tz_15 (w : World) : Calls Tryz.prog 94 #[.int .u8 15] w fun e w' => e = .returned (.int .i64 0) ∧ w = w' := by
  go_enter Tryz.func94, Tryz.ntmps94
  go_wp2
  go_ret
  exact ⟨by kernel_rfl, rfl⟩
set_option maxRecDepth 1000000 in
theorem tz_16 (w : World) : Calls Tryz.prog 94 #[.int .u8 16] w fun e w' => e = .returned (.int .i64 4) ∧ w = w' := by
  go_enter Tryz.func94, Tryz.ntmps94
  go_wp2
  go_ret
  exact ⟨by kernel_rfl, rfl⟩
set_option maxRecDepth 1000000 in
theorem tz_17 (w : World) : Calls Tryz.prog 94 #[.int .u8 17] w fun e w' => e = .returned (.int .i64 0) ∧ w = w' := by
  go_enter Tryz.func94, Tryz.ntmps94
  go_wp2
  go_ret
  exact ⟨by kernel_rfl, rfl⟩
set_option maxRecDepth 1000000 in
theorem tz_18 (w : World) : Calls Tryz.prog 94 #[.int .u8 18] w fun e w' => e = .returned (.int .i64 1) ∧ w = w' := by
  go_enter Tryz.func94, Tryz.ntmps94
  go_wp2
  go_ret
  exact ⟨by kernel_rfl, rfl⟩
set_option maxRecDepth 1000000 in
theorem tz_19 (w : World) : Calls Tryz.prog 94 #[.int .u8 19] w fun e w' => e = .returned (.int .i64 0) ∧ w = w' := by
  go_enter Tryz.func94, Tryz.ntmps94
  go_wp2
  go_ret
  exact ⟨by kernel_rfl, rfl⟩
set_option maxRecDepth 1000000 in
theorem tz_20 (w : World) : Calls Tryz.prog 94 #[.int .u8 20] w fun e w' => e = .returned (.int .i64 2) ∧ w = w' := by
  go_enter Tryz.func94, Tryz.ntmps94
  go_wp2
  go_ret
  exact ⟨by kernel_rfl, rfl⟩
set_option maxRecDepth 1000000 in
theorem tz_21 (w : World) : Calls Tryz.prog 94 #[.int .u8 21] w fun e w' => e = .returned (.int .i64 0) ∧ w = w' := by
  go_enter Tryz.func94, Tryz.ntmps94
  go_wp2
  go_ret
  exact ⟨by kernel_rfl, rfl⟩
set_option maxRecDepth 1000000 in
theorem tz_22 (w : World) : Calls Tryz.prog 94 #[.int .u8 22] w fun e w' => e = .returned (.int .i64 1) ∧ w = w' := by
  go_enter Tryz.func94, Tryz.ntmps94
  go_wp2
  go_ret
  exact ⟨by kernel_rfl, rfl⟩
set_option maxRecDepth 1000000 in
theorem tz_23 (w : World) : Calls Tryz.prog 94 #[.int .u8 23] w fun e w' => e = .returned (.int .i64 0) ∧ w = w' := by
  go_enter Tryz.func94, Tryz.ntmps94
  go_wp2
  go_ret
  exact ⟨by kernel_rfl, rfl⟩
set_option maxRecDepth 1000000 in
theorem tz_24 (w : World) : Calls Tryz.prog 94 #[.int .u8 24] w fun e w' => e = .returned (.int .i64 3) ∧ w = w' := by
  go_enter Tryz.func94, Tryz.ntmps94
  go_wp2
  go_ret
  exact ⟨by kernel_rfl, rfl⟩
set_option maxRecDepth 1000000 in
theorem tz_25 (w : World) : Calls Tryz.prog 94 #[.int .u8 25] w fun e w' => e = .returned (.int .i64 0) ∧ w = w' := by
  go_enter Tryz.func94, Tryz.ntmps94
  go_wp2
  go_ret
  exact ⟨by kernel_rfl, rfl⟩
set_option maxRecDepth 1000000 in
theorem tz_26 (w : World) : Calls Tryz.prog 94 #[.int .u8 26] w fun e w' => e = .returned (.int .i64 1) ∧ w = w' := by
  go_enter Tryz.func94, Tryz.ntmps94
  go_wp2
  go_ret
  exact ⟨by kernel_rfl, rfl⟩
set_option maxRecDepth 1000000 in
theorem tz_27 (w : World) : Calls Tryz.prog 94 #[.int .u8 27] w fun e w' => e = .returned (.int .i64 0) ∧ w = w' := by
  go_enter Tryz.func94, Tryz.ntmps94
  go_wp2
  go_ret
  exact ⟨by kernel_rfl, rfl⟩
set_option maxRecDepth 1000000 in
theorem tz_28 (w : World) : Calls Tryz.prog 94 #[.int .u8 28] w fun e w' => e = .returned (.int .i64 2) ∧ w = w' := by
  go_enter Tryz.func94, Tryz.ntmps94
  go_wp2
  go_ret
  exact ⟨by kernel_rfl, rfl⟩
set_option maxRecDepth 1000000 in
theorem tz_29 (w : World) : Calls Tryz.prog 94 #[.int .u8 29] w fun e w' => e = .returned (.int .i64 0) ∧ w = w' := by
  go_enter Tryz.func94, Tryz.ntmps94
  go_wp2
  go_ret
  exact ⟨by kernel_rfl, rfl⟩
set_option maxRecDepth 1000000 in
theorem tz_30 (w : World) : Calls Tryz.prog 94 #[.int .u8 30] w fun e w' => e = .returned (.int .i64 1) ∧ w = w' := by
  go_enter Tryz.func94, Tryz.ntmps94
  go_wp2
  go_ret
  exact ⟨by kernel_rfl, rfl⟩
set_option maxRecDepth 1000000 in
theorem tz_31 (w : World) : Calls Tryz.prog 94 #[.int .u8 31] w fun e w' => e = .returned (.int .i64 0) ∧ w = w' := by
  go_enter Tryz.func94, Tryz.ntmps94
  go_wp2
  go_ret
  exact ⟨by kernel_rfl, rfl⟩
set_option maxRecDepth 1000000 in
theorem tz_32 (w : World) : Calls Tryz.prog 94 #[.int .u8 32] w fun e w' => e = .returned (.int .i64 5) ∧ w = w' := by
  go_enter Tryz.func94, Tryz.ntmps94
  go_wp2
  go_ret
  exact ⟨by kernel_rfl, rfl⟩
set_option maxRecDepth 1000000 in
theorem tz_33 (w : World) : Calls Tryz.prog 94 #[.int .u8 33] w fun e w' => e = .returned (.int .i64 0) ∧ w = w' := by
  go_enter Tryz.func94, Tryz.ntmps94
  go_wp2
  go_ret
  exact ⟨by kernel_rfl, rfl⟩
set_option maxRecDepth 1000000 in
theorem tz_34 (w : World) : Calls Tryz.prog 94 #[.int .u8 34] w fun e w' => e = .returned (.int .i64 1) ∧ w = w' := by
  go_enter Tryz.func94, Tryz.ntmps94
  go_wp2
  go_ret
  exact ⟨by kernel_rfl, rfl⟩
set_option maxRecDepth 1000000 in
theorem tz_35 (w : World) : Calls Tryz.prog 94 #[.int .u8 35] w fun e w' => e = .returned (.int .i64 0) ∧ w = w' := by
  go_enter Tryz.func94, Tryz.ntmps94
  go_wp2
  go_ret
  exact ⟨by kernel_rfl, rfl⟩
set_option maxRecDepth 1000000 in
theorem tz_36 (w : World) : Calls Tryz.prog 94 #[.int .u8 36] w fun e w' => e = .returned (.int .i64 2) ∧ w = w' := by
  go_enter Tryz.func94, Tryz.ntmps94
  go_wp2
  go_ret
  exact ⟨by kernel_rfl, rfl⟩
set_option maxRecDepth 1000000 in
theorem tz_37 (w : World) : Calls Tryz.prog 94 #[.int .u8 37] w fun e w' => e = .returned (.int .i64 0) ∧ w = w' := by
  go_enter Tryz.func94, Tryz.ntmps94
  go_wp2
  go_ret
  exact ⟨by kernel_rfl, rfl⟩
set_option maxRecDepth 1000000 in
theorem tz_38 (w : World) : Calls Tryz.prog 94 #[.int .u8 38] w fun e w' => e = .returned (.int .i64 1) ∧ w = w' := by
  go_enter Tryz.func94, Tryz.ntmps94
  go_wp2
  go_ret
  exact ⟨by kernel_rfl, rfl⟩
set_option maxRecDepth 1000000 in
theorem tz_39 (w : World) : Calls Tryz.prog 94 #[.int .u8 39] w fun e w' => e = .returned (.int .i64 0) ∧ w = w' := by
  go_enter Tryz.func94, Tryz.ntmps94
  go_wp2
  go_ret
  exact ⟨by kernel_rfl, rfl⟩
set_option maxRecDepth 1000000 in
theorem tz_40 (w : World) : Calls Tryz.prog 94 #[.int .u8 40] w fun e w' => e = .returned (.int .i64 3) ∧ w = w' := by
  go_enter Tryz.func94, Tryz.ntmps94
  go_wp2
  go_ret
  exact ⟨by kernel_rfl, rfl⟩
set_option maxRecDepth 1000000 in
theorem tz_41 (w : World) : Calls Tryz.prog 94 #[.int .u8 41] w fun e w' => e = .returned (.int .i64 0) ∧ w = w' := by
  go_enter Tryz.func94, Tryz.ntmps94
  go_wp2
  go_ret
  exact ⟨by kernel_rfl, rfl⟩
set_option maxRecDepth 1000000 in
theorem tz_42 (w : World) : Calls Tryz.prog 94 #[.int .u8 42] w fun e w' => e = .returned (.int .i64 1) ∧ w = w' := by
  go_enter Tryz.func94, Tryz.ntmps94
  go_wp2
  go_ret
  exact ⟨by kernel_rfl, rfl⟩
set_option maxRecDepth 1000000 in
theorem tz_43 (w : World) : Calls Tryz.prog 94 #[.int .u8 43] w fun e w' => e = .returned (.int .i64 0) ∧ w = w' := by
  go_enter Tryz.func94, Tryz.ntmps94
  go_wp2
  go_ret
  exact ⟨by kernel_rfl, rfl⟩
set_option maxRecDepth 1000000 in
theorem tz_44 (w : World) : Calls Tryz.prog 94 #[.int .u8 44] w fun e w' => e = .returned (.int .i64 2) ∧ w = w' := by
  go_enter Tryz.func94, Tryz.ntmps94
  go_wp2
  go_ret
  exact ⟨by kernel_rfl, rfl⟩
set_option maxRecDepth 1000000 in
theorem tz_45 (w : World) : Calls Tryz.prog 94 #[.int .u8 45] w fun e w' => e = .returned (.int .i64 0) ∧ w = w' := by
  go_enter Tryz.func94, Tryz.ntmps94
  go_wp2
  go_ret
  exact ⟨by kernel_rfl, rfl⟩
set_option maxRecDepth 1000000 in
theorem tz_46 (w : World) : Calls Tryz.prog 94 #[.int .u8 46] w fun e w' => e = .returned (.int .i64 1) ∧ w = w' := by
  go_enter Tryz.func94, Tryz.ntmps94
  go_wp2
  go_ret
  exact ⟨by kernel_rfl, rfl⟩
set_option maxRecDepth 1000000 in
theorem tz_47 (w : World) : Calls Tryz.prog 94 #[.int .u8 47] w fun e w' => e = .returned (.int .i64 0) ∧ w = w' := by
  go_enter Tryz.func94, Tryz.ntmps94
  go_wp2
  go_ret
  exact ⟨by kernel_rfl, rfl⟩
set_option maxRecDepth 1000000 in
theorem tz_48 (w : World) : Calls Tryz.prog 94 #[.int .u8 48] w fun e w' => e = .returned (.int .i64 4) ∧ w = w' := by
  go_enter Tryz.func94, Tryz.ntmps94
  go_wp2
  go_ret
  exact ⟨by kernel_rfl, rfl⟩
set_option maxRecDepth 1000000 in
theorem tz_49 (w : World) : Calls Tryz.prog 94 #[.int .u8 49] w fun e w' => e = .returned (.int .i64 0) ∧ w = w' := by
  go_enter Tryz.func94, Tryz.ntmps94
  go_wp2
  go_ret
  exact ⟨by kernel_rfl, rfl⟩
set_option maxRecDepth 1000000 in
theorem tz_50 (w : World) : Calls Tryz.prog 94 #[.int .u8 50] w fun e w' => e = .returned (.int .i64 1) ∧ w = w' := by
  go_enter Tryz.func94, Tryz.ntmps94
  go_wp2
  go_ret
  exact ⟨by kernel_rfl, rfl⟩
set_option maxRecDepth 1000000 in
theorem tz_51 (w : World) : Calls Tryz.prog 94 #[.int .u8 51] w fun e w' => e = .returned (.int .i64 0) ∧ w = w' := by
  go_enter Tryz.func94, Tryz.ntmps94
  go_wp2
  go_ret
  exact ⟨by kernel_rfl, rfl⟩
set_option maxRecDepth 1000000 in
theorem tz_52 (w : World) : Calls Tryz.prog 94 #[.int .u8 52] w fun e w' => e = .returned (.int .i64 2) ∧ w = w' := by
  go_enter Tryz.func94, Tryz.ntmps94
  go_wp2
  go_ret
  exact ⟨by kernel_rfl, rfl⟩
set_option maxRecDepth 1000000 in
theorem tz_53 (w : World) : Calls Tryz.prog 94 #[.int .u8 53] w fun e w' => e = .returned (.int .i64 0) ∧ w = w' := by
  go_enter Tryz.func94, Tryz.ntmps94
  go_wp2
  go_ret
  exact ⟨by kernel_rfl, rfl⟩
set_option maxRecDepth 1000000 in
theorem tz_54 (w : World) : Calls Tryz.prog 94 #[.int .u8 54] w fun e w' => e = .returned (.int .i64 1) ∧ w = w' := by
  go_enter Tryz.func94, Tryz.ntmps94
  go_wp2
  go_ret
  exact ⟨by kernel_rfl, rfl⟩
set_option maxRecDepth 1000000 in
theorem tz_55 (w : World) : Calls Tryz.prog 94 #[.int .u8 55] w fun e w' => e = .returned (.int .i64 0) ∧ w = w' := by
  go_enter Tryz.func94, Tryz.ntmps94
  go_wp2
  go_ret
  exact ⟨by kernel_rfl, rfl⟩
set_option maxRecDepth 1000000 in
theorem tz_56 (w : World) : Calls Tryz.prog 94 #[.int .u8 56] w fun e w' => e = .returned (.int .i64 3) ∧ w = w' := by
  go_enter Tryz.func94, Tryz.ntmps94
  go_wp2
  go_ret
  exact ⟨by kernel_rfl, rfl⟩
set_option maxRecDepth 1000000 in
theorem tz_57 (w : World) : Calls Tryz.prog 94 #[.int .u8 57] w fun e w' => e = .returned (.int .i64 0) ∧ w = w' := by
  go_enter Tryz.func94, Tryz.ntmps94
  go_wp2
  go_ret
  exact ⟨by kernel_rfl, rfl⟩
set_option maxRecDepth 1000000 in
theorem tz_58 (w : World) : Calls Tryz.prog 94 #[.int .u8 58] w fun e w' => e = .returned (.int .i64 1) ∧ w = w' := by
  go_enter Tryz.func94, Tryz.ntmps94
  go_wp2
  go_ret
  exact ⟨by kernel_rfl, rfl⟩
set_option maxRecDepth 1000000 in
theorem tz_59 (w : World) : Calls Tryz.prog 94 #[.int .u8 59] w fun e w' => e = .returned (.int .i64 0) ∧ w = w' := by
  go_enter Tryz.func94, Tryz.ntmps94
  go_wp2
  go_ret
  exact ⟨by kernel_rfl, rfl⟩
set_option maxRecDepth 1000000 in
theorem tz_60 (w : World) : Calls Tryz.prog 94 #[.int .u8 60] w fun e w' => e = .returned (.int .i64 2) ∧ w = w' := by
  go_enter Tryz.func94, Tryz.ntmps94
  go_wp2
  go_ret
  exact ⟨by kernel_rfl, rfl⟩
set_option maxRecDepth 1000000 in
theorem tz_61 (w : World) : Calls Tryz.prog 94 #[.int .u8 61] w fun e w' => e = .returned (.int .i64 0) ∧ w = w' := by
  go_enter Tryz.func94, Tryz.ntmps94
  go_wp2
  go_ret
  exact ⟨by kernel_rfl, rfl⟩
set_option maxRecDepth 1000000 in
theorem tz_62 (w : World) : Calls Tryz.prog 94 #[.int .u8 62] w fun e w' => e = .returned (.int .i64 1) ∧ w = w' := by
  go_enter Tryz.func94, Tryz.ntmps94
  go_wp2
  go_ret
  exact ⟨by kernel_rfl, rfl⟩
set_option maxRecDepth 1000000 in
theorem tz_63 (w : World) : Calls Tryz.prog 94 #[.int .u8 63] w fun e w' => e = .returned (.int .i64 0) ∧ w = w' := by
  go_enter Tryz.func94, Tryz.ntmps94
  go_wp2
  go_ret
  exact ⟨by kernel_rfl, rfl⟩
theorem tz_any (s : Nat) (hs : s < 64) (w : World) :
    Calls Tryz.prog 94 #[.int .u8 s] w fun e w' => e = .returned (.int .i64 (tz s)) ∧ w = w' := by
  match s, hs with
  | 0, _ => exact tz_0 w
  | 1, _ => exact tz_1 w
  | 2, _ => exact tz_2 w
  | 3, _ => exact tz_3 w
  | 4, _ => exact tz_4 w
  | 5, _ => exact tz_5 w
  | 6, _ => exact tz_6 w
  | 7, _ => exact tz_7 w
  | 8, _ => exact tz_8 w
  | 9, _ => exact tz_9 w
  | 10, _ => exact tz_10 w
  | 11, _ => exact tz_11 w
  | 12, _ => exact tz_12 w
  | 13, _ => exact tz_13 w
  | 14, _ => exact tz_14 w
  | 15, _ => exact tz_15 w
  | 16, _ => exact tz_16 w
  | 17, _ => exact tz_17 w
  | 18, _ => exact tz_18 w
  | 19, _ => exact tz_19 w
  | 20, _ => exact tz_20 w
  | 21, _ => exact tz_21 w
  | 22, _ => exact tz_22 w
  | 23, _ => exact tz_23 w
  | 24, _ => exact tz_24 w
  | 25, _ => exact tz_25 w
  | 26, _ => exact tz_26 w
  | 27, _ => exact tz_27 w
  | 28, _ => exact tz_28 w
  | 29, _ => exact tz_29 w
  | 30, _ => exact tz_30 w
  | 31, _ => exact tz_31 w
  | 32, _ => exact tz_32 w
  | 33, _ => exact tz_33 w
  | 34, _ => exact tz_34 w
  | 35, _ => exact tz_35 w
  | 36, _ => exact tz_36 w
  | 37, _ => exact tz_37 w
  | 38, _ => exact tz_38 w
  | 39, _ => exact tz_39 w
  | 40, _ => exact tz_40 w
  | 41, _ => exact tz_41 w
  | 42, _ => exact tz_42 w
  | 43, _ => exact tz_43 w
  | 44, _ => exact tz_44 w
  | 45, _ => exact tz_45 w
  | 46, _ => exact tz_46 w
  | 47, _ => exact tz_47 w
  | 48, _ => exact tz_48 w
  | 49, _ => exact tz_49 w
  | 50, _ => exact tz_50 w
  | 51, _ => exact tz_51 w
  | 52, _ => exact tz_52 w
  | 53, _ => exact tz_53 w
  | 54, _ => exact tz_54 w
  | 55, _ => exact tz_55 w
  | 56, _ => exact tz_56 w
  | 57, _ => exact tz_57 w
  | 58, _ => exact tz_58 w
  | 59, _ => exact tz_59 w
  | 60, _ => exact tz_60 w
  | 61, _ => exact tz_61 w
  | 62, _ => exact tz_62 w
  | 63, _ => exact tz_63 w
  | s + 64, h => exact absurd h (by omega)
set_option maxRecDepth 1000000 in
theorem oc_0 (w : World) : Calls Tryz.prog 83 #[.int .u8 0] w fun e w' => e = .returned (.int .i64 0) ∧ w = w' := by
  go_enter Tryz.func83, Tryz.ntmps83
  go_wp2
  go_ret
  exact ⟨by kernel_rfl, rfl⟩
set_option maxRecDepth 1000000 in
theorem oc_1 (w : World) : Calls Tryz.prog 83 #[.int .u8 1] w fun e w' => e = .returned (.int .i64 1) ∧ w = w' := by
  go_enter Tryz.func83, Tryz.ntmps83
  go_wp2
  go_ret
  exact ⟨by kernel_rfl, rfl⟩
set_option maxRecDepth 1000000 in
theorem oc_2 (w : World) : Calls Tryz.prog 83 #[.int .u8 2] w fun e w' => e = .returned (.int .i64 1) ∧ w = w' := by
  go_enter Tryz.func83, Tryz.ntmps83
  go_wp2
  go_ret
  exact ⟨by kernel_rfl, rfl⟩
set_option maxRecDepth 1000000 in
theorem oc_3 (w : World) : Calls Tryz.prog 83 #[.int .u8 3] w fun e w' => e = .returned (.int .i64 2) ∧ w = w' := by
  go_enter Tryz.func83, Tryz.ntmps83
  go_wp2
  go_ret
  exact ⟨by kernel_rfl, rfl⟩
set_option maxRecDepth 1000000 in
theorem oc_4 (w : World) : Calls Tryz.prog 83 #[.int .u8 4] w fun e w' => e = .returned (.int .i64 1) ∧ w = w' := by
  go_enter Tryz.func83, Tryz.ntmps83
  go_wp2
  go_ret
  exact ⟨by kernel_rfl, rfl⟩
set_option maxRecDepth 1000000 in
theorem oc_5 (w : World) : Calls Tryz.prog 83 #[.int .u8 5] w fun e w' => e = .returned (.int .i64 2) ∧ w = w' := by
  go_enter Tryz.func83, Tryz.ntmps83
  go_wp2
  go_ret
  exact ⟨by kernel_rfl, rfl⟩
set_option maxRecDepth 1000000 in
theorem oc_6 (w : World) : Calls Tryz.prog 83 #[.int .u8 6] w fun e w' => e = .returned (.int .i64 2) ∧ w = w' := by
  go_enter Tryz.func83, Tryz.ntmps83
  go_wp2
  go_ret
  exact ⟨by kernel_rfl, rfl⟩
set_option maxRecDepth 1000000 in
theorem oc_7 (w : World) : Calls Tryz.prog 83 #[.int .u8 7] w fun e w' => e = .returned (.int .i64 3) ∧ w = w' := by
  go_enter Tryz.func83, Tryz.ntmps83
  go_wp2
  go_ret
  exact ⟨by kernel_rfl, rfl⟩
set_option maxRecDepth 1000000 in
theorem oc_8 (w : World) : Calls Tryz.prog 83 #[.int .u8 8] w fun e w' => e = .returned (.int .i64 1) ∧ w = w' := by
  go_enter Tryz.func83, Tryz.ntmps83
  go_wp2
  go_ret
  exact ⟨by kernel_rfl, rfl⟩
set_option maxRecDepth 1000000 in
theorem oc_9 (w : World) : Calls Tryz.prog 83 #[.int .u8 9] w fun e w' => e = .returned (.int .i64 2) ∧ w = w' := by
  go_enter Tryz.func83, Tryz.ntmps83
  go_wp2
  go_ret
  exact ⟨by kernel_rfl, rfl⟩
set_option maxRecDepth 1000000 in
theorem oc_10 (w : World) : Calls Tryz.prog 83 #[.int .u8 10] w fun e w' => e = .returned (.int .i64 2) ∧ w = w' := by
  go_enter Tryz.func83, Tryz.ntmps83
  go_wp2
  go_ret
  exact ⟨by kernel_rfl, rfl⟩
set_option maxRecDepth 1000000 in
theorem oc_11 (w : World) : Calls Tryz.prog 83 #[.int .u8 11] w fun e w' => e = .returned (.int .i64 3) ∧ w = w' := by
  go_enter Tryz.func83, Tryz.ntmps83
  go_wp2
  go_ret
  exact ⟨by kernel_rfl, rfl⟩
set_option maxRecDepth 1000000 in
theorem oc_12 (w : World) : Calls Tryz.prog 83 #[.int .u8 12] w fun e w' => e = .returned (.int .i64 2) ∧ w = w' := by
  go_enter Tryz.func83, Tryz.ntmps83
  go_wp2
  go_ret
  exact ⟨by kernel_rfl, rfl⟩
set_option maxRecDepth 1000000 in
theorem oc_13 (w : World) : Calls Tryz.prog 83 #[.int .u8 13] w fun e w' => e = .returned (.int .i64 3) ∧ w = w' := by
  go_enter Tryz.func83, Tryz.ntmps83
  go_wp2
  go_ret
  exact ⟨by kernel_rfl, rfl⟩
set_option maxRecDepth 1000000 in
theorem oc_14 (w : World) : Calls Tryz.prog 83 #[.int .u8 14] w fun e w' => e = .returned (.int .i64 3) ∧ w = w' := by
  go_enter Tryz.func83, Tryz.ntmps83
  go_wp2
  go_ret
  exact ⟨by kernel_rfl, rfl⟩
set_option maxRecDepth 1000000 in
theorem oc_15 (w : World) : Calls Tryz.prog 83 #[.int .u8 15] w fun e w' => e = .returned (.int .i64 4) ∧ w = w' := by
  go_enter Tryz.func83, Tryz.ntmps83
  go_wp2
  go_ret
  exact ⟨by kernel_rfl, rfl⟩
set_option maxRecDepth 1000000 in
theorem oc_16 (w : World) : Calls Tryz.prog 83 #[.int .u8 16] w fun e w' => e = .returned (.int .i64 1) ∧ w = w' := by
  go_enter Tryz.func83, Tryz.ntmps83
  go_wp2
  go_ret
  exact ⟨by kernel_rfl, rfl⟩
set_option maxRecDepth 1000000 in
theorem oc_17 (w : World) : Calls Tryz.prog 83 #[.int .u8 17] w fun e w' => e = .returned (.int .i64 2) ∧ w = w' := by
  go_enter Tryz.func83, Tryz.ntmps83
  go_wp2
  go_ret
  exact ⟨by kernel_rfl, rfl⟩
set_option maxRecDepth 1000000 in
theorem oc_18 (w : World) : Calls Tryz.prog 83 #[.int .u8 18] w fun e w' => e = .returned (.int .i64 2) ∧ w = w' := by
  go_enter Tryz.func83, Tryz.ntmps83
  go_wp2
  go_ret
  exact ⟨by kernel_rfl, rfl⟩
set_option maxRecDepth 1000000 in
theorem oc_19 (w : World) : Calls Tryz.prog 83 #[.int .u8 19] w fun e w' => e = .returned (.int .i64 3) ∧ w = w' := by
  go_enter Tryz.func83, Tryz.ntmps83
  go_wp2
  go_ret
  exact ⟨by kernel_rfl, rfl⟩
set_option maxRecDepth 1000000 in
theorem oc_20 (w : World) : Calls Tryz.prog 83 #[.int .u8 20] w fun e w' => e = .returned (.int .i64 2) ∧ w = w' := by
  go_enter Tryz.func83, Tryz.ntmps83
  go_wp2
  go_ret
  exact ⟨by kernel_rfl, rfl⟩
set_option maxRecDepth 1000000 in
theorem oc_21 (w : World) : Calls Tryz.prog 83 #[.int .u8 21] w fun e w' => e = .returned (.int .i64 3) ∧ w = w' := by
  go_enter Tryz.func83, Tryz.ntmps83
  go_wp2
  go_ret
  exact ⟨by kernel_rfl, rfl⟩
set_option maxRecDepth 1000000 in
theorem oc_22 (w : World) : Calls Tryz.prog 83 #[.int .u8 22] w fun e w' => e = .returned (.int .i64 3) ∧ w = w' := by
  go_enter Tryz.func83, Tryz.ntmps83
  go_wp2
  go_ret
  exact ⟨by kernel_rfl, rfl⟩
set_option maxRecDepth 1000000 in
theorem oc_23 (w : World) : Calls Tryz.prog 83 #[.int .u8 23] w fun e w' => e = .returned (.int .i64 4) ∧ w = w' := by
  go_enter Tryz.func83, Tryz.ntmps83
  go_wp2
  go_ret
  exact ⟨by kernel_rfl, rfl⟩
set_option maxRecDepth 1000000 in
theorem oc_24 (w : World) : Calls Tryz.prog 83 #[.int .u8 24] w fun e w' => e = .returned (.int .i64 2) ∧ w = w' := by
  go_enter Tryz.func83, Tryz.ntmps83
  go_wp2
  go_ret
  exact ⟨by kernel_rfl, rfl⟩
set_option maxRecDepth 1000000 in
theorem oc_25 (w : World) : Calls Tryz.prog 83 #[.int .u8 25] w fun e w' => e = .returned (.int .i64 3) ∧ w = w' := by
  go_enter Tryz.func83, Tryz.ntmps83
  go_wp2
  go_ret
  exact ⟨by kernel_rfl, rfl⟩
set_option maxRecDepth 1000000 in
theorem oc_26 (w : World) : Calls Tryz.prog 83 #[.int .u8 26] w fun e w' => e = .returned (.int .i64 3) ∧ w = w' := by
  go_enter Tryz.func83, Tryz.ntmps83
  go_wp2
  go_ret
  exact ⟨by kernel_rfl, rfl⟩
set_option maxRecDepth 1000000 in
theorem oc_27 (w : World) : Calls Tryz.prog 83 #[.int .u8 27] w fun e w' => e = .returned (.int .i64 4) ∧ w = w' := by
  go_enter Tryz.func83, Tryz.ntmps83
  go_wp2
  go_ret
  exact ⟨by kernel_rfl, rfl⟩
set_option maxRecDepth 1000000 in
theorem oc_28 (w : World) : Calls Tryz.prog 83 #[.int .u8 28] w fun e w' => e = .returned (.int .i64 3) ∧ w = w' := by
  go_enter Tryz.func83, Tryz.ntmps83
  go_wp2
  go_ret
  exact ⟨by kernel_rfl, rfl⟩
set_option maxRecDepth 1000000 in
theorem oc_29 (w : World) : Calls Tryz.prog 83 #[.int .u8 29] w fun e w' => e = .returned (.int .i64 4) ∧ w = w' := by
  go_enter Tryz.func83, Tryz.ntmps83
  go_wp2
  go_ret
  exact ⟨by kernel_rfl, rfl⟩
set_option maxRecDepth 1000000 in
theorem oc_30 (w : World) : Calls Tryz.prog 83 #[.int .u8 30] w fun e w' => e = .returned (.int .i64 4) ∧ w = w' := by
  go_enter Tryz.func83, Tryz.ntmps83
  go_wp2
  go_ret
  exact ⟨by kernel_rfl, rfl⟩
set_option maxRecDepth 1000000 in
theorem oc_31 (w : World) : Calls Tryz.prog 83 #[.int .u8 31] w fun e w' => e = .returned (.int .i64 5) ∧ w = w' := by
  go_enter Tryz.func83, Tryz.ntmps83
  go_wp2
  go_ret
  exact ⟨by kernel_rfl, rfl⟩
set_option maxRecDepth 1000000 in
theorem oc_32 (w : World) : Calls Tryz.prog 83 #[.int .u8 32] w fun e w' => e = .returned (.int .i64 1) ∧ w = w' := by
  go_enter Tryz.func83, Tryz.ntmps83
  go_wp2
  go_ret
  exact ⟨by kernel_rfl, rfl⟩
set_option maxRecDepth 1000000 in
theorem oc_33 (w : World) : Calls Tryz.prog 83 #[.int .u8 33] w fun e w' => e = .returned (.int .i64 2) ∧ w = w' := by
  go_enter Tryz.func83, Tryz.ntmps83
  go_wp2
  go_ret
  exact ⟨by kernel_rfl, rfl⟩
set_option maxRecDepth 1000000 in
theorem oc_34 (w : World) : Calls Tryz.prog 83 #[.int .u8 34] w fun e w' => e = .returned (.int .i64 2) ∧ w = w' := by
  go_enter Tryz.func83, Tryz.ntmps83
  go_wp2
  go_ret
  exact ⟨by kernel_rfl, rfl⟩
set_option maxRecDepth 1000000 in
theorem oc_35 (w : World) : Calls Tryz.prog 83 #[.int .u8 35] w fun e w' => e = .returned (.int .i64 3) ∧ w = w' := by
  go_enter Tryz.func83, Tryz.ntmps83
  go_wp2
  go_ret
  exact ⟨by kernel_rfl, rfl⟩
set_option maxRecDepth 1000000 in
theorem oc_36 (w : World) : Calls Tryz.prog 83 #[.int .u8 36] w fun e w' => e = .returned (.int .i64 2) ∧ w = w' := by
  go_enter Tryz.func83, Tryz.ntmps83
  go_wp2
  go_ret
  exact ⟨by kernel_rfl, rfl⟩
set_option maxRecDepth 1000000 in
theorem oc_37 (w : World) : Calls Tryz.prog 83 #[.int .u8 37] w fun e w' => e = .returned (.int .i64 3) ∧ w = w' := by
  go_enter Tryz.func83, Tryz.ntmps83
  go_wp2
  go_ret
  exact ⟨by kernel_rfl, rfl⟩
set_option maxRecDepth 1000000 in
theorem oc_38 (w : World) : Calls Tryz.prog 83 #[.int .u8 38] w fun e w' => e = .returned (.int .i64 3) ∧ w = w' := by
  go_enter Tryz.func83, Tryz.ntmps83
  go_wp2
  go_ret
  exact ⟨by kernel_rfl, rfl⟩
set_option maxRecDepth 1000000 in
theorem oc_39 (w : World) : Calls Tryz.prog 83 #[.int .u8 39] w fun e w' => e = .returned (.int .i64 4) ∧ w = w' := by
  go_enter Tryz.func83, Tryz.ntmps83
  go_wp2
  go_ret
  exact ⟨by kernel_rfl, rfl⟩
set_option maxRecDepth 1000000 in
theorem oc_40 (w : World) : Calls Tryz.prog 83 #[.int .u8 40] w fun e w' => e = .returned (.int .i64 2) ∧ w = w' := by
  go_enter Tryz.func83, Tryz.ntmps83
  go_wp2
  go_ret
  exact ⟨by kernel_rfl, rfl⟩
set_option maxRecDepth 1000000 in
theorem oc_41 (w : World) : Calls Tryz.prog 83 #[.int .u8 41] w fun e w' => e = .returned (.int .i64 3) ∧ w = w' := by
  go_enter Tryz.func83, Tryz.ntmps83
  go_wp2
  go_ret
  exact ⟨by kernel_rfl, rfl⟩
set_option maxRecDepth 1000000 in
theorem oc_42 (w : World) : Calls Tryz.prog 83 #[.int .u8 42] w fun e w' => e = .returned (.int .i64 3) ∧ w = w' := by
  go_enter Tryz.func83, Tryz.ntmps83
  go_wp2
  go_ret
  exact ⟨by kernel_rfl, rfl⟩
set_option maxRecDepth 1000000 in
theorem oc_43 (w : World) : Calls Tryz.prog 83 #[.int .u8 43] w fun e w' => e = .returned (.int .i64 4) ∧ w = w' := by
  go_enter Tryz.func83, Tryz.ntmps83
  go_wp2
  go_ret
  exact ⟨by kernel_rfl, rfl⟩
set_option maxRecDepth 1000000 in
theorem oc_44 (w : World) : Calls Tryz.prog 83 #[.int .u8 44] w fun e w' => e = .returned (.int .i64 3) ∧ w = w' := by
  go_enter Tryz.func83, Tryz.ntmps83
  go_wp2
  go_ret
  exact ⟨by kernel_rfl, rfl⟩
set_option maxRecDepth 1000000 in
theorem oc_45 (w : World) : Calls Tryz.prog 83 #[.int .u8 45] w fun e w' => e = .returned (.int .i64 4) ∧ w = w' := by
  go_enter Tryz.func83, Tryz.ntmps83
  go_wp2
  go_ret
  exact ⟨by kernel_rfl, rfl⟩
set_option maxRecDepth 1000000 in
theorem oc_46 (w : World) : Calls Tryz.prog 83 #[.int .u8 46] w fun e w' => e = .returned (.int .i64 4) ∧ w = w' := by
  go_enter Tryz.func83, Tryz.ntmps83
  go_wp2
  go_ret
  exact ⟨by kernel_rfl, rfl⟩
set_option maxRecDepth 1000000 in
theorem oc_47 (w : World) : Calls Tryz.prog 83 #[.int .u8 47] w fun e w' => e = .returned (.int .i64 5) ∧ w = w' := by
  go_enter Tryz.func83, Tryz.ntmps83
  go_wp2
  go_ret
  exact ⟨by kernel_rfl, rfl⟩
set_option maxRecDepth 1000000 in
theorem oc_48 (w : World) : Calls Tryz.prog 83 #[.int .u8 48] w fun e w' => e = .returned (.int .i64 2) ∧ w = w' := by
  go_enter Tryz.func83, Tryz.ntmps83
  go_wp2
  go_ret
  exact ⟨by kernel_rfl, rfl⟩
set_option maxRecDepth 1000000 in
theorem oc_49 (w : World) : Calls Tryz.prog 83 #[.int .u8 49] w fun e w' => e = .returned (.int .i64 3) ∧ w = w' := by
  go_enter Tryz.func83, Tryz.ntmps83
  go_wp2
  go_ret
  exact ⟨by kernel_rfl, rfl⟩
set_option maxRecDepth 1000000 in
theorem oc_50 (w : World) : Calls Tryz.prog 83 #[.int .u8 50] w fun e w' => e = .returned (.int .i64 3) ∧ w = w' := by
  go_enter Tryz.func83, Tryz.ntmps83
  go_wp2
  go_ret
  exact ⟨by kernel_rfl, rfl⟩
set_option maxRecDepth 1000000 in
theorem oc_51 (w : World) : Calls Tryz.prog 83 #[.int .u8 51] w fun e w' => e = .returned (.int .i64 4) ∧ w = w' := by
  go_enter Tryz.func83, Tryz.ntmps83
  go_wp2
  go_ret
  exact ⟨by kernel_rfl, rfl⟩
set_option maxRecDepth 1000000 in
theorem oc_52 (w : World) : Calls Tryz.prog 83 #[.int .u8 52] w fun e w' => e = .returned (.int .i64 3) ∧ w = w' := by
  go_enter Tryz.func83, Tryz.ntmps83
  go_wp2
  go_ret
  exact ⟨by kernel_rfl, rfl⟩
set_option maxRecDepth 1000000 in
theorem oc_53 (w : World) : Calls Tryz.prog 83 #[.int .u8 53] w fun e w' => e = .returned (.int .i64 4) ∧ w = w' := by
  go_enter Tryz.func83, Tryz.ntmps83
  go_wp2
  go_ret
  exact ⟨by kernel_rfl, rfl⟩
set_option maxRecDepth 1000000 in
theorem oc_54 (w : World) : Calls Tryz.prog 83 #[.int .u8 54] w fun e w' => e = .returned (.int .i64 4) ∧ w = w' := by
  go_enter Tryz.func83, Tryz.ntmps83
  go_wp2
  go_ret
  exact ⟨by kernel_rfl, rfl⟩
set_option maxRecDepth 1000000 in
theorem oc_55 (w : World) : Calls Tryz.prog 83 #[.int .u8 55] w fun e w' => e = .returned (.int .i64 5) ∧ w = w' := by
  go_enter Tryz.func83, Tryz.ntmps83
  go_wp2
  go_ret
  exact ⟨by kernel_rfl, rfl⟩
set_option maxRecDepth 1000000 in
theorem oc_56 (w : World) : Calls Tryz.prog 83 #[.int .u8 56] w fun e w' => e = .returned (.int .i64 3) ∧ w = w' := by
  go_enter Tryz.func83, Tryz.ntmps83
  go_wp2
  go_ret
  exact ⟨by kernel_rfl, rfl⟩
set_option maxRecDepth 1000000 in
theorem oc_57 (w : World) : Calls Tryz.prog 83 #[.int .u8 57] w fun e w' => e = .returned (.int .i64 4) ∧ w = w' := by
  go_enter Tryz.func83, Tryz.ntmps83
  go_wp2
  go_ret
  exact ⟨by kernel_rfl, rfl⟩
set_option maxRecDepth 1000000 in
theorem oc_58 (w : World) : Calls Tryz.prog 83 #[.int .u8 58] w fun e w' => e = .returned (.int .i64 4) ∧ w = w' := by
  go_enter Tryz.func83, Tryz.ntmps83
  go_wp2
  go_ret
  exact ⟨by kernel_rfl, rfl⟩
set_option maxRecDepth 1000000 in
theorem oc_59 (w : World) : Calls Tryz.prog 83 #[.int .u8 59] w fun e w' => e = .returned (.int .i64 5) ∧ w = w' := by
  go_enter Tryz.func83, Tryz.ntmps83
  go_wp2
  go_ret
  exact ⟨by kernel_rfl, rfl⟩
set_option maxRecDepth 1000000 in
theorem oc_60 (w : World) : Calls Tryz.prog 83 #[.int .u8 60] w fun e w' => e = .returned (.int .i64 4) ∧ w = w' := by
  go_enter Tryz.func83, Tryz.ntmps83
  go_wp2
  go_ret
  exact ⟨by kernel_rfl, rfl⟩
set_option maxRecDepth 1000000 in
theorem oc_61 (w : World) : Calls Tryz.prog 83 #[.int .u8 61] w fun e w' => e = .returned (.int .i64 5) ∧ w = w' := by
  go_enter Tryz.func83, Tryz.ntmps83
  go_wp2
  go_ret
  exact ⟨by kernel_rfl, rfl⟩
set_option maxRecDepth 1000000 in
theorem oc_62 (w : World) : Calls Tryz.prog 83 #[.int .u8 62] w fun e w' => e = .returned (.int .i64 5) ∧ w = w' := by
  go_enter Tryz.func83, Tryz.ntmps83
  go_wp2
  go_ret
  exact ⟨by kernel_rfl, rfl⟩
set_option maxRecDepth 1000000 in
theorem oc_63 (w : World) : Calls Tryz.prog 83 #[.int .u8 63] w fun e w' => e = .returned (.int .i64 6) ∧ w = w' := by
  go_enter Tryz.func83, Tryz.ntmps83
  go_wp2
  go_ret
  exact ⟨by kernel_rfl, rfl⟩
theorem oc_any (s : Nat) (hs : s < 64) (w : World) :
    Calls Tryz.prog 83 #[.int .u8 s] w fun e w' => e = .returned (.int .i64 (cnt s)) ∧ w = w' := by
  match s, hs with
  | 0, _ => exact oc_0 w
  | 1, _ => exact oc_1 w
  | 2, _ => exact oc_2 w
  | 3, _ => exact oc_3 w
  | 4, _ => exact oc_4 w
  | 5, _ => exact oc_5 w
  | 6, _ => exact oc_6 w
  | 7, _ => exact oc_7 w
  | 8, _ => exact oc_8 w
  | 9, _ => exact oc_9 w
  | 10, _ => exact oc_10 w
  | 11, _ => exact oc_11 w
  | 12, _ => exact oc_12 w
  | 13, _ => exact oc_13 w
  | 14, _ => exact oc_14 w
  | 15, _ => exact oc_15 w
  | 16, _ => exact oc_16 w
  | 17, _ => exact oc_17 w
  | 18, _ => exact oc_18 w
  | 19, _ => exact oc_19 w
  | 20, _ => exact oc_20 w
  | 21, _ => exact oc_21 w
  | 22, _ => exact oc_22 w
  | 23, _ => exact oc_23 w
  | 24, _ => exact oc_24 w
  | 25, _ => exact oc_25 w
  | 26, _ => exact oc_26 w
  | 27, _ => exact oc_27 w
  | 28, _ => exact oc_28 w
  | 29, _ => exact oc_29 w
  | 30, _ => exact oc_30 w
  | 31, _ => exact oc_31 w
  | 32, _ => exact oc_32 w
  | 33, _ => exact oc_33 w
  | 34, _ => exact oc_34 w
  | 35, _ => exact oc_35 w
  | 36, _ => exact oc_36 w
  | 37, _ => exact oc_37 w
  | 38, _ => exact oc_38 w
  | 39, _ => exact oc_39 w
  | 40, _ => exact oc_40 w
  | 41, _ => exact oc_41 w
  | 42, _ => exact oc_42 w
  | 43, _ => exact oc_43 w
  | 44, _ => exact oc_44 w
  | 45, _ => exact oc_45 w
  | 46, _ => exact oc_46 w
  | 47, _ => exact oc_47 w
  | 48, _ => exact oc_48 w
  | 49, _ => exact oc_49 w
  | 50, _ => exact oc_50 w
  | 51, _ => exact oc_51 w
  | 52, _ => exact oc_52 w
  | 53, _ => exact oc_53 w
  | 54, _ => exact oc_54 w
  | 55, _ => exact oc_55 w
  | 56, _ => exact oc_56 w
  | 57, _ => exact oc_57 w
  | 58, _ => exact oc_58 w
  | 59, _ => exact oc_59 w
  | 60, _ => exact oc_60 w
  | 61, _ => exact oc_61 w
  | 62, _ => exact oc_62 w
  | 63, _ => exact oc_63 w
  | s + 64, h => exact absurd h (by omega)
theorem vleast_any (s : Nat) (w : World) (h1 : s < 64) :
    Calls Tryz.prog 85 #[.int .u8 s] w fun e w' => e = .returned (.int .i64 (tz s)) ∧ w = w' := by
  go_enter Tryz.func85, Tryz.ntmps85
  go_wp2_with (go_at_call 94; refine (tz_any s h1 _).mono ?_; rintro e w' ⟨rfl, rfl⟩)
  go_ret
  exact ⟨rfl, rfl⟩
theorem vsize_any (s : Nat) (w : World) (h1 : s < 64) :
    Calls Tryz.prog 56 #[.int .u8 s] w fun e w' => e = .returned (.int .i64 (cnt s)) ∧ w = w' := by
  go_enter Tryz.func56, Tryz.ntmps56
  go_wp2_with (go_at_call 83; refine (oc_any s h1 _).mono ?_; rintro e w' ⟨rfl, rfl⟩)
  go_ret
  exact ⟨rfl, rfl⟩
/-- s.all(): the set is boxed; the function value captures the box. -/
theorem vall_any (s : Nat) (w : World) :
    Calls Tryz.prog 58 #[.int .u8 s] w fun e w' => e = .returned (.func (.func 84) #[] #[.pointer (some ⟨w.heap.size, 0, none⟩)]) ∧ w' = w.alloc (.cells #[.int .u8 s] 51) := by
  go_enter Tryz.func58, Tryz.ntmps58
  go_wp2
  go_ret
  exact ⟨rfl, rfl⟩

end Go.Proofs.YtoobopohohoidaaGreatDoor
