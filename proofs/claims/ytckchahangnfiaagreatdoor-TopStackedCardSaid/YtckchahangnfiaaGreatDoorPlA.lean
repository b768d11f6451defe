/- PILE: the small functions; sets are numbers below 32. -/
import Derived.Test.YtckchahangnfiaaGreatDoorShC
namespace Go.Proofs.YtckchahangnfiaaGreatDoor
open Go.RowKit

theorem pwithin_yes (x a b : Int) (w : World) (h1 : a ≤ x) (h2 : x ≤ b) :
    Calls Tryz.prog 48 #[.int .i64 x, .int .i64 a, .int .i64 b] w fun e w' => e = .returned (.bool true) ∧ w = w' := by
  go_enter Tryz.func48, Tryz.ntmps48
  go_wp2
  go_ret
  exact ⟨rfl, rfl⟩

theorem pcheckParcel_yes (lo hi br tl : Int) (w : World) (h1 : 1 ≤ lo) (h2 : lo ≤ hi) (h3 : hi ≤ 12) (h4 : 0 ≤ br) (h5 : br ≤ 30) (h6 : 1 ≤ tl) (h7 : tl ≤ 3) :
    Calls Tryz.prog 64 #[.agg #[.int .i64 lo, .int .i64 hi, .int .i64 br, .int .i64 tl]] w fun e w' => e = .returned (.int .i64 0) ∧ Below w.heap.size w w' := by
  have h8 : lo ≤ 12 := by omega
  have h9 : 1 ≤ hi := by omega
  go_enter Tryz.func64, Tryz.ntmps64
  go_wp2_with (go_at_call 48; refine (pwithin_yes _ _ _ _ (by omega) (by omega)).mono ?_; rintro e w' ⟨rfl, rfl⟩)
  go_ret
  exact ⟨rfl, (Below.refl _ _).alloc (Nat.le_refl _) _⟩

/-- What is left of a set. -/
def sub (s t : Nat) : Nat := s ^^^ (s &&& t)
theorem less_lemma : ∀ s t : Fin 32, bits .andNot .u8 (s.1 : Int) (t.1 : Int) = (sub s.1 t.1 : Int) := by decide +kernel
theorem sub_lt : ∀ s t : Fin 32, sub s.1 t.1 < 32 := by decide +kernel
theorem pless_any (s t : Nat) (w : World) (h1 : s < 32) (h2 : t < 32) :
    Calls Tryz.prog 28 #[.int .u8 s, .int .u8 t] w fun e w' => e = .returned (.int .u8 (sub s t)) ∧ w = w' := by
  have HL := Go.Lib.hid (less_lemma ⟨s, h1⟩ ⟨t, h2⟩)
  go_enter Tryz.func28, Tryz.ntmps28
  go_wp2
  go_ret
  exact ⟨by simpa using HL.out, rfl⟩

theorem phas_any (s n : Nat) (w : World) (h1 : s < 32) (h2 : n < 5) :
    Calls Tryz.prog 49 #[.int .u8 s, .int .i64 n] w fun e w' => e = .returned (.bool (s.testBit n)) ∧ w = w' := by
  have HL := Go.Lib.hid (has_lemma ⟨s, h1⟩ ⟨n, h2⟩)
  go_enter Tryz.func49, Tryz.ntmps49
  go_wp2
  go_ret
  exact ⟨by simpa using HL.out, rfl⟩

theorem pleast_any (s : Nat) (w : World) (h1 : s < 32) :
    Calls Tryz.prog 68 #[.int .u8 s] w fun e w' => e = .returned (.int .i64 (tz s)) ∧ w = w' := by
  go_enter Tryz.func68, Tryz.ntmps68
  go_wp2_with (go_at_call 61; refine (tz_any s h1 _).mono ?_; rintro e w' ⟨rfl, rfl⟩)
  go_ret
  exact ⟨rfl, rfl⟩

/-- How many are in a set. -/
def pcnt (s : Nat) : Nat := (els s).length
set_option maxRecDepth 1000000 in
theorem oc_0 (w : World) : Calls Tryz.prog 69 #[.int .u8 0] w fun e w' => e = .returned (.int .i64 0) ∧ w = w' := by
  go_enter Tryz.func69, Tryz.ntmps69
  go_wp2
  go_ret
  exact ⟨by kernel_rfl, rfl⟩
set_option maxRecDepth 1000000 in
theorem oc_1 (w : World) : Calls Tryz.prog 69 #[.int .u8 1] w fun e w' => e = .returned (.int .i64 1) ∧ w = w' := by
  go_enter Tryz.func69, Tryz.ntmps69
  go_wp2
  go_ret
  exact ⟨by kernel_rfl, rfl⟩
set_option maxRecDepth 1000000 in
theorem oc_2 (w : World) : Calls Tryz.prog 69 #[.int .u8 2] w fun e w' => e = .returned (.int .i64 1) ∧ w = w' := by
  go_enter Tryz.func69, Tryz.ntmps69
  go_wp2
  go_ret
  exact ⟨by kernel_rfl, rfl⟩
set_option maxRecDepth 1000000 in
theorem oc_3 (w : World) : Calls Tryz.prog 69 #[.int .u8 3] w fun e w' => e = .returned (.int .i64 2) ∧ w = w' := by
  go_enter Tryz.func69, Tryz.ntmps69
  go_wp2
  go_ret
  exact ⟨by kernel_rfl, rfl⟩
set_option maxRecDepth 1000000 in
theorem oc_4 (w : World) : Calls Tryz.prog 69 #[.int .u8 4] w fun e w' => e = .returned (.int .i64 1) ∧ w = w' := by
  go_enter Tryz.func69, Tryz.ntmps69
  go_wp2
  go_ret
  exact ⟨by kernel_rfl, rfl⟩
set_option maxRecDepth 1000000 in
theorem oc_5 (w : World) : Calls Tryz.prog 69 #[.int .u8 5] w fun e w' => e = .returned (.int .i64 2) ∧ w = w' := by
  go_enter Tryz.func69, Tryz.ntmps69
  go_wp2
  go_ret
  exact ⟨by kernel_rfl, rfl⟩
set_option maxRecDepth 1000000 in
theorem oc_6 (w : World) : Calls Tryz.prog 69 #[.int .u8 6] w fun e w' => e = .returned (.int .i64 2) ∧ w = w' := by
  go_enter Tryz.func69, Tryz.ntmps69
  go_wp2
  go_ret
  exact ⟨by kernel_rfl, rfl⟩
set_option maxRecDepth 1000000 in
theorem oc_7 (w : World) : Calls Tryz.prog 69 #[.int .u8 7] w fun e w' => e = .returned (.int .i64 3) ∧ w = w' := by
  go_enter Tryz.func69, Tryz.ntmps69
  go_wp2
  go_ret
  exact ⟨by kernel_rfl, rfl⟩
set_option maxRecDepth 1000000 in
theorem oc_8 (w : World) : Calls Tryz.prog 69 #[.int .u8 8] w fun e w' => e = .returned (.int .i64 1) ∧ w = w' := by
  go_enter Tryz.func69, Tryz.ntmps69
  go_wp2
  go_ret
  exact ⟨by kernel_rfl, rfl⟩
set_option maxRecDepth 1000000 in
theorem oc_9 (w : World) : Calls Tryz.prog 69 #[.int .u8 9] w fun e w' => e = .returned (.int .i64 2) ∧ w = w' := by
  go_enter Tryz.func69, Tryz.ntmps69
  go_wp2
  go_ret
  exact ⟨by kernel_rfl, rfl⟩
set_option maxRecDepth 1000000 in
theorem oc_10 (w : World) : Calls Tryz.prog 69 #[.int .u8 10] w fun e w' => e = .returned (.int .i64 2) ∧ w = w' := by
  go_enter Tryz.func69, Tryz.ntmps69
  go_wp2
  go_ret
  exact ⟨by kernel_rfl, rfl⟩
set_option maxRecDepth 1000000 in
theorem oc_11 (w : World) : Calls Tryz.prog 69 #[.int .u8 11] w fun e w' => e = .returned (.int .i64 3) ∧ w = w' := by
  go_enter Tryz.func69, Tryz.ntmps69
  go_wp2
  go_ret
  exact ⟨by kernel_rfl, rfl⟩
set_option maxRecDepth 1000000 in
theorem oc_12 (w : World) : Calls Tryz.prog 69 #[.int .u8 12] w fun e w' => e = .returned (.int .i64 2) ∧ w = w' := by
  go_enter Tryz.func69, Tryz.ntmps69
  go_wp2
  go_ret
  exact ⟨by kernel_rfl, rfl⟩
set_option maxRecDepth 1000000 in
theorem oc_13 (w : World) : Calls Tryz.prog 69 #[.int .u8 13] w fun e w' => e = .returned (.int .i64 3) ∧ w = w' := by
  go_enter Tryz.func69, Tryz.ntmps69
  go_wp2
  go_ret
  exact ⟨by kernel_rfl, rfl⟩
set_option maxRecDepth 1000000 in
theorem oc_14 (w : World) : Calls Tryz.prog 69 #[.int .u8 14] w fun e w' => e = .returned (.int .i64 3) ∧ w = w' := by
  go_enter Tryz.func69, Tryz.ntmps69
  go_wp2
  go_ret
  exact ⟨by kernel_rfl, rfl⟩
set_option maxRecDepth 1000000 in
theorem oc_15 (w : World) : Calls Tryz.prog 69 #[.int .u8 15] w fun e w' => e = .returned (.int .i64 4) ∧ w = w' := by
  go_enter Tryz.func69, Tryz.ntmps69
  go_wp2
  go_ret
  exact ⟨by kernel_rfl, rfl⟩
set_option maxRecDepth 1000000 in
theorem oc_16 (w : World) : Calls Tryz.prog 69 #[.int .u8 16] w fun e w' => e = .returned (.int .i64 1) ∧ w = w' := by
  go_enter Tryz.func69, Tryz.ntmps69
  go_wp2
  go_ret
  exact ⟨by kernel_rfl, rfl⟩
set_option maxRecDepth 1000000 in
theorem oc_17 (w : World) : Calls Tryz.prog 69 #[.int .u8 17] w fun e w' => e = .returned (.int .i64 2) ∧ w = w' := by
  go_enter Tryz.func69, Tryz.ntmps69
  go_wp2
  go_ret
  exact ⟨by kernel_rfl, rfl⟩
set_option maxRecDepth 1000000 in
theorem oc_18 (w : World) : Calls Tryz.prog 69 #[.int .u8 18] w fun e w' => e = .returned (.int .i64 2) ∧ w = w' := by
  go_enter Tryz.func69, Tryz.ntmps69
  go_wp2
  go_ret
  exact ⟨by kernel_rfl, rfl⟩
set_option maxRecDepth 1000000 in
theorem oc_19 (w : World) : Calls Tryz.prog 69 #[.int .u8 19] w fun e w' => e = .returned (.int .i64 3) ∧ w = w' := by
  go_enter Tryz.func69, Tryz.ntmps69
  go_wp2
  go_ret
  exact ⟨by kernel_rfl, rfl⟩
set_option maxRecDepth 1000000 in
theorem oc_20 (w : World) : Calls Tryz.prog 69 #[.int .u8 20] w fun e w' => e = .returned (.int .i64 2) ∧ w = w' := by
  go_enter Tryz.func69, Tryz.ntmps69
  go_wp2
  go_ret
  exact ⟨by kernel_rfl, rfl⟩
set_option maxRecDepth 1000000 in
theorem oc_21 (w : World) : Calls Tryz.prog 69 #[.int .u8 21] w fun e w' => e = .returned (.int .i64 3) ∧ w = w' := by
  go_enter Tryz.func69, Tryz.ntmps69
  go_wp2
  go_ret
  exact ⟨by kernel_rfl, rfl⟩
set_option maxRecDepth 1000000 in
theorem oc_22 (w : World) : Calls Tryz.prog 69 #[.int .u8 22] w fun e w' => e = .returned (.int .i64 3) ∧ w = w' := by
  go_enter Tryz.func69, Tryz.ntmps69
  go_wp2
  go_ret
  exact ⟨by kernel_rfl, rfl⟩
set_option maxRecDepth 1000000 in
theorem oc_23 (w : World) : Calls Tryz.prog 69 #[.int .u8 23] w fun e w' => e = .returned (.int .i64 4) ∧ w = w' := by
  go_enter Tryz.func69, Tryz.ntmps69
  go_wp2
  go_ret
  exact ⟨by kernel_rfl, rfl⟩
set_option maxRecDepth 1000000 in
theorem oc_24 (w : World) : Calls Tryz.prog 69 #[.int .u8 24] w fun e w' => e = .returned (.int .i64 2) ∧ w = w' := by
  go_enter Tryz.func69, Tryz.ntmps69
  go_wp2
  go_ret
  exact ⟨by kernel_rfl, rfl⟩
set_option maxRecDepth 1000000 in
theorem oc_25 (w : World) : Calls Tryz.prog 69 #[.int .u8 25] w fun e w' => e = .returned (.int .i64 3) ∧ w = w' := by
  go_enter Tryz.func69, Tryz.ntmps69
  go_wp2
  go_ret
  exact ⟨by kernel_rfl, rfl⟩
set_option maxRecDepth 1000000 in
theorem oc_26 (w : World) : Calls Tryz.prog 69 #[.int .u8 26] w fun e w' => e = .returned (.int .i64 3) ∧ w = w' := by
  go_enter Tryz.func69, Tryz.ntmps69
  go_wp2
  go_ret
  exact ⟨by kernel_rfl, rfl⟩
set_option maxRecDepth 1000000 in
theorem oc_27 (w : World) : Calls Tryz.prog 69 #[.int .u8 27] w fun e w' => e = .returned (.int .i64 4) ∧ w = w' := by
  go_enter Tryz.func69, Tryz.ntmps69
  go_wp2
  go_ret
  exact ⟨by kernel_rfl, rfl⟩
set_option maxRecDepth 1000000 in
theorem oc_28 (w : World) : Calls Tryz.prog 69 #[.int .u8 28] w fun e w' => e = .returned (.int .i64 3) ∧ w = w' := by
  go_enter Tryz.func69, Tryz.ntmps69
  go_wp2
  go_ret
  exact ⟨by kernel_rfl, rfl⟩
set_option maxRecDepth 1000000 in
theorem oc_29 (w : World) : Calls Tryz.prog 69 #[.int .u8 29] w fun e w' => e = .returned (.int .i64 4) ∧ w = w' := by
  go_enter Tryz.func69, Tryz.ntmps69
  go_wp2
  go_ret
  exact ⟨by kernel_rfl, rfl⟩
set_option maxRecDepth 1000000 in
theorem oc_30 (w : World) : Calls Tryz.prog 69 #[.int .u8 30] w fun e w' => e = .returned (.int .i64 4) ∧ w = w' := by
  go_enter Tryz.func69, Tryz.ntmps69
  go_wp2
  go_ret
  exact ⟨by kernel_rfl, rfl⟩
set_option maxRecDepth 1000000 in
theorem oc_31 (w : World) : Calls Tryz.prog 69 #[.int .u8 31] w fun e w' => e = .returned (.int .i64 5) ∧ w = w' := by
  go_enter Tryz.func69, Tryz.ntmps69
  go_wp2
  go_ret
  exact ⟨by kernel_rfl, rfl⟩
theorem oc_any (s : Nat) (hs : s < 32) (w : World) :
    Calls Tryz.prog 69 #[.int .u8 s] w fun e w' => e = .returned (.int .i64 (pcnt s)) ∧ w = w' := by
  match s, hs with
  | 0, _ => exact oc_0 w
  | 1, _ => exact oc_1 w
  | 2, _ => exact oc_2 w
  | 3, _ => exact oc_3 w
  | 4, _ => exact oc_4 w
  | 5, _ => exact oc_5 w
  | 6, _ => exact oc_6 w
  | 7, _ => exact oc_7 w
  | 8, _ => exact oc_8 w
  | 9, _ => exact oc_9 w
  | 10, _ => exact oc_10 w
  | 11, _ => exact oc_11 w
  | 12, _ => exact oc_12 w
  | 13, _ => exact oc_13 w
  | 14, _ => exact oc_14 w
  | 15, _ => exact oc_15 w
  | 16, _ => exact oc_16 w
  | 17, _ => exact oc_17 w
  | 18, _ => exact oc_18 w
  | 19, _ => exact oc_19 w
  | 20, _ => exact oc_20 w
  | 21, _ => exact oc_21 w
  | 22, _ => exact oc_22 w
  | 23, _ => exact oc_23 w
  | 24, _ => exact oc_24 w
  | 25, _ => exact oc_25 w
  | 26, _ => exact oc_26 w
  | 27, _ => exact oc_27 w
  | 28, _ => exact oc_28 w
  | 29, _ => exact oc_29 w
  | 30, _ => exact oc_30 w
  | 31, _ => exact oc_31 w
  | s + 32, h => exact absurd h (by omega)

theorem psize_any (s : Nat) (hs : s < 32) (w : World) :
    Calls Tryz.prog 54 #[.int .u8 s] w fun e w' => e = .returned (.int .i64 (pcnt s)) ∧ w = w' := by
  go_enter Tryz.func54, Tryz.ntmps54
  go_wp2_with (go_at_call 69; refine (oc_any s hs _).mono ?_; rintro e w' ⟨rfl, rfl⟩)
  go_ret
  exact ⟨rfl, rfl⟩

theorem pverdict_yes (w : World) : Calls Tryz.prog 45 #[.bool true, .bool true] w fun e w' => e = .returned (.int .i64 1) ∧ w = w' := by
  go_enter Tryz.func45, Tryz.ntmps45
  go_wp2
  go_ret
  exact ⟨rfl, rfl⟩

theorem pverdict_no (w : World) : Calls Tryz.prog 45 #[.bool false, .bool false] w fun e w' => e = .returned (.int .i64 2) ∧ w = w' := by
  go_enter Tryz.func45, Tryz.ntmps45
  go_wp2
  go_ret
  exact ⟨rfl, rfl⟩

theorem pcrushed_yes (n : Int) (w : World) : Calls Tryz.prog 62 #[.iface 144 (.agg #[.int .i64 n])] w fun e w' => e = .returned (.bool true) ∧ w = w' := by
  have ta : ∀ w, (Instr.typeAssert (.iface 144 (.agg #[.int .i64 n])) 123 144 true).run Tryz.prog w = .ok (.tuple #[.agg #[.int .i64 n], .bool true]) w := fun _ => by kernel_rfl
  go_enter Tryz.func62, Tryz.ntmps62
  go_wp2
  go_ret
  exact ⟨rfl, rfl⟩

theorem pcrushed_no (n : Int) (w : World) : Calls Tryz.prog 62 #[.iface 146 (.agg #[.int .i64 n])] w fun e w' => e = .returned (.bool false) ∧ w = w' := by
  have ta : ∀ w, (Instr.typeAssert (.iface 146 (.agg #[.int .i64 n])) 123 144 true).run Tryz.prog w = .ok (.tuple #[.agg #[.int .i64 0], .bool false]) w := fun _ => by kernel_rfl
  go_enter Tryz.func62, Tryz.ntmps62
  go_wp2
  go_ret
  exact ⟨rfl, rfl⟩

/-- s.all(): the set is boxed; the function value captures the box. -/
theorem pall_any (s : Nat) (w : World) :
    Calls Tryz.prog 53 #[.int .u8 s] w fun e w' => e = .returned (.func (.func 67) #[] #[.pointer (some ⟨w.heap.size, 0, none⟩)]) ∧ w' = w.alloc (.cells #[.int .u8 s] 56) := by
  go_enter Tryz.func53, Tryz.ntmps53
  go_wp2
  go_ret
  exact ⟨rfl, rfl⟩

end Go.Proofs.YtckchahangnfiaaGreatDoor
