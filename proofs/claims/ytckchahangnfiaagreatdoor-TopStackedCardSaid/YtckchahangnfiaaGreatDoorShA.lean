/- SHELF: the small functions. -/
import Derived.Test.YtckchahangnfiaaGreatDoorProg
import Derived.WalkKit
import Derived.WalkSpells
import Derived.WalkLawsBesides
import Derived.BigQuiet
import Derived.Deep.QuietTactic
import Derived.Lib.Hide
namespace Go.Proofs.YtckchahangnfiaaGreatDoor
open Go.RowKit

theorem within_yes (x a b : Int) (w : World) (h1 : a ≤ x) (h2 : x ≤ b) :
    Calls Tryz.prog 39 #[.int .i64 x, .int .i64 a, .int .i64 b] w fun e w' => e = .returned (.bool true) ∧ w = w' := by
  go_enter Tryz.func39, Tryz.ntmps39
  go_wp2
  go_ret
  exact ⟨rfl, rfl⟩

theorem checkBag_yes (l a b : Int) (w : World) (h1 : 1 ≤ l) (h2 : l ≤ 9) (h3 : 0 ≤ a) (h4 : a ≤ b) (h5 : b ≤ 6) :
    Calls Tryz.prog 55 #[.agg #[.int .i64 l, .int .i64 a, .int .i64 b]] w fun e w' => e = .returned (.int .i64 0) ∧ Below w.heap.size w w' := by
  have h6 : a ≤ 6 := by omega
  have h7 : 0 ≤ b := by omega
  go_enter Tryz.func55, Tryz.ntmps55
  go_wp2_with (go_at_call 39; refine (within_yes _ _ _ _ (by omega) (by omega)).mono ?_; rintro e w' ⟨rfl, rfl⟩)
  go_ret
  exact ⟨rfl, (Below.refl _ _).alloc (Nat.le_refl _) _⟩

theorem always_holds (a b c d : Int) (w : World) :
    Calls Tryz.prog 102 #[.agg #[], .agg #[.int .i64 a, .int .i64 b], .agg #[.int .i64 c, .int .i64 d]] w fun e w' => e = .returned (.bool (decide (b < c))) ∧ Below w.heap.size w w' := by
  go_enter Tryz.func102, Tryz.ntmps102
  go_wp2
  go_ret
  exact ⟨rfl, (((Below.refl _ _).alloc (Nat.le_refl _) _).alloc (by simp) _).alloc (by simp; omega) _⟩

theorem noWay_holds (a b c d : Int) (w : World) :
    Calls Tryz.prog 103 #[.agg #[], .agg #[.int .i64 a, .int .i64 b], .agg #[.int .i64 c, .int .i64 d]] w fun e w' => e = .returned (.bool (decide (d ≤ a))) ∧ Below w.heap.size w w' := by
  go_enter Tryz.func103, Tryz.ntmps103
  go_wp2
  go_ret
  exact ⟨rfl, (((Below.refl _ _).alloc (Nat.le_refl _) _).alloc (by simp) _).alloc (by simp; omega) _⟩

/-! Sets are numbers below 32. -/
theorem or_lemma : ∀ s : Fin 32, ∀ n : Fin 5, bits .or .u8 (s.1 : Int) (2 ^ n.1 % 256) = ((s.1 ||| 2 ^ n.1 : Nat) : Int) := by decide +kernel
theorem with_any (s n : Nat) (w : World) (h1 : s < 32) (h2 : n < 5) :
    Calls Tryz.prog 43 #[.int .u8 s, .int .i64 n] w fun e w' => e = .returned (.int .u8 ((s ||| 2 ^ n : Nat) : Int)) ∧ w = w' := by
  have HL := Go.Lib.hid (or_lemma ⟨s, h1⟩ ⟨n, h2⟩)
  go_enter Tryz.func43, Tryz.ntmps43
  go_wp2
  go_ret
  exact ⟨by simpa using HL.out, rfl⟩

theorem has_lemma : ∀ s : Fin 32, ∀ n : Fin 5, (bits .and .u8 (s.1 : Int) (2 ^ n.1 % 256) != 0) = s.1.testBit n.1 := by decide +kernel
theorem has_any (s n : Nat) (w : World) (h1 : s < 32) (h2 : n < 5) :
    Calls Tryz.prog 17 #[.int .u8 s, .int .i64 n] w fun e w' => e = .returned (.bool (s.testBit n)) ∧ w = w' := by
  have HL := Go.Lib.hid (has_lemma ⟨s, h1⟩ ⟨n, h2⟩)
  go_enter Tryz.func17, Tryz.ntmps17
  go_wp2
  go_ret
  exact ⟨by simpa using HL.out, rfl⟩

/-- What is greater, of a set. -/
def aft (s n : Nat) : Nat := s >>> (n + 1) <<< (n + 1)
theorem aft_lt : ∀ s : Fin 32, ∀ n : Fin 5, aft s.1 n.1 < 32 := by decide +kernel
theorem after_lemma : ∀ s : Fin 32, ∀ n : Fin 5, ((s.1 : Int) / 2 ^ (n.1 + 1) * 2 ^ (n.1 + 1) % 256) = (aft s.1 n.1 : Int) := by decide +kernel
theorem after_any (s n : Nat) (w : World) (h1 : s < 32) (h2 : n < 5) :
    Calls Tryz.prog 41 #[.int .u8 s, .int .i64 n] w fun e w' => e = .returned (.int .u8 (aft s n)) ∧ w = w' := by
  have HL := Go.Lib.hid (after_lemma ⟨s, h1⟩ ⟨n, h2⟩)
  go_enter Tryz.func41, Tryz.ntmps41
  go_wp2
  go_ret
  exact ⟨by simpa using HL.out, rfl⟩

theorem number_always (w : World) : Calls Tryz.prog 18 #[.iface 98 (.agg #[])] w fun e w' => e = .returned (.int .i64 1) ∧ w = w' := by
  have ta : ∀ w, (Instr.typeAssert (.iface 98 (.agg #[])) 74 98 true).run Tryz.prog w = .ok (.tuple #[.agg #[], .bool true]) w := fun _ => by kernel_rfl
  go_enter Tryz.func18, Tryz.ntmps18
  go_wp2
  go_ret
  exact ⟨rfl, rfl⟩

theorem number_noWay (w : World) : Calls Tryz.prog 18 #[.iface 99 (.agg #[])] w fun e w' => e = .returned (.int .i64 2) ∧ w = w' := by
  have ta : ∀ w, (Instr.typeAssert (.iface 99 (.agg #[])) 74 98 true).run Tryz.prog w = .ok (.tuple #[.agg #[], .bool false]) w := fun _ => by kernel_rfl
  have tb : ∀ w, (Instr.typeAssert (.iface 99 (.agg #[])) 74 99 true).run Tryz.prog w = .ok (.tuple #[.agg #[], .bool true]) w := fun _ => by kernel_rfl
  go_enter Tryz.func18, Tryz.ntmps18
  go_wp2
  go_ret
  exact ⟨rfl, rfl⟩

/-- A shelf at work, of whose pieces c came, all of them into the lane 0. -/
abbrev cellsAt (L B P M : Value) (c : Nat) : Array Value := #[L, B, P, .int .i64 0, .int .i64 0, .int .i64 0, .int .i64 0, .int .i64 0, .int .i64 c, M]

/-- The set of the first c. -/
def low (c : Nat) : Nat := 2 ^ c - 1
theorem low_succ : ∀ c : Fin 5, low c.1 ||| 2 ^ c.1 = low (c.1 + 1) := by decide +kernel
theorem low_lt {c : Nat} (h : c ≤ 5) : low c < 32 := by
  unfold low
  have := Nat.pow_le_pow_right (n := 2) (by omega) h
  omega

end Go.Proofs.YtckchahangnfiaaGreatDoor
