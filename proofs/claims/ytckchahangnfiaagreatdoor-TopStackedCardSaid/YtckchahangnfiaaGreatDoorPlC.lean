/- PILE: from, pieces, above, size; the iterator over a set; sum. -/
import Derived.Test.YtckchahangnfiaaGreatDoorPlB
namespace Go.Proofs.YtckchahangnfiaaGreatDoor
open Go.RowKit Go.Shelf

attribute [local go_sem] Oper.semAt_some

/-- A pile of two pieces at most. -/
abbrev pCells (a b : Nat) : Array Value := #[.int .u8 a, .int .u8 b, .int .u8 0, .int .u8 0, .int .u8 0]
/-- What lies in the places from 'place' on, k of them. -/
def orN (a b place : Nat) : Nat → Nat
  | 0 => 0
  | k + 1 => orN a b place k ||| (if place + k = 0 then a else if place + k = 1 then b else 0)
theorem orN_lt : ∀ a b : Fin 32, ∀ p : Fin 3, ∀ k : Fin 6, orN a.1 b.1 p.1 k.1 < 32 := by decide +kernel
theorem orN0 : ∀ a b : Fin 32, orN a.1 b.1 0 5 = a.1 ||| b.1 := by decide +kernel
theorem orN1 : ∀ a b : Fin 32, orN a.1 b.1 1 4 = b.1 := by decide +kernel
theorem orN2 : ∀ a b : Fin 32, orN a.1 b.1 2 3 = 0 := by decide +kernel
theorem or8_lemma : ∀ s t : Fin 32, bits .or .u8 (s.1 : Int) (t.1 : Int) = ((s.1 ||| t.1 : Nat) : Int) := by decide +kernel
theorem p_at (a b k : Nat) (hk : k < 5) : (pCells a b)[k]? = some (.int .u8 ((if k = 0 then a else if k = 1 then b else 0 : Nat) : Int)) := by
  rcases (show k = 0 ∨ k = 1 ∨ k = 2 ∨ k = 3 ∨ k = 4 by omega) with rfl | rfl | rfl | rfl | rfl <;> rfl

theorem slice_pile (a : Addr) (c : Nat) (h : c ≤ 2) (w : World) :
    (Instr.sliceAt 58 (.pointer (some a)) (some (.int .i64 c)) none none).run Tryz.prog w = .ok (.slice (some (a.add c)) (5 - c) (5 - c)) w := by
  rcases (show c = 0 ∨ c = 1 ∨ c = 2 by omega) with rfl | rfl | rfl
  all_goals kernel_rfl

set_option maxRecDepth 100000 in
set_option maxHeartbeats 1000000 in
theorem pfrom_any (a b p : Nat) (w : World) (ha : a < 32) (hb : b < 32) (hp : p ≤ 2) :
    Calls Tryz.prog 51 #[.agg (pCells a b), .int .i64 p] w fun e w' => e = .returned (.int .u8 (orN a b p (5 - p))) ∧ Below w.heap.size w w' := by
  have hsl := fun ad w => slice_pile ad p hp w
  have hpl : ∀ k, p + k < 5 → (w.alloc (.cells (pCells a b) 58)).cell? ⟨w.heap.size, p + k, none⟩ = some (.int .u8 ((if p + k = 0 then a else if p + k = 1 then b else 0 : Nat) : Int)) := fun k hk => by
    rw [cellH (heap_alloc_new w _)]
    exact p_at a b (p + k) hk
  have hpn : ((5 - p : Nat) : Int) = 5 - (p : Int) := by omega
  go_enter Tryz.func51, Tryz.ntmps51
  go_wp2
  clear hsl hpn
  go_loop [5, 11] (fun s i => ∃ k : Nat, k ≤ 5 - p ∧ i = .int .i64 k ∧ s = .int .u8 (orN a b p k)) (fun _ i => 5 - (intOf i).toNat)
  case atStart => exact ⟨0, Nat.zero_le _, rfl, rfl⟩
  case round =>
    obtain ⟨k, hk, rfl, rfl⟩ := hrel
    by_cases hlt : k < 5 - p
    · have hcell := hpl k (by omega)
      have h1 := orN_lt ⟨a, ha⟩ ⟨b, hb⟩ ⟨p, by omega⟩ ⟨k, by omega⟩
      have h2 : (if p + k = 0 then a else if p + k = 1 then b else 0 : Nat) < 32 := by
        split
        · omega
        · split <;> omega
      have ho := or8_lemma ⟨orN a b p k, h1⟩ ⟨_, h2⟩
      dsimp only at ho
      have HO := Go.Lib.hid ho; clear ho
      have hlt' : (k : Int) < 5 - (p : Int) := by omega
      obtain ⟨c, hc⟩ : ∃ c, (if p + k = 0 then a else if p + k = 1 then b else 0 : Nat) = c := ⟨_, rfl⟩
      have HC := Go.Lib.hid hc
      rw [hc] at hcell h2
      clear hpl hc
      go_wp2
      go_round
      case rel => exact ⟨k + 1, by omega, by go_num, by have := HO.out; rw [HC.out] at this; rw [this]; simp only [orN, HC.out]⟩
      case measure => simp [intOf]; omega
    · have hlt' : ¬ (k : Int) < 5 - (p : Int) := by omega
      have hk5 : k = 5 - p := by omega
      have HK := Go.Lib.hid hk5; clear hk5
      clear hpl
      go_wp2
      go_ret
      exact ⟨by have := HK.out; subst this; rfl, (Below.refl _ _).alloc (Nat.le_refl _) _⟩

theorem ppieces_any (a b : Nat) (w : World) (ha : a < 32) (hb : b < 32) :
    Calls Tryz.prog 29 #[.agg (pCells a b)] w fun e w' => e = .returned (.int .u8 ((a ||| b : Nat) : Int)) ∧ Below w.heap.size w w' := by
  have h0 := orN0 ⟨a, ha⟩ ⟨b, hb⟩
  have H0 := Go.Lib.hid h0; clear h0
  have hf : ∀ W, Calls Tryz.prog 51 #[.agg (pCells a b), .int .i64 0] W fun e w' => e = .returned (.int .u8 ((a ||| b : Nat) : Int)) ∧ Below W.heap.size W w' := fun W => (pfrom_any a b 0 W ha hb (by omega)).mono fun e w' ⟨h1, h2⟩ => ⟨by rw [h1]; exact congrArg (fun n : Nat => Ending.returned (.int .u8 n)) H0.out, h2⟩
  go_enter Tryz.func29, Tryz.ntmps29
  go_wp2_with (go_at_call 51; refine (hf _).mono ?_; rintro e w1 ⟨rfl, hB1⟩)
  go_ret
  exact ⟨rfl, ((Below.refl _ w).alloc (Nat.le_refl _) _).trans (hB1.mono (by simp))⟩

theorem pabove0 (a b : Nat) (w : World) (ha : a < 32) (hb : b < 32) :
    Calls Tryz.prog 75 #[.agg (pCells a b), .int .i64 0] w fun e w' => e = .returned (.int .u8 b) ∧ Below w.heap.size w w' := by
  have h0 := orN1 ⟨a, ha⟩ ⟨b, hb⟩
  have H0 := Go.Lib.hid h0; clear h0
  have hf : ∀ W, Calls Tryz.prog 51 #[.agg (pCells a b), .int .i64 1] W fun e w' => e = .returned (.int .u8 b) ∧ Below W.heap.size W w' := fun W => (pfrom_any a b 1 W ha hb (by omega)).mono fun e w' ⟨h1, h2⟩ => ⟨by rw [h1]; exact congrArg (fun n : Nat => Ending.returned (.int .u8 n)) H0.out, h2⟩
  go_enter Tryz.func75, Tryz.ntmps75
  go_wp2_with (go_at_call 51; refine (hf _).mono ?_; rintro e w1 ⟨rfl, hB1⟩)
  go_ret
  exact ⟨rfl, ((Below.refl _ w).alloc (Nat.le_refl _) _).trans (hB1.mono (by simp))⟩

theorem pabove1 (a b : Nat) (w : World) (ha : a < 32) (hb : b < 32) :
    Calls Tryz.prog 75 #[.agg (pCells a b), .int .i64 1] w fun e w' => e = .returned (.int .u8 0) ∧ Below w.heap.size w w' := by
  have h0 := orN2 ⟨a, ha⟩ ⟨b, hb⟩
  have H0 := Go.Lib.hid h0; clear h0
  have hf : ∀ W, Calls Tryz.prog 51 #[.agg (pCells a b), .int .i64 2] W fun e w' => e = .returned (.int .u8 0) ∧ Below W.heap.size W w' := fun W => (pfrom_any a b 2 W ha hb (by omega)).mono fun e w' ⟨h1, h2⟩ => ⟨by rw [h1]; exact congrArg (fun n : Nat => Ending.returned (.int .u8 n)) H0.out, h2⟩
  go_enter Tryz.func75, Tryz.ntmps75
  go_wp2_with (go_at_call 51; refine (hf _).mono ?_; rintro e w1 ⟨rfl, hB1⟩)
  go_ret
  exact ⟨rfl, ((Below.refl _ w).alloc (Nat.le_refl _) _).trans (hB1.mono (by simp))⟩

theorem psizeP_any (a b : Nat) (w : World) (ha : a < 32) (hb : b < 32) :
    Calls Tryz.prog 33 #[.agg (pCells a b)] w fun e w' => e = .returned (.int .i64 (pcnt (a ||| b))) ∧ Below w.heap.size w w' := by
  have h32 : a ||| b < 32 := Nat.or_lt_two_pow (n := 5) ha hb
  go_enter Tryz.func33, Tryz.ntmps33
  go_wp2_with (first
    | (go_at_call 29; refine (ppieces_any a b _ ha hb).mono ?_; rintro e w1 ⟨rfl, hB1⟩)
    | (go_at_call 54; refine (psize_any _ h32 _).mono ?_; rintro e w' ⟨rfl, rfl⟩))
  go_ret
  exact ⟨rfl, ((Below.refl _ w).alloc (Nat.le_refl _) _).trans (hB1.mono (by simp))⟩

end Go.Proofs.YtckchahangnfiaaGreatDoor
