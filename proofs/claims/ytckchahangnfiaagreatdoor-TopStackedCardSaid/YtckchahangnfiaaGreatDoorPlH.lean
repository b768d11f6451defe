/- PILE: fate, stands. -/
import Derived.Test.YtckchahangnfiaaGreatDoorPlG
namespace Go.Proofs.YtckchahangnfiaaGreatDoor
open Go.RowKit

theorem three_keep {N qb q : Nat} {A B C : Array Value} {u : Value} {w W w' : World} (h0 : ∀ o, W.cell? ⟨N, o, none⟩ = A[o]?) (h1 : ∀ o, W.cell? ⟨N + 1, o, none⟩ = B[o]?) (h2 : ∀ o, W.cell? ⟨N + 2, o, none⟩ = C[o]?)
    (hq : W.cell? ⟨qb, q, none⟩ = some u) (hB : Below N w W) (hz : N + 2 < W.heap.size) (hqb : qb < N) (hB1 : Below W.heap.size W w') :
    (∀ o, w'.cell? ⟨N, o, none⟩ = A[o]?) ∧ (∀ o, w'.cell? ⟨N + 1, o, none⟩ = B[o]?) ∧ (∀ o, w'.cell? ⟨N + 2, o, none⟩ = C[o]?) ∧ w'.cell? ⟨qb, q, none⟩ = some u ∧ Below N w w' ∧ N + 2 < w'.heap.size :=
  ⟨fun o => (hB1.cell (p := ⟨N, o, none⟩) (by show N < _; omega)).trans (h0 o), fun o => (hB1.cell (p := ⟨N + 1, o, none⟩) (by show N + 1 < _; omega)).trans (h1 o), fun o => (hB1.cell (p := ⟨N + 2, o, none⟩) hz).trans (h2 o),
   (hB1.cell (p := ⟨qb, q, none⟩) (by show qb < _; omega)).trans hq, hB.trans (hB1.mono (by omega)), Nat.lt_of_lt_of_le hz hB1.size⟩

theorem cell_old (W : World) (o : Obj) {b i : Nat} (h : b < W.heap.size) : (W.alloc o).cell? ⟨b, i, none⟩ = W.cell? ⟨b, i, none⟩ := ((Below.refl W.heap.size W).alloc (Nat.le_refl _) o).cell (p := ⟨b, i, none⟩) h
theorem cell_new (W : World) (c : Array Value) (t : TypeId) (i : Nat) : (W.alloc (.cells c t)).cell? ⟨W.heap.size, i, none⟩ = c[i]? := cellH (heap_alloc_new W _) i
theorem boxes2 (w : World) (A B : Array Value) (tA tB : TypeId) : (∀ o, ((w.alloc (.cells A tA)).alloc (.cells B tB)).cell? ⟨w.heap.size, o, none⟩ = A[o]?) ∧ (∀ o, ((w.alloc (.cells A tA)).alloc (.cells B tB)).cell? ⟨w.heap.size + 1, o, none⟩ = B[o]?) ∧
    Below w.heap.size w ((w.alloc (.cells A tA)).alloc (.cells B tB)) ∧ w.heap.size + 1 < ((w.alloc (.cells A tA)).alloc (.cells B tB)).heap.size := by
  refine ⟨fun o => by rw [cell_old _ _ (by simp), cell_new], fun o => ?_, ((Below.refl _ w).alloc (Nat.le_refl _) _).alloc (by simp) _, by simp⟩
  have := cell_new (w.alloc (.cells A tA)) B tB o
  rwa [World.size_alloc] at this
theorem boxes3 (w : World) (A B C : Array Value) (tA tB tC : TypeId) : (∀ o, (((w.alloc (.cells A tA)).alloc (.cells B tB)).alloc (.cells C tC)).cell? ⟨w.heap.size, o, none⟩ = A[o]?) ∧ (∀ o, (((w.alloc (.cells A tA)).alloc (.cells B tB)).alloc (.cells C tC)).cell? ⟨w.heap.size + 1, o, none⟩ = B[o]?) ∧
    (∀ o, (((w.alloc (.cells A tA)).alloc (.cells B tB)).alloc (.cells C tC)).cell? ⟨w.heap.size + 2, o, none⟩ = C[o]?) ∧ Below w.heap.size w (((w.alloc (.cells A tA)).alloc (.cells B tB)).alloc (.cells C tC)) ∧ w.heap.size + 2 < (((w.alloc (.cells A tA)).alloc (.cells B tB)).alloc (.cells C tC)).heap.size := by
  obtain ⟨h0, h1, h2, h3⟩ := boxes2 w A B tA tB
  refine ⟨fun o => by rw [cell_old _ _ (by simp; omega)]; exact h0 o, fun o => by rw [cell_old _ _ (by simp)]; exact h1 o, fun o => ?_, h2.alloc (by simp; omega) _, by simp⟩
  have := cell_new ((w.alloc (.cells A tA)).alloc (.cells B tB)) C tC o
  rwa [World.size_alloc, World.size_alloc] at this

set_option maxRecDepth 100000 in
set_option maxHeartbeats 4000000 in
theorem pfate0w (qb n qcap : Nat) (L : Int) (x y z v : Nat → Int) (a b : Nat) (t load bears : Int) (w : World) (hc : a < 32) (hi : tz a < n) (hqb : qb < w.heap.size)
    (hq : w.cell? ⟨qb, tz a * 4 + 2, none⟩ = some (.int .i64 bears)) (l0 : 0 ≤ load) (l9 : load ≤ 99) (hlt : load ≤ bears) (br0 : 0 ≤ bears) (br9 : bears ≤ 99)
    (hab : ∀ W, Calls Tryz.prog 75 #[.agg (pCells a b), .int .i64 0] W fun e w' => e = .returned (.int .u8 t) ∧ Below W.heap.size W w')
    (hof : ∀ W, Calls Tryz.prog 65 #[.agg (nCells v), .int .u8 t] W fun e w' => e = .returned (.int .i64 load) ∧ Below W.heap.size W w') :
    Calls Tryz.prog 63 #[.agg (yCells (.slice (some ⟨qb, 0, none⟩) n qcap) L x y z), .agg (pCells a b), .int .i64 0, .agg (nCells v)] w fun e w' => e = .returned (.iface 146 (.agg #[.int .i64 (bears - load)])) ∧ Below w.heap.size w w' := by
  have HAB := Go.Lib.hid hab; clear hab
  have HOF := Go.Lib.hid hof; clear hof
  have hin : (tz a : Int) < n := by omega
  have HIN := Go.Lib.hid hi; clear hi
  obtain ⟨i, hii⟩ : ∃ i, tz a = i := ⟨_, rfl⟩
  have hle := fun W => pleast_any a W hc
  rw [hii] at hq hin HIN
  simp only [hii] at hle
  clear hii
  go_enter Tryz.func63, Tryz.ntmps63
  go_wp2_with fail
  obtain ⟨b0, b1, b2, hB0, hz0⟩ := boxes3 w (yCells (.slice (some ⟨qb, 0, none⟩) n qcap) L x y z) (pCells a b) (nCells v) 55 58 53
  have hqc : (((w.alloc (.cells (yCells (.slice (some ⟨qb, 0, none⟩) n qcap) L x y z) 55)).alloc (.cells (pCells a b) 58)).alloc (.cells (nCells v) 53)).cell? ⟨qb, i * 4 + 2, none⟩ = some (.int .i64 bears) := (hB0.cell (p := ⟨qb, i * 4 + 2, none⟩) hqb).trans hq
  obtain ⟨W0, hW0⟩ : ∃ W0, ((w.alloc (.cells (yCells (.slice (some ⟨qb, 0, none⟩) n qcap) L x y z) 55)).alloc (.cells (pCells a b) 58)).alloc (.cells (nCells v) 53) = W0 := ⟨_, rfl⟩
  rw [hW0] at b0 b1 b2 hB0 hz0 hqc ⊢
  clear hW0 hq
  go_region_held3 (fun w' => (∀ o, w'.cell? ⟨w.heap.size, o, none⟩ = (yCells (.slice (some ⟨qb, 0, none⟩) n qcap) L x y z)[o]?) ∧ (∀ o, w'.cell? ⟨w.heap.size + 1, o, none⟩ = (pCells a b)[o]?) ∧ (∀ o, w'.cell? ⟨w.heap.size + 2, o, none⟩ = (nCells v)[o]?) ∧ w'.cell? ⟨qb, i * 4 + 2, none⟩ = some (.int .i64 bears) ∧ Below w.heap.size w w' ∧ w.heap.size + 2 < w'.heap.size)
    (first | (exact ⟨b0, b1, b2, hqc, hB0.drew, by show w.heap.size + 2 < W0.heap.size; omega⟩) | (go_split_ands; exact three_keep (by assumption) (by assumption) (by assumption) (by assumption) (by assumption) (by assumption) hqb (by assumption)) | go_keep)
    (first | (go_at_call 75; refine (HAB.out _).mono ?_; rintro e w1 ⟨rfl, hB1⟩) | (go_at_call 65; refine (HOF.out _).mono ?_; rintro e w1 ⟨rfl, hB1⟩) | (go_at_call 68; refine (hle _).mono ?_; rintro e w1 ⟨rfl, rfl⟩))
  rename_i hS
  obtain ⟨_, _, _, _, hB2, _⟩ := hS
  go_wp2
  go_ret
  exact ⟨rfl, hB2⟩

set_option maxRecDepth 100000 in
set_option maxHeartbeats 4000000 in
theorem pfate0c (qb n qcap : Nat) (L : Int) (x y z v : Nat → Int) (a b : Nat) (t load bears : Int) (w : World) (hc : a < 32) (hi : tz a < n) (hqb : qb < w.heap.size)
    (hq : w.cell? ⟨qb, tz a * 4 + 2, none⟩ = some (.int .i64 bears)) (l0 : 0 ≤ load) (l9 : load ≤ 99) (hlt : bears < load) (br0 : 0 ≤ bears) (br9 : bears ≤ 99)
    (hab : ∀ W, Calls Tryz.prog 75 #[.agg (pCells a b), .int .i64 0] W fun e w' => e = .returned (.int .u8 t) ∧ Below W.heap.size W w')
    (hof : ∀ W, Calls Tryz.prog 65 #[.agg (nCells v), .int .u8 t] W fun e w' => e = .returned (.int .i64 load) ∧ Below W.heap.size W w') :
    Calls Tryz.prog 63 #[.agg (yCells (.slice (some ⟨qb, 0, none⟩) n qcap) L x y z), .agg (pCells a b), .int .i64 0, .agg (nCells v)] w fun e w' => e = .returned (.iface 144 (.agg #[.int .i64 (load - bears)])) ∧ Below w.heap.size w w' := by
  have HAB := Go.Lib.hid hab; clear hab
  have HOF := Go.Lib.hid hof; clear hof
  have hin : (tz a : Int) < n := by omega
  have HIN := Go.Lib.hid hi; clear hi
  obtain ⟨i, hii⟩ : ∃ i, tz a = i := ⟨_, rfl⟩
  have hle := fun W => pleast_any a W hc
  rw [hii] at hq hin HIN
  simp only [hii] at hle
  clear hii
  go_enter Tryz.func63, Tryz.ntmps63
  go_wp2_with fail
  obtain ⟨b0, b1, b2, hB0, hz0⟩ := boxes3 w (yCells (.slice (some ⟨qb, 0, none⟩) n qcap) L x y z) (pCells a b) (nCells v) 55 58 53
  have hqc : (((w.alloc (.cells (yCells (.slice (some ⟨qb, 0, none⟩) n qcap) L x y z) 55)).alloc (.cells (pCells a b) 58)).alloc (.cells (nCells v) 53)).cell? ⟨qb, i * 4 + 2, none⟩ = some (.int .i64 bears) := (hB0.cell (p := ⟨qb, i * 4 + 2, none⟩) hqb).trans hq
  obtain ⟨W0, hW0⟩ : ∃ W0, ((w.alloc (.cells (yCells (.slice (some ⟨qb, 0, none⟩) n qcap) L x y z) 55)).alloc (.cells (pCells a b) 58)).alloc (.cells (nCells v) 53) = W0 := ⟨_, rfl⟩
  rw [hW0] at b0 b1 b2 hB0 hz0 hqc ⊢
  clear hW0 hq
  go_region_held3 (fun w' => (∀ o, w'.cell? ⟨w.heap.size, o, none⟩ = (yCells (.slice (some ⟨qb, 0, none⟩) n qcap) L x y z)[o]?) ∧ (∀ o, w'.cell? ⟨w.heap.size + 1, o, none⟩ = (pCells a b)[o]?) ∧ (∀ o, w'.cell? ⟨w.heap.size + 2, o, none⟩ = (nCells v)[o]?) ∧ w'.cell? ⟨qb, i * 4 + 2, none⟩ = some (.int .i64 bears) ∧ Below w.heap.size w w' ∧ w.heap.size + 2 < w'.heap.size)
    (first | (exact ⟨b0, b1, b2, hqc, hB0.drew, by show w.heap.size + 2 < W0.heap.size; omega⟩) | (go_split_ands; exact three_keep (by assumption) (by assumption) (by assumption) (by assumption) (by assumption) (by assumption) hqb (by assumption)) | go_keep)
    (first | (go_at_call 75; refine (HAB.out _).mono ?_; rintro e w1 ⟨rfl, hB1⟩) | (go_at_call 65; refine (HOF.out _).mono ?_; rintro e w1 ⟨rfl, hB1⟩) | (go_at_call 68; refine (hle _).mono ?_; rintro e w1 ⟨rfl, rfl⟩))
  rename_i hS
  obtain ⟨_, _, _, _, hB2, _⟩ := hS
  go_wp2
  go_ret
  exact ⟨rfl, hB2⟩

set_option maxRecDepth 100000 in
set_option maxHeartbeats 4000000 in
theorem pfate1w (qb n qcap : Nat) (L : Int) (x y z v : Nat → Int) (a b : Nat) (t load bears : Int) (w : World) (hc : b < 32) (hi : tz b < n) (hqb : qb < w.heap.size)
    (hq : w.cell? ⟨qb, tz b * 4 + 2, none⟩ = some (.int .i64 bears)) (l0 : 0 ≤ load) (l9 : load ≤ 99) (hlt : load ≤ bears) (br0 : 0 ≤ bears) (br9 : bears ≤ 99)
    (hab : ∀ W, Calls Tryz.prog 75 #[.agg (pCells a b), .int .i64 1] W fun e w' => e = .returned (.int .u8 t) ∧ Below W.heap.size W w')
    (hof : ∀ W, Calls Tryz.prog 65 #[.agg (nCells v), .int .u8 t] W fun e w' => e = .returned (.int .i64 load) ∧ Below W.heap.size W w') :
    Calls Tryz.prog 63 #[.agg (yCells (.slice (some ⟨qb, 0, none⟩) n qcap) L x y z), .agg (pCells a b), .int .i64 1, .agg (nCells v)] w fun e w' => e = .returned (.iface 146 (.agg #[.int .i64 (bears - load)])) ∧ Below w.heap.size w w' := by
  have HAB := Go.Lib.hid hab; clear hab
  have HOF := Go.Lib.hid hof; clear hof
  have hin : (tz b : Int) < n := by omega
  have HIN := Go.Lib.hid hi; clear hi
  obtain ⟨i, hii⟩ : ∃ i, tz b = i := ⟨_, rfl⟩
  have hle := fun W => pleast_any b W hc
  rw [hii] at hq hin HIN
  simp only [hii] at hle
  clear hii
  go_enter Tryz.func63, Tryz.ntmps63
  go_wp2_with fail
  obtain ⟨b0, b1, b2, hB0, hz0⟩ := boxes3 w (yCells (.slice (some ⟨qb, 0, none⟩) n qcap) L x y z) (pCells a b) (nCells v) 55 58 53
  have hqc : (((w.alloc (.cells (yCells (.slice (some ⟨qb, 0, none⟩) n qcap) L x y z) 55)).alloc (.cells (pCells a b) 58)).alloc (.cells (nCells v) 53)).cell? ⟨qb, i * 4 + 2, none⟩ = some (.int .i64 bears) := (hB0.cell (p := ⟨qb, i * 4 + 2, none⟩) hqb).trans hq
  obtain ⟨W0, hW0⟩ : ∃ W0, ((w.alloc (.cells (yCells (.slice (some ⟨qb, 0, none⟩) n qcap) L x y z) 55)).alloc (.cells (pCells a b) 58)).alloc (.cells (nCells v) 53) = W0 := ⟨_, rfl⟩
  rw [hW0] at b0 b1 b2 hB0 hz0 hqc ⊢
  clear hW0 hq
  go_region_held3 (fun w' => (∀ o, w'.cell? ⟨w.heap.size, o, none⟩ = (yCells (.slice (some ⟨qb, 0, none⟩) n qcap) L x y z)[o]?) ∧ (∀ o, w'.cell? ⟨w.heap.size + 1, o, none⟩ = (pCells a b)[o]?) ∧ (∀ o, w'.cell? ⟨w.heap.size + 2, o, none⟩ = (nCells v)[o]?) ∧ w'.cell? ⟨qb, i * 4 + 2, none⟩ = some (.int .i64 bears) ∧ Below w.heap.size w w' ∧ w.heap.size + 2 < w'.heap.size)
    (first | (exact ⟨b0, b1, b2, hqc, hB0.drew, by show w.heap.size + 2 < W0.heap.size; omega⟩) | (go_split_ands; exact three_keep (by assumption) (by assumption) (by assumption) (by assumption) (by assumption) (by assumption) hqb (by assumption)) | go_keep)
    (first | (go_at_call 75; refine (HAB.out _).mono ?_; rintro e w1 ⟨rfl, hB1⟩) | (go_at_call 65; refine (HOF.out _).mono ?_; rintro e w1 ⟨rfl, hB1⟩) | (go_at_call 68; refine (hle _).mono ?_; rintro e w1 ⟨rfl, rfl⟩))
  rename_i hS
  obtain ⟨_, _, _, _, hB2, _⟩ := hS
  go_wp2
  go_ret
  exact ⟨rfl, hB2⟩

set_option maxRecDepth 100000 in
set_option maxHeartbeats 4000000 in
theorem pfate1c (qb n qcap : Nat) (L : Int) (x y z v : Nat → Int) (a b : Nat) (t load bears : Int) (w : World) (hc : b < 32) (hi : tz b < n) (hqb : qb < w.heap.size)
    (hq : w.cell? ⟨qb, tz b * 4 + 2, none⟩ = some (.int .i64 bears)) (l0 : 0 ≤ load) (l9 : load ≤ 99) (hlt : bears < load) (br0 : 0 ≤ bears) (br9 : bears ≤ 99)
    (hab : ∀ W, Calls Tryz.prog 75 #[.agg (pCells a b), .int .i64 1] W fun e w' => e = .returned (.int .u8 t) ∧ Below W.heap.size W w')
    (hof : ∀ W, Calls Tryz.prog 65 #[.agg (nCells v), .int .u8 t] W fun e w' => e = .returned (.int .i64 load) ∧ Below W.heap.size W w') :
    Calls Tryz.prog 63 #[.agg (yCells (.slice (some ⟨qb, 0, none⟩) n qcap) L x y z), .agg (pCells a b), .int .i64 1, .agg (nCells v)] w fun e w' => e = .returned (.iface 144 (.agg #[.int .i64 (load - bears)])) ∧ Below w.heap.size w w' := by
  have HAB := Go.Lib.hid hab; clear hab
  have HOF := Go.Lib.hid hof; clear hof
  have hin : (tz b : Int) < n := by omega
  have HIN := Go.Lib.hid hi; clear hi
  obtain ⟨i, hii⟩ : ∃ i, tz b = i := ⟨_, rfl⟩
  have hle := fun W => pleast_any b W hc
  rw [hii] at hq hin HIN
  simp only [hii] at hle
  clear hii
  go_enter Tryz.func63, Tryz.ntmps63
  go_wp2_with fail
  obtain ⟨b0, b1, b2, hB0, hz0⟩ := boxes3 w (yCells (.slice (some ⟨qb, 0, none⟩) n qcap) L x y z) (pCells a b) (nCells v) 55 58 53
  have hqc : (((w.alloc (.cells (yCells (.slice (some ⟨qb, 0, none⟩) n qcap) L x y z) 55)).alloc (.cells (pCells a b) 58)).alloc (.cells (nCells v) 53)).cell? ⟨qb, i * 4 + 2, none⟩ = some (.int .i64 bears) := (hB0.cell (p := ⟨qb, i * 4 + 2, none⟩) hqb).trans hq
  obtain ⟨W0, hW0⟩ : ∃ W0, ((w.alloc (.cells (yCells (.slice (some ⟨qb, 0, none⟩) n qcap) L x y z) 55)).alloc (.cells (pCells a b) 58)).alloc (.cells (nCells v) 53) = W0 := ⟨_, rfl⟩
  rw [hW0] at b0 b1 b2 hB0 hz0 hqc ⊢
  clear hW0 hq
  go_region_held3 (fun w' => (∀ o, w'.cell? ⟨w.heap.size, o, none⟩ = (yCells (.slice (some ⟨qb, 0, none⟩) n qcap) L x y z)[o]?) ∧ (∀ o, w'.cell? ⟨w.heap.size + 1, o, none⟩ = (pCells a b)[o]?) ∧ (∀ o, w'.cell? ⟨w.heap.size + 2, o, none⟩ = (nCells v)[o]?) ∧ w'.cell? ⟨qb, i * 4 + 2, none⟩ = some (.int .i64 bears) ∧ Below w.heap.size w w' ∧ w.heap.size + 2 < w'.heap.size)
    (first | (exact ⟨b0, b1, b2, hqc, hB0.drew, by show w.heap.size + 2 < W0.heap.size; omega⟩) | (go_split_ands; exact three_keep (by assumption) (by assumption) (by assumption) (by assumption) (by assumption) (by assumption) hqb (by assumption)) | go_keep)
    (first | (go_at_call 75; refine (HAB.out _).mono ?_; rintro e w1 ⟨rfl, hB1⟩) | (go_at_call 65; refine (HOF.out _).mono ?_; rintro e w1 ⟨rfl, hB1⟩) | (go_at_call 68; refine (hle _).mono ?_; rintro e w1 ⟨rfl, rfl⟩))
  rename_i hS
  obtain ⟨_, _, _, _, hB2, _⟩ := hS
  go_wp2
  go_ret
  exact ⟨rfl, hB2⟩

end Go.Proofs.YtckchahangnfiaaGreatDoor
