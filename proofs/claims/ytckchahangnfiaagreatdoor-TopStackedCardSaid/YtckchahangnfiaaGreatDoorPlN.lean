/- PILE: all, the closure of on, filter. -/
import Derived.Test.YtckchahangnfiaaGreatDoorPlM
namespace Go.Proofs.YtckchahangnfiaaGreatDoor
open Go.RowKit

theorem low_lemma : ∀ n : Fin 6, ((2 : Int) ^ n.1 - 1) % 256 = (low n.1 : Int) := by decide +kernel

set_option maxRecDepth 100000 in
theorem pyall_any (P : Option Addr) (n qcap : Nat) (L : Int) (x y z : Nat → Int) (w : World) (hn : n ≤ 5) :
    Calls Tryz.prog 27 #[.agg (yCells (.slice P n qcap) L x y z)] w fun e w' => e = .returned (.int .u8 (low n)) ∧ Below w.heap.size w w' := by
  have hl := low_lemma ⟨n, by omega⟩
  have HL := Go.Lib.hid hl; clear hl
  go_enter Tryz.func27, Tryz.ntmps27
  go_wp2
  go_ret
  exact ⟨congrArg (fun x => Ending.returned (.int .u8 x)) HL.out, (Below.refl _ _).alloc (Nat.le_refl _) _⟩

/-- What the closure of 'on' sees: the pile's box and the yard's. -/
structure Seen (W : World) (pb yb : Nat) (a : Nat) (Y : Array Value) : Prop where
  pile : W.heap[pb]? = some (.cells (pOne a) 58 (0, 0))
  yard : W.heap[yb]? = some (.cells Y 55 (0, 0))
theorem Seen.below {W W' : World} {pb yb a N : Nat} {Y : Array Value} (h : Seen W pb yb a Y) (hB : Below N W W') (h1 : pb < N) (h2 : yb < N) : Seen W' pb yb a Y :=
  ⟨(hB.block _ h1).trans h.pile, (hB.block _ h2).trans h.yard⟩

theorem But.below_new {N : Nat} {w W W' : World} (h : Below N w W) (hz : N < W.heap.size) (hN : N ≤ w.heap.size) (hb : But N W W') : Below N w W' := h.trans (hb.below (Nat.le_refl _) (Nat.le_of_lt hz))

set_option maxRecDepth 100000 in
set_option maxHeartbeats 4000000 in
theorem pon1_any (pb yb j a b : Nat) (Y : Array Value) (hY : Y.size = 17) (r : Bool) (w : World) (hj : j < 5) (ha : a < 32) (ha1 : pcnt a = 1) (hb : (2 : Int) ^ j % 256 = (b : Int)) (H : Seen w pb yb a Y)
    (hsu : ∀ W, Below w.heap.size w W → Calls Tryz.prog 34 #[.agg Y, .agg (pCells a b)] W fun e w' => e = .returned (.bool r) ∧ Below W.heap.size W w') :
    Calls Tryz.prog 32 #[.int .i64 j, .pointer (some ⟨pb, 0, none⟩), .pointer (some ⟨yb, 0, none⟩)] w fun e w' => e = .returned (.bool r) ∧ Below w.heap.size w w' := by
  have HSU := Go.Lib.hid hsu; clear hsu
  have hpb : pb < w.heap.size := (Array.getElem?_eq_some_iff.1 H.pile).1
  have hyb : yb < w.heap.size := (Array.getElem?_eq_some_iff.1 H.yard).1
  have hpcs : ∀ o, w.cell? ⟨pb, o, none⟩ = (pOne a)[o]? := fun o => cellH H.pile o
  have hsz : ∀ W, Calls Tryz.prog 33 #[.agg (pOne a)] W fun e w' => e = .returned (.int .i64 1) ∧ Below W.heap.size W w' := fun W => psize1 a W ha ha1
  have HSZ := Go.Lib.hid hsz; clear hsz
  have HS := Go.Lib.hid H; clear H
  go_enter Tryz.func32, Tryz.ntmps32
  go_wp2_with fail
  have hq := heap_alloc_new w (.cells (pOne a) 58)
  have hB0 : Below w.heap.size w (w.alloc (.cells (pOne a) 58)) := (Below.refl _ w).alloc (Nat.le_refl _) _
  change Code.wp _ _ _ _ (w.alloc (.cells (pOne a) 58))
  obtain ⟨W0, hW0⟩ : ∃ W0, w.alloc (.cells (pOne a) 58) = W0 := ⟨_, rfl⟩
  have hz0 : W0.heap.size = w.heap.size + 1 := by rw [← hW0]; simp
  rw [hW0] at hq hB0 ⊢
  clear hW0
  have hs0 : W0.heap[pb]? = some (.cells (pOne a) 58 (0, 0)) := (hB0.block _ hpb).trans HS.out.pile
  have HQ := Go.Lib.hid hq; clear hq
  clear hpcs
  refine wp_region_held_drew (S := fun W => W.heap[pb]? = some (.cells (pOne a) 58 (0, 0))) (by kernel_rfl) hs0 (fun hS0 => ?_)
  refine wpAnyH_take (i := 0) (v := .agg (pOne a)) rfl (by kernel_rfl) (by kernel_rfl) (by kernel_rfl) (fun _ _ _ h => h) (yieldsIf_load_whole (by rfl) 58 _ rfl pb rfl (fun _ h => h) Tryz.underlying58 rfl (by kernel_rfl)) hS0 ?_
  simp only [Act.put, List.setIfInBounds_toArray, List.set_cons_zero, List.set_cons_succ]
  refine wpAnyH_take (i := 2) (v := .int .i64 j) rfl (by kernel_rfl) (by kernel_rfl) (by kernel_rfl) (fun _ _ _ h => h) (.inl ⟨by rfl, fun w _ => by go_simp; try rfl⟩) hS0 ?_
  simp only [Act.put, List.setIfInBounds_toArray, List.set_cons_zero, List.set_cons_succ]
  refine wpAnyH_take (i := 3) (v := .int .u8 b) rfl (by kernel_rfl) (by kernel_rfl) (by kernel_rfl) (fun _ _ _ h => h) (.inl ⟨by rfl, fun w _ => by go_simp; first | done | exact hb | (rw [IntKind.wrap_u8]; exact hb)⟩) hS0 ?_
  simp only [Act.put, List.setIfInBounds_toArray, List.set_cons_zero, List.set_cons_succ]
  refine wpAnyH_ready (rs := [1]) (by kernel_rfl) (by simp) ?_
  refine AllReadyH.cons rfl (fun K hK => ?_) AllReadyH.nil
  go_simp
  refine (HSZ.out _).mono ?_
  rintro e w1 ⟨rfl, hB1⟩
  have hB1' : Below W0.heap.size W0 w1 := (Below.refl _ W0).drew.trans hB1
  have hs1 : w1.heap[pb]? = some (.cells (pOne a) 58 (0, 0)) := (hB1'.block _ (by omega)).trans hs0
  have hq1 : w1.heap[w.heap.size]? = some (.cells (pOne a) 58 (0, 0)) := (hB1'.block _ (by omega)).trans HQ.out
  have hBw : Below w.heap.size w w1 := hB0.trans (hB1'.mono (by omega))
  have d0 : w1.cell? ⟨w.heap.size, 1, none⟩ = some (.int .u8 0) := cellH hq1 1
  have d1 : w1.frozen? ⟨w.heap.size, 1, none⟩ = false := freeH hq1 1
  refine hK.out _ _ hs1 (fun hS1 => ?_)
  clear hK K
  refine wpAnyH_ready (rs := [4]) (by kernel_rfl) (by simp) ?_
  refine AllReadyH.cons rfl (fun K hK => ?_) AllReadyH.nil
  go_simp
  refine hK.out _ _ hs1 (fun hS1 => ?_)
  clear hK K
  refine wpAnyH_ready (rs := [5]) (by kernel_rfl) (by simp) ?_
  refine AllReadyH.cons rfl (fun K hK => ?_) AllReadyH.nil
  go_simp
  have hq2 := setH hq1 1 (.int .u8 (b : Int))
  have hbt : But w.heap.size w1 (w1.setCell ⟨w.heap.size, 1, none⟩ (.int .u8 (b : Int))) := (But.refl _ _).set _ _
  have hz1 : w.heap.size < w1.heap.size := by have := hB1'.size; omega
  have hs2 : (w1.setCell ⟨w.heap.size, 1, none⟩ (.int .u8 (b : Int))).heap[pb]? = some (.cells (pOne a) 58 (0, 0)) := (hbt.block _ (by omega) (by omega)).trans hs1
  refine hK.out _ _ hs2 (fun hS1 => ?_)
  clear hK K
  refine wpAnyH_done (by kernel_rfl) ?_ _
  have hBw2 : Below w.heap.size w (w1.setCell ⟨w.heap.size, 1, none⟩ (.int .u8 (b : Int))) := hBw.trans (hbt.below (Nat.le_refl _) (by omega))
  obtain ⟨W2, hW2⟩ : ∃ W2, w1.setCell ⟨w.heap.size, 1, none⟩ (.int .u8 (b : Int)) = W2 := ⟨_, rfl⟩
  rw [hW2] at hq2 hBw2 ⊢
  clear hW2 hbt hs2 hS0 hS1 d0 d1 hq1 hs1 hB1 hs0
  have hq3 : W2.heap[w.heap.size]? = some (.cells (pCells a b) 58 (0, 0)) := hq2
  have hy3 : W2.heap[yb]? = some (.cells Y 55 (0, 0)) := (hBw2.block _ hyb).trans HS.out.yard
  have HQ3 := Go.Lib.hid hq3; clear hq3 hq2
  have HY3 := Go.Lib.hid hy3; clear hy3
  go_wp2_with (first
    | (with_reducible refine wpList_load_whole rfl 55 (.tmp 2) rfl yb rfl HY3.out Tryz.underlying55 rfl (by rw [hY]; kernel_rfl) ?_)
    | (with_reducible refine wpList_load_whole rfl 58 (.tmp 5) rfl w.heap.size rfl HQ3.out Tryz.underlying58 rfl (by kernel_rfl) ?_)
    | (go_at_call 34; refine (HSU.out _ hBw2).mono ?_; rintro e w3 ⟨rfl, hB3⟩))
  go_ret
  exact ⟨rfl, hBw2.trans (hB3.mono hBw2.size)⟩

end Go.Proofs.YtckchahangnfiaaGreatDoor
