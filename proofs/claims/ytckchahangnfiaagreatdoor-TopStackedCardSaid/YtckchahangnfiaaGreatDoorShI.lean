/- SHELF: judge. -/
import Derived.Test.YtckchahangnfiaaGreatDoorShH
import Derived.Deep.RegionHeld3
import Derived.Deep.RegionWith
namespace Go.Proofs.YtckchahangnfiaaGreatDoor
open Go.RowKit

theorem judge_keep {bb n bcap i k : Nat} {hf : Nat → Int} {w W w' : World} (hB1 : Below W.heap.size W w') (hB : Below w.heap.size w W) (hz : w.heap.size < W.heap.size) (hbb : bb < w.heap.size)
    (h0 : W.cell? ⟨w.heap.size, 1, none⟩ = some (.slice (some ⟨bb, 0, none⟩) n bcap)) (h1 : W.cell? ⟨bb, i * 3 + 1, none⟩ = some (.int .i64 (hf i))) (h2 : W.cell? ⟨bb, i * 3 + 2, none⟩ = some (.int .i64 (hf i)))
    (h3 : W.cell? ⟨bb, k * 3 + 1, none⟩ = some (.int .i64 (hf k))) (h4 : W.cell? ⟨bb, k * 3 + 2, none⟩ = some (.int .i64 (hf k))) :
    w'.cell? ⟨w.heap.size, 1, none⟩ = some (.slice (some ⟨bb, 0, none⟩) n bcap) ∧ w'.cell? ⟨bb, i * 3 + 1, none⟩ = some (.int .i64 (hf i)) ∧ w'.cell? ⟨bb, i * 3 + 2, none⟩ = some (.int .i64 (hf i)) ∧ w'.cell? ⟨bb, k * 3 + 1, none⟩ = some (.int .i64 (hf k)) ∧ w'.cell? ⟨bb, k * 3 + 2, none⟩ = some (.int .i64 (hf k)) ∧ Below w.heap.size w w' ∧ w.heap.size < w'.heap.size := by
  have c : ∀ b o, b ≤ w.heap.size → w'.cell? ⟨b, o, none⟩ = W.cell? ⟨b, o, none⟩ := fun b o h => hB1.cell (p := ⟨b, o, none⟩) (by show b < _; omega)
  have := hB1.size
  exact ⟨(c _ _ (Nat.le_refl _)).trans h0, (c _ _ (by omega)).trans h1, (c _ _ (by omega)).trans h2, (c _ _ (by omega)).trans h3, (c _ _ (by omega)).trans h4, hB.trans (hB1.mono (by omega)), by omega⟩

set_option maxRecDepth 100000 in
set_option maxHeartbeats 4000000 in
theorem judge_always (bb n bcap i k : Nat) (hf : Nat → Int) (L P M : Value) (c : Nat) (w : World) (hn : n ≤ 5) (hi : i < n) (hk : k < n) (hbb : bb < w.heap.size) (hb : BagsAt w bb n hf) (hik : hf i < hf k) :
    Calls Tryz.prog 19 #[.agg (cellsAt L (.slice (some ⟨bb, 0, none⟩) n bcap) P M c), .int .i64 i, .int .i64 k] w fun e w' =>
      e = .returned (.iface 98 (.agg #[])) ∧ Below w.heap.size w w' := by
  have hmf : ∀ (fn : Fn) (first cap : Array Value) (w : World), (Instr.makeFunc fn first cap).run Tryz.prog w = .ok (.func fn first cap) w := fun _ _ _ _ => rfl
  have na : ∀ w, (nilAhead 293 98 (.agg #[]) "gladstone/shelf.holds").run Tryz.prog w = .ok (some false) w := fun _ => by kernel_rfl
  have hm : ∀ w, (method 293 98 (.agg #[]) "gladstone/shelf.holds").run Tryz.prog w = .ok (102, .agg #[]) w := fun _ => by kernel_rfl
  have c1 := hb.lo i hi
  have c2 := hb.hi i hi
  have c3 := hb.lo k hk
  have c4 := hb.hi k hk
  have HB := Go.Lib.hid hb; clear hb
  have q1 : (i : Int) < (n : Int) := by omega
  have q2 : (k : Int) < (n : Int) := by omega
  go_enter Tryz.func19, Tryz.ntmps19
  go_wp2
  have z1 := heap_alloc_new w (.cells (cellsAt L (.slice (some ⟨bb, 0, none⟩) n bcap) P M c) 66)
  have z2 := heap_alloc_new (w.alloc (.cells (cellsAt L (.slice (some ⟨bb, 0, none⟩) n bcap) P M c) 66)) (.cells #[.iface 98 (.agg #[]), .iface 99 (.agg #[]), .iface 100 (.agg #[])] 74)
  rw [World.size_alloc] at z2
  have z1' := (Below.heap_alloc (w.alloc (.cells (cellsAt L (.slice (some ⟨bb, 0, none⟩) n bcap) P M c) 66)) (.cells #[.iface 98 (.agg #[]), .iface 99 (.agg #[]), .iface 100 (.agg #[])] 74) w.heap.size (by simp)).trans z1
  have hB0 : Below w.heap.size w ((w.alloc (.cells (cellsAt L (.slice (some ⟨bb, 0, none⟩) n bcap) P M c) 66)).alloc (.cells #[.iface 98 (.agg #[]), .iface 99 (.agg #[]), .iface 100 (.agg #[])] 74)) := ((Below.refl _ w).alloc (Nat.le_refl _) _).alloc (by simp) _
  obtain ⟨W0, hW0⟩ : ∃ W0, (w.alloc (.cells (cellsAt L (.slice (some ⟨bb, 0, none⟩) n bcap) P M c) 66)).alloc (.cells #[.iface 98 (.agg #[]), .iface 99 (.agg #[]), .iface 100 (.agg #[])] 74) = W0 := ⟨_, rfl⟩
  have hz0 : W0.heap.size = w.heap.size + 2 := by rw [← hW0]; simp
  rw [hW0] at z1' z2 hB0 ⊢
  clear hW0 z1
  have s1 : W0.cell? ⟨w.heap.size, 1, none⟩ = some (.slice (some ⟨bb, 0, none⟩) n bcap) := cellH z1' 1
  have s2 : W0.cell? ⟨w.heap.size + 1, 0, none⟩ = some (.iface 98 (.agg #[])) := cellH z2 0
  have d1 : W0.cell? ⟨bb, i * 3 + 1, none⟩ = some (.int .i64 (hf i)) := (hB0.cell (p := ⟨bb, _, none⟩) hbb).trans c1
  have d2 : W0.cell? ⟨bb, i * 3 + 2, none⟩ = some (.int .i64 (hf i)) := (hB0.cell (p := ⟨bb, _, none⟩) hbb).trans c2
  have d3 : W0.cell? ⟨bb, k * 3 + 1, none⟩ = some (.int .i64 (hf k)) := (hB0.cell (p := ⟨bb, _, none⟩) hbb).trans c3
  have d4 : W0.cell? ⟨bb, k * 3 + 2, none⟩ = some (.int .i64 (hf k)) := (hB0.cell (p := ⟨bb, _, none⟩) hbb).trans c4
  clear z1' z2 c1 c2 c3 c4
  go_loopw [7, 16] (fun _ i wr => i = .int .i64 0 ∧ wr = W0) (fun _ _ _ => 0)
  case atStart => exact ⟨rfl, rfl⟩
  case round =>
    obtain ⟨rfl, rfl⟩ := hrel
    have HIK := Go.Lib.hid hik; clear hik
    go_wp2_with fail
    go_region_held3 (fun w' => w'.cell? ⟨w.heap.size, 1, none⟩ = some (.slice (some ⟨bb, 0, none⟩) n bcap) ∧ w'.cell? ⟨bb, i * 3 + 1, none⟩ = some (.int .i64 (hf i)) ∧ w'.cell? ⟨bb, i * 3 + 2, none⟩ = some (.int .i64 (hf i)) ∧ w'.cell? ⟨bb, k * 3 + 1, none⟩ = some (.int .i64 (hf k)) ∧ w'.cell? ⟨bb, k * 3 + 2, none⟩ = some (.int .i64 (hf k)) ∧ Below w.heap.size w w' ∧ w.heap.size < w'.heap.size)
      (first | (exact ⟨s1, d1, d2, d3, d4, hB0.drew, by show w.heap.size < wr.heap.size; omega⟩) | (go_split_ands; exact judge_keep (by assumption) (by assumption) (by assumption) hbb (by assumption) (by assumption) (by assumption) (by assumption) (by assumption)) | go_keep)
      (first | (go_at_call 102; refine (always_holds _ _ _ _ _).mono ?_; rintro e w1 ⟨rfl, hB1⟩))
    rename_i hS
    obtain ⟨_, _, _, _, _, hB2, _⟩ := hS
    have hik := HIK.out
    go_wp2
    go_ret
    exact ⟨rfl, hB2⟩

def JudgeS (bb n bcap i k : Nat) (hf : Nat → Int) (w w' : World) : Prop := w'.cell? ⟨w.heap.size, 1, none⟩ = some (.slice (some ⟨bb, 0, none⟩) n bcap) ∧ w'.cell? ⟨bb, i * 3 + 1, none⟩ = some (.int .i64 (hf i)) ∧ w'.cell? ⟨bb, i * 3 + 2, none⟩ = some (.int .i64 (hf i)) ∧ w'.cell? ⟨bb, k * 3 + 1, none⟩ = some (.int .i64 (hf k)) ∧ w'.cell? ⟨bb, k * 3 + 2, none⟩ = some (.int .i64 (hf k)) ∧ Below w.heap.size w w' ∧ w.heap.size + 1 < w'.heap.size
theorem judge_keep2 {bb n bcap i k : Nat} {hf : Nat → Int} {w W w' : World} (hB1 : Below W.heap.size W w') (hB : Below w.heap.size w W) (hz : w.heap.size + 1 < W.heap.size) (hbb : bb < w.heap.size)
    (h0 : W.cell? ⟨w.heap.size, 1, none⟩ = some (.slice (some ⟨bb, 0, none⟩) n bcap)) (h1 : W.cell? ⟨bb, i * 3 + 1, none⟩ = some (.int .i64 (hf i))) (h2 : W.cell? ⟨bb, i * 3 + 2, none⟩ = some (.int .i64 (hf i)))
    (h3 : W.cell? ⟨bb, k * 3 + 1, none⟩ = some (.int .i64 (hf k))) (h4 : W.cell? ⟨bb, k * 3 + 2, none⟩ = some (.int .i64 (hf k))) (h5 : W.cell? ⟨w.heap.size + 1, 1, none⟩ = some (.iface 99 (.agg #[]))) :
    w'.cell? ⟨w.heap.size, 1, none⟩ = some (.slice (some ⟨bb, 0, none⟩) n bcap) ∧ w'.cell? ⟨bb, i * 3 + 1, none⟩ = some (.int .i64 (hf i)) ∧ w'.cell? ⟨bb, i * 3 + 2, none⟩ = some (.int .i64 (hf i)) ∧ w'.cell? ⟨bb, k * 3 + 1, none⟩ = some (.int .i64 (hf k)) ∧ w'.cell? ⟨bb, k * 3 + 2, none⟩ = some (.int .i64 (hf k)) ∧ Below w.heap.size w w' ∧ w.heap.size + 1 < w'.heap.size ∧ w'.cell? ⟨w.heap.size + 1, 1, none⟩ = some (.iface 99 (.agg #[])) := by
  have c : ∀ b o, b ≤ w.heap.size + 1 → w'.cell? ⟨b, o, none⟩ = W.cell? ⟨b, o, none⟩ := fun b o h => hB1.cell (p := ⟨b, o, none⟩) (by show b < _; omega)
  have := hB1.size
  exact ⟨(c _ _ (by omega)).trans h0, (c _ _ (by omega)).trans h1, (c _ _ (by omega)).trans h2, (c _ _ (by omega)).trans h3, (c _ _ (by omega)).trans h4, hB.trans (hB1.mono (by omega)), by omega, (c _ _ (Nat.le_refl _)).trans h5⟩

set_option maxRecDepth 100000 in
set_option maxHeartbeats 4000000 in
theorem judge_noWay (bb n bcap i k : Nat) (hf : Nat → Int) (L P M : Value) (c : Nat) (w : World) (hn : n ≤ 5) (hi : i < n) (hk : k < n) (hbb : bb < w.heap.size) (hb : BagsAt w bb n hf) (hik : hf k ≤ hf i) :
    Calls Tryz.prog 19 #[.agg (cellsAt L (.slice (some ⟨bb, 0, none⟩) n bcap) P M c), .int .i64 i, .int .i64 k] w fun e w' =>
      e = .returned (.iface 99 (.agg #[])) ∧ Below w.heap.size w w' := by
  have hmf : ∀ (fn : Fn) (first cap : Array Value) (w : World), (Instr.makeFunc fn first cap).run Tryz.prog w = .ok (.func fn first cap) w := fun _ _ _ _ => rfl
  have na : ∀ w, (nilAhead 293 98 (.agg #[]) "gladstone/shelf.holds").run Tryz.prog w = .ok (some false) w := fun _ => by kernel_rfl
  have hm : ∀ w, (method 293 98 (.agg #[]) "gladstone/shelf.holds").run Tryz.prog w = .ok (102, .agg #[]) w := fun _ => by kernel_rfl
  have na2 : ∀ w, (nilAhead 293 99 (.agg #[]) "gladstone/shelf.holds").run Tryz.prog w = .ok (some false) w := fun _ => by kernel_rfl
  have hm2 : ∀ w, (method 293 99 (.agg #[]) "gladstone/shelf.holds").run Tryz.prog w = .ok (103, .agg #[]) w := fun _ => by kernel_rfl
  have c1 := hb.lo i hi
  have c2 := hb.hi i hi
  have c3 := hb.lo k hk
  have c4 := hb.hi k hk
  have HB := Go.Lib.hid hb; clear hb
  have q1 : (i : Int) < (n : Int) := by omega
  have q2 : (k : Int) < (n : Int) := by omega
  go_enter Tryz.func19, Tryz.ntmps19
  go_wp2
  have z1 := heap_alloc_new w (.cells (cellsAt L (.slice (some ⟨bb, 0, none⟩) n bcap) P M c) 66)
  have z2 := heap_alloc_new (w.alloc (.cells (cellsAt L (.slice (some ⟨bb, 0, none⟩) n bcap) P M c) 66)) (.cells #[.iface 98 (.agg #[]), .iface 99 (.agg #[]), .iface 100 (.agg #[])] 74)
  rw [World.size_alloc] at z2
  have z1' := (Below.heap_alloc (w.alloc (.cells (cellsAt L (.slice (some ⟨bb, 0, none⟩) n bcap) P M c) 66)) (.cells #[.iface 98 (.agg #[]), .iface 99 (.agg #[]), .iface 100 (.agg #[])] 74) w.heap.size (by simp)).trans z1
  have hB0 : Below w.heap.size w ((w.alloc (.cells (cellsAt L (.slice (some ⟨bb, 0, none⟩) n bcap) P M c) 66)).alloc (.cells #[.iface 98 (.agg #[]), .iface 99 (.agg #[]), .iface 100 (.agg #[])] 74)) := ((Below.refl _ w).alloc (Nat.le_refl _) _).alloc (by simp) _
  obtain ⟨W0, hW0⟩ : ∃ W0, (w.alloc (.cells (cellsAt L (.slice (some ⟨bb, 0, none⟩) n bcap) P M c) 66)).alloc (.cells #[.iface 98 (.agg #[]), .iface 99 (.agg #[]), .iface 100 (.agg #[])] 74) = W0 := ⟨_, rfl⟩
  have hz0 : W0.heap.size = w.heap.size + 2 := by rw [← hW0]; simp
  rw [hW0] at z1' z2 hB0 ⊢
  clear hW0 z1
  have s1 : W0.cell? ⟨w.heap.size, 1, none⟩ = some (.slice (some ⟨bb, 0, none⟩) n bcap) := cellH z1' 1
  have s2 : W0.cell? ⟨w.heap.size + 1, 0, none⟩ = some (.iface 98 (.agg #[])) := cellH z2 0
  have d1 : W0.cell? ⟨bb, i * 3 + 1, none⟩ = some (.int .i64 (hf i)) := (hB0.cell (p := ⟨bb, _, none⟩) hbb).trans c1
  have d2 : W0.cell? ⟨bb, i * 3 + 2, none⟩ = some (.int .i64 (hf i)) := (hB0.cell (p := ⟨bb, _, none⟩) hbb).trans c2
  have d3 : W0.cell? ⟨bb, k * 3 + 1, none⟩ = some (.int .i64 (hf k)) := (hB0.cell (p := ⟨bb, _, none⟩) hbb).trans c3
  have d4 : W0.cell? ⟨bb, k * 3 + 2, none⟩ = some (.int .i64 (hf k)) := (hB0.cell (p := ⟨bb, _, none⟩) hbb).trans c4
  have s3 : W0.cell? ⟨w.heap.size + 1, 1, none⟩ = some (.iface 99 (.agg #[])) := cellH z2 1
  clear z1' z2 c1 c2 c3 c4
  have HIK := Go.Lib.hid hik; clear hik
  have st : (W0.cell? ⟨w.heap.size, 1, none⟩ = some (.slice (some ⟨bb, 0, none⟩) n bcap) ∧ W0.cell? ⟨bb, i * 3 + 1, none⟩ = some (.int .i64 (hf i)) ∧ W0.cell? ⟨bb, i * 3 + 2, none⟩ = some (.int .i64 (hf i)) ∧ W0.cell? ⟨bb, k * 3 + 1, none⟩ = some (.int .i64 (hf k)) ∧ W0.cell? ⟨bb, k * 3 + 2, none⟩ = some (.int .i64 (hf k)) ∧ Below w.heap.size w W0 ∧ w.heap.size + 1 < W0.heap.size) ∧ W0.cell? ⟨w.heap.size + 1, 0, none⟩ = some (.iface 98 (.agg #[])) ∧ W0.cell? ⟨w.heap.size + 1, 1, none⟩ = some (.iface 99 (.agg #[])) := ⟨⟨s1, d1, d2, d3, d4, hB0, by omega⟩, s2, s3⟩
  clear s1 s2 s3 d1 d2 d3 d4 hB0 hz0
  go_loopw [7, 16] (fun _ x wr => ∃ q : Nat, q ≤ 1 ∧ x = .int .i64 q ∧ JudgeS bb n bcap i k hf w wr ∧ wr.cell? ⟨w.heap.size + 1, 0, none⟩ = some (.iface 98 (.agg #[])) ∧ wr.cell? ⟨w.heap.size + 1, 1, none⟩ = some (.iface 99 (.agg #[]))) (fun _ x _ => 3 - (intOf x).toNat)
  case atStart => exact ⟨0, by omega, rfl, st⟩
  case round =>
    obtain ⟨q, hq, rfl, hS0, t1, t2⟩ := hrel
    have hS := hS0
    obtain ⟨s1, d1, d2, d3, d4, hB0, hz0⟩ := hS0
    have HS := Go.Lib.hid hS; clear hS
    by_cases hq0 : q = 0
    · subst hq0
      go_wp2_with fail
      go_region_held3 (fun w' => w'.cell? ⟨w.heap.size, 1, none⟩ = some (.slice (some ⟨bb, 0, none⟩) n bcap) ∧ w'.cell? ⟨bb, i * 3 + 1, none⟩ = some (.int .i64 (hf i)) ∧ w'.cell? ⟨bb, i * 3 + 2, none⟩ = some (.int .i64 (hf i)) ∧ w'.cell? ⟨bb, k * 3 + 1, none⟩ = some (.int .i64 (hf k)) ∧ w'.cell? ⟨bb, k * 3 + 2, none⟩ = some (.int .i64 (hf k)) ∧ Below w.heap.size w w' ∧ w.heap.size + 1 < w'.heap.size ∧ w'.cell? ⟨w.heap.size + 1, 1, none⟩ = some (.iface 99 (.agg #[])))
        (first | (exact ⟨s1, d1, d2, d3, d4, hB0.drew, by show w.heap.size + 1 < wr.heap.size; omega, t2⟩) | (go_split_ands; exact judge_keep2 (by assumption) (by assumption) (by assumption) hbb (by assumption) (by assumption) (by assumption) (by assumption) (by assumption) (by assumption)) | go_keep)
        (first | (go_at_call 102; refine (always_holds _ _ _ _ _).mono ?_; rintro e w1 ⟨rfl, hB1⟩))
      rename_i hS
      have hik := HIK.out
      go_wp2
      obtain ⟨a1, a2, a3, a4, a5, a6, a7, a8⟩ := hS
      have a0 : w1.cell? ⟨w.heap.size + 1, 0, none⟩ = some (.iface 98 (.agg #[])) := (hB1.cell (p := ⟨w.heap.size + 1, 0, none⟩) (by show w.heap.size + 1 < wr.heap.size; omega)).trans t1
      exact ⟨⟨1, by omega, rfl, ⟨a1, a2, a3, a4, a5, a6, a7⟩, a0, a8⟩, by simp [intOf]⟩
    · obtain rfl : q = 1 := by omega
      go_wp2_with fail
      go_region_held3 (fun w' => w'.cell? ⟨w.heap.size, 1, none⟩ = some (.slice (some ⟨bb, 0, none⟩) n bcap) ∧ w'.cell? ⟨bb, i * 3 + 1, none⟩ = some (.int .i64 (hf i)) ∧ w'.cell? ⟨bb, i * 3 + 2, none⟩ = some (.int .i64 (hf i)) ∧ w'.cell? ⟨bb, k * 3 + 1, none⟩ = some (.int .i64 (hf k)) ∧ w'.cell? ⟨bb, k * 3 + 2, none⟩ = some (.int .i64 (hf k)) ∧ Below w.heap.size w w' ∧ w.heap.size + 1 < w'.heap.size ∧ w'.cell? ⟨w.heap.size + 1, 1, none⟩ = some (.iface 99 (.agg #[])))
        (first | (exact ⟨s1, d1, d2, d3, d4, hB0.drew, by show w.heap.size + 1 < wr.heap.size; omega, t2⟩) | (go_split_ands; exact judge_keep2 (by assumption) (by assumption) (by assumption) hbb (by assumption) (by assumption) (by assumption) (by assumption) (by assumption) (by assumption)) | go_keep)
        (first | (go_at_call 103; refine (noWay_holds _ _ _ _ _).mono ?_; rintro e w1 ⟨rfl, hB1⟩))
      rename_i hS
      obtain ⟨_, _, _, _, _, hB2, _⟩ := hS
      have hik := HIK.out
      go_wp2
      go_ret
      exact ⟨rfl, hB2⟩

end Go.Proofs.YtckchahangnfiaaGreatDoor
