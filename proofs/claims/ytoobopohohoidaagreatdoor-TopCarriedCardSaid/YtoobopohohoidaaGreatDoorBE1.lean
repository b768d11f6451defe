/- BARROW: with, of minutes. -/
/- BARROW: timed. -/
/- BARROW: openTrips. -/
import Derived.Test.YtoobopohohoidaaGreatDoorBE
set_option linter.unusedSimpArgs false
set_option linter.unusedVariables false
namespace Go.Proofs.YtoobopohohoidaaGreatDoor
open Go.RowKit Go.Maps Go.Shelf

set_option maxRecDepth 100000 in
set_option maxHeartbeats 8000000 in
theorem bwithMinutes_any (d : HaulD) (mn : Nat) (jA : Option Addr) (J jc : Nat) (w : World) :
    Calls Tryz.prog 38 #[.agg (hW d 0 jA J jc), .int .i64 0, .int .i64 mn] w fun e w' => e = .returned (.agg (hW d mn jA J jc)) ∧ Below w.heap.size w w' := by
  have h0 := heap_alloc_new w (.cells (hW d 0 jA J jc) 74)
  have h1 := heap_alloc_new (w.alloc (.cells (hW d 0 jA J jc) 74)) (.cells hZ 74)
  have h0' := heap_old (.cells hZ 74) h0
  rw [World.size_alloc] at h1
  have hBl := ((Below.refl w.heap.size w).alloc (Nat.le_refl _) (.cells (hW d 0 jA J jc) 74)).alloc (by simp) (.cells hZ 74)
  obtain ⟨w0, hw0⟩ : ∃ w0, (w.alloc (.cells (hW d 0 jA J jc) 74)).alloc (.cells hZ 74) = w0 := ⟨_, rfl⟩
  have hz0 : w0.heap.size = w.heap.size + 2 := by rw [← hw0]; simp
  rw [hw0] at h0' h1 hBl
  clear h0
  have c0 := cells_of h0'
  have f0 : ∀ o, w0.frozen? ⟨w.heap.size, o, none⟩ = false := fun o => freeH h0' o
  have k3 := setH h0' 12 (.int .i64 mn)
  have k4 : (w0.setCell ⟨w.heap.size, 12, none⟩ (.int .i64 mn)).heap[w.heap.size + 1]? = _ := (Below.heap_setCell w0 ⟨w.heap.size, 12, none⟩ _ _ (by show w.heap.size + 1 ≠ w.heap.size; omega)).trans h1
  have HK3 := Go.Lib.hid k3
  have HK4 := Go.Lib.hid k4
  have HB := Go.Lib.hid hBl
  clear h0' h1 hBl k3 k4
  go_enter Tryz.func38, Tryz.ntmps38
  go_wp2_with (first
    | (with_reducible refine wpList_load_whole rfl 74 (.tmp 3) rfl w.heap.size rfl HK3.out Tryz.underlying74 rfl (by kernel_rfl) ?_)
    | (with_reducible refine wpList_store_whole rfl 74 (.tmp 6) (.tmp 34) rfl (w.heap.size + 1) (hW d mn jA J jc) rfl rfl HK4.out (by kernel_rfl) rfl (by simp [Value.oneCell']) ?_
       intro W9 d1 d2))
  refine bodyPost_ret (results_cell_whole rfl rfl d1 Tryz.underlying74 rfl (by kernel_rfl)) rfl ?_
  exact ⟨rfl, HB.out.trans ((((But.refl w.heap.size w0).set 12 _).below (Nat.le_refl _) (by omega)).trans (d2.below (by omega) (by simp; omega)))⟩

end Go.Proofs.YtoobopohohoidaaGreatDoor

namespace Go.Proofs.YtoobopohohoidaaGreatDoor
open Go.RowKit Go.Maps Go.Shelf

set_option maxRecDepth 100000 in
set_option maxHeartbeats 8000000 in
theorem btimed_any (d : HaulD) (mn : Nat) (jA : Option Addr) (J jc : Nat) (w : World) (hm : 1 ≤ mn ∧ mn ≤ 20) :
    Calls Tryz.prog 39 #[.agg (hW d 0 jA J jc), .int .i64 mn] w fun e w' => e = .returned (.tuple #[.agg (hW d mn jA J jc), .int .i64 0]) ∧ Below w.heap.size w w' := by
  have h0 := heap_alloc_new w (.cells (hW d 0 jA J jc) 74)
  have h1 := heap_alloc_new (w.alloc (.cells (hW d 0 jA J jc) 74)) (.cells hZ 74)
  have h0' := heap_old (.cells hZ 74) h0
  rw [World.size_alloc] at h1
  have hBl := ((Below.refl w.heap.size w).alloc (Nat.le_refl _) (.cells (hW d 0 jA J jc) 74)).alloc (by simp) (.cells hZ 74)
  obtain ⟨w0, hw0⟩ : ∃ w0, (w.alloc (.cells (hW d 0 jA J jc) 74)).alloc (.cells hZ 74) = w0 := ⟨_, rfl⟩
  have hz0 : w0.heap.size = w.heap.size + 2 := by rw [← hw0]; simp
  rw [hw0] at h0' h1 hBl
  clear h0
  have h2 := heap_alloc_new w0 (.cells #[.int .i64 mn] 3)
  have HC := Go.Lib.hid (bcheckMinutes_yes (some ⟨w0.heap.size, 0, none⟩) 1 1 (w0.heap.size + 1) (fun _ => mn) (w0.alloc (.cells #[.int .i64 mn] 3)) (by omega) (fun _ => ⟨_, rfl, by simp, fun j hj => by
    obtain rfl : j = 0 := by omega
    exact cellH h2 0⟩) (fun _ _ => ⟨by omega, by omega⟩))
  have HK3 := Go.Lib.hid (heap_old (.cells #[.int .i64 mn] 3) h0')
  have HB := Go.Lib.hid (And.intro hBl (heap_old (.cells #[.int .i64 mn] 3) h1))
  have HW := Go.Lib.hid (bwithMinutes_any d mn jA J jc (w0.alloc (.cells #[.int .i64 mn] 3)))
  have HZ0 := Go.Lib.hid hz0
  clear h0' h1 hBl h2 hz0
  go_enter Tryz.func39, Tryz.ntmps39
  go_wp2_with (first
    | (go_at_call 63; refine HC.out.mono ?_; rintro e w' ⟨rfl, rfl⟩)
    | (with_reducible refine wpList_load_whole rfl 74 (.tmp 2) rfl w.heap.size rfl HK3.out Tryz.underlying74 rfl (by kernel_rfl) ?_)
    | (go_at_call 38; refine HW.out.mono ?_; rintro e w2 ⟨rfl, hB2⟩
       have k4 := (hB2.block (w.heap.size + 1) (by have := HZ0.out; simp; omega)).trans HB.out.2
       have HK4 := Go.Lib.hid k4
       have HO := Go.Lib.hid hB2
       clear hB2 k4)
    | (with_reducible refine wpList_store_whole rfl 74 (.tmp 4) (.tmp 16) rfl (w.heap.size + 1) (hW d mn jA J jc) rfl rfl HK4.out (by kernel_rfl) rfl (by simp [Value.oneCell']) ?_
       intro W9 d1 d2))
  refine bodyPost_ret (v := .tuple #[.agg (hW d mn jA J jc), .int .i64 0]) (results_cell_slot rfl rfl d1 Tryz.underlying74 rfl (by kernel_rfl) rfl) rfl ?_
  have hz2 := HO.out.size
  have hz0 := HZ0.out
  exact ⟨rfl, (HB.out.1.alloc (by omega) _).trans ((HO.out.mono (by simp; omega)).trans (d2.below (by omega) (by simp at hz2; omega)))⟩

end Go.Proofs.YtoobopohohoidaaGreatDoor

namespace Go.Proofs.YtoobopohohoidaaGreatDoor
open Go.RowKit Go.Maps Go.Shelf

set_option maxRecDepth 100000 in
set_option maxHeartbeats 8000000 in
theorem bopenTrips_any (d : HaulD) (mn B : Nat) (w : World) (hd : HaulOk d) (hm : 1 ≤ mn ∧ mn ≤ 20) (hB : B ≤ w.heap.size) (h : HaulAt d B w) :
    Calls Tryz.prog 21 #[.agg (hC d), .int .i64 mn] w (OpenPost d mn w) := by
  have h0 := heap_alloc_new w (.cells (hC d) 29)
  have h1 := heap_alloc_new (w.alloc (.cells (hC d) 29)) (.cells hZ 74)
  have h0' := heap_old (.cells hZ 74) h0
  rw [World.size_alloc] at h1
  have hBl := ((Below.refl w.heap.size w).alloc (Nat.le_refl _) (.cells (hC d) 29)).alloc (by simp) (.cells hZ 74)
  obtain ⟨w0, hw0⟩ : ∃ w0, (w.alloc (.cells (hC d) 29)).alloc (.cells hZ 74) = w0 := ⟨_, rfl⟩
  have hz0 : w0.heap.size = w.heap.size + 2 := by rw [← hw0]; simp
  rw [hw0] at h0' h1 hBl
  clear h0
  obtain ⟨q, hq⟩ : ∃ q, OpenPost d mn w = q := ⟨_, rfl⟩
  rw [hq]
  have HQ := Go.Lib.hid hq
  have HCH := Go.Lib.hid (bopen_any d B w0 hd (by omega) (h.below hBl hB))
  have HM := Go.Lib.hid hm
  have HH0 := Go.Lib.hid h0'
  have HK := Go.Lib.hid (And.intro h0' (And.intro h1 hBl))
  clear hq hd h h0' h1 hBl hm
  go_enter Tryz.func21, Tryz.ntmps21
  go_wp2_with (first
    | (with_reducible refine wpList_load_whole rfl 29 (.tmp 2) rfl w.heap.size rfl HH0.out Tryz.underlying29 rfl (by kernel_rfl) ?_)
    | (go_at_call 20; refine HCH.out.mono ?_; rintro e w1 ⟨jA, jc, rfl, hown, hB1⟩
       have hz1 := hB1.size
       have k1 := heap_alloc_new w1 (.cells (hW d 0 jA (jobsD d).length jc) 74)
       have k2 := heap_old (.cells (hW d 0 jA (jobsD d).length jc) 74) ((hB1.block (w.heap.size + 1) (by omega)).trans HK.out.2.1)
       have HK1 := Go.Lib.hid (And.intro k1 k2)
       have HB1 := Go.Lib.hid (And.intro hB1 hown)
       have HW := Go.Lib.hid (btimed_any d mn jA (jobsD d).length jc (w1.alloc (.cells (hW d 0 jA (jobsD d).length jc) 74)) HM.out)
       clear hB1 k1 k2 hown)
    | (with_reducible refine wpList_load_whole rfl 74 (.tmp 6) rfl w1.heap.size rfl HK1.out.1 Tryz.underlying74 rfl (by kernel_rfl) ?_)
    | (go_at_call 39; refine HW.out.mono ?_; rintro e w2 ⟨rfl, hB2⟩
       have k4 := (hB2.block (w.heap.size + 1) (by simp; omega)).trans HK1.out.2
       have HK4 := Go.Lib.hid k4
       have HO := Go.Lib.hid hB2
       clear hB2 k4)
    | (with_reducible refine wpList_store_whole rfl 74 (.tmp 4) (.tmp 20) rfl (w.heap.size + 1) (hW d mn jA (jobsD d).length jc) rfl rfl HK4.out (by kernel_rfl) rfl (by simp [Value.oneCell']) ?_
       intro W9 d1 d2))
  refine bodyPost_ret (v := .tuple #[.agg (hW d mn jA (jobsD d).length jc), .int .i64 0]) (results_cell_slot rfl rfl d1 Tryz.underlying74 rfl (by kernel_rfl) rfl) rfl ?_
  rw [← HQ.out]
  have hz2 := HO.out.size
  have hz3 := HB1.out.1.size
  exact ⟨jA, jc, rfl, own_base (own_turn (own_below (HB1.out.2.alloc _) HO.out) (Turn.of_but d2) (fun b hb h => by omega)) (by omega),
    HK.out.2.2.trans ((HB1.out.1.mono (by omega)).trans (((Below.refl w.heap.size w1).alloc (by omega) _).trans ((HO.out.mono (by simp; omega)).trans (d2.below (by omega) (by simp at hz2; omega)))))⟩

end Go.Proofs.YtoobopohohoidaaGreatDoor
