/- BARROW: with, open, openTrips, timed. -/
/- BARROW: open. -/
import Derived.Test.YtoobopohohoidaaGreatDoorBD
set_option linter.unusedSimpArgs false
set_option linter.unusedVariables false
namespace Go.Proofs.YtoobopohohoidaaGreatDoor
open Go.RowKit Go.Maps Go.Shelf

/-- The cells of a haul at work. -/
abbrev hW (d : HaulD) (mn : Nat) (jA : Option Addr) (J jc : Nat) : Array Value := #[.int .i64 d.P, .int .i64 d.N, .slice d.sA d.n d.sc, .slice d.cA d.m d.cc, .slice d.tA d.m d.tc, .int .i64 d.r, .slice d.xA d.m d.xc, .int .i64 d.nt, .int .i64 d.ld, .int .i64 d.br, .int .i64 d.t1, .int .i64 d.t2, .int .i64 mn, .slice jA J jc]
theorem hW_mid (d : HaulD) (mn : Nat) (jA : Option Addr) (J jc : Nat) {W : World} {b T : Nat} (h : W.heap[b]? = some (.cells (hW d mn jA J jc) T (0, 0))) : ∀ (j : Nat) v, (hC d).toList[j]? = some v → W.cell? ⟨b, 0 + j, none⟩ = some v := fun j v hv => by
  have hj : j < 12 := by have := (List.getElem?_eq_some_iff.1 hv).1; simpa using this
  rw [Nat.zero_add, cellH h, ← hv]
  match j, hj with
  | 0, _ => rfl
  | 1, _ => rfl
  | 2, _ => rfl
  | 3, _ => rfl
  | 4, _ => rfl
  | 5, _ => rfl
  | 6, _ => rfl
  | 7, _ => rfl
  | 8, _ => rfl
  | 9, _ => rfl
  | 10, _ => rfl
  | 11, _ => rfl
abbrev hZ : Array Value := #[.int .i64 0, .int .i64 0, .slice none 0 0, .slice none 0 0, .slice none 0 0, .int .i64 0, .slice none 0 0, .int .i64 0, .int .i64 0, .int .i64 0, .int .i64 0, .int .i64 0, .int .i64 0, .slice none 0 0]

/-- What with gives, if the rule is changed. -/
def WithPost (d : HaulD) (w : World) (e : Ending) (w' : World) : Prop :=
  ∃ (jA : Option Addr) (jc : Nat), e = .returned (.agg (hW d 0 jA (jobsD d).length jc)) ∧ w'.ownsRow w.heap.size 78 3 (.slice jA (jobsD d).length jc) (jobsD d).length (jobsV d.nt d.τ (jobsD d)) ∧ Below w.heap.size w w'

set_option maxRecDepth 100000 in
set_option maxHeartbeats 8000000 in
theorem bwithRule_any (d : HaulD) (B : Nat) (w : World) (hd : HaulOk d) (hB : B ≤ w.heap.size) (h : HaulAt d B w) :
    Calls Tryz.prog 38 #[.agg (hW d 0 none 0 0), .int .i64 3, .int .i64 d.r] w (WithPost d w) := by
  have h0 := heap_alloc_new w (.cells (hW d 0 none 0 0) 74)
  have h1 := heap_alloc_new (w.alloc (.cells (hW d 0 none 0 0) 74)) (.cells hZ 74)
  have h0' := heap_old (.cells hZ 74) h0
  rw [World.size_alloc] at h1
  have hBl := ((Below.refl w.heap.size w).alloc (Nat.le_refl _) (.cells (hW d 0 none 0 0) 74)).alloc (by simp) (.cells hZ 74)
  obtain ⟨w0, hw0⟩ : ∃ w0, (w.alloc (.cells (hW d 0 none 0 0) 74)).alloc (.cells hZ 74) = w0 := ⟨_, rfl⟩
  have hz0 : w0.heap.size = w.heap.size + 2 := by rw [← hw0]; simp
  rw [hw0] at h0' h1 hBl
  clear h0
  obtain ⟨q, hq⟩ : ∃ q, WithPost d w = q := ⟨_, rfl⟩
  rw [hq]
  have HQ := Go.Lib.hid hq
  have HD := Go.Lib.hid (And.intro hd h)
  clear hq hd h
  obtain ⟨w1, hw1⟩ : ∃ w1, (w0.setCell ⟨w.heap.size, 5, none⟩ (.int .i64 d.r)).setCell ⟨w.heap.size, 7, none⟩ (.int .i64 d.nt) = w1 := ⟨_, rfl⟩
  have k0 : w1.heap[w.heap.size]? = some (.cells (hW d 0 none 0 0) 74 (0, 0)) := by rw [← hw1]; exact setH (setH h0' 5 _) 7 _
  have hT1 : But w.heap.size w0 w1 := by rw [← hw1]; exact ((But.refl _ w0).set 5 _).set 7 _
  have k1 : w1.heap[w.heap.size + 1]? = some (.cells hZ 74 (0, 0)) := (hT1.block _ (by omega) (by omega)).trans h1
  have hz1 : w0.heap.size ≤ w1.heap.size := hT1.size
  have hBl1 : Below w.heap.size w w1 := hBl.trans (hT1.below (Nat.le_refl _) (by omega))
  have HJ := Go.Lib.hid (bjobsOf_any d B w1 HD.out.1 (by omega) (HD.out.2.below hBl1 hB))
  have HK := Go.Lib.hid (And.intro k0 (And.intro k1 hBl1))
  have c0 := cells_of h0'
  have f0 : ∀ o, w0.frozen? ⟨w.heap.size, o, none⟩ = false := fun o => freeH h0' o
  have c1 := cells_of k0
  clear h0' h1 hBl k0 k1 hT1 hBl1
  go_enter Tryz.func38, Tryz.ntmps38
  go_wp2_with (first
    | (go_at_call 64; refine HJ.out.mono ?_; rintro e w2 ⟨v, rfl, hown, hB2⟩
       obtain ⟨jA, jc, rfl⟩ := own_form hown
       have k2 := (hB2.block w.heap.size (by omega)).trans HK.out.1
       have f2 : ∀ o, w2.frozen? ⟨w.heap.size, o, none⟩ = false := fun o => freeH k2 o
       have c2 := cells_of k2
       have k3 := setH k2 13 (.slice jA (jobsD d).length jc)
       have k4 : (w2.setCell ⟨w.heap.size, 13, none⟩ (.slice jA (jobsD d).length jc)).heap[w.heap.size + 1]? = _ := (Below.heap_setCell w2 ⟨w.heap.size, 13, none⟩ _ _ (by show w.heap.size + 1 ≠ w.heap.size; omega)).trans ((hB2.block (w.heap.size + 1) (by omega)).trans HK.out.2.1)
       have HO := Go.Lib.hid (And.intro hown hB2)
       have HK3 := Go.Lib.hid k3
       have HK4 := Go.Lib.hid k4
       clear hown hB2 k2 k3 k4)
    | (with_reducible refine wpList_load_whole rfl 74 (.tmp 3) rfl w.heap.size rfl HK3.out Tryz.underlying74 rfl (by kernel_rfl) ?_)
    | (with_reducible refine wpList_store_whole rfl 74 (.tmp 6) (.tmp 34) rfl (w.heap.size + 1) (hW d 0 jA (jobsD d).length jc) rfl rfl HK4.out (by kernel_rfl) rfl (by simp [Value.oneCell']) ?_
       intro W9 d1 d2))
  refine bodyPost_ret (results_cell_whole rfl rfl d1 Tryz.underlying74 rfl (by kernel_rfl)) rfl ?_
  rw [← HQ.out]
  refine ⟨jA, jc, rfl, ?_, ?_⟩
  · refine own_base (own_turn (own_turn HO.out.1 (Turn.of_but ((But.refl w.heap.size w2).set 13 _)) (fun b hb h => by omega)) (Turn.of_but d2) (fun b hb h => by omega)) (by omega)
  · exact HK.out.2.2.trans ((HO.out.2.mono (by omega)).trans ((((But.refl w.heap.size w2).set 13 _).below (Nat.le_refl _) (by have := HO.out.2.size; omega)).trans (d2.below (by omega) (by have := HO.out.2.size; simp; omega))))

end Go.Proofs.YtoobopohohoidaaGreatDoor

namespace Go.Proofs.YtoobopohohoidaaGreatDoor
open Go.RowKit Go.Maps Go.Shelf

/-- What open gives. -/
def OpenPost (d : HaulD) (mn : Nat) (w : World) (e : Ending) (w' : World) : Prop :=
  ∃ (jA : Option Addr) (jc : Nat), e = .returned (.tuple #[.agg (hW d mn jA (jobsD d).length jc), .int .i64 0]) ∧ w'.ownsRow w.heap.size 78 3 (.slice jA (jobsD d).length jc) (jobsD d).length (jobsV d.nt d.τ (jobsD d)) ∧ Below w.heap.size w w'

set_option maxRecDepth 100000 in
set_option maxHeartbeats 8000000 in
theorem bopen_any (d : HaulD) (B : Nat) (w : World) (hd : HaulOk d) (hB : B ≤ w.heap.size) (h : HaulAt d B w) :
    Calls Tryz.prog 20 #[.agg (hC d)] w (OpenPost d 0 w) := by
  have h0 := heap_alloc_new w (.cells (hC d) 29)
  have h1 := heap_alloc_new (w.alloc (.cells (hC d) 29)) (.cells hZ 74)
  have h0' := heap_old (.cells hZ 74) h0
  rw [World.size_alloc] at h1
  have hBl := ((Below.refl w.heap.size w).alloc (Nat.le_refl _) (.cells (hC d) 29)).alloc (by simp) (.cells hZ 74)
  obtain ⟨w0, hw0⟩ : ∃ w0, (w.alloc (.cells (hC d) 29)).alloc (.cells hZ 74) = w0 := ⟨_, rfl⟩
  have hz0 : w0.heap.size = w.heap.size + 2 := by rw [← hw0]; simp
  rw [hw0] at h0' h1 hBl
  clear h0
  obtain ⟨q, hq⟩ : ∃ q, OpenPost d 0 w = q := ⟨_, rfl⟩
  rw [hq]
  have HQ := Go.Lib.hid hq
  have HCH := Go.Lib.hid (bcheckHaul_yes d B w0 hd (by omega) (h.below hBl hB))
  have HD := Go.Lib.hid (And.intro hd (h.below hBl hB))
  have HH0 := Go.Lib.hid h0'
  have HK := Go.Lib.hid (And.intro h0' (And.intro h1 hBl))
  clear hq hd h h0' h1 hBl
  go_enter Tryz.func20, Tryz.ntmps20
  go_wp2_with (first
    | (go_at_call 37; refine HCH.out.mono ?_; rintro e w1 ⟨rfl, hB1⟩
       have k1 := (hB1.block w.heap.size (by omega)).trans HK.out.1
       have c1 := cells_of k1
       have HK1 := Go.Lib.hid k1
       have HW := Go.Lib.hid (bwithRule_any d B w1 HD.out.1 (by have := hB1.size; omega) (HD.out.2.below hB1 (by omega)))
       have HB1 := Go.Lib.hid hB1
       have hz1 := hB1.size
       clear hB1 k1)
    | (with_reducible refine wpList_load_whole rfl 29 (.tmp 1) rfl w.heap.size rfl HH0.out Tryz.underlying29 rfl (by kernel_rfl) ?_)
    | (with_reducible refine wpList_load_whole rfl 29 (.tmp 1) rfl w.heap.size rfl HK1.out Tryz.underlying29 rfl (by kernel_rfl) ?_)
    | (go_at_call 38; refine HW.out.mono ?_; rintro e w2 ⟨jA, jc, rfl, hown, hB2⟩
       have k4 := (hB2.block (w.heap.size + 1) (by omega)).trans ((HB1.out.block (w.heap.size + 1) (by omega)).trans HK.out.2.1)
       have HK4 := Go.Lib.hid k4
       have HO := Go.Lib.hid (And.intro hown hB2)
       clear hown hB2 k4)
    | (with_reducible refine wpList_store_whole rfl 74 (.tmp 2) (.tmp 15) rfl (w.heap.size + 1) (hW d 0 jA (jobsD d).length jc) rfl rfl HK4.out (by kernel_rfl) rfl (by simp [Value.oneCell']) ?_
       intro W9 d1 d2))
  refine bodyPost_ret (v := .tuple #[.agg (hW d 0 jA (jobsD d).length jc), .int .i64 0]) (results_cell_slot rfl rfl d1 Tryz.underlying74 rfl (by kernel_rfl) rfl) rfl ?_
  rw [← HQ.out]
  have hz2 := HO.out.2.size
  exact ⟨jA, jc, rfl, own_base (own_turn HO.out.1 (Turn.of_but d2) (fun b hb h => by omega)) (by omega), HK.out.2.2.trans ((HB1.out.mono (by omega)).trans ((HO.out.2.mono (by omega)).trans (d2.below (by omega) (by omega))))⟩

end Go.Proofs.YtoobopohohoidaaGreatDoor
