/- BARROW: the haul that must be worked. -/
import Derived.Test.YtoobopohohoidaaGreatDoorBP
import Derived.Test.YtoobopohohoidaaGreatDoorTinG
set_option linter.unusedSimpArgs false
set_option linter.unusedVariables false
namespace Go.Proofs.YtoobopohohoidaaGreatDoor
open Go.RowKit Go.Maps Go.Shelf

theorem awake_jobs : jobsL 1 (ruleS 0) (ruleN 0) [1, 0] [0] 0 = [0, 1] := by decide
theorem awake_few : fewN 1 [1, 0] (maskOf [0]) = 2 := by decide
theorem awake_best : (bestsL 1 [1, 0] (maskOf [0])).getD 0 [] = [0, 1] := by decide

theorem heaps7 (w : World) (a b c d e f g : Obj) {W : World} (hW : ((((((w.alloc a).alloc b).alloc c).alloc d).alloc e).alloc f).alloc g = W) :
    W.heap[w.heap.size]? = some a ∧ W.heap[w.heap.size + 1]? = some b ∧ W.heap[w.heap.size + 1 + 1]? = some c ∧ W.heap[w.heap.size + 1 + 1 + 1]? = some d ∧ W.heap[w.heap.size + 1 + 1 + 1 + 1]? = some e ∧ W.heap[w.heap.size + 1 + 1 + 1 + 1 + 1]? = some f ∧ W.heap[w.heap.size + 1 + 1 + 1 + 1 + 1 + 1]? = some g ∧ W.heap.size = w.heap.size + 7 := by
  subst hW
  have h1 := World.alloc_heap_new w a
  have h2 := World.alloc_heap_new (w.alloc a) b
  have h3 := World.alloc_heap_new ((w.alloc a).alloc b) c
  have h4 := World.alloc_heap_new (((w.alloc a).alloc b).alloc c) d
  have h5 := World.alloc_heap_new ((((w.alloc a).alloc b).alloc c).alloc d) e
  have h6 := World.alloc_heap_new (((((w.alloc a).alloc b).alloc c).alloc d).alloc e) f
  have h7 := World.alloc_heap_new ((((((w.alloc a).alloc b).alloc c).alloc d).alloc e).alloc f) g
  simp only [World.size_alloc] at h2 h3 h4 h5 h6 h7
  exact ⟨heap_old _ (heap_old _ (heap_old _ (heap_old _ (heap_old _ (heap_old _ h1))))), heap_old _ (heap_old _ (heap_old _ (heap_old _ (heap_old _ h2)))), heap_old _ (heap_old _ (heap_old _ (heap_old _ h3))), heap_old _ (heap_old _ (heap_old _ h4)), heap_old _ (heap_old _ h5), heap_old _ h6, h7, by simp⟩

theorem ints_lit {W : World} {b B T : Nat} {c : Array Value} (l : List Nat) (h : W.heap[b]? = some (.cells c T (0, 0))) (hc : ∀ j, j < l.length → c[j]? = some (.int .i64 (ofL l j))) (hb : b < B) : Ints W B (some ⟨b, 0, none⟩) l.length (ofL l) := fun _ =>
  ⟨⟨b, 0, none⟩, rfl, hb, fun j hj => by
    have e1 : (⟨b, 0, none⟩ : Addr).add j = ⟨b, j, none⟩ := by simp [Addr.add]; omega
    rw [e1, cellH h]; exact hc j hj⟩

/-- The haul. -/
def awD (z : Nat) : HaulD := { P := 1, N := 2, n := 1, sc := 1, m := 2, cc := 2, tc := 2, r := 0, xc := 2, nt := 0, ld := 1, br := 1, t1 := 1, t2 := 1, sA := some ⟨z, 0, none⟩, cA := some ⟨z + 1 + 1 + 1, 0, none⟩, tA := some ⟨z + 1 + 1 + 1 + 1 + 1, 0, none⟩, xA := some ⟨z + 1 + 1 + 1 + 1 + 1 + 1, 0, none⟩, L := [0], t := [1, 0], τ := [3, 4], C := [[1], [0]] }
theorem aw_vault : VaultOk 1 2 [0] [[1], [0]] := ⟨by decide, by decide, by decide, by decide, ⟨by decide, by decide, by decide⟩, by decide, by decide, fun l hl => by
  simp only [List.mem_cons, List.not_mem_nil, or_false] at hl
  rcases hl with rfl | rfl <;> exact ⟨by decide, by simp, by decide⟩⟩
theorem aw_truth : TruthOk [[1], [0]] [1, 0] := ⟨rfl, fun i hi => match i, hi with
  | 0, _ => by decide
  | 1, _ => by decide⟩
theorem aw_times : TimesOk [3, 4] := ⟨by decide, fun i j hij hj => by
  have hj2 : j < 2 := hj
  have h : ∀ i, i < 2 → ∀ j, j < 2 → i ≤ j → ([3, 4] : List Nat).getD i 0 ≤ ([3, 4] : List Nat).getD j 0 := by decide
  exact h i (by omega) j hj2 hij⟩
theorem rows_up {w : World} {B B' : Nat} {A : Option Addr} {C : List (List Nat)} (h : Rows w B A C) (hB : B ≤ B') : Rows w B' A C := fun h0 => by
  obtain ⟨ad, h1, h2, h3⟩ := h h0
  exact ⟨ad, h1, by omega, fun i hi => by
    obtain ⟨Ai, ci, h4, h5⟩ := h3 i hi
    exact ⟨Ai, ci, h4, ints_up h5 hB⟩⟩
theorem aw_ok (z : Nat) : HaulOk (awD z) where
  vault := aw_vault
  truth := aw_truth
  times := aw_times
  ln := rfl
  cm := rfl
  tm := rfl
  mc := by show 2 ≤ 2; decide
  r4 := by show 0 < 4; decide
  nt := by show 0 ≤ 30; decide
  ld := by show 1 ≤ 1 ∧ 1 ≤ 3; decide
  br := by show 1 ≤ 1 ∧ 1 ≤ 4; decide
  tr := by show 1 ≤ 1 ∧ 1 ≤ 1 ∧ 1 ≤ 20; decide
theorem aw_at {W : World} {z : Nat} (h0 : W.heap[z]? = some (.cells #[.int .i64 0] 3 (0, 0))) (h1 : W.heap[z + 1]? = some (.cells #[.int .i64 1] 3 (0, 0))) (h2 : W.heap[z + 1 + 1]? = some (.cells #[.int .i64 0] 3 (0, 0)))
    (h3 : W.heap[z + 1 + 1 + 1]? = some (.cells #[.slice (some ⟨z + 1, 0, none⟩) 1 1, .slice (some ⟨z + 1 + 1, 0, none⟩) 1 1] 22 (0, 0))) :
    Ints W (z + 7) (some ⟨z, 0, none⟩) 1 (ofL [0]) ∧ Rows W (z + 7) (some ⟨z + 1 + 1 + 1, 0, none⟩) [[1], [0]] := by
  refine ⟨ints_lit [0] h0 (fun j hj => match j, hj with | 0, _ => rfl) (by omega), fun _ => ⟨_, rfl, by show z + 1 + 1 + 1 < z + 7; omega, fun i hi => ?_⟩⟩
  have e1 : (⟨z + 1 + 1 + 1, 0, none⟩ : Addr).add i = ⟨z + 1 + 1 + 1, i, none⟩ := by simp [Addr.add]; omega
  rw [e1, cellH h3]
  match i, hi with
  | 0, _ => exact ⟨_, _, rfl, ints_lit [1] h1 (fun j hj => match j, hj with | 0, _ => rfl) (by omega)⟩
  | 1, _ => exact ⟨_, _, rfl, ints_lit [0] h2 (fun j hj => match j, hj with | 0, _ => rfl) (by omega)⟩

set_option maxRecDepth 100000 in
set_option maxHeartbeats 8000000 in
theorem carriedAwake_any (w : World) : Calls Tryz.prog 9 #[] w fun e w' => e = .returned (.bool true) ∧ Below w.heap.size w w' := by
  obtain ⟨W, hW⟩ : ∃ W, ((((((w.alloc (.cells #[.int .i64 0] 3)).alloc (.cells #[.int .i64 1] 3)).alloc (.cells #[.int .i64 0] 3)).alloc (.cells #[.slice (some ⟨w.heap.size + 1, 0, none⟩) 1 1, .slice (some ⟨w.heap.size + 1 + 1, 0, none⟩) 1 1] 22)).alloc (.cells #[.int .i64 1, .int .i64 2, .slice (some ⟨w.heap.size, 0, none⟩) 1 1, .slice (some ⟨w.heap.size + 1 + 1 + 1, 0, none⟩) 2 2] 25)).alloc (.cells #[.int .i64 1, .int .i64 0] 3)).alloc (.cells #[.int .i64 3, .int .i64 4] 3) = W := ⟨_, rfl⟩
  obtain ⟨h0, h1, h2, h3, h4, h5, h6, hz⟩ := heaps7 w _ _ _ _ _ _ _ hW
  have hBw0 : Below w.heap.size w W := by rw [← hW]; exact ((((((((Turn.refl (fun _ => False) w).alloc _).alloc _).alloc _).alloc _).alloc _).alloc _).alloc _).below (fun b hb h => h) (Nat.le_refl _)
  have HBW := Go.Lib.hid hBw0
  clear hBw0
  obtain ⟨hI, hR⟩ := aw_at h0 h1 h2 h3
  have hat : HaulAt (awD w.heap.size) (w.heap.size + 7) W := ⟨hI, hR, ints_lit [1, 0] h5 (fun j hj => match j, hj with | 0, _ => rfl | 1, _ => rfl) (by omega), ints_lit [3, 4] h6 (fun j hj => match j, hj with | 0, _ => rfl | 1, _ => rfl) (by omega)⟩
  have hJ := bJobs_any (awD w.heap.size) (w.heap.size + 7) W (aw_ok _) (by omega) hat
  have ejob : jobsD (awD w.heap.size) = [0, 1] := awake_jobs
  unfold JobsOk at hJ
  rw [ejob] at hJ
  rw [← hW] at hJ
  have HJ := Go.Lib.hid hJ
  have HH := Go.Lib.hid (And.intro hI (And.intro hR (And.intro h4 hz)))
  have HW := Go.Lib.hid hW
  clear hJ hat ejob h0 h1 h2 h3 h4 h5 h6 hI hR hz hW
  go_enter Tryz.func9, Tryz.ntmps9
  go_wp2_with (first
    | (go_at_call 7; refine HJ.out.mono ?_; rintro e w1 ⟨A, c, rfl, hI1, hB1⟩
       rw [HW.out] at hB1
       obtain ⟨hI, hR, h4, hz⟩ := HH.out
       have hz1 := hB1.size
       have k4 := Go.Lib.hid ((hB1.block (w.heap.size + 1 + 1 + 1 + 1) (by omega)).trans h4)
       have KK := Go.Lib.hid (And.intro hI1 (And.intro (hI.below hB1 (by omega)) (And.intro (hR.below hB1 (by omega)) (show w.heap.size + 7 ≤ w1.heap.size by omega))))
       have HBJ := Go.Lib.hid (HBW.out.trans (hB1.mono (by omega)))
       have hbk := ((Below.refl w1.heap.size w1).alloc (Nat.le_refl _) (.cells #[.int .i64 1, .int .i64 0] 3))
       have hBst := vBest_any 1 2 1 (w1.heap.size + 1) [0] [[1], [0]] [1, 0] 1 2 _ _ (some ⟨w1.heap.size, 0, none⟩) 2 2 (w1.alloc (.cells #[.int .i64 1, .int .i64 0] 3)) aw_vault aw_truth rfl rfl (by simp) (ints_up (KK.out.2.1.below hbk (by omega)) (by omega)) (rows_up (KK.out.2.2.1.below hbk (by omega)) (by omega)) (ints_lit [1, 0] (heap_alloc_new w1 (.cells #[.int .i64 1, .int .i64 0] 3)) (fun j hj => match j, hj with | 0, _ => rfl | 1, _ => rfl) (by omega))
       unfold BestOk at hBst
       rw [awake_few, awake_best] at hBst
       have HBST := Go.Lib.hid hBst
       have HBK := Go.Lib.hid hbk
       clear hI1 hB1 hI hR h4 hz hz1 HJ hbk hBst)
    | (with_reducible refine wpList_load_whole rfl 25 (.tmp 1) rfl (w.heap.size + 1 + 1 + 1 + 1) rfl k4.out Tryz.underlying25 rfl (by kernel_rfl) ?_))
  refine HBST.out.mono ?_
  rintro e w2 ⟨A2, c2, rfl, hB2, hI2⟩
  have hBw := HBK.out.trans (hB2.mono (by simp))
  have hzz := hBw.size
  have HBE := Go.Lib.hid (HBJ.out.trans (hBw.mono HBJ.out.size))
  have hb3 := (Below.refl w2.heap.size w2).alloc (Nat.le_refl _) (.cells #[.int .i64 0, .int .i64 1] 3)
  have hL := likeInts_any A (some ⟨w2.heap.size, 0, none⟩) 2 c 2 2 w1.heap.size (w2.heap.size + 1) (ofL [0, 1]) (ofL [0, 1]) (w2.alloc (.cells #[.int .i64 0, .int .i64 1] 3)) (by omega) (by omega) ((KK.out.1.below hBw (Nat.le_refl _)).below hb3 hzz) (ints_lit [0, 1] (heap_alloc_new w2 (.cells #[.int .i64 0, .int .i64 1] 3)) (fun j hj => match j, hj with | 0, _ => rfl | 1, _ => rfl) (by omega))
  have HL := Go.Lib.hid hL
  have HI2 := Go.Lib.hid (And.intro hI2 hb3)
  clear hBw hzz hb3 hL hI2 hB2 HBST
  go_wp2_with fail
  refine HL.out.mono ?_
  rintro e w3 ⟨b, rfl, hb, d, hw3⟩
  have hbt : b = true := hb.2 ⟨rfl, fun j _ => rfl⟩
  rw [hbt]
  have hb4 : Below w2.heap.size w2 w3 := by rw [hw3]; exact below_drewN HI2.out.2 d
  have hb5 := hb4.trans ((Below.refl w2.heap.size w3).alloc hb4.size (.cells #[.int .i64 0, .int .i64 1] 3))
  have HBF := Go.Lib.hid (HBE.out.trans (hb5.mono HBE.out.size))
  have HM := Go.Lib.hid (likeInts_any A2 (some ⟨w3.heap.size, 0, none⟩) 2 c2 2 2 w2.heap.size (w3.heap.size + 1) (fun j => ([0, 1] : List Int).getD j 0) (ofL [0, 1]) (w3.alloc (.cells #[.int .i64 0, .int .i64 1] 3)) (by omega) (by omega) (HI2.out.1.below hb5 (Nat.le_refl _)) (ints_lit [0, 1] (heap_alloc_new w3 (.cells #[.int .i64 0, .int .i64 1] 3)) (fun j hj => match j, hj with | 0, _ => rfl | 1, _ => rfl) (by omega)))
  clear hb hbt hb4 hb5 HL HI2 hw3
  go_wp2_with fail
  refine HM.out.mono ?_
  rintro e w4 ⟨b, rfl, hb, d', hw4⟩
  have HBL := Go.Lib.hid (show Below w.heap.size w w4 by rw [hw4]; exact below_drewN HBF.out d')
  have hbt : b = true := hb.2 ⟨rfl, fun j hj => match j, hj with | 0, _ => rfl | 1, _ => rfl⟩
  rw [hbt]
  clear hb hbt HM hw4
  go_wp2_with fail
  go_ret
  exact ⟨rfl, HBL.out⟩

end Go.Proofs.YtoobopohohoidaaGreatDoor
