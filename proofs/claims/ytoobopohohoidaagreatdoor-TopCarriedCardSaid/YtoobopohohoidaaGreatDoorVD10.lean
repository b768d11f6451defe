/- VAULT: a piece leaves the line. -/
/- VAULT: a piece leaves the line. -/
/- VAULT: a piece leaves the line. -/
import Derived.Test.YtoobopohohoidaaGreatDoorVD30
import Derived.Laws.IdiomCopy
set_option linter.unusedSimpArgs false
set_option linter.unusedVariables false
namespace Go.Proofs.YtoobopohohoidaaGreatDoor
open Go.RowKit


set_option maxRecDepth 100000 in
set_option maxHeartbeats 2000000 in
theorem vleave_1_0 (b T S x0 : Nat) (R : Value) (w : World) 
    (hb : w.heap[b]? = some (.cells (dCells S x0 0 0 0 1 R) T (0, 0))) :
    Calls Tryz.prog 100 #[.pointer (some ⟨b, 1, none⟩), pI x0] w fun e w' => e = .returned (.tuple #[]) ∧
      w'.heap[b]? = some (.cells (dCells S 0 0 0 0 0 R) T (0, 0)) ∧ But b w w' := by
  have c1 : w.cell? ⟨b, 1, none⟩ = some (pI x0) := cellH hb 1
  have c2 : w.cell? ⟨b, 2, none⟩ = some (pI 0) := cellH hb 2
  have c3 : w.cell? ⟨b, 3, none⟩ = some (pI 0) := cellH hb 3
  have c4 : w.cell? ⟨b, 4, none⟩ = some (pI 0) := cellH hb 4
  have c5 : w.cell? ⟨b, 5, none⟩ = some (pI 1) := cellH hb 5
  have f1 : w.frozen? ⟨b, 1, none⟩ = false := freeH hb 1
  have f2 : w.frozen? ⟨b, 2, none⟩ = false := freeH hb 2
  have f3 : w.frozen? ⟨b, 3, none⟩ = false := freeH hb 3
  have f4 : w.frozen? ⟨b, 4, none⟩ = false := freeH hb 4
  have f5 : w.frozen? ⟨b, 5, none⟩ = false := freeH hb 5
  have hI : ∀ W, (∀ o, W.cell? ⟨b, o, none⟩ = w.cell? ⟨b, o, none⟩) → Ints W (b + 1) (some ⟨b, 1, none⟩) 1 (ofL [x0]) := fun W hW _ => ⟨⟨b, 1, none⟩, rfl, by simp, fun j hj => by
    have e : (⟨b, 1, none⟩ : Addr).add j = ⟨b, 1 + j, none⟩ := by simp [Addr.add]
    rw [e, hW]
    rcases (show j = 0 by omega) with rfl
    all_goals first | exact c1 | exact c2 | exact c3 | exact c4⟩
  have hx : idxI [x0] x0 = 0 := by simp [idxI]
  have hcp : ∀ (ty : TypeId) (m : Nat), (Builtin.copy_ #[22, 22] ty #[.slice (some ⟨b, 1, none⟩) 4 4, .slice (some ⟨b, 2, none⟩) 0 3]).run Tryz.prog (w.drewN m) = .ok (goInt 0) ((w.drewN m).setCells b 1 []) := fun ty m => by
    exact run_copy_none (w.drewN m) 22 22 ty 3 _ _ _ _ _ _ Tryz.underlying22 (by kernel_rfl) rfl
  have hcl : ∀ (ty : TypeId) (m : Nat), (Builtin.clear_ #[22] ty #[.slice (some ⟨b, 1, none⟩) 4 4]).run Tryz.prog ((((w.drewN m)).setCell ⟨b, 5, none⟩ (.int .i64 0)).drew) = .ok (.tuple #[]) (((((w.drewN m)).setCell ⟨b, 5, none⟩ (.int .i64 0)).drew).setCells b 1 (List.replicate 4 (.int .i64 0))) := fun ty m => by
    refine run_clear_ints _ 22 ty 3 b 1 4 4 (by omega) Tryz.underlying22 (by kernel_rfl) ?_ ?_
    · rintro j hj
      rw [World.cell?_drew]
      have hm : ((((w.drewN m)).setCell ⟨b, 5, none⟩ (.int .i64 0))).heap[b]? = some (.cells _ T (0, 0)) := (setH hb 5 (.int .i64 0))
      rw [cellH hm]
      rcases (show j = 0 ∨ j = 1 ∨ j = 2 ∨ j = 3 by omega) with rfl | rfl | rfl | rfl <;> first | omega | rfl
    · rintro j hj
      rw [World.frozen?_drew]
      simp only [World.frozen?_setCell, World.frozen?_drewN]
      exact freeH hb _
  have hend : ∀ m, (((((w.drewN m)).setCell ⟨b, 5, none⟩ (.int .i64 0)).drew).setCells b 1 (List.replicate 4 (.int .i64 0))).heap[b]? = some (.cells (dCells S 0 0 0 0 0 R) T (0, 0)) ∧ But b w (((((w.drewN m)).setCell ⟨b, 5, none⟩ (.int .i64 0)).drew).setCells b 1 (List.replicate 4 (.int .i64 0))) := fun m =>
    ⟨(setH (setH (setH (setH (setH hb 5 (.int .i64 0)) 1 (.int .i64 0)) 2 (.int .i64 0)) 3 (.int .i64 0)) 4 (.int .i64 0)), (((((((But.refl b w).drewN m).set 5 (.int .i64 0)).drew).set 1 (.int .i64 0)).set 2 (.int .i64 0)).set 3 (.int .i64 0)).set 4 (.int .i64 0)⟩
  simp only [World.setCells, List.replicate] at hcp hcl hend
  have HB := Go.Lib.hid hb; clear hb
  have HI := Go.Lib.hid hI; clear hI
  have HX := Go.Lib.hid hx; clear hx

  go_enter Tryz.func100, Tryz.ntmps100
  go_wp2_with fail
  go_quiet (first | (go_at_call 78; exact quietly (HX.out ▸ vindex_any _ [x0] 1 _ (b + 1) x0 _ rfl (by omega) (HI.out _ (fun o => by simp)))))
  go_wp2_with fail
  go_region
  all_goals go_wp2_with fail
  all_goals go_region
  all_goals go_wp2_with fail
  go_end0
  exact ⟨rfl, hend _⟩

end Go.Proofs.YtoobopohohoidaaGreatDoor

namespace Go.Proofs.YtoobopohohoidaaGreatDoor
open Go.RowKit


set_option maxRecDepth 100000 in
set_option maxHeartbeats 2000000 in
theorem vleave_2_0 (b T S x0 x1 : Nat) (R : Value) (w : World) 
    (hb : w.heap[b]? = some (.cells (dCells S x0 x1 0 0 2 R) T (0, 0))) :
    Calls Tryz.prog 100 #[.pointer (some ⟨b, 1, none⟩), pI x0] w fun e w' => e = .returned (.tuple #[]) ∧
      w'.heap[b]? = some (.cells (dCells S x1 0 0 0 1 R) T (0, 0)) ∧ But b w w' := by
  have c1 : w.cell? ⟨b, 1, none⟩ = some (pI x0) := cellH hb 1
  have c2 : w.cell? ⟨b, 2, none⟩ = some (pI x1) := cellH hb 2
  have c3 : w.cell? ⟨b, 3, none⟩ = some (pI 0) := cellH hb 3
  have c4 : w.cell? ⟨b, 4, none⟩ = some (pI 0) := cellH hb 4
  have c5 : w.cell? ⟨b, 5, none⟩ = some (pI 2) := cellH hb 5
  have f1 : w.frozen? ⟨b, 1, none⟩ = false := freeH hb 1
  have f2 : w.frozen? ⟨b, 2, none⟩ = false := freeH hb 2
  have f3 : w.frozen? ⟨b, 3, none⟩ = false := freeH hb 3
  have f4 : w.frozen? ⟨b, 4, none⟩ = false := freeH hb 4
  have f5 : w.frozen? ⟨b, 5, none⟩ = false := freeH hb 5
  have hI : ∀ W, (∀ o, W.cell? ⟨b, o, none⟩ = w.cell? ⟨b, o, none⟩) → Ints W (b + 1) (some ⟨b, 1, none⟩) 2 (ofL [x0, x1]) := fun W hW _ => ⟨⟨b, 1, none⟩, rfl, by simp, fun j hj => by
    have e : (⟨b, 1, none⟩ : Addr).add j = ⟨b, 1 + j, none⟩ := by simp [Addr.add]
    rw [e, hW]
    rcases (show j = 0 ∨ j = 1 by omega) with rfl | rfl
    all_goals first | exact c1 | exact c2 | exact c3 | exact c4⟩
  have hx : idxI [x0, x1] x0 = 0 := by simp [idxI]
  have hcp : ∀ (ty : TypeId) (m : Nat), (Builtin.copy_ #[22, 22] ty #[.slice (some ⟨b, 1, none⟩) 4 4, .slice (some ⟨b, 2, none⟩) 1 3]).run Tryz.prog (w.drewN m) = .ok (goInt 1) ((w.drewN m).setCells b 1 [pI x1]) := fun ty m => by
    refine run_copy_cells (w.drewN m) 22 22 ty 3 b 1 4 4 ⟨b, 2, none⟩ 1 3 [pI x1] Tryz.underlying22 (by kernel_rfl) rfl ?_ ?_ ?_ (by simp [Value.oneCell'])
    · rintro j v hj
      have e : (⟨b, 2, none⟩ : Addr).add j = ⟨b, 2 + j, none⟩ := by simp [Addr.add]
      rw [e, World.cell?_drewN]
      rcases j with _ | j <;> simp at hj <;> subst hj <;> first | exact c1 | exact c2 | exact c3 | exact c4
    · rintro j hj
      have hj2 : j < 1 := hj
      rw [World.cell?_drewN, cellH hb]
      rcases (show j = 0 by omega) with rfl <;> rfl
    · rintro j hj
      rw [World.frozen?_drewN]
      exact freeH hb _
  have hcl : ∀ (ty : TypeId) (m : Nat), (Builtin.clear_ #[22] ty #[.slice (some ⟨b, 2, none⟩) 3 3]).run Tryz.prog (((((w.drewN m).setCell ⟨b, 1, none⟩ (pI x1))).setCell ⟨b, 5, none⟩ (.int .i64 1)).drew) = .ok (.tuple #[]) ((((((w.drewN m).setCell ⟨b, 1, none⟩ (pI x1))).setCell ⟨b, 5, none⟩ (.int .i64 1)).drew).setCells b 2 (List.replicate 3 (.int .i64 0))) := fun ty m => by
    refine run_clear_ints _ 22 ty 3 b 2 3 3 (by omega) Tryz.underlying22 (by kernel_rfl) ?_ ?_
    · rintro j hj
      rw [World.cell?_drew]
      have hm : (((((w.drewN m).setCell ⟨b, 1, none⟩ (pI x1))).setCell ⟨b, 5, none⟩ (.int .i64 1))).heap[b]? = some (.cells _ T (0, 0)) := (setH (setH hb 1 (pI x1)) 5 (.int .i64 1))
      rw [cellH hm]
      rcases (show j = 0 ∨ j = 1 ∨ j = 2 ∨ j = 3 by omega) with rfl | rfl | rfl | rfl <;> first | omega | rfl
    · rintro j hj
      rw [World.frozen?_drew]
      simp only [World.frozen?_setCell, World.frozen?_drewN]
      exact freeH hb _
  have hend : ∀ m, ((((((w.drewN m).setCell ⟨b, 1, none⟩ (pI x1))).setCell ⟨b, 5, none⟩ (.int .i64 1)).drew).setCells b 2 (List.replicate 3 (.int .i64 0))).heap[b]? = some (.cells (dCells S x1 0 0 0 1 R) T (0, 0)) ∧ But b w ((((((w.drewN m).setCell ⟨b, 1, none⟩ (pI x1))).setCell ⟨b, 5, none⟩ (.int .i64 1)).drew).setCells b 2 (List.replicate 3 (.int .i64 0))) := fun m =>
    ⟨(setH (setH (setH (setH (setH hb 1 (pI x1)) 5 (.int .i64 1)) 2 (.int .i64 0)) 3 (.int .i64 0)) 4 (.int .i64 0)), (((((((But.refl b w).drewN m).set 1 (pI x1)).set 5 (.int .i64 1)).drew).set 2 (.int .i64 0)).set 3 (.int .i64 0)).set 4 (.int .i64 0)⟩
  simp only [World.setCells, List.replicate] at hcp hcl hend
  have HB := Go.Lib.hid hb; clear hb
  have HI := Go.Lib.hid hI; clear hI
  have HX := Go.Lib.hid hx; clear hx

  go_enter Tryz.func100, Tryz.ntmps100
  go_wp2_with fail
  go_quiet (first | (go_at_call 78; exact quietly (HX.out ▸ vindex_any _ [x0, x1] 2 _ (b + 1) x0 _ rfl (by omega) (HI.out _ (fun o => by simp)))))
  go_wp2_with fail
  go_region
  all_goals go_wp2_with fail
  all_goals go_region
  all_goals go_wp2_with fail
  go_end0
  exact ⟨rfl, hend _⟩

end Go.Proofs.YtoobopohohoidaaGreatDoor

namespace Go.Proofs.YtoobopohohoidaaGreatDoor
open Go.RowKit


set_option maxRecDepth 100000 in
set_option maxHeartbeats 2000000 in
theorem vleave_2_1 (b T S x0 x1 : Nat) (R : Value) (w : World) (h0 : x0 ≠ x1)
    (hb : w.heap[b]? = some (.cells (dCells S x0 x1 0 0 2 R) T (0, 0))) :
    Calls Tryz.prog 100 #[.pointer (some ⟨b, 1, none⟩), pI x1] w fun e w' => e = .returned (.tuple #[]) ∧
      w'.heap[b]? = some (.cells (dCells S x0 0 0 0 1 R) T (0, 0)) ∧ But b w w' := by
  have c1 : w.cell? ⟨b, 1, none⟩ = some (pI x0) := cellH hb 1
  have c2 : w.cell? ⟨b, 2, none⟩ = some (pI x1) := cellH hb 2
  have c3 : w.cell? ⟨b, 3, none⟩ = some (pI 0) := cellH hb 3
  have c4 : w.cell? ⟨b, 4, none⟩ = some (pI 0) := cellH hb 4
  have c5 : w.cell? ⟨b, 5, none⟩ = some (pI 2) := cellH hb 5
  have f1 : w.frozen? ⟨b, 1, none⟩ = false := freeH hb 1
  have f2 : w.frozen? ⟨b, 2, none⟩ = false := freeH hb 2
  have f3 : w.frozen? ⟨b, 3, none⟩ = false := freeH hb 3
  have f4 : w.frozen? ⟨b, 4, none⟩ = false := freeH hb 4
  have f5 : w.frozen? ⟨b, 5, none⟩ = false := freeH hb 5
  have hI : ∀ W, (∀ o, W.cell? ⟨b, o, none⟩ = w.cell? ⟨b, o, none⟩) → Ints W (b + 1) (some ⟨b, 1, none⟩) 2 (ofL [x0, x1]) := fun W hW _ => ⟨⟨b, 1, none⟩, rfl, by simp, fun j hj => by
    have e : (⟨b, 1, none⟩ : Addr).add j = ⟨b, 1 + j, none⟩ := by simp [Addr.add]
    rw [e, hW]
    rcases (show j = 0 ∨ j = 1 by omega) with rfl | rfl
    all_goals first | exact c1 | exact c2 | exact c3 | exact c4⟩
  have hx : idxI [x0, x1] x1 = 1 := by simp [idxI, List.idxOf_cons, beq_false_of_ne h0]
  have hcp : ∀ (ty : TypeId) (m : Nat), (Builtin.copy_ #[22, 22] ty #[.slice (some ⟨b, 2, none⟩) 3 3, .slice (some ⟨b, 3, none⟩) 0 2]).run Tryz.prog (w.drewN m) = .ok (goInt 0) ((w.drewN m).setCells b 2 []) := fun ty m => by
    exact run_copy_none (w.drewN m) 22 22 ty 3 _ _ _ _ _ _ Tryz.underlying22 (by kernel_rfl) rfl
  have hcl : ∀ (ty : TypeId) (m : Nat), (Builtin.clear_ #[22] ty #[.slice (some ⟨b, 2, none⟩) 3 3]).run Tryz.prog ((((w.drewN m)).setCell ⟨b, 5, none⟩ (.int .i64 1)).drew) = .ok (.tuple #[]) (((((w.drewN m)).setCell ⟨b, 5, none⟩ (.int .i64 1)).drew).setCells b 2 (List.replicate 3 (.int .i64 0))) := fun ty m => by
    refine run_clear_ints _ 22 ty 3 b 2 3 3 (by omega) Tryz.underlying22 (by kernel_rfl) ?_ ?_
    · rintro j hj
      rw [World.cell?_drew]
      have hm : ((((w.drewN m)).setCell ⟨b, 5, none⟩ (.int .i64 1))).heap[b]? = some (.cells _ T (0, 0)) := (setH hb 5 (.int .i64 1))
      rw [cellH hm]
      rcases (show j = 0 ∨ j = 1 ∨ j = 2 ∨ j = 3 by omega) with rfl | rfl | rfl | rfl <;> first | omega | rfl
    · rintro j hj
      rw [World.frozen?_drew]
      simp only [World.frozen?_setCell, World.frozen?_drewN]
      exact freeH hb _
  have hend : ∀ m, (((((w.drewN m)).setCell ⟨b, 5, none⟩ (.int .i64 1)).drew).setCells b 2 (List.replicate 3 (.int .i64 0))).heap[b]? = some (.cells (dCells S x0 0 0 0 1 R) T (0, 0)) ∧ But b w (((((w.drewN m)).setCell ⟨b, 5, none⟩ (.int .i64 1)).drew).setCells b 2 (List.replicate 3 (.int .i64 0))) := fun m =>
    ⟨(setH (setH (setH (setH hb 5 (.int .i64 1)) 2 (.int .i64 0)) 3 (.int .i64 0)) 4 (.int .i64 0)), ((((((But.refl b w).drewN m).set 5 (.int .i64 1)).drew).set 2 (.int .i64 0)).set 3 (.int .i64 0)).set 4 (.int .i64 0)⟩
  simp only [World.setCells, List.replicate] at hcp hcl hend
  have HB := Go.Lib.hid hb; clear hb
  have HI := Go.Lib.hid hI; clear hI
  have HX := Go.Lib.hid hx; clear hx
  clear h0
  go_enter Tryz.func100, Tryz.ntmps100
  go_wp2_with fail
  go_quiet (first | (go_at_call 78; exact quietly (HX.out ▸ vindex_any _ [x0, x1] 2 _ (b + 1) x1 _ rfl (by omega) (HI.out _ (fun o => by simp)))))
  go_wp2_with fail
  go_region
  all_goals go_wp2_with fail
  all_goals go_region
  all_goals go_wp2_with fail
  go_end0
  exact ⟨rfl, hend _⟩

end Go.Proofs.YtoobopohohoidaaGreatDoor
