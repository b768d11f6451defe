/- VAULT: a piece leaves the line. -/
/- VAULT: a piece leaves the line. -/
import Derived.Test.YtoobopohohoidaaGreatDoorVD30
import Derived.Laws.IdiomCopy
set_option linter.unusedSimpArgs false
set_option linter.unusedVariables false
namespace Go.Proofs.YtoobopohohoidaaGreatDoor
open Go.RowKit


set_option maxRecDepth 100000 in
set_option maxHeartbeats 2000000 in
theorem vleave_4_2 (b T S x0 x1 x2 x3 : Nat) (R : Value) (w : World) (h0 : x0 ≠ x2) (h1 : x1 ≠ x2)
    (hb : w.heap[b]? = some (.cells (dCells S x0 x1 x2 x3 4 R) T (0, 0))) :
    Calls Tryz.prog 100 #[.pointer (some ⟨b, 1, none⟩), pI x2] w fun e w' => e = .returned (.tuple #[]) ∧
      w'.heap[b]? = some (.cells (dCells S x0 x1 x3 0 3 R) T (0, 0)) ∧ But b w w' := by
  have c1 : w.cell? ⟨b, 1, none⟩ = some (pI x0) := cellH hb 1
  have c2 : w.cell? ⟨b, 2, none⟩ = some (pI x1) := cellH hb 2
  have c3 : w.cell? ⟨b, 3, none⟩ = some (pI x2) := cellH hb 3
  have c4 : w.cell? ⟨b, 4, none⟩ = some (pI x3) := cellH hb 4
  have c5 : w.cell? ⟨b, 5, none⟩ = some (pI 4) := cellH hb 5
  have f1 : w.frozen? ⟨b, 1, none⟩ = false := freeH hb 1
  have f2 : w.frozen? ⟨b, 2, none⟩ = false := freeH hb 2
  have f3 : w.frozen? ⟨b, 3, none⟩ = false := freeH hb 3
  have f4 : w.frozen? ⟨b, 4, none⟩ = false := freeH hb 4
  have f5 : w.frozen? ⟨b, 5, none⟩ = false := freeH hb 5
  have hI : ∀ W, (∀ o, W.cell? ⟨b, o, none⟩ = w.cell? ⟨b, o, none⟩) → Ints W (b + 1) (some ⟨b, 1, none⟩) 4 (ofL [x0, x1, x2, x3]) := fun W hW _ => ⟨⟨b, 1, none⟩, rfl, by simp, fun j hj => by
    have e : (⟨b, 1, none⟩ : Addr).add j = ⟨b, 1 + j, none⟩ := by simp [Addr.add]
    rw [e, hW]
    rcases (show j = 0 ∨ j = 1 ∨ j = 2 ∨ j = 3 by omega) with rfl | rfl | rfl | rfl
    all_goals first | exact c1 | exact c2 | exact c3 | exact c4⟩
  have hx : idxI [x0, x1, x2, x3] x2 = 2 := by simp [idxI, List.idxOf_cons, beq_false_of_ne h0, beq_false_of_ne h1]
  have hcp : ∀ (ty : TypeId) (m : Nat), (Builtin.copy_ #[22, 22] ty #[.slice (some ⟨b, 3, none⟩) 2 2, .slice (some ⟨b, 4, none⟩) 1 1]).run Tryz.prog (w.drewN m) = .ok (goInt 1) ((w.drewN m).setCells b 3 [pI x3]) := fun ty m => by
    refine run_copy_cells (w.drewN m) 22 22 ty 3 b 3 2 2 ⟨b, 4, none⟩ 1 1 [pI x3] Tryz.underlying22 (by kernel_rfl) rfl ?_ ?_ ?_ (by simp [Value.oneCell'])
    · rintro j v hj
      have e : (⟨b, 4, none⟩ : Addr).add j = ⟨b, 4 + j, none⟩ := by simp [Addr.add]
      rw [e, World.cell?_drewN]
      rcases j with _ | j <;> simp at hj <;> subst hj <;> first | exact c1 | exact c2 | exact c3 | exact c4
    · rintro j hj
      have hj2 : j < 1 := hj
      rw [World.cell?_drewN, cellH hb]
      rcases (show j = 0 by omega) with rfl <;> rfl
    · rintro j hj
      rw [World.frozen?_drewN]
      exact freeH hb _
  have hcl : ∀ (ty : TypeId) (m : Nat), (Builtin.clear_ #[22] ty #[.slice (some ⟨b, 4, none⟩) 1 1]).run Tryz.prog (((((w.drewN m).setCell ⟨b, 3, none⟩ (pI x3))).setCell ⟨b, 5, none⟩ (.int .i64 3)).drew) = .ok (.tuple #[]) ((((((w.drewN m).setCell ⟨b, 3, none⟩ (pI x3))).setCell ⟨b, 5, none⟩ (.int .i64 3)).drew).setCells b 4 (List.replicate 1 (.int .i64 0))) := fun ty m => by
    refine run_clear_ints _ 22 ty 3 b 4 1 1 (by omega) Tryz.underlying22 (by kernel_rfl) ?_ ?_
    · rintro j hj
      rw [World.cell?_drew]
      have hm : (((((w.drewN m).setCell ⟨b, 3, none⟩ (pI x3))).setCell ⟨b, 5, none⟩ (.int .i64 3))).heap[b]? = some (.cells _ T (0, 0)) := (setH (setH hb 3 (pI x3)) 5 (.int .i64 3))
      rw [cellH hm]
      rcases (show j = 0 ∨ j = 1 ∨ j = 2 ∨ j = 3 by omega) with rfl | rfl | rfl | rfl <;> first | omega | rfl
    · rintro j hj
      rw [World.frozen?_drew]
      simp only [World.frozen?_setCell, World.frozen?_drewN]
      exact freeH hb _
  have hend : ∀ m, ((((((w.drewN m).setCell ⟨b, 3, none⟩ (pI x3))).setCell ⟨b, 5, none⟩ (.int .i64 3)).drew).setCells b 4 (List.replicate 1 (.int .i64 0))).heap[b]? = some (.cells (dCells S x0 x1 x3 0 3 R) T (0, 0)) ∧ But b w ((((((w.drewN m).setCell ⟨b, 3, none⟩ (pI x3))).setCell ⟨b, 5, none⟩ (.int .i64 3)).drew).setCells b 4 (List.replicate 1 (.int .i64 0))) := fun m =>
    ⟨(setH (setH (setH hb 3 (pI x3)) 5 (.int .i64 3)) 4 (.int .i64 0)), (((((But.refl b w).drewN m).set 3 (pI x3)).set 5 (.int .i64 3)).drew).set 4 (.int .i64 0)⟩
  simp only [World.setCells, List.replicate] at hcp hcl hend
  have HB := Go.Lib.hid hb; clear hb
  have HI := Go.Lib.hid hI; clear hI
  have HX := Go.Lib.hid hx; clear hx
  clear h0
  clear h1
  go_enter Tryz.func100, Tryz.ntmps100
  go_wp2_with fail
  go_quiet (first | (go_at_call 78; exact quietly (HX.out ▸ vindex_any _ [x0, x1, x2, x3] 4 _ (b + 1) x2 _ rfl (by omega) (HI.out _ (fun o => by simp)))))
  go_wp2_with fail
  go_region
  all_goals go_wp2_with fail
  all_goals go_region
  all_goals go_wp2_with fail
  go_end0
  exact ⟨rfl, hend _⟩

end Go.Proofs.YtoobopohohoidaaGreatDoor

namespace Go.Proofs.YtoobopohohoidaaGreatDoor
open Go.RowKit


set_option maxRecDepth 100000 in
set_option maxHeartbeats 2000000 in
theorem vleave_4_3 (b T S x0 x1 x2 x3 : Nat) (R : Value) (w : World) (h0 : x0 ≠ x3) (h1 : x1 ≠ x3) (h2 : x2 ≠ x3)
    (hb : w.heap[b]? = some (.cells (dCells S x0 x1 x2 x3 4 R) T (0, 0))) :
    Calls Tryz.prog 100 #[.pointer (some ⟨b, 1, none⟩), pI x3] w fun e w' => e = .returned (.tuple #[]) ∧
      w'.heap[b]? = some (.cells (dCells S x0 x1 x2 0 3 R) T (0, 0)) ∧ But b w w' := by
  have c1 : w.cell? ⟨b, 1, none⟩ = some (pI x0) := cellH hb 1
  have c2 : w.cell? ⟨b, 2, none⟩ = some (pI x1) := cellH hb 2
  have c3 : w.cell? ⟨b, 3, none⟩ = some (pI x2) := cellH hb 3
  have c4 : w.cell? ⟨b, 4, none⟩ = some (pI x3) := cellH hb 4
  have c5 : w.cell? ⟨b, 5, none⟩ = some (pI 4) := cellH hb 5
  have f1 : w.frozen? ⟨b, 1, none⟩ = false := freeH hb 1
  have f2 : w.frozen? ⟨b, 2, none⟩ = false := freeH hb 2
  have f3 : w.frozen? ⟨b, 3, none⟩ = false := freeH hb 3
  have f4 : w.frozen? ⟨b, 4, none⟩ = false := freeH hb 4
  have f5 : w.frozen? ⟨b, 5, none⟩ = false := freeH hb 5
  have hI : ∀ W, (∀ o, W.cell? ⟨b, o, none⟩ = w.cell? ⟨b, o, none⟩) → Ints W (b + 1) (some ⟨b, 1, none⟩) 4 (ofL [x0, x1, x2, x3]) := fun W hW _ => ⟨⟨b, 1, none⟩, rfl, by simp, fun j hj => by
    have e : (⟨b, 1, none⟩ : Addr).add j = ⟨b, 1 + j, none⟩ := by simp [Addr.add]
    rw [e, hW]
    rcases (show j = 0 ∨ j = 1 ∨ j = 2 ∨ j = 3 by omega) with rfl | rfl | rfl | rfl
    all_goals first | exact c1 | exact c2 | exact c3 | exact c4⟩
  have hx : idxI [x0, x1, x2, x3] x3 = 3 := by simp [idxI, List.idxOf_cons, beq_false_of_ne h0, beq_false_of_ne h1, beq_false_of_ne h2]
  have hcp : ∀ (ty : TypeId) (m : Nat), (Builtin.copy_ #[22, 22] ty #[.slice (some ⟨b, 4, none⟩) 1 1, .slice (some ⟨b, 1, none⟩) 0 0]).run Tryz.prog (w.drewN m) = .ok (goInt 0) ((w.drewN m).setCells b 4 []) := fun ty m => by
    exact run_copy_none (w.drewN m) 22 22 ty 3 _ _ _ _ _ _ Tryz.underlying22 (by kernel_rfl) rfl
  have hcl : ∀ (ty : TypeId) (m : Nat), (Builtin.clear_ #[22] ty #[.slice (some ⟨b, 4, none⟩) 1 1]).run Tryz.prog ((((w.drewN m)).setCell ⟨b, 5, none⟩ (.int .i64 3)).drew) = .ok (.tuple #[]) (((((w.drewN m)).setCell ⟨b, 5, none⟩ (.int .i64 3)).drew).setCells b 4 (List.replicate 1 (.int .i64 0))) := fun ty m => by
    refine run_clear_ints _ 22 ty 3 b 4 1 1 (by omega) Tryz.underlying22 (by kernel_rfl) ?_ ?_
    · rintro j hj
      rw [World.cell?_drew]
      have hm : ((((w.drewN m)).setCell ⟨b, 5, none⟩ (.int .i64 3))).heap[b]? = some (.cells _ T (0, 0)) := (setH hb 5 (.int .i64 3))
      rw [cellH hm]
      rcases (show j = 0 ∨ j = 1 ∨ j = 2 ∨ j = 3 by omega) with rfl | rfl | rfl | rfl <;> first | omega | rfl
    · rintro j hj
      rw [World.frozen?_drew]
      simp only [World.frozen?_setCell, World.frozen?_drewN]
      exact freeH hb _
  have hend : ∀ m, (((((w.drewN m)).setCell ⟨b, 5, none⟩ (.int .i64 3)).drew).setCells b 4 (List.replicate 1 (.int .i64 0))).heap[b]? = some (.cells (dCells S x0 x1 x2 0 3 R) T (0, 0)) ∧ But b w (((((w.drewN m)).setCell ⟨b, 5, none⟩ (.int .i64 3)).drew).setCells b 4 (List.replicate 1 (.int .i64 0))) := fun m =>
    ⟨(setH (setH hb 5 (.int .i64 3)) 4 (.int .i64 0)), ((((But.refl b w).drewN m).set 5 (.int .i64 3)).drew).set 4 (.int .i64 0)⟩
  simp only [World.setCells, List.replicate] at hcp hcl hend
  have HB := Go.Lib.hid hb; clear hb
  have HI := Go.Lib.hid hI; clear hI
  have HX := Go.Lib.hid hx; clear hx
  clear h0
  clear h1
  clear h2
  go_enter Tryz.func100, Tryz.ntmps100
  go_wp2_with fail
  go_quiet (first | (go_at_call 78; exact quietly (HX.out ▸ vindex_any _ [x0, x1, x2, x3] 4 _ (b + 1) x3 _ rfl (by omega) (HI.out _ (fun o => by simp)))))
  go_wp2_with fail
  go_region
  all_goals go_wp2_with fail
  all_goals go_region
  all_goals go_wp2_with fail
  go_end0
  exact ⟨rfl, hend _⟩

end Go.Proofs.YtoobopohohoidaaGreatDoor
