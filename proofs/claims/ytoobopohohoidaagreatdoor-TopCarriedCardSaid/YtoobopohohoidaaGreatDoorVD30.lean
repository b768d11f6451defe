/- VAULT: a piece leaves the line. -/
/- VAULT: a piece leaves the line. -/
/- VAULT: a piece leaves the line. -/
import Derived.Test.YtoobopohohoidaaGreatDoorVC
import Derived.Laws.IdiomCopy
set_option linter.unusedSimpArgs false
set_option linter.unusedVariables false
namespace Go.Proofs.YtoobopohohoidaaGreatDoor
open Go.RowKit

theorem But.drewN {sb : Nat} {a w : World} (h : But sb a w) (d : Nat) : But sb a (w.drewN d) := ⟨h.size, h.block, h.os, h.tape, h.output⟩
theorem quietly {P : Program} {f : FuncId} {args : Array Value} {w : World} {n : Nat} {v : Value} (h : Calls P f args (w.drewN n) fun e w' => e = .returned v ∧ w.drewN n = w') : Calls P f args (w.drewN n) fun e w'' => e = .returned v ∧ ∃ m, w'' = w.drewN m :=
  h.mono fun _ _ ⟨he, hm⟩ => ⟨he, n, hm.symm⟩
theorem run_clear_ints {P : Program} (w : World) (T ty elem : TypeId) (b o n cap : Nat) (hn : 0 < n) (hu : P.underlying T = some (.slice elem)) (hz : (zeroValue elem).run P w = .ok (.int .i64 0) w)
    (hc : ∀ j, j < n → (w.cell? ⟨b, o + j, none⟩).isSome = true) (hf : ∀ j, j < n → w.frozen? ⟨b, o + j, none⟩ = false) :
    (Builtin.clear_ #[T] ty #[.slice (some ⟨b, o, none⟩) n cap]).run P w = .ok (.tuple #[]) (w.setCells b o (List.replicate n (.int .i64 0))) := by
  have hst := run_storeCells_cells (P := P) b o (List.replicate n (.int .i64 0)) 0 w (by simpa using hc) (by simpa using hf) (by simp [Value.oneCell'])
  have e : (Builtin.zeroCells (Value.int .i64 0).cells n).toList = List.replicate n (Value.int .i64 0) := by
    apply List.ext_getElem
    · simp [Builtin.zeroCells, Value.cells]
    · intro i h1 h2
      simp [Builtin.zeroCells, Value.cells, Nat.mod_one]
  cases n with
  | zero => omega
  | succ m => simp [Builtin.clear_, run_underlying hu, hz, Result.andThen, e, hst]
abbrev pI (x : Nat) : Value := .int .i64 (x : Int)
/-- A desk in its block. -/
abbrev dCells (S : Nat) (a b c d n : Nat) (R : Value) : Array Value := #[.int .u8 S, pI a, pI b, pI c, pI d, pI n, R]

set_option maxRecDepth 100000 in
set_option maxHeartbeats 2000000 in
theorem vleave_3_1 (b T S x0 x1 x2 : Nat) (R : Value) (w : World) (h0 : x0 ≠ x1)
    (hb : w.heap[b]? = some (.cells (dCells S x0 x1 x2 0 3 R) T (0, 0))) :
    Calls Tryz.prog 100 #[.pointer (some ⟨b, 1, none⟩), pI x1] w fun e w' => e = .returned (.tuple #[]) ∧
      w'.heap[b]? = some (.cells (dCells S x0 x2 0 0 2 R) T (0, 0)) ∧ But b w w' := by
  have c1 : w.cell? ⟨b, 1, none⟩ = some (pI x0) := cellH hb 1
  have c2 : w.cell? ⟨b, 2, none⟩ = some (pI x1) := cellH hb 2
  have c3 : w.cell? ⟨b, 3, none⟩ = some (pI x2) := cellH hb 3
  have c4 : w.cell? ⟨b, 4, none⟩ = some (pI 0) := cellH hb 4
  have c5 : w.cell? ⟨b, 5, none⟩ = some (pI 3) := cellH hb 5
  have f1 : w.frozen? ⟨b, 1, none⟩ = false := freeH hb 1
  have f2 : w.frozen? ⟨b, 2, none⟩ = false := freeH hb 2
  have f3 : w.frozen? ⟨b, 3, none⟩ = false := freeH hb 3
  have f4 : w.frozen? ⟨b, 4, none⟩ = false := freeH hb 4
  have f5 : w.frozen? ⟨b, 5, none⟩ = false := freeH hb 5
  have hI : ∀ W, (∀ o, W.cell? ⟨b, o, none⟩ = w.cell? ⟨b, o, none⟩) → Ints W (b + 1) (some ⟨b, 1, none⟩) 3 (ofL [x0, x1, x2]) := fun W hW _ => ⟨⟨b, 1, none⟩, rfl, by simp, fun j hj => by
    have e : (⟨b, 1, none⟩ : Addr).add j = ⟨b, 1 + j, none⟩ := by simp [Addr.add]
    rw [e, hW]
    rcases (show j = 0 ∨ j = 1 ∨ j = 2 by omega) with rfl | rfl | rfl
    all_goals first | exact c1 | exact c2 | exact c3 | exact c4⟩
  have hx : idxI [x0, x1, x2] x1 = 1 := by simp [idxI, List.idxOf_cons, beq_false_of_ne h0]
  have hcp : ∀ (ty : TypeId) (m : Nat), (Builtin.copy_ #[22, 22] ty #[.slice (some ⟨b, 2, none⟩) 3 3, .slice (some ⟨b, 3, none⟩) 1 2]).run Tryz.prog (w.drewN m) = .ok (goInt 1) ((w.drewN m).setCells b 2 [pI x2]) := fun ty m => by
    refine run_copy_cells (w.drewN m) 22 22 ty 3 b 2 3 3 ⟨b, 3, none⟩ 1 2 [pI x2] Tryz.underlying22 (by kernel_rfl) rfl ?_ ?_ ?_ (by simp [Value.oneCell'])
    · rintro j v hj
      have e : (⟨b, 3, none⟩ : Addr).add j = ⟨b, 3 + j, none⟩ := by simp [Addr.add]
      rw [e, World.cell?_drewN]
      rcases j with _ | j <;> simp at hj <;> subst hj <;> first | exact c1 | exact c2 | exact c3 | exact c4
    · rintro j hj
      have hj2 : j < 1 := hj
      rw [World.cell?_drewN, cellH hb]
      rcases (show j = 0 by omega) with rfl <;> rfl
    · rintro j hj
      rw [World.frozen?_drewN]
      exact freeH hb _
  have hcl : ∀ (ty : TypeId) (m : Nat), (Builtin.clear_ #[22] ty #[.slice (some ⟨b, 3, none⟩) 2 2]).run Tryz.prog (((((w.drewN m).setCell ⟨b, 2, none⟩ (pI x2))).setCell ⟨b, 5, none⟩ (.int .i64 2)).drew) = .ok (.tuple #[]) ((((((w.drewN m).setCell ⟨b, 2, none⟩ (pI x2))).setCell ⟨b, 5, none⟩ (.int .i64 2)).drew).setCells b 3 (List.replicate 2 (.int .i64 0))) := fun ty m => by
    refine run_clear_ints _ 22 ty 3 b 3 2 2 (by omega) Tryz.underlying22 (by kernel_rfl) ?_ ?_
    · rintro j hj
      rw [World.cell?_drew]
      have hm : (((((w.drewN m).setCell ⟨b, 2, none⟩ (pI x2))).setCell ⟨b, 5, none⟩ (.int .i64 2))).heap[b]? = some (.cells _ T (0, 0)) := (setH (setH hb 2 (pI x2)) 5 (.int .i64 2))
      rw [cellH hm]
      rcases (show j = 0 ∨ j = 1 ∨ j = 2 ∨ j = 3 by omega) with rfl | rfl | rfl | rfl <;> first | omega | rfl
    · rintro j hj
      rw [World.frozen?_drew]
      simp only [World.frozen?_setCell, World.frozen?_drewN]
      exact freeH hb _
  have hend : ∀ m, ((((((w.drewN m).setCell ⟨b, 2, none⟩ (pI x2))).setCell ⟨b, 5, none⟩ (.int .i64 2)).drew).setCells b 3 (List.replicate 2 (.int .i64 0))).heap[b]? = some (.cells (dCells S x0 x2 0 0 2 R) T (0, 0)) ∧ But b w ((((((w.drewN m).setCell ⟨b, 2, none⟩ (pI x2))).setCell ⟨b, 5, none⟩ (.int .i64 2)).drew).setCells b 3 (List.replicate 2 (.int .i64 0))) := fun m =>
    ⟨(setH (setH (setH (setH hb 2 (pI x2)) 5 (.int .i64 2)) 3 (.int .i64 0)) 4 (.int .i64 0)), ((((((But.refl b w).drewN m).set 2 (pI x2)).set 5 (.int .i64 2)).drew).set 3 (.int .i64 0)).set 4 (.int .i64 0)⟩
  simp only [World.setCells, List.replicate] at hcp hcl hend
  have HB := Go.Lib.hid hb; clear hb
  have HI := Go.Lib.hid hI; clear hI
  have HX := Go.Lib.hid hx; clear hx
  clear h0
  go_enter Tryz.func100, Tryz.ntmps100
  go_wp2_with fail
  go_quiet (first | (go_at_call 78; exact quietly (HX.out ▸ vindex_any _ [x0, x1, x2] 3 _ (b + 1) x1 _ rfl (by omega) (HI.out _ (fun o => by simp)))))
  go_wp2_with fail
  go_region
  all_goals go_wp2_with fail
  all_goals go_region
  all_goals go_wp2_with fail
  go_end0
  exact ⟨rfl, hend _⟩

end Go.Proofs.YtoobopohohoidaaGreatDoor

namespace Go.Proofs.YtoobopohohoidaaGreatDoor
open Go.RowKit


set_option maxRecDepth 100000 in
set_option maxHeartbeats 2000000 in
theorem vleave_3_0 (b T S x0 x1 x2 : Nat) (R : Value) (w : World) 
    (hb : w.heap[b]? = some (.cells (dCells S x0 x1 x2 0 3 R) T (0, 0))) :
    Calls Tryz.prog 100 #[.pointer (some ⟨b, 1, none⟩), pI x0] w fun e w' => e = .returned (.tuple #[]) ∧
      w'.heap[b]? = some (.cells (dCells S x1 x2 0 0 2 R) T (0, 0)) ∧ But b w w' := by
  have c1 : w.cell? ⟨b, 1, none⟩ = some (pI x0) := cellH hb 1
  have c2 : w.cell? ⟨b, 2, none⟩ = some (pI x1) := cellH hb 2
  have c3 : w.cell? ⟨b, 3, none⟩ = some (pI x2) := cellH hb 3
  have c4 : w.cell? ⟨b, 4, none⟩ = some (pI 0) := cellH hb 4
  have c5 : w.cell? ⟨b, 5, none⟩ = some (pI 3) := cellH hb 5
  have f1 : w.frozen? ⟨b, 1, none⟩ = false := freeH hb 1
  have f2 : w.frozen? ⟨b, 2, none⟩ = false := freeH hb 2
  have f3 : w.frozen? ⟨b, 3, none⟩ = false := freeH hb 3
  have f4 : w.frozen? ⟨b, 4, none⟩ = false := freeH hb 4
  have f5 : w.frozen? ⟨b, 5, none⟩ = false := freeH hb 5
  have hI : ∀ W, (∀ o, W.cell? ⟨b, o, none⟩ = w.cell? ⟨b, o, none⟩) → Ints W (b + 1) (some ⟨b, 1, none⟩) 3 (ofL [x0, x1, x2]) := fun W hW _ => ⟨⟨b, 1, none⟩, rfl, by simp, fun j hj => by
    have e : (⟨b, 1, none⟩ : Addr).add j = ⟨b, 1 + j, none⟩ := by simp [Addr.add]
    rw [e, hW]
    rcases (show j = 0 ∨ j = 1 ∨ j = 2 by omega) with rfl | rfl | rfl
    all_goals first | exact c1 | exact c2 | exact c3 | exact c4⟩
  have hx : idxI [x0, x1, x2] x0 = 0 := by simp [idxI]
  have hcp : ∀ (ty : TypeId) (m : Nat), (Builtin.copy_ #[22, 22] ty #[.slice (some ⟨b, 1, none⟩) 4 4, .slice (some ⟨b, 2, none⟩) 2 3]).run Tryz.prog (w.drewN m) = .ok (goInt 2) ((w.drewN m).setCells b 1 [pI x1, pI x2]) := fun ty m => by
    refine run_copy_cells (w.drewN m) 22 22 ty 3 b 1 4 4 ⟨b, 2, none⟩ 2 3 [pI x1, pI x2] Tryz.underlying22 (by kernel_rfl) rfl ?_ ?_ ?_ (by simp [Value.oneCell'])
    · rintro j v hj
      have e : (⟨b, 2, none⟩ : Addr).add j = ⟨b, 2 + j, none⟩ := by simp [Addr.add]
      rw [e, World.cell?_drewN]
      rcases j with _ | _ | j <;> simp at hj <;> subst hj <;> first | exact c1 | exact c2 | exact c3 | exact c4
    · rintro j hj
      have hj2 : j < 2 := hj
      rw [World.cell?_drewN, cellH hb]
      rcases (show j = 0 ∨ j = 1 by omega) with rfl | rfl <;> rfl
    · rintro j hj
      rw [World.frozen?_drewN]
      exact freeH hb _
  have hcl : ∀ (ty : TypeId) (m : Nat), (Builtin.clear_ #[22] ty #[.slice (some ⟨b, 3, none⟩) 2 2]).run Tryz.prog ((((((w.drewN m).setCell ⟨b, 1, none⟩ (pI x1)).setCell ⟨b, 2, none⟩ (pI x2))).setCell ⟨b, 5, none⟩ (.int .i64 2)).drew) = .ok (.tuple #[]) (((((((w.drewN m).setCell ⟨b, 1, none⟩ (pI x1)).setCell ⟨b, 2, none⟩ (pI x2))).setCell ⟨b, 5, none⟩ (.int .i64 2)).drew).setCells b 3 (List.replicate 2 (.int .i64 0))) := fun ty m => by
    refine run_clear_ints _ 22 ty 3 b 3 2 2 (by omega) Tryz.underlying22 (by kernel_rfl) ?_ ?_
    · rintro j hj
      rw [World.cell?_drew]
      have hm : ((((((w.drewN m).setCell ⟨b, 1, none⟩ (pI x1)).setCell ⟨b, 2, none⟩ (pI x2))).setCell ⟨b, 5, none⟩ (.int .i64 2))).heap[b]? = some (.cells _ T (0, 0)) := (setH (setH (setH hb 1 (pI x1)) 2 (pI x2)) 5 (.int .i64 2))
      rw [cellH hm]
      rcases (show j = 0 ∨ j = 1 ∨ j = 2 ∨ j = 3 by omega) with rfl | rfl | rfl | rfl <;> first | omega | rfl
    · rintro j hj
      rw [World.frozen?_drew]
      simp only [World.frozen?_setCell, World.frozen?_drewN]
      exact freeH hb _
  have hend : ∀ m, (((((((w.drewN m).setCell ⟨b, 1, none⟩ (pI x1)).setCell ⟨b, 2, none⟩ (pI x2))).setCell ⟨b, 5, none⟩ (.int .i64 2)).drew).setCells b 3 (List.replicate 2 (.int .i64 0))).heap[b]? = some (.cells (dCells S x1 x2 0 0 2 R) T (0, 0)) ∧ But b w (((((((w.drewN m).setCell ⟨b, 1, none⟩ (pI x1)).setCell ⟨b, 2, none⟩ (pI x2))).setCell ⟨b, 5, none⟩ (.int .i64 2)).drew).setCells b 3 (List.replicate 2 (.int .i64 0))) := fun m =>
    ⟨(setH (setH (setH (setH (setH hb 1 (pI x1)) 2 (pI x2)) 5 (.int .i64 2)) 3 (.int .i64 0)) 4 (.int .i64 0)), (((((((But.refl b w).drewN m).set 1 (pI x1)).set 2 (pI x2)).set 5 (.int .i64 2)).drew).set 3 (.int .i64 0)).set 4 (.int .i64 0)⟩
  simp only [World.setCells, List.replicate] at hcp hcl hend
  have HB := Go.Lib.hid hb; clear hb
  have HI := Go.Lib.hid hI; clear hI
  have HX := Go.Lib.hid hx; clear hx

  go_enter Tryz.func100, Tryz.ntmps100
  go_wp2_with fail
  go_quiet (first | (go_at_call 78; exact quietly (HX.out ▸ vindex_any _ [x0, x1, x2] 3 _ (b + 1) x0 _ rfl (by omega) (HI.out _ (fun o => by simp)))))
  go_wp2_with fail
  go_region
  all_goals go_wp2_with fail
  all_goals go_region
  all_goals go_wp2_with fail
  go_end0
  exact ⟨rfl, hend _⟩

end Go.Proofs.YtoobopohohoidaaGreatDoor

namespace Go.Proofs.YtoobopohohoidaaGreatDoor
open Go.RowKit


set_option maxRecDepth 100000 in
set_option maxHeartbeats 2000000 in
theorem vleave_3_2 (b T S x0 x1 x2 : Nat) (R : Value) (w : World) (h0 : x0 ≠ x2) (h1 : x1 ≠ x2)
    (hb : w.heap[b]? = some (.cells (dCells S x0 x1 x2 0 3 R) T (0, 0))) :
    Calls Tryz.prog 100 #[.pointer (some ⟨b, 1, none⟩), pI x2] w fun e w' => e = .returned (.tuple #[]) ∧
      w'.heap[b]? = some (.cells (dCells S x0 x1 0 0 2 R) T (0, 0)) ∧ But b w w' := by
  have c1 : w.cell? ⟨b, 1, none⟩ = some (pI x0) := cellH hb 1
  have c2 : w.cell? ⟨b, 2, none⟩ = some (pI x1) := cellH hb 2
  have c3 : w.cell? ⟨b, 3, none⟩ = some (pI x2) := cellH hb 3
  have c4 : w.cell? ⟨b, 4, none⟩ = some (pI 0) := cellH hb 4
  have c5 : w.cell? ⟨b, 5, none⟩ = some (pI 3) := cellH hb 5
  have f1 : w.frozen? ⟨b, 1, none⟩ = false := freeH hb 1
  have f2 : w.frozen? ⟨b, 2, none⟩ = false := freeH hb 2
  have f3 : w.frozen? ⟨b, 3, none⟩ = false := freeH hb 3
  have f4 : w.frozen? ⟨b, 4, none⟩ = false := freeH hb 4
  have f5 : w.frozen? ⟨b, 5, none⟩ = false := freeH hb 5
  have hI : ∀ W, (∀ o, W.cell? ⟨b, o, none⟩ = w.cell? ⟨b, o, none⟩) → Ints W (b + 1) (some ⟨b, 1, none⟩) 3 (ofL [x0, x1, x2]) := fun W hW _ => ⟨⟨b, 1, none⟩, rfl, by simp, fun j hj => by
    have e : (⟨b, 1, none⟩ : Addr).add j = ⟨b, 1 + j, none⟩ := by simp [Addr.add]
    rw [e, hW]
    rcases (show j = 0 ∨ j = 1 ∨ j = 2 by omega) with rfl | rfl | rfl
    all_goals first | exact c1 | exact c2 | exact c3 | exact c4⟩
  have hx : idxI [x0, x1, x2] x2 = 2 := by simp [idxI, List.idxOf_cons, beq_false_of_ne h0, beq_false_of_ne h1]
  have hcp : ∀ (ty : TypeId) (m : Nat), (Builtin.copy_ #[22, 22] ty #[.slice (some ⟨b, 3, none⟩) 2 2, .slice (some ⟨b, 4, none⟩) 0 1]).run Tryz.prog (w.drewN m) = .ok (goInt 0) ((w.drewN m).setCells b 3 []) := fun ty m => by
    exact run_copy_none (w.drewN m) 22 22 ty 3 _ _ _ _ _ _ Tryz.underlying22 (by kernel_rfl) rfl
  have hcl : ∀ (ty : TypeId) (m : Nat), (Builtin.clear_ #[22] ty #[.slice (some ⟨b, 3, none⟩) 2 2]).run Tryz.prog ((((w.drewN m)).setCell ⟨b, 5, none⟩ (.int .i64 2)).drew) = .ok (.tuple #[]) (((((w.drewN m)).setCell ⟨b, 5, none⟩ (.int .i64 2)).drew).setCells b 3 (List.replicate 2 (.int .i64 0))) := fun ty m => by
    refine run_clear_ints _ 22 ty 3 b 3 2 2 (by omega) Tryz.underlying22 (by kernel_rfl) ?_ ?_
    · rintro j hj
      rw [World.cell?_drew]
      have hm : ((((w.drewN m)).setCell ⟨b, 5, none⟩ (.int .i64 2))).heap[b]? = some (.cells _ T (0, 0)) := (setH hb 5 (.int .i64 2))
      rw [cellH hm]
      rcases (show j = 0 ∨ j = 1 ∨ j = 2 ∨ j = 3 by omega) with rfl | rfl | rfl | rfl <;> first | omega | rfl
    · rintro j hj
      rw [World.frozen?_drew]
      simp only [World.frozen?_setCell, World.frozen?_drewN]
      exact freeH hb _
  have hend : ∀ m, (((((w.drewN m)).setCell ⟨b, 5, none⟩ (.int .i64 2)).drew).setCells b 3 (List.replicate 2 (.int .i64 0))).heap[b]? = some (.cells (dCells S x0 x1 0 0 2 R) T (0, 0)) ∧ But b w (((((w.drewN m)).setCell ⟨b, 5, none⟩ (.int .i64 2)).drew).setCells b 3 (List.replicate 2 (.int .i64 0))) := fun m =>
    ⟨(setH (setH (setH hb 5 (.int .i64 2)) 3 (.int .i64 0)) 4 (.int .i64 0)), (((((But.refl b w).drewN m).set 5 (.int .i64 2)).drew).set 3 (.int .i64 0)).set 4 (.int .i64 0)⟩
  simp only [World.setCells, List.replicate] at hcp hcl hend
  have HB := Go.Lib.hid hb; clear hb
  have HI := Go.Lib.hid hI; clear hI
  have HX := Go.Lib.hid hx; clear hx
  clear h0
  clear h1
  go_enter Tryz.func100, Tryz.ntmps100
  go_wp2_with fail
  go_quiet (first | (go_at_call 78; exact quietly (HX.out ▸ vindex_any _ [x0, x1, x2] 3 _ (b + 1) x2 _ rfl (by omega) (HI.out _ (fun o => by simp)))))
  go_wp2_with fail
  go_region
  all_goals go_wp2_with fail
  all_goals go_region
  all_goals go_wp2_with fail
  go_end0
  exact ⟨rfl, hend _⟩

end Go.Proofs.YtoobopohohoidaaGreatDoor
