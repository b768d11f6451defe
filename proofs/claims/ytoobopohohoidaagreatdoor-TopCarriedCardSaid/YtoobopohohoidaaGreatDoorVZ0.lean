/- VAULT: rules, find, porterOf. -/
/- VAULT: two that are ready; a store in a drawn region. -/
import Derived.Test.YtoobopohohoidaaGreatDoorVY0
set_option linter.unusedSimpArgs false
set_option linter.unusedVariables false
namespace Go.Proofs.YtoobopohohoidaaGreatDoor
open Go.RowKit Go.Maps Go.Shelf

abbrev ifV (T : TypeId) : Value := .iface T (.agg #[])
abbrev rulesV : Array Value := #[ifV 205, ifV 199, ifV 201, ifV 206]
theorem vrules_any (w : World) : Calls Tryz.prog 95 #[] w fun e w' => e = .returned (.slice (some ⟨w.heap.size, 0, none⟩) 4 4) ∧ w' = w.alloc (.cells rulesV 169) := by
  go_enter Tryz.func95, Tryz.ntmps95
  go_wp2
  go_ret
  exact ⟨rfl, rfl⟩

set_option maxRecDepth 100000 in
set_option maxHeartbeats 2000000 in
theorem vporter_low (w : World) : Calls Tryz.prog 88 #[ifV 205] w fun e w' => e = .returned (.agg #[.func (.method "gladstone/vault.sends") #[ifV 205] #[], .bool false]) ∧ Below w.heap.size w w' := by
  have ta : ∀ w, (Instr.typeAssert (ifV 205) 169 201 true).run Tryz.prog w = .ok (.tuple #[.agg #[], .bool false]) w := fun _ => by kernel_rfl
  have HX := Go.Lib.hid (show ((w.alloc (.cells #[.nilFunc, .bool false] 176)).alloc (.cells #[] 201)).heap[w.heap.size]? = some (.cells #[.nilFunc, .bool false] 176 (0, 0)) from heap_old _ (heap_alloc_new w _))
  go_enter Tryz.func88, Tryz.ntmps88
  go_wp2_with (first
    | (with_reducible refine wpList_store_whole rfl 176 (.tmp 2) (.tmp 14) rfl w.heap.size #[.func (.method "gladstone/vault.sends") #[ifV 205] #[], .bool false] rfl rfl HX.out (by kernel_rfl) rfl (by simp [Value.oneCell']) ?_; intro W2 g1 g2))
  refine ⟨rfl, _, results_cell_whole rfl rfl g1 Tryz.underlying176 rfl (by kernel_rfl), rfl, ?_⟩
  exact ((((Turn.refl (fun b => b = w.heap.size) w).alloc _).alloc _).trans (Turn.of_but g2)).below (fun b hb h => by omega) (Nat.le_refl _)

set_option maxRecDepth 100000 in
set_option maxHeartbeats 2000000 in
theorem vfind_low (w : World) : Calls Tryz.prog 86 #[.int .i64 0] w fun e w' => e = .returned (.tuple #[ifV 205, .int .i64 0]) ∧ Below w.heap.size w w' := by
  have hB : Below w.heap.size w (w.alloc (.cells rulesV 169)) := (Below.refl w.heap.size w).alloc (Nat.le_refl _) _
  have HB := Go.Lib.hid hB
  clear hB
  go_enter Tryz.func86, Tryz.ntmps86
  go_wp2_with (first
    | (go_at_call 95; refine (vrules_any _).mono ?_; rintro e w' ⟨rfl, rfl⟩)
    | (go_at_call 74; refine (vwithin_yes _ _ _ _ (by omega) (by omega)).mono ?_; rintro e w' ⟨rfl, rfl⟩))
  go_ret2
  exact ⟨rfl, HB.out⟩

set_option maxRecDepth 100000 in
set_option maxHeartbeats 2000000 in
theorem vporter_old (w : World) : Calls Tryz.prog 88 #[ifV 199] w fun e w' => e = .returned (.agg #[.func (.method "gladstone/vault.sends") #[ifV 199] #[], .bool false]) ∧ Below w.heap.size w w' := by
  have ta : ∀ w, (Instr.typeAssert (ifV 199) 169 201 true).run Tryz.prog w = .ok (.tuple #[.agg #[], .bool false]) w := fun _ => by kernel_rfl
  have HX := Go.Lib.hid (show ((w.alloc (.cells #[.nilFunc, .bool false] 176)).alloc (.cells #[] 201)).heap[w.heap.size]? = some (.cells #[.nilFunc, .bool false] 176 (0, 0)) from heap_old _ (heap_alloc_new w _))
  go_enter Tryz.func88, Tryz.ntmps88
  go_wp2_with (first
    | (with_reducible refine wpList_store_whole rfl 176 (.tmp 2) (.tmp 14) rfl w.heap.size #[.func (.method "gladstone/vault.sends") #[ifV 199] #[], .bool false] rfl rfl HX.out (by kernel_rfl) rfl (by simp [Value.oneCell']) ?_; intro W2 g1 g2))
  refine ⟨rfl, _, results_cell_whole rfl rfl g1 Tryz.underlying176 rfl (by kernel_rfl), rfl, ?_⟩
  exact ((((Turn.refl (fun b => b = w.heap.size) w).alloc _).alloc _).trans (Turn.of_but g2)).below (fun b hb h => by omega) (Nat.le_refl _)

set_option maxRecDepth 100000 in
set_option maxHeartbeats 2000000 in
theorem vfind_old (w : World) : Calls Tryz.prog 86 #[.int .i64 1] w fun e w' => e = .returned (.tuple #[ifV 199, .int .i64 0]) ∧ Below w.heap.size w w' := by
  have hB : Below w.heap.size w (w.alloc (.cells rulesV 169)) := (Below.refl w.heap.size w).alloc (Nat.le_refl _) _
  have HB := Go.Lib.hid hB
  clear hB
  go_enter Tryz.func86, Tryz.ntmps86
  go_wp2_with (first
    | (go_at_call 95; refine (vrules_any _).mono ?_; rintro e w' ⟨rfl, rfl⟩)
    | (go_at_call 74; refine (vwithin_yes _ _ _ _ (by omega) (by omega)).mono ?_; rintro e w' ⟨rfl, rfl⟩))
  go_ret2
  exact ⟨rfl, HB.out⟩

set_option maxRecDepth 100000 in
set_option maxHeartbeats 2000000 in
theorem vporter_stale (w : World) : Calls Tryz.prog 88 #[ifV 201] w fun e w' => e = .returned (.agg #[.func (.method "gladstone/vault.sends") #[ifV 201] #[], .bool true]) ∧ Below w.heap.size w w' := by
  have ta : ∀ w, (Instr.typeAssert (ifV 201) 169 201 true).run Tryz.prog w = .ok (.tuple #[.agg #[], .bool true]) w := fun _ => by kernel_rfl
  have HX := Go.Lib.hid (show ((w.alloc (.cells #[.nilFunc, .bool false] 176)).alloc (.cells #[] 201)).heap[w.heap.size]? = some (.cells #[.nilFunc, .bool false] 176 (0, 0)) from heap_old _ (heap_alloc_new w _))
  go_enter Tryz.func88, Tryz.ntmps88
  go_wp2_with (first
    | (with_reducible refine wpList_store_whole rfl 176 (.tmp 2) (.tmp 14) rfl w.heap.size #[.func (.method "gladstone/vault.sends") #[ifV 201] #[], .bool true] rfl rfl HX.out (by kernel_rfl) rfl (by simp [Value.oneCell']) ?_; intro W2 g1 g2))
  refine ⟨rfl, _, results_cell_whole rfl rfl g1 Tryz.underlying176 rfl (by kernel_rfl), rfl, ?_⟩
  exact ((((Turn.refl (fun b => b = w.heap.size) w).alloc _).alloc _).trans (Turn.of_but g2)).below (fun b hb h => by omega) (Nat.le_refl _)

set_option maxRecDepth 100000 in
set_option maxHeartbeats 2000000 in
theorem vfind_stale (w : World) : Calls Tryz.prog 86 #[.int .i64 2] w fun e w' => e = .returned (.tuple #[ifV 201, .int .i64 0]) ∧ Below w.heap.size w w' := by
  have hB : Below w.heap.size w (w.alloc (.cells rulesV 169)) := (Below.refl w.heap.size w).alloc (Nat.le_refl _) _
  have HB := Go.Lib.hid hB
  clear hB
  go_enter Tryz.func86, Tryz.ntmps86
  go_wp2_with (first
    | (go_at_call 95; refine (vrules_any _).mono ?_; rintro e w' ⟨rfl, rfl⟩)
    | (go_at_call 74; refine (vwithin_yes _ _ _ _ (by omega) (by omega)).mono ?_; rintro e w' ⟨rfl, rfl⟩))
  go_ret2
  exact ⟨rfl, HB.out⟩

set_option maxRecDepth 100000 in
set_option maxHeartbeats 2000000 in
theorem vporter_late (w : World) : Calls Tryz.prog 88 #[ifV 206] w fun e w' => e = .returned (.agg #[.func (.method "gladstone/vault.sends") #[ifV 206] #[], .bool false]) ∧ Below w.heap.size w w' := by
  have ta : ∀ w, (Instr.typeAssert (ifV 206) 169 201 true).run Tryz.prog w = .ok (.tuple #[.agg #[], .bool false]) w := fun _ => by kernel_rfl
  have HX := Go.Lib.hid (show ((w.alloc (.cells #[.nilFunc, .bool false] 176)).alloc (.cells #[] 201)).heap[w.heap.size]? = some (.cells #[.nilFunc, .bool false] 176 (0, 0)) from heap_old _ (heap_alloc_new w _))
  go_enter Tryz.func88, Tryz.ntmps88
  go_wp2_with (first
    | (with_reducible refine wpList_store_whole rfl 176 (.tmp 2) (.tmp 14) rfl w.heap.size #[.func (.method "gladstone/vault.sends") #[ifV 206] #[], .bool false] rfl rfl HX.out (by kernel_rfl) rfl (by simp [Value.oneCell']) ?_; intro W2 g1 g2))
  refine ⟨rfl, _, results_cell_whole rfl rfl g1 Tryz.underlying176 rfl (by kernel_rfl), rfl, ?_⟩
  exact ((((Turn.refl (fun b => b = w.heap.size) w).alloc _).alloc _).trans (Turn.of_but g2)).below (fun b hb h => by omega) (Nat.le_refl _)

set_option maxRecDepth 100000 in
set_option maxHeartbeats 2000000 in
theorem vfind_late (w : World) : Calls Tryz.prog 86 #[.int .i64 3] w fun e w' => e = .returned (.tuple #[ifV 206, .int .i64 0]) ∧ Below w.heap.size w w' := by
  have hB : Below w.heap.size w (w.alloc (.cells rulesV 169)) := (Below.refl w.heap.size w).alloc (Nat.le_refl _) _
  have HB := Go.Lib.hid hB
  clear hB
  go_enter Tryz.func86, Tryz.ntmps86
  go_wp2_with (first
    | (go_at_call 95; refine (vrules_any _).mono ?_; rintro e w' ⟨rfl, rfl⟩)
    | (go_at_call 74; refine (vwithin_yes _ _ _ _ (by omega) (by omega)).mono ?_; rintro e w' ⟨rfl, rfl⟩))
  go_ret2
  exact ⟨rfl, HB.out⟩

end Go.Proofs.YtoobopohohoidaaGreatDoor

namespace Go.Proofs.YtoobopohohoidaaGreatDoor
open Go.RowKit Go.Maps Go.Shelf

section
variable {F : Fence} {n : Nat} {P : Program} {ops : Array Oper} {Q : Exit → Act → World → Prop} {md : Region.Mode} {S : World → Prop}
/-- Two that may come up. -/
theorem wpAnyI_two {i k : Nat} {oi ok : Oper} {fuel : Nat} {listed : Array Bool} {a : Act} {w : World} (hr : Region.ready md ops listed = [i, k]) (hi : ops[i]? = some oi) (hk : ops[k]? = some ok)
    (h1 : ∀ K' : Act → World → Prop, (∀ a w, S w → wpAnyI F n P md ops Q S fuel (listed.setIfInBounds i true) a w → K' a w) → if Region.wanted oi (yielded ops a.tmps) = true then Oper.wpIn F n P oi a w K' Q else (∀ f, oi.about P w a.eval = some f → F.fn f) ∧ K' (a.put oi.dst undef) w)
    (h2 : ∀ K' : Act → World → Prop, (∀ a w, S w → wpAnyI F n P md ops Q S fuel (listed.setIfInBounds k true) a w → K' a w) → if Region.wanted ok (yielded ops a.tmps) = true then Oper.wpIn F n P ok a w K' Q else (∀ f, ok.about P w a.eval = some f → F.fn f) ∧ K' (a.put ok.dst undef) w) :
    wpAnyI F n P md ops Q S (fuel + 1) listed a w := by
  refine ⟨fun h0 => (by rw [hr] at h0; cases h0), fun j hj => ?_⟩
  rw [hr] at hj
  rcases (by simpa using hj : j = i ∨ j = k) with rfl | rfl
  · exact wpOpIn_step hi fun K' hK' => h1 K' fun a w h1 h2 => hK' a w ⟨h1, h2⟩
  · exact wpOpIn_step hk fun K' hK' => h2 K' fun a w h1 h2 => hK' a w ⟨h1, h2⟩
end

theorem opIn_store_whole {F : Fence} {n : Nat} {P : Program} {o : Oper} {a : Act} {w : World} {K : Act → World → Prop} {Q : Exit → Act → World → Prop} (ty : TypeId) (x y : Operand) (ho : o.op = .store ty x y)
    (g : Nat) (vs : Array Value) (hx : a.eval x = .pointer (some ⟨g, 0, none⟩)) (hy : a.eval y = .agg vs) {t : TypeId} {cs : Array Value} (hg : w.heap[g]? = some (.cells cs t (0, 0)))
    (hi : (P.info? ty).map (·.size) = some vs.size) (hs : cs.size = vs.size) (h1 : vs.all (·.oneCell') = true)
    (h : ∀ w', w'.heap[g]? = some (.cells vs t (0, 0)) → But g w w' → K (a.put o.dst undef) w') : o.wpIn F n P a w K Q := by
  obtain ⟨w', hrun, h2, h3⟩ := storeAt_row (P := P) w g t ty cs vs hg hi hs h1
  refine ⟨fun f hf => ?_, ?_⟩
  · unfold Oper.about at hf
    rw [ho] at hf
    cases hf
  · rw [Oper.semAt_eq _ _ _ (fun c => by rw [ho]; simp)]
    have hr : (execOp a.eval o).run P w = .ok .skip w' := by
      unfold execOp
      simp only [ho, hx, hy, Sem.run_bind, Sem.run_pure, Result.andThen_ok, hrun]
    rw [hr, Oper.uponIn_skip]
    exact h _ h2 h3

end Go.Proofs.YtoobopohohoidaaGreatDoor
