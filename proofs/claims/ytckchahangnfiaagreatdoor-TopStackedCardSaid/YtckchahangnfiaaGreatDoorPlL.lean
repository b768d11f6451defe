/- PILE: openPile. -/
import Derived.Test.YtckchahangnfiaaGreatDoorPlK
import Derived.Test.YtckchahangnfiaaGreatDoorShF
namespace Go.Proofs.YtckchahangnfiaaGreatDoor
open Go.RowKit

theorem popen1_idle (a b c : Value) (w : World) :
    CallsD Tryz.prog 25 #[a, b, c] .returning w fun e u' w' => e = .returned (.tuple #[]) ∧ u' = .returning ∧ w' = w := by
  refine callsD_of_wpS Tryz.func25 rfl fun c₀ cs hu => ?_
  apply wpS_seq
  apply wpS_region
  simp [wpOpsS, go_sem, recoverD, hu, Tryz.ntmps25, Exit.thenS]
  apply wpS_seq
  apply wpS_region
  simp [wpOpsS, go_sem, Exit.thenS, Array.replicate]
  refine wpS_cond (t := false) (by simp [Act.eval, Array.replicate]) ?_
  simp only [Bool.false_eq_true, if_false]
  refine wpS_of_wp (wp_skip ?_)
  cases c₀
  simp_all [bodyPostS, results, Tryz.results25]

theorem yieldsIf_load_whole {P : Program} {ops : Array Oper} {S : World → Prop} {op : Oper} {a : Act} (hw : Region.wanted op (yielded ops a.tmps) = true) (ty : TypeId) (x : Operand) (ho : op.op = .load ty x)
    (g : Nat) (hx : a.eval x = .pointer (some ⟨g, 0, none⟩)) {t : TypeId} {cs : Array Value} {fr : Nat × Nat} {d : TypeDesc} (hS : ∀ w, S w → w.heap[g]? = some (.cells cs t fr))
    (hu : P.underlying ty = some d) (hd : d.isRow = true) (hi : (P.info? ty).map (·.size) = some cs.size) : YieldsIf P ops S op (.agg cs) a :=
  yieldsIf_load_mid hw ty x ho g 0 hx cs.toList d (fun w h j v hv => by rw [Nat.zero_add, cell_of_row w g j cs t fr (hS w h)]; simpa using hv) hu hd (by simpa using hi)

theorem loadVar_whole {P : Program} {w : World} {g : Nat} {t ty : TypeId} {cs : Array Value} {fr : Nat × Nat} {d : TypeDesc} (hg : w.heap[g]? = some (.cells cs t fr))
    (hu : P.underlying ty = some d) (hd : d.isRow = true) (hi : (P.info? ty).map (·.size) = some cs.size) : (loadVar ty ⟨g, 0, none⟩).run P w = .ok (.agg cs) w := by
  have := run_loadVar_mid (P := P) w g 0 ty cs.toList d (fun j v hv => by rw [Nat.zero_add, cell_of_row w g j cs t fr hg]; simpa using hv) hu hd (by simpa using hi)
  simpa using this

theorem results_cells3 {P : Program} {fn : Func} {p q r : Tmp} {ty ty' ty'' : TypeId} (h : fn.results = #[.cell p ty, .cell q ty', .cell r ty'']) {tmps : Array Value} {w : World} {g g' g'' : Nat} {x y z : Value}
    (hp : tmps.getD p undef = .pointer (some ⟨g, 0, none⟩)) (hq : tmps.getD q undef = .pointer (some ⟨g', 0, none⟩)) (hr : tmps.getD r undef = .pointer (some ⟨g'', 0, none⟩))
    (h1 : (loadVar ty ⟨g, 0, none⟩).run P w = .ok x w) (h2 : (loadVar ty' ⟨g', 0, none⟩).run P w = .ok y w) (h3 : (loadVar ty'' ⟨g'', 0, none⟩).run P w = .ok z w) :
    (results fn tmps).run P w = .ok (.tuple #[x, y, z]) w := by
  have hp' : tmps[p]?.getD undef = .pointer (some ⟨g, 0, none⟩) := by simpa using hp
  have hq' : tmps[q]?.getD undef = .pointer (some ⟨g', 0, none⟩) := by simpa using hq
  have hr' : tmps[r]?.getD undef = .pointer (some ⟨g'', 0, none⟩) := by simpa using hr
  simp [results, h, hp', hq', hr', asAddr, h1, h2, h3]

theorem step_store_whole {P : Program} {ops : Array Oper} {o : Oper} {a : Act} {w : World} {K : Act → World → Prop} {Q : Exit → Act → World → Prop} {E : Prop} (hgd : o.guard = none) (ty : TypeId) (x y : Operand) (ho : o.op = .store ty x y)
    (g : Nat) (vs : Array Value) (hx : a.eval x = .pointer (some ⟨g, 0, none⟩)) (hy : a.eval y = .agg vs) {t : TypeId} {cs : Array Value} (hg : w.heap[g]? = some (.cells cs t (0, 0)))
    (hi : (P.info? ty).map (·.size) = some vs.size) (hs : cs.size = vs.size) (h1 : vs.all (·.oneCell') = true)
    (h : ∀ w', w'.heap[g]? = some (.cells vs t (0, 0)) → But g w w' → K (a.put o.dst undef) w') : if Region.wanted o (yielded ops a.tmps) = true then Oper.wp P o a w K Q else E := by
  have hw : Region.wanted o (yielded ops a.tmps) = true := by simp [Region.wanted, hgd]
  rw [if_pos hw]
  obtain ⟨c⟩ := cs
  obtain ⟨l⟩ := vs
  have hl : c.length = l.length := by simpa using hs
  have := setCells_row (T := t) g l 0 c w hg (by omega)
  refine wp_store_mid ty x y ho g 0 ⟨l⟩ hx hy (fun j hj => ⟨?_, freeH hg _⟩) hi h1 (h _ ?_ this.2)
  · rw [cellH hg]
    simp at hj ⊢
    omega
  · rw [this.1]
    simp [← hl]

/-- openPile's four blocks. -/
structure OAt (w : World) (Y C : Array Value) (W : World) : Prop where
  yard : W.heap[w.heap.size + 1]? = some (.cells Y 55 (0, 0))
  cur : W.heap[w.heap.size + 1 + 1]? = some (.cells C 58 (0, 0))
  err : W.heap[w.heap.size + 1 + 1 + 1]? = some (.cells #[.int .i64 0] 38 (0, 0))
  below : Below w.heap.size w W
  size : w.heap.size + 4 ≤ W.heap.size
theorem OAt.keep {w W W' : World} {Y C : Array Value} (h : OAt w Y C W) (hB : Below W.heap.size W W') : OAt w Y C W' := by
  have hz := h.size
  exact ⟨(hB.block _ (by omega)).trans h.yard, (hB.block _ (by omega)).trans h.cur, (hB.block _ (by omega)).trans h.err, h.below.trans (hB.mono (by omega)), Nat.le_trans hz hB.size⟩
abbrev yNone : Array Value := yCells (.slice none 0 0) 0 (upto 0 fun _ => 0) (upto 0 fun _ => 0) (upto 0 fun _ => 0)
theorem OAt.start (w : World) (A : Array Value) (t : TypeId) : OAt w yNone pNone ((((w.alloc (.cells A t)).alloc (.cells yNone 55)).alloc (.cells pNone 58)).alloc (.cells #[.int .i64 0] 38)) := by
  refine ⟨?_, ?_, ?_, ((((Below.refl _ w).alloc (Nat.le_refl _) _).alloc (by simp) _).alloc (by simp; omega) _).alloc (by simp; omega) _, by simp⟩
  · rw [Below.heap_alloc _ _ _ (by simp), Below.heap_alloc _ _ _ (by simp)]
    have := heap_alloc_new (w.alloc (.cells A t)) (.cells yNone 55)
    rwa [World.size_alloc] at this
  · rw [Below.heap_alloc _ _ _ (by simp)]
    have := heap_alloc_new ((w.alloc (.cells A t)).alloc (.cells yNone 55)) (.cells pNone 58)
    rwa [World.size_alloc, World.size_alloc] at this
  · have := heap_alloc_new (((w.alloc (.cells A t)).alloc (.cells yNone 55)).alloc (.cells pNone 58)) (.cells #[.int .i64 0] 38)
    rwa [World.size_alloc, World.size_alloc, World.size_alloc] at this
theorem OAt.setYard {w W W' : World} {Y Y' C : Array Value} (h : OAt w Y C W) (h1 : W'.heap[w.heap.size + 1]? = some (.cells Y' 55 (0, 0))) (hb : But (w.heap.size + 1) W W') : OAt w Y' C W' := by
  have hz := h.size
  exact ⟨h1, (hb.block _ (by omega) (by omega)).trans h.cur, (hb.block _ (by omega) (by omega)).trans h.err, h.below.trans (hb.below (by omega) (by omega)), Nat.le_trans hz hb.size⟩
theorem OAt.setCur {w W W' : World} {Y C C' : Array Value} (h : OAt w Y C W) (h1 : W'.heap[w.heap.size + 1 + 1]? = some (.cells C' 58 (0, 0))) (hb : But (w.heap.size + 1 + 1) W W') : OAt w Y C' W' := by
  have hz := h.size
  exact ⟨(hb.block _ (by omega) (by omega)).trans h.yard, h1, (hb.block _ (by omega) (by omega)).trans h.err, h.below.trans (hb.below (by omega) (by omega)), Nat.le_trans hz hb.size⟩

theorem OAt.setErr {w W : World} {Y C : Array Value} (h : OAt w Y C W) : OAt w Y C (W.setCell ⟨w.heap.size + 1 + 1 + 1, 0, none⟩ (.int .i64 0)) := by
  have hz := h.size
  exact ⟨(Below.heap_setCell _ _ _ _ (by simp)).trans h.yard, (Below.heap_setCell _ _ _ _ (by simp)).trans h.cur, setH h.err 0 (.int .i64 0), h.below.setCell (p := ⟨w.heap.size + 1 + 1 + 1, 0, none⟩) (by simp; omega) _, by simpa using hz⟩

set_option maxRecDepth 100000 in
set_option maxHeartbeats 4000000 in
theorem popenPile_gen (qb n qcap m xcap xb : Nat) (L : Int) (lo hi br tl : Nat → Int) (C : Array Value) (hC : C.size = 5) (hC1 : C.all (·.oneCell') = true) (w : World) (hn : n ≤ 5) (hqb : qb < w.heap.size) (hxb : xb < w.heap.size) (h1 : 1 ≤ L) (h2 : L ≤ 12) (H : ParcelsAt w qb n lo hi br tl)
    (hp : ∀ W, Below w.heap.size w W → Calls Tryz.prog 26 #[.agg (yCells (.slice (some ⟨qb, 0, none⟩) n qcap) L (upto n lo) (upto n hi) (upto n tl)), .slice (some ⟨xb, 0, none⟩) m xcap] W fun e w' => e = .returned (.agg C) ∧ Below W.heap.size W w') :
    Calls Tryz.prog 13 #[.agg #[.slice (some ⟨qb, 0, none⟩) n qcap, .int .i64 L], .slice (some ⟨xb, 0, none⟩) m xcap] w fun e w' =>
      e = .returned (.tuple #[.agg (yCells (.slice (some ⟨qb, 0, none⟩) n qcap) L (upto n lo) (upto n hi) (upto n tl)), .agg C, .int .i64 0]) ∧ Below w.heap.size w w' := by
  have hmf : ∀ (fn : Fn) (first cap : Array Value) (w : World), (Instr.makeFunc fn first cap).run Tryz.prog w = .ok (.func fn first cap) w := fun _ _ _ _ => rfl
  have HH := Go.Lib.hid H; clear H
  have HP := Go.Lib.hid hp; clear hp
  have HS := Go.Lib.hid (OAt.start w #[.slice (some ⟨qb, 0, none⟩) n qcap, .int .i64 L] 30)
  go_enter_defers Tryz.func13, Tryz.ntmps13
  go_wp2_with (first
    | (go_at_call 24; refine (popen_any qb n qcap L lo hi br tl _ hn (Nat.lt_of_lt_of_le hqb HS.out.below.size) h1 h2 (HH.out.below HS.out.below hqb)).mono ?_; rintro e w1 ⟨rfl, hB1⟩
       have H1 := HS.out.keep hB1
       have HS1 := Go.Lib.hid H1; clear H1)
    | (with_reducible refine wpList_store_whole rfl 55 (.tmp 4) (.tmp 10) rfl (w.heap.size + 1) (yCells (.slice (some ⟨qb, 0, none⟩) n qcap) L (upto n lo) (upto n hi) (upto n tl)) rfl rfl HS1.out.yard (by kernel_rfl) rfl (by simp [Value.oneCell']) ?_
       intro W2 e1 e2
       have H2 := HS1.out.setYard e1 e2
       have d0 : W2.cell? ⟨w.heap.size + 1 + 1 + 1, 0, none⟩ = some (.int .i64 0) := cellH H2.err 0
       have d1 : W2.frozen? ⟨w.heap.size + 1 + 1 + 1, 0, none⟩ = false := freeH H2.err 0
       have HS2 := Go.Lib.hid H2; clear H2))
  have H3 := HS2.out.setErr
  have hS2 := HS2.out
  obtain ⟨W3, hW3⟩ : ∃ W3, W2.setCell ⟨w.heap.size + 1 + 1 + 1, 0, none⟩ (.int .i64 0) = W3 := ⟨_, rfl⟩
  rw [hW3] at H3 ⊢
  clear hW3 hS2 d0 d1 HS2
  obtain ⟨Y, hY⟩ : ∃ Y, yCells (.slice (some ⟨qb, 0, none⟩) n qcap) L (upto n lo) (upto n hi) (upto n tl) = Y := ⟨_, rfl⟩
  have hY1 : Y.size = 17 ∧ Y.all (·.oneCell') = true := by rw [← hY]; exact ⟨rfl, by simp [Value.oneCell']⟩
  rw [hY] at H3 HP ⊢
  have HY := Go.Lib.hid hY; clear hY
  have HH3 := Go.Lib.hid H3; clear H3
  refine wp_region_noPanic ?_
  refine wp_region_held_drew (S := fun W => W.heap[w.heap.size + 1]? = some (.cells Y 55 (0, 0))) (by kernel_rfl) HH3.out.yard (fun hS0 => ?_)
  refine wpAnyH_take (i := 0) (v := .agg Y) rfl (by kernel_rfl) (by kernel_rfl) (by kernel_rfl) (fun _ _ _ h => h) (yieldsIf_load_whole (by rfl) 55 _ rfl (w.heap.size + 1) rfl (fun _ h => h) Tryz.underlying55 rfl (by rw [hY1.1]; kernel_rfl)) hS0 ?_
  simp only [Act.put, List.setIfInBounds_toArray, List.set_cons_zero, List.set_cons_succ]
  refine wpAnyH_take (i := 1) (v := .agg Y) rfl (by kernel_rfl) (by kernel_rfl) (by kernel_rfl) (fun _ _ _ h => h) (yieldsIf_load_whole (by rfl) 55 _ rfl (w.heap.size + 1) rfl (fun _ h => h) Tryz.underlying55 rfl (by rw [hY1.1]; kernel_rfl)) hS0 ?_
  simp only [Act.put, List.setIfInBounds_toArray, List.set_cons_zero, List.set_cons_succ]
  refine wpAnyH_ready (rs := [2]) (by kernel_rfl) (by simp) ?_
  refine AllReadyH.cons rfl (fun K hK => ?_) AllReadyH.nil
  go_simp
  refine hK.out _ _ hS0 (fun hS1 => ?_)
  clear hK K
  refine wpAnyH_ready (rs := [3]) (by kernel_rfl) (by simp) ?_
  refine AllReadyH.cons rfl (fun K hK => ?_) AllReadyH.nil
  go_simp
  refine (HP.out _ HH3.out.below.drew).mono ?_
  rintro e w4 ⟨rfl, hB4⟩
  have H4 := (HH3.out.keep (W' := W3.drew) (Below.refl _ _).drew).keep hB4
  have HH4 := Go.Lib.hid H4; clear H4
  refine hK.out _ _ HH4.out.yard (fun hS1 => ?_)
  clear hK K
  refine wpAnyH_ready (rs := [4]) (by kernel_rfl) (by simp) ?_
  refine AllReadyH.cons rfl (fun K hK => ?_) AllReadyH.nil
  refine step_store_whole rfl 55 (.tmp 4) (.tmp 18) rfl (w.heap.size + 1) Y rfl rfl HH4.out.yard (by rw [hY1.1]; kernel_rfl) rfl hY1.2 (fun W5 e3 e4 => ?_)
  have H5 := HH4.out.setYard e3 e4
  have HH5 := Go.Lib.hid H5; clear H5
  refine hK.out _ _ HH5.out.yard (fun hS1 => ?_)
  clear hK K
  refine wpAnyH_ready (rs := [5]) (by kernel_rfl) (by simp) ?_
  refine AllReadyH.cons rfl (fun K hK => ?_) AllReadyH.nil
  refine step_store_whole rfl 58 (.tmp 5) (.tmp 21) rfl (w.heap.size + 1 + 1) C rfl rfl HH5.out.cur (by rw [hC]; kernel_rfl) hC.symm hC1 (fun W6 e5 e6 => ?_)
  have H6 := HH5.out.setCur e5 e6
  have HH6 := Go.Lib.hid H6; clear H6
  refine hK.out _ _ HH6.out.yard (fun hS1 => ?_)
  clear hK K
  refine wpAnyH_ready (rs := [6]) (by kernel_rfl) (by simp) ?_
  refine AllReadyH.cons rfl (fun K hK => ?_) AllReadyH.nil
  have d0 : W6.cell? ⟨w.heap.size + 1 + 1 + 1, 0, none⟩ = some (.int .i64 0) := cellH HH6.out.err 0
  have d1 : W6.frozen? ⟨w.heap.size + 1 + 1 + 1, 0, none⟩ = false := freeH HH6.out.err 0
  go_simp
  have H7 := HH6.out.setErr
  have HH7 := Go.Lib.hid H7; clear H7
  refine hK.out _ _ HH7.out.yard (fun hS1 => ?_)
  clear hK K hS0 hS1 e3 e4 e5 e6 d0 d1
  refine wpAnyH_done (by kernel_rfl) ?_ _
  refine NoPanic.normal ?_
  obtain ⟨W8, hW8⟩ : ∃ W8, W6.setCell ⟨w.heap.size + 1 + 1 + 1, 0, none⟩ (.int .i64 0) = W8 := ⟨_, rfl⟩
  rw [hW8] at HH7 ⊢
  clear hW8
  go_wp2
  refine leaves_cons (f := 25) (args := #[.pointer (some ⟨w.heap.size + 1, 0, none⟩), .pointer (some ⟨w.heap.size + 1 + 1, 0, none⟩), .pointer (some ⟨w.heap.size + 1 + 1 + 1, 0, none⟩)]) (by simp) (by simp [go_sem]) ?_
  refine (popen1_idle _ _ _ _).mono ?_
  rintro e u' w'' ⟨rfl, rfl, rfl⟩
  have hl1 : (loadVar 55 ⟨w.heap.size + 1, 0, none⟩).run Tryz.prog w'' = .ok (.agg Y) w'' := loadVar_whole HH7.out.yard Tryz.underlying55 rfl (by rw [hY1.1]; kernel_rfl)
  have hl2 : (loadVar 58 ⟨w.heap.size + 1 + 1, 0, none⟩).run Tryz.prog w'' = .ok (.agg C) w'' := loadVar_whole HH7.out.cur Tryz.underlying58 rfl (by rw [hC]; kernel_rfl)
  have d0 : w''.cell? ⟨w.heap.size + 1 + 1 + 1, 0, none⟩ = some (.int .i64 0) := cellH HH7.out.err 0
  have hl3 : (loadVar 38 ⟨w.heap.size + 1 + 1 + 1, 0, none⟩).run Tryz.prog w'' = .ok (.int .i64 0) w'' := by simp [go_sem, d0]
  refine ⟨_, results_cells3 rfl (p := 4) (q := 5) (r := 6) rfl rfl rfl hl1 hl2 hl3, ?_⟩
  exact ⟨by rw [HY.out], HH7.out.below⟩

theorem popenPile1 (qb n qcap xcap xb i : Nat) (L : Int) (lo hi br tl : Nat → Int) (w : World) (hn : n ≤ 5) (hi5 : i < n) (hqb : qb < w.heap.size) (hxb : xb < w.heap.size) (h1 : 1 ≤ L) (h2 : L ≤ 12) (H : ParcelsAt w qb n lo hi br tl)
    (hx : w.cell? ⟨xb, 0, none⟩ = some (.int .i64 i)) (hs : sumOf (upto n tl) (2 ^ i) ≤ L) :
    Calls Tryz.prog 13 #[.agg #[.slice (some ⟨qb, 0, none⟩) n qcap, .int .i64 L], .slice (some ⟨xb, 0, none⟩) 1 xcap] w fun e w' =>
      e = .returned (.tuple #[.agg (yCells (.slice (some ⟨qb, 0, none⟩) n qcap) L (upto n lo) (upto n hi) (upto n tl)), .agg (pOne (2 ^ i)), .int .i64 0]) ∧ Below w.heap.size w w' :=
  popenPile_gen qb n qcap 1 xcap xb L lo hi br tl (pOne (2 ^ i)) rfl (by simp [Value.oneCell']) w hn hqb hxb h1 h2 H fun W hB =>
    ppile1 _ n qcap L _ _ (upto n tl) i xb xcap W hn hi5 (Nat.lt_of_lt_of_le hxb hB.size) ((hB.cell (p := ⟨xb, 0, none⟩) hxb).trans hx)
      (fun j _ => by unfold upto; split <;> first | (have := H.tl1 j (by assumption); omega) | omega) (fun j _ => by unfold upto; split <;> first | (have := H.tl3 j (by assumption); omega) | omega) hs

theorem popenPile2 (qb n qcap xcap xb i k : Nat) (L : Int) (lo hi br tl : Nat → Int) (w : World) (hn : n ≤ 5) (hi5 : i < n) (hk5 : k < n) (hne : i ≠ k) (hqb : qb < w.heap.size) (hxb : xb < w.heap.size) (h1 : 1 ≤ L) (h2 : L ≤ 12) (H : ParcelsAt w qb n lo hi br tl)
    (hx : w.cell? ⟨xb, 0, none⟩ = some (.int .i64 i)) (hy : w.cell? ⟨xb, 1, none⟩ = some (.int .i64 k)) (hs : sumOf (upto n tl) (2 ^ i ||| 2 ^ k) ≤ L) :
    Calls Tryz.prog 13 #[.agg #[.slice (some ⟨qb, 0, none⟩) n qcap, .int .i64 L], .slice (some ⟨xb, 0, none⟩) 2 xcap] w fun e w' =>
      e = .returned (.tuple #[.agg (yCells (.slice (some ⟨qb, 0, none⟩) n qcap) L (upto n lo) (upto n hi) (upto n tl)), .agg (pCells (2 ^ i) (2 ^ k)), .int .i64 0]) ∧ Below w.heap.size w w' :=
  popenPile_gen qb n qcap 2 xcap xb L lo hi br tl (pCells (2 ^ i) (2 ^ k)) rfl (by simp [Value.oneCell']) w hn hqb hxb h1 h2 H fun W hB =>
    ppile2 _ n qcap L _ _ (upto n tl) i k xb xcap W hn hi5 hk5 hne (Nat.lt_of_lt_of_le hxb hB.size) ((hB.cell (p := ⟨xb, 0, none⟩) hxb).trans hx) ((hB.cell (p := ⟨xb, 1, none⟩) hxb).trans hy)
      (fun j _ => by unfold upto; split <;> first | (have := H.tl1 j (by assumption); omega) | omega) (fun j _ => by unfold upto; split <;> first | (have := H.tl3 j (by assumption); omega) | omega) hs

end Go.Proofs.YtckchahangnfiaaGreatDoor
