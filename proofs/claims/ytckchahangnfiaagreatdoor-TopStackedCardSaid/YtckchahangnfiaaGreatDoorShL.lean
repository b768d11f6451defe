/- SHELF: quiet, at two pieces. -/
import Derived.Test.YtckchahangnfiaaGreatDoorShK
namespace Go.Proofs.YtckchahangnfiaaGreatDoor
open Go.RowKit Go.Shelf

attribute [local go_sem] Oper.semAt_some

theorem heap_own {β : Type} {B b : Nat} {o : Obj} (hb : b < B) : OwnFrom B (fun (_ : β) W => W.heap[b]? = some o) := fun _ W W' row hs hg hr =>
  (hg.block b (Array.getElem?_eq_some_iff.1 hs).1 (fun e => by have := (hr b e.symm).1; omega)).trans hs
theorem roundWide {n m : Nat} {P : Program} {l : Nat} {f : FuncId} {tmps : Array Value} {assign body : Code} {w : World} {R : Ending → World → Prop} (h : RoundIn .wide n P l f tmps assign body w R) : RoundIn .wide m P l f tmps assign body w R :=
  ⟨h.1, fun c cs _ => h.2 c cs (room_wide _)⟩
theorem Far.putObj {N Bn l : Nat} {W W' : World} (h : Far N Bn W W') (hl : l < N) (hb : Bn ≠ l) (o : Obj) : Far N Bn W (W'.putObj l o) :=
  ⟨by simpa [World.putObj] using h.size, h.os, h.tape, h.output, fun b h1 h2 => (World.putObj_heap_other (by omega)).trans (h.block b h1 h2), (World.putObj_heap_other hb).trans h.one⟩
theorem Far.refl (N Bn : Nat) (W : World) : Far N Bn W W := ⟨Nat.le_refl _, rfl, rfl, rfl, fun _ _ _ => rfl, rfl⟩
theorem Far.grow {N Bn : Nat} {W A B : World} (h : Far N Bn W A) (k : Below A.heap.size A B) (hb : Bn < A.heap.size) : Far N Bn W B :=
  ⟨Nat.le_trans h.size k.size, k.os.trans h.os, k.tape.trans h.tape, k.output.trans h.output, fun b h1 h2 => (k.block b (Nat.lt_of_lt_of_le h2 h.size)).trans (h.block b h1 h2), (k.block _ hb).trans h.one⟩

theorem with00 (w : World) : Calls Tryz.prog 43 #[.int .u8 0, .int .i64 0] w fun e w' => e = .returned (.int .u8 1) ∧ w = w' := with_any 0 0 w (by omega) (by omega)

/-- How the body of a round over the one pair may be left. -/
def pairPost (Qp : Prop) (I : World → Prop) (id : Nat) (Ix : World → Prop) (W : World) : Exit → Act → World → Prop
  | .normal, _, W' => Qp ∧ I W' ∧ Below W.heap.size W W'
  | .exit i, _, W' => i = id ∧ Ix W' ∧ Below W.heap.size W W'
  | _, _, _ => False

/-- A LOOP OVER THE PAIRS OF TWO PIECES. -/
theorem range_pairs {g : Operand} {ps : Array Tmp} {assign body : Code} {Q : Exit → Act → World → Prop} {a : Act} {w : World} {n : Nat} {Bn : Nat} (hps : ps.size = 2)
    (hg : a.eval g = .func (.func 59) #[] #[.pointer (some ⟨Bn, 0, none⟩)]) (hBn : Bn < w.heap.size) (hc : w.cell? ⟨Bn, 0, none⟩ = some (.int .u8 3))
    (Qp : Prop) (I : World → Prop) (id : Nat) (Ix : World → Prop) (hI : OwnFrom w.heap.size (fun (_ : Unit) => I)) (hIx : OwnFrom w.heap.size (fun (_ : Unit) => Ix)) (h0 : I w) (a₁ : Act)
    (hassign : ∀ (l : Nat) (W : World) (K : Act → World → Prop), K a₁ W → assign.wpIn (Fence.wide.inRound l) 20 Tryz.prog (Exit.then K (fun _ _ _ => False)) { tmps := (ps.zip #[.int .i64 0, .int .i64 1]).foldl (fun t (p, v) => t.setIfInBounds p v) a.tmps, defers := [] } W)
    (hbody : ∀ (l : Nat) (W : World), w.heap.size ≤ l → I W → body.wpIn (Fence.wide.inRound l) 20 Tryz.prog (pairPost Qp I id Ix W) a₁ W)
    (hdone : ∀ (D : Nat) (W : World), w.heap.size ≤ D → Qp → I W → W.heap[D]? = some (.deferred (some [])) → Q .normal { a with defers := { target := .collected D, args := #[] } :: a.defers } W)
    (hstop : ∀ (D : Nat) (W : World), w.heap.size ≤ D → Ix W → W.heap[D]? = some (.deferred (some [])) → (Code.exit id).wpIn .wide n Tryz.prog Q { a with defers := { target := .collected D, args := #[] } :: a.defers } W) :
    (Code.rangeFunc g ps assign body).wpIn .wide n Tryz.prog Q a w := by
  refine wpIn_rangeFunc ?_
  intro fn hfn
  obtain ⟨rc, hrc⟩ : ∃ rc : Loop, { state := .ready, pending := none, fn, tmps := a.tmps, params := ps, assign, body, defers := w.heap.size } = rc := ⟨_, rfl⟩
  have r1 : rc.state = .ready := by rw [← hrc]
  have r2 : rc.pending = none := by rw [← hrc]
  have r3 : rc.params = ps := by rw [← hrc]
  have r4 : rc.fn = fn := by rw [← hrc]
  have r5 : rc.tmps = a.tmps := by rw [← hrc]
  have r6 : rc.assign = assign := by rw [← hrc]
  have r7 : rc.body = body := by rw [← hrc]
  have hent := run_enterLoop_outer (P := Tryz.prog) (w := w) fn a.tmps ps assign body
  rw [hrc] at hent
  have hL := World.alloc_heap_new (w.alloc (.deferred (some []))) (.loop rc)
  rw [World.size_alloc] at hL
  have hD : ((w.alloc (.deferred (some []))).alloc (.loop rc)).heap[w.heap.size]? = some (.deferred (some [])) := (Below.heap_alloc _ _ _ (by simp)).trans (World.alloc_heap_new w _)
  have hI1 : I ((w.alloc (.deferred (some []))).alloc (.loop rc)) := hI.alloc (s := ()) _ (hI.alloc (s := ()) _ h0)
  have hc1 : ((w.alloc (.deferred (some []))).alloc (.loop rc)).cell? ⟨Bn, 0, none⟩ = some (.int .u8 3) := cell_alloc_l _ (cell_alloc_l _ hc)
  have hz1 : ((w.alloc (.deferred (some []))).alloc (.loop rc)).heap.size = w.heap.size + 2 := by simp
  obtain ⟨W1, hW1⟩ : ∃ W1, (w.alloc (.deferred (some []))).alloc (.loop rc) = W1 := ⟨_, rfl⟩
  rw [hW1] at hent hL hD hI1 hc1 hz1
  clear hW1 hrc
  refine ⟨w.heap.size + 1, [{ target := .collected w.heap.size, args := #[] }], W1, { target := .fn (.func 59) #[.pointer (some ⟨Bn, 0, none⟩)], args := #[.func (.yield (w.heap.size + 1)) #[] #[]] }, W1, 59,
    #[.func (.yield (w.heap.size + 1)) #[] #[], .pointer (some ⟨Bn, 0, none⟩)], W1, hent, ?_, fun _ _ => trivial, ?_, fun h => (by cases h), ?_⟩
  · simp only [resolve, hg]
    simp [go_sem]
  · simp [invoke, go_sem, enters_of Tryz.func59 (by kernel_rfl) rfl]
  · have hp := pairs1_two (w.heap.size + 1) Bn W1.heap.size Qp
      (fun W => I W ∧ W.heap[w.heap.size + 1]? = some (.loop rc) ∧ W.heap[w.heap.size]? = some (.deferred (some [])))
      (fun W => Ix W ∧ W.heap[w.heap.size + 1]? = some (.loop { rc with state := .done, pending := some (.exit id) }) ∧ W.heap[w.heap.size]? = some (.deferred (some [])))
      W1 (Nat.le_refl _) (by omega)
      (OwnFrom.and (ownFrom_mono hI (by omega)) (OwnFrom.and (heap_own (by omega)) (heap_own (by omega))))
      (OwnFrom.and (ownFrom_mono hIx (by omega)) (OwnFrom.and (heap_own (by omega)) (heap_own (by omega))))
      ?_ hc1 ⟨hI1, hL, hD⟩
    · refine (callsIn_wide.2 hp).mono ?_
      rintro e W2 ⟨⟨v, rfl⟩, (⟨hq, hi, hl, hd⟩ | ⟨hx, hl, hd⟩)⟩
      · refine ⟨none, _, by rw [← r2]; exact run_endLoop hl (by rw [r1]; simp), hdone _ _ (Nat.le_refl _) hq (hI.putObj (s := ()) _ hi (by omega) hl rfl) ((World.putObj_heap_other (by omega)).trans hd)⟩
      · exact ⟨some (.exit id), _, run_endLoop hl (by simp), hstop _ _ (Nat.le_refl _) (hIx.putObj (s := ()) _ hx (by omega) hl rfl) ((World.putObj_heap_other (by omega)).trans hd)⟩
    · rintro m W ⟨hi, hl, hd⟩
      have hlt : w.heap.size + 1 < W.heap.size := (Array.getElem?_eq_some_iff.1 hl).1
      have hy := run_yield (P := Tryz.prog) (args := #[.int .i64 0, .int .i64 1]) hl (by rw [r3, hps]; rfl)
      rw [r3, r4, r5, r6, r7] at hy
      refine ⟨fn, _, assign, body, hy, roundWide (n := 20) (roundIn_of_wpIn hfn (hassign _ W _ ?_))⟩
      refine ⟨_, run_beginRound hl r1, ?_⟩
      have hl2 : (W.putObj (w.heap.size + 1) (.loop { rc with state := .busy })).heap[w.heap.size + 1]? = some (.loop { rc with state := .busy }) := World.putObj_heap_same hlt
      have hd2 : (W.putObj (w.heap.size + 1) (.loop { rc with state := .busy })).heap[w.heap.size]? = some (.deferred (some [])) := (World.putObj_heap_other (by omega)).trans hd
      have hf2 : Far W1.heap.size Bn W (W.putObj (w.heap.size + 1) (.loop { rc with state := .busy })) := (Far.refl _ _ W).putObj (by omega) (by omega) _
      have hz2 : (W.putObj (w.heap.size + 1) (.loop { rc with state := .busy })).heap.size = W.heap.size := by simp [World.putObj]
      refine wpIn_mono (hbody _ _ (by omega) (hI.putObj (s := ()) _ hi (by omega) hl rfl)) ?_
      rintro e a3 W3 hp
      cases e with
      | normal =>
        obtain ⟨hq, hi3, hB⟩ := hp
        have hl3 := (hB.block _ (by omega)).trans hl2
        refine ⟨_, _, run_endRound none hl3, .inl ⟨rfl, ⟨hq, hI.putObj (s := ()) _ hi3 (by omega) hl3 rfl, ?_, (World.putObj_heap_other (by omega)).trans ((hB.block _ (by omega)).trans hd2)⟩, (hf2.grow hB (by omega)).putObj (by omega) (by omega) _⟩⟩
        rw [World.putObj_heap_same (Array.getElem?_eq_some_iff.1 hl3).1]
        congr 2
        cases rc
        simp_all
      | exit i =>
        obtain ⟨rfl, hi3, hB⟩ := hp
        have hl3 := (hB.block _ (by omega)).trans hl2
        refine ⟨_, _, run_endRound (some (.exit i)) hl3, .inr ⟨rfl, ⟨hIx.putObj (s := ()) _ hi3 (by omega) hl3 rfl, ?_, (World.putObj_heap_other (by omega)).trans ((hB.block _ (by omega)).trans hd2)⟩, (hf2.grow hB (by omega)).putObj (by omega) (by omega) _⟩⟩
        rw [World.putObj_heap_same (Array.getElem?_eq_some_iff.1 hl3).1]
        rfl
      | ret => exact hp.elim
      | goto t => exact hp.elim
      | panic ch => exact hp.elim
      | outgrown => exact hp.elim

set_option maxRecDepth 100000 in
set_option maxHeartbeats 600000 in
theorem quiet_yes (lb bb lcap bcap : Nat) (P M : Value) (hf : Nat → Int) (w : World) (hbb : bb < w.heap.size) (hb : BagsAt w bb 2 hf) (hle : hf 1 ≤ hf 0) :
    Calls Tryz.prog 20 #[.agg (cellsAt (.slice (some ⟨lb, 0, none⟩) 1 lcap) (.slice (some ⟨bb, 0, none⟩) 2 bcap) P M 2)] w fun e w' =>
      e = .returned (.int .u8 1) ∧ Below w.heap.size w w' := by
  refine (callsIn_wide (n := 20)).1 ?_
  refine callsIn_of_wp_marks Tryz.func20 rfl trivial ?_ rfl
  simp only [Tryz.ntmps20, List.size_toArray, List.length_cons, List.length_nil, Nat.reduceAdd, Nat.reduceSub, Array.replicate_succ, Array.replicate_zero, List.push_toArray, List.append_toArray, List.nil_append, List.cons_append]
  have HB := Go.Lib.hid hb; clear hb
  have hrow := fun (w : World) => row_low (.slice (some ⟨lb, 0, none⟩) 1 lcap) (.slice (some ⟨bb, 0, none⟩) 2 bcap) P M 2 w (by omega)
  have hrow3 : ∀ w : World, Calls Tryz.prog 40 #[.agg (cellsAt (.slice (some ⟨lb, 0, none⟩) 1 lcap) (.slice (some ⟨bb, 0, none⟩) 2 bcap) P M 2), .int .i64 0] w fun e w' => e = .returned (.int .u8 3) ∧ Below w.heap.size w w' := fun w => hrow w
  clear hrow
  have hp3 : ∀ w : World, Calls Tryz.prog 42 #[.int .u8 3] w fun e w' => e = .returned (.func (.func 59) #[] #[.pointer (some ⟨w.heap.size, 0, none⟩)]) ∧ w' = w.alloc (.cells #[.int .u8 3] 69) := fun w => pairs_any 3 w
  have HR := Go.Lib.hid hrow3; clear hrow3
  have HP := Go.Lib.hid hp3; clear hp3
  gi_wp2
  refine (wpIn_wide (n := 20)).2 (wp_scope_straight ((wpIn_wide (n := 20)).1 ?_))
  gi_wp2
  refine wpIn_label ?_
  gi_wp2
  trace "1"
  refine wpIn_loop_rounds 2 ?_
  trace "2"
  rw [roundsIn_succ]
  generalize hQ2 : Exit.then (Code.roundsIn _ _ _ _ _ 1) _ = Q2
  have HQ2 := Go.Lib.hid hQ2; clear hQ2
  gi_wp2_with (first | (refine ⟨trivial, ?_⟩; gi_at_call 40; refine (callsIn_wide.2 (HR.out _)).mono ?_; rintro e w1 ⟨rfl, hB1⟩) | (refine ⟨trivial, ?_⟩; gi_at_call 42; refine (callsIn_wide.2 (HP.out _)).mono ?_; rintro e w2 ⟨rfl, rfl⟩))
  have hz1 := hB1.size
  simp only [World.size_alloc] at hz1
  have hBw : Below w.heap.size w (w1.alloc (.cells #[.int .u8 3] 69)) := (((Below.refl _ w).alloc (Nat.le_refl _) _).trans (hB1.mono (by simp))).alloc (by omega) _
  have hbox : (w1.alloc (.cells #[.int .u8 3] 69)).heap[w.heap.size]? = some (.cells (cellsAt (.slice (some ⟨lb, 0, none⟩) 1 lcap) (.slice (some ⟨bb, 0, none⟩) 2 bcap) P M 2) 66 (0, 0)) := by
    rw [Below.heap_alloc _ _ _ (by omega), hB1.block _ (by simp)]
    exact heap_alloc_new w _
  have hset := heap_alloc_new w1 (.cells #[.int .u8 3] 69)
  have hsz0 : (w1.alloc (.cells #[.int .u8 3] 69)).heap.size = w1.heap.size + 1 := by simp
  obtain ⟨W0, hW0⟩ : ∃ W0, w1.alloc (.cells #[.int .u8 3] 69) = W0 := ⟨_, rfl⟩
  rw [hW0] at hBw hbox hset hsz0 ⊢
  clear hW0 hB1
  refine range_pairs (n := 20) (Bn := w1.heap.size) rfl rfl (by omega) (cellH hset 0) True
    (fun W => W.heap[w.heap.size]? = some (.cells (cellsAt (.slice (some ⟨lb, 0, none⟩) 1 lcap) (.slice (some ⟨bb, 0, none⟩) 2 bcap) P M 2) 66 (0, 0)) ∧ Below w.heap.size w W) 1 (fun _ => False)
    (OwnFrom.and (heap_own (by omega)) (ownFrom_below (Nat.le_refl _) (by omega))) (fun _ _ _ _ hs _ _ => hs) ⟨hbox, hBw⟩
    { tmps := #[.agg (cellsAt (.slice (some ⟨lb, 0, none⟩) 1 lcap) (.slice (some ⟨bb, 0, none⟩) 2 bcap) P M 2), .pointer (some ⟨w.heap.size, 0, none⟩), .int .u8 0, .int .u8 0, .int .i64 0, .int .i64 0, .int .i64 1, undef, undef, .pointer (some ⟨w.heap.size, 0, none⟩), .pointer (some ⟨w.heap.size, 0, none⟩), .slice (some ⟨lb, 0, none⟩) 1 lcap, .int .i64 1, .int .i64 0, .bool true, .int .i64 0, .agg (cellsAt (.slice (some ⟨lb, 0, none⟩) 1 lcap) (.slice (some ⟨bb, 0, none⟩) 2 bcap) P M 2), .int .i64 0, .int .u8 3, .func (.func 59) #[] #[.pointer (some ⟨w1.heap.size, 0, none⟩)], .int .i64 0, .int .i64 1, undef, undef, undef, undef, undef, undef, undef, undef, undef, undef, undef, undef, undef, undef, undef], defers := [] } ?assign ?body ?done ?stop
  case assign =>
    intro l W K hK
    gi_wp2
    exact hK
  case body =>
    rintro l W hl ⟨hx1, hB⟩
    have hzW := (Array.getElem?_eq_some_iff.1 hx1).1
    have ta : ∀ w, (Instr.typeAssert (.iface 99 (.agg #[])) 74 99 true).run Tryz.prog w = .ok (.tuple #[.agg #[], .bool true]) w := fun _ => by kernel_rfl
    have b0 : W.cell? ⟨w.heap.size, 0, none⟩ = some (.slice (some ⟨lb, 0, none⟩) 1 lcap) := cellH hx1 0
    have b1 : W.cell? ⟨w.heap.size, 1, none⟩ = some (.slice (some ⟨bb, 0, none⟩) 2 bcap) := cellH hx1 1
    have b2 : W.cell? ⟨w.heap.size, 2, none⟩ = some (P) := cellH hx1 2
    have b3 : W.cell? ⟨w.heap.size, 3, none⟩ = some (.int .i64 0) := cellH hx1 3
    have b4 : W.cell? ⟨w.heap.size, 4, none⟩ = some (.int .i64 0) := cellH hx1 4
    have b5 : W.cell? ⟨w.heap.size, 5, none⟩ = some (.int .i64 0) := cellH hx1 5
    have b6 : W.cell? ⟨w.heap.size, 6, none⟩ = some (.int .i64 0) := cellH hx1 6
    have b7 : W.cell? ⟨w.heap.size, 7, none⟩ = some (.int .i64 0) := cellH hx1 7
    have b8 : W.cell? ⟨w.heap.size, 8, none⟩ = some (.int .i64 2) := cellH hx1 8
    have b9 : W.cell? ⟨w.heap.size, 9, none⟩ = some (M) := cellH hx1 9
    have HX := Go.Lib.hid hx1; clear hx1
    gi_wp2_with (refine ⟨trivial, ?_⟩; gi_at_call 19; refine (CallsIn.inRound l (callsIn_wide.2 (judge_noWay bb 2 bcap 0 1 hf _ _ _ 2 _ (by omega) (by omega) (by omega) (Nat.lt_of_lt_of_le hbb hB.size) (HB.out.below hB hbb) hle))).mono ?_; rintro e w3 ⟨rfl, hB3⟩)
    have hx1 := HX.out
    have hz3 := hB3.size
    refine ⟨trivial, ⟨(Below.heap_alloc _ _ _ (by omega)).trans ((hB3.block _ hzW).trans hx1), (hB.trans (hB3.mono hB.size)).alloc (by have := hB.size; omega) _⟩, hB3.alloc hz3 _⟩
  case done =>
    rintro D W hD _ ⟨hx1, hB⟩ hKD
    gi_wp2_with (refine ⟨trivial, ?_⟩; gi_at_call 43; refine (callsIn_wide.2 (with00 _)).mono ?_; rintro e w' ⟨rfl, rfl⟩)
    rw [← HQ2.out]
    simp only [Exit.then]
    rw [roundsIn_succ]
    generalize hQ3 : Exit.then (Code.roundsIn _ _ _ _ _ 0) _ = Q3
    have HQ3 := Go.Lib.hid hQ3; clear hQ3
    gi_wp2
    rw [← HQ3.out]
    simp only [Exit.then, Exit.inBlock, if_true]
    gi_wp2
    simp only [Exit.noGoto]
    refine ⟨by simp, .inl ⟨_, _, rfl, run_takeDeferred hKD, ?_⟩⟩
    exact ⟨_, results_tmp rfl _ _ _, rfl, hB.trans (belowK_b (w := w) (Nat.le_refl _) W D _ _ (by have := hBw.size; omega) hKD rfl rfl)⟩
  case stop =>
    rintro D W _ h
    exact h.elim

set_option maxRecDepth 100000 in
set_option maxHeartbeats 600000 in
theorem quiet_no (lb bb lcap bcap : Nat) (P M : Value) (hf : Nat → Int) (w : World) (hbb : bb < w.heap.size) (hb : BagsAt w bb 2 hf) (hle : hf 0 < hf 1) :
    Calls Tryz.prog 20 #[.agg (cellsAt (.slice (some ⟨lb, 0, none⟩) 1 lcap) (.slice (some ⟨bb, 0, none⟩) 2 bcap) P M 2)] w fun e w' =>
      e = .returned (.int .u8 0) ∧ Below w.heap.size w w' := by
  refine (callsIn_wide (n := 20)).1 ?_
  refine callsIn_of_wp_marks Tryz.func20 rfl trivial ?_ rfl
  simp only [Tryz.ntmps20, List.size_toArray, List.length_cons, List.length_nil, Nat.reduceAdd, Nat.reduceSub, Array.replicate_succ, Array.replicate_zero, List.push_toArray, List.append_toArray, List.nil_append, List.cons_append]
  have HB := Go.Lib.hid hb; clear hb
  have hrow := fun (w : World) => row_low (.slice (some ⟨lb, 0, none⟩) 1 lcap) (.slice (some ⟨bb, 0, none⟩) 2 bcap) P M 2 w (by omega)
  have hrow3 : ∀ w : World, Calls Tryz.prog 40 #[.agg (cellsAt (.slice (some ⟨lb, 0, none⟩) 1 lcap) (.slice (some ⟨bb, 0, none⟩) 2 bcap) P M 2), .int .i64 0] w fun e w' => e = .returned (.int .u8 3) ∧ Below w.heap.size w w' := fun w => hrow w
  clear hrow
  have hp3 : ∀ w : World, Calls Tryz.prog 42 #[.int .u8 3] w fun e w' => e = .returned (.func (.func 59) #[] #[.pointer (some ⟨w.heap.size, 0, none⟩)]) ∧ w' = w.alloc (.cells #[.int .u8 3] 69) := fun w => pairs_any 3 w
  have HR := Go.Lib.hid hrow3; clear hrow3
  have HP := Go.Lib.hid hp3; clear hp3
  gi_wp2
  refine (wpIn_wide (n := 20)).2 (wp_scope_straight ((wpIn_wide (n := 20)).1 ?_))
  gi_wp2
  refine wpIn_label ?_
  gi_wp2
  trace "1"
  refine wpIn_loop_rounds 2 ?_
  trace "2"
  rw [roundsIn_succ]
  generalize hQ2 : Exit.then (Code.roundsIn _ _ _ _ _ 1) _ = Q2
  have HQ2 := Go.Lib.hid hQ2; clear hQ2
  gi_wp2_with (first | (refine ⟨trivial, ?_⟩; gi_at_call 40; refine (callsIn_wide.2 (HR.out _)).mono ?_; rintro e w1 ⟨rfl, hB1⟩) | (refine ⟨trivial, ?_⟩; gi_at_call 42; refine (callsIn_wide.2 (HP.out _)).mono ?_; rintro e w2 ⟨rfl, rfl⟩))
  have hz1 := hB1.size
  simp only [World.size_alloc] at hz1
  have hBw : Below w.heap.size w (w1.alloc (.cells #[.int .u8 3] 69)) := (((Below.refl _ w).alloc (Nat.le_refl _) _).trans (hB1.mono (by simp))).alloc (by omega) _
  have hbox : (w1.alloc (.cells #[.int .u8 3] 69)).heap[w.heap.size]? = some (.cells (cellsAt (.slice (some ⟨lb, 0, none⟩) 1 lcap) (.slice (some ⟨bb, 0, none⟩) 2 bcap) P M 2) 66 (0, 0)) := by
    rw [Below.heap_alloc _ _ _ (by omega), hB1.block _ (by simp)]
    exact heap_alloc_new w _
  have hset := heap_alloc_new w1 (.cells #[.int .u8 3] 69)
  have hsz0 : (w1.alloc (.cells #[.int .u8 3] 69)).heap.size = w1.heap.size + 1 := by simp
  obtain ⟨W0, hW0⟩ : ∃ W0, w1.alloc (.cells #[.int .u8 3] 69) = W0 := ⟨_, rfl⟩
  rw [hW0] at hBw hbox hset hsz0 ⊢
  clear hW0 hB1
  refine range_pairs (n := 20) (Bn := w1.heap.size) rfl rfl (by omega) (cellH hset 0) False
    (fun W => W.heap[w.heap.size]? = some (.cells (cellsAt (.slice (some ⟨lb, 0, none⟩) 1 lcap) (.slice (some ⟨bb, 0, none⟩) 2 bcap) P M 2) 66 (0, 0)) ∧ Below w.heap.size w W) 1 (fun W => W.heap[w.heap.size]? = some (.cells (cellsAt (.slice (some ⟨lb, 0, none⟩) 1 lcap) (.slice (some ⟨bb, 0, none⟩) 2 bcap) P M 2) 66 (0, 0)) ∧ Below w.heap.size w W)
    (OwnFrom.and (heap_own (by omega)) (ownFrom_below (Nat.le_refl _) (by omega))) (OwnFrom.and (heap_own (by omega)) (ownFrom_below (Nat.le_refl _) (by omega))) ⟨hbox, hBw⟩
    { tmps := #[.agg (cellsAt (.slice (some ⟨lb, 0, none⟩) 1 lcap) (.slice (some ⟨bb, 0, none⟩) 2 bcap) P M 2), .pointer (some ⟨w.heap.size, 0, none⟩), .int .u8 0, .int .u8 0, .int .i64 0, .int .i64 0, .int .i64 1, undef, undef, .pointer (some ⟨w.heap.size, 0, none⟩), .pointer (some ⟨w.heap.size, 0, none⟩), .slice (some ⟨lb, 0, none⟩) 1 lcap, .int .i64 1, .int .i64 0, .bool true, .int .i64 0, .agg (cellsAt (.slice (some ⟨lb, 0, none⟩) 1 lcap) (.slice (some ⟨bb, 0, none⟩) 2 bcap) P M 2), .int .i64 0, .int .u8 3, .func (.func 59) #[] #[.pointer (some ⟨w1.heap.size, 0, none⟩)], .int .i64 0, .int .i64 1, undef, undef, undef, undef, undef, undef, undef, undef, undef, undef, undef, undef, undef, undef, undef], defers := [] } ?assign ?body ?done ?stop
  case assign =>
    intro l W K hK
    gi_wp2
    exact hK
  case body =>
    rintro l W hl ⟨hx1, hB⟩
    have hzW := (Array.getElem?_eq_some_iff.1 hx1).1
    have ta : ∀ w, (Instr.typeAssert (.iface 98 (.agg #[])) 74 99 true).run Tryz.prog w = .ok (.tuple #[.agg #[], .bool false]) w := fun _ => by kernel_rfl
    have b0 : W.cell? ⟨w.heap.size, 0, none⟩ = some (.slice (some ⟨lb, 0, none⟩) 1 lcap) := cellH hx1 0
    have b1 : W.cell? ⟨w.heap.size, 1, none⟩ = some (.slice (some ⟨bb, 0, none⟩) 2 bcap) := cellH hx1 1
    have b2 : W.cell? ⟨w.heap.size, 2, none⟩ = some (P) := cellH hx1 2
    have b3 : W.cell? ⟨w.heap.size, 3, none⟩ = some (.int .i64 0) := cellH hx1 3
    have b4 : W.cell? ⟨w.heap.size, 4, none⟩ = some (.int .i64 0) := cellH hx1 4
    have b5 : W.cell? ⟨w.heap.size, 5, none⟩ = some (.int .i64 0) := cellH hx1 5
    have b6 : W.cell? ⟨w.heap.size, 6, none⟩ = some (.int .i64 0) := cellH hx1 6
    have b7 : W.cell? ⟨w.heap.size, 7, none⟩ = some (.int .i64 0) := cellH hx1 7
    have b8 : W.cell? ⟨w.heap.size, 8, none⟩ = some (.int .i64 2) := cellH hx1 8
    have b9 : W.cell? ⟨w.heap.size, 9, none⟩ = some (M) := cellH hx1 9
    have HX := Go.Lib.hid hx1; clear hx1
    gi_wp2_with (refine ⟨trivial, ?_⟩; gi_at_call 19; refine (CallsIn.inRound l (callsIn_wide.2 (judge_always bb 2 bcap 0 1 hf _ _ _ 2 _ (by omega) (by omega) (by omega) (Nat.lt_of_lt_of_le hbb hB.size) (HB.out.below hB hbb) hle))).mono ?_; rintro e w3 ⟨rfl, hB3⟩)
    have hx1 := HX.out
    have hz3 := hB3.size
    refine ⟨rfl, ⟨(Below.heap_alloc _ _ _ (by omega)).trans ((hB3.block _ hzW).trans hx1), (hB.trans (hB3.mono hB.size)).alloc (by have := hB.size; omega) _⟩, hB3.alloc hz3 _⟩
  case done =>
    rintro D W hD h _ _
    exact h.elim
  case stop =>
    rintro D W hD ⟨hx1, hB⟩ hKD
    gi_wp2
    rw [← HQ2.out]
    simp only [Exit.then]
    rw [roundsIn_succ]
    generalize hQ3 : Exit.then (Code.roundsIn _ _ _ _ _ 0) _ = Q3
    have HQ3 := Go.Lib.hid hQ3; clear hQ3
    gi_wp2
    rw [← HQ3.out]
    simp only [Exit.then, Exit.inBlock, if_true]
    gi_wp2
    simp only [Exit.noGoto]
    refine ⟨by simp, .inl ⟨_, _, rfl, run_takeDeferred hKD, ?_⟩⟩
    exact ⟨_, results_tmp rfl _ _ _, rfl, hB.trans (belowK_b (w := w) (Nat.le_refl _) W D _ _ (by have := hBw.size; omega) hKD rfl rfl)⟩

end Go.Proofs.YtckchahangnfiaaGreatDoor
