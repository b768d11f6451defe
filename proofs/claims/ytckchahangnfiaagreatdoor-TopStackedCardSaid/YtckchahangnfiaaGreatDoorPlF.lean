/- PILE: numbers.of. -/
import Derived.Test.YtckchahangnfiaaGreatDoorPlE
import Derived.StillTailTactics
namespace Go.Proofs.YtckchahangnfiaaGreatDoor
open Go.RowKit Go.Shelf

attribute [local go_sem] Oper.semAt_some

abbrev nCells (v : Nat → Int) : Array Value := #[.int .i64 (v 0), .int .i64 (v 1), .int .i64 (v 2), .int .i64 (v 3), .int .i64 (v 4)]
theorem n_at (v : Nat → Int) (k : Nat) (hk : k < 5) : (nCells v)[k]? = some (.int .i64 (v k)) := by
  rcases (show k = 0 ∨ k = 1 ∨ k = 2 ∨ k = 3 ∨ k = 4 by omega) with rfl | rfl | rfl | rfl | rfl <;> rfl

theorem made5 (w : World) : (Instr.makeSlice 22 (.int .i64 0) (.int .i64 5)).run Tryz.prog w = .ok (.slice (some ⟨w.heap.size, 0, none⟩) 0 5) (w.alloc (.cells #[.int .i64 0, .int .i64 0, .int .i64 0, .int .i64 0, .int .i64 0] 3)) := by
  obtain ⟨i0, hi, hz0, hz1, hz2⟩ := info_parts info_int'
  have := run_makeSlice (P := Tryz.prog) w 22 3 i0 (.int .i64 0) Tryz.underlying22 hi hz0 .i64 .i64 0 5 (by omega) (by omega) (by rw [hz1]; decide) (by rw [hz2]; decide) (by omega)
  rw [hz1] at this
  have e : madeCells (Value.int .i64 0).cells (Int.toNat 5 * 1) = #[.int .i64 0, .int .i64 0, .int .i64 0, .int .i64 0, .int .i64 0] := by kernel_rfl
  rw [e] at this
  exact this

theorem block_own {β : Type} (B : Nat) (c : Array Value) (t : TypeId) : Own (fun (_ : β) W => W.heap[B]? = some (.cells c t (0, 0))) := fun _ X Y row h hg hrow =>
  (hg.block B (Array.getElem?_eq_some_iff.1 h).1 (fun e' => by obtain ⟨o, ho, hc⟩ := hrow B e'.symm; rw [h] at ho; cases ho; cases hc)).trans h

/-- 'of' in the middle: the numbers in their box; k of them laid into the row; the list's box. -/
structure OfAt (v : Nat → Int) (w : World) (k : Nat) (L : List Int) (W : World) : Prop where
  nums : W.heap[w.heap.size]? = some (.cells (nCells v) 53 (0, 0))
  row : ∃ a b c d e : Int, W.heap[w.heap.size + 1]? = some (.cells #[.int .i64 a, .int .i64 b, .int .i64 c, .int .i64 d, .int .i64 e] 3 (0, 0)) ∧ [a, b, c, d, e].take k = L
  box : W.heap[w.heap.size + 1 + 1]? = some (.cells #[.slice (some ⟨w.heap.size + 1, 0, none⟩) k 5] 22 (0, 0))
  below : Below w.heap.size w W
  size : w.heap.size + 3 ≤ W.heap.size
theorem OfAt.room {v : Nat → Int} {w W : World} {k : Nat} {L : List Int} (h : OfAt v w k L W) (hk : k < 5) : ∃ u : Int, W.cell? ⟨w.heap.size + 1, k, none⟩ = some (.int .i64 u) := by
  obtain ⟨a, b, c, d, e, hr, _⟩ := h.row
  rw [cellH hr]
  rcases (show k = 0 ∨ k = 1 ∨ k = 2 ∨ k = 3 ∨ k = 4 by omega) with rfl | rfl | rfl | rfl | rfl <;> exact ⟨_, rfl⟩
theorem OfAt.free {v : Nat → Int} {w W : World} {k : Nat} {L : List Int} (h : OfAt v w k L W) (j : Nat) : W.frozen? ⟨w.heap.size + 1, j, none⟩ = false := by
  obtain ⟨a, b, c, d, e, hr, _⟩ := h.row
  exact freeH hr j
theorem grown_block {X Y : World} {row : Option Nat} {B : Nat} {c : Array Value} {t : TypeId} (h : X.heap[B]? = some (.cells c t (0, 0))) (hg : X.grownBy Y row) (hrow : ∀ r, row = some r → ∃ o, X.heap[r]? = some o ∧ o.isCells = false) : Y.heap[B]? = some (.cells c t (0, 0)) :=
  (hg.block B (Array.getElem?_eq_some_iff.1 h).1 (fun e' => by obtain ⟨o, ho, hc⟩ := hrow B e'.symm; rw [h] at ho; cases ho; cases hc)).trans h
theorem ofAt_own {β : Type} (v : Nat → Int) (w : World) (k : β → Nat) (f : β → List Int) {B : Nat} (hB : w.heap.size ≤ B) : OwnFrom B (fun s W => OfAt v w (k s) (f s) W) := fun s X Y row h hg hr => by
  obtain ⟨h1, ⟨a, b, c, d, e, h2, h2'⟩, h3, h4, h5⟩ := h
  exact ⟨grown_block h1 hg fun r e => (hr r e).2, ⟨a, b, c, d, e, grown_block h2 hg fun r e => (hr r e).2, h2'⟩, grown_block h3 hg fun r e => (hr r e).2,
    h4.grown hg (by omega) (fun k e => Nat.le_trans hB (hr k e).1), Nat.le_trans h5 hg.size⟩

theorem take_set_one (l : List Value) (k : Nat) (L : List Value) (x : Value) (hk : k < l.length) (h : l.take k = L) : (l.set k x).take (k + 1) = L ++ [x] := by
  rw [← h, List.take_set, List.take_succ_eq_append_getElem hk, List.set_append_right _ _ (by simp; omega)]
  simp [Nat.min_eq_left (Nat.le_of_lt hk)]

theorem OfAt.next {v : Nat → Int} {w W : World} {k : Nat} {L : List Int} (h : OfAt v w k L W) (hk : k < 5) (x : Int) :
    KeepsOthers W (((W.alloc (.cells #[.int .i64 x] 3)).setCell ⟨w.heap.size + 1, k, none⟩ (.int .i64 x)).setCell ⟨w.heap.size + 1 + 1, 0, none⟩ (.slice (some ⟨w.heap.size + 1, 0, none⟩) (k + 1) 5)).drew ∧
    Below w.heap.size W (((W.alloc (.cells #[.int .i64 x] 3)).setCell ⟨w.heap.size + 1, k, none⟩ (.int .i64 x)).setCell ⟨w.heap.size + 1 + 1, 0, none⟩ (.slice (some ⟨w.heap.size + 1, 0, none⟩) (k + 1) 5)).drew ∧
    OfAt v w (k + 1) (L ++ [x]) (((W.alloc (.cells #[.int .i64 x] 3)).setCell ⟨w.heap.size + 1, k, none⟩ (.int .i64 x)).setCell ⟨w.heap.size + 1 + 1, 0, none⟩ (.slice (some ⟨w.heap.size + 1, 0, none⟩) (k + 1) 5)).drew := by
  have hz := h.size
  have hB : Below w.heap.size W (((W.alloc (.cells #[.int .i64 x] 3)).setCell ⟨w.heap.size + 1, k, none⟩ (.int .i64 x)).setCell ⟨w.heap.size + 1 + 1, 0, none⟩ (.slice (some ⟨w.heap.size + 1, 0, none⟩) (k + 1) 5)).drew :=
    ((((Below.refl _ W).alloc (by omega) _).setCell (p := ⟨w.heap.size + 1, k, none⟩) (by simp) _).setCell (p := ⟨w.heap.size + 1 + 1, 0, none⟩) (by simp; omega) _).drew
  refine ⟨(((KeepsOthers.alloc W _).trans (KeepsOthers.setCell _ _ _)).trans (KeepsOthers.setCell _ _ _)).trans (KeepsOthers.drew _), hB, ?_⟩
  obtain ⟨a, b, c, d, e, hr, hL⟩ := h.row
  have hr1 : (W.alloc (.cells #[.int .i64 x] 3)).heap[w.heap.size + 1]? = some (.cells #[.int .i64 a, .int .i64 b, .int .i64 c, .int .i64 d, .int .i64 e] 3 (0, 0)) := by rw [Below.heap_alloc _ _ _ (by omega)]; exact hr
  have hr2 := setH hr1 k (.int .i64 x)
  have hb1 : ((W.alloc (.cells #[.int .i64 x] 3)).setCell ⟨w.heap.size + 1, k, none⟩ (.int .i64 x)).heap[w.heap.size + 1 + 1]? = some (.cells #[.slice (some ⟨w.heap.size + 1, 0, none⟩) k 5] 22 (0, 0)) := by
    rw [Below.heap_setCell _ _ _ _ (by simp), Below.heap_alloc _ _ _ (by omega)]; exact h.box
  have hb2 := setH hb1 0 (.slice (some ⟨w.heap.size + 1, 0, none⟩) (k + 1) 5)
  have hn : ((W.alloc (.cells #[.int .i64 x] 3)).setCell ⟨w.heap.size + 1, k, none⟩ (.int .i64 x)).heap[w.heap.size]? = some (.cells (nCells v) 53 (0, 0)) := by
    rw [Below.heap_setCell _ _ _ _ (by simp), Below.heap_alloc _ _ _ (by omega)]; exact h.nums
  have row : ∃ a b c d e : Int, ((W.alloc (.cells #[.int .i64 x] 3)).setCell ⟨w.heap.size + 1, k, none⟩ (.int .i64 x)).heap[w.heap.size + 1]? = some (.cells #[.int .i64 a, .int .i64 b, .int .i64 c, .int .i64 d, .int .i64 e] 3 (0, 0)) ∧ [a, b, c, d, e].take (k + 1) = L ++ [x] := by
    subst hL
    rcases (show k = 0 ∨ k = 1 ∨ k = 2 ∨ k = 3 ∨ k = 4 by omega) with rfl | rfl | rfl | rfl | rfl
    · exact ⟨x, b, c, d, e, hr2, rfl⟩
    · exact ⟨a, x, c, d, e, hr2, rfl⟩
    · exact ⟨a, b, x, d, e, hr2, rfl⟩
    · exact ⟨a, b, c, x, e, hr2, rfl⟩
    · exact ⟨a, b, c, d, x, hr2, rfl⟩
  obtain ⟨a', b', c', d', e', hr3, hL3⟩ := row
  refine ⟨?_, ⟨a', b', c', d', e', ?_, hL3⟩, hb2, h.below.trans hB, by simp; omega⟩
  · show (((W.alloc (.cells #[.int .i64 x] 3)).setCell ⟨w.heap.size + 1, k, none⟩ (.int .i64 x)).setCell ⟨w.heap.size + 1 + 1, 0, none⟩ (.slice (some ⟨w.heap.size + 1, 0, none⟩) (k + 1) 5)).heap[w.heap.size]? = _
    rw [Below.heap_setCell _ _ _ _ (by simp; omega)]; exact hn
  · show (((W.alloc (.cells #[.int .i64 x] 3)).setCell ⟨w.heap.size + 1, k, none⟩ (.int .i64 x)).setCell ⟨w.heap.size + 1 + 1, 0, none⟩ (.slice (some ⟨w.heap.size + 1, 0, none⟩) (k + 1) 5)).heap[w.heap.size + 1]? = _
    rw [Below.heap_setCell _ _ _ _ (by simp)]; exact hr3

theorem OfAt.ints {v : Nat → Int} {w W : World} {k : Nat} {L : List Int} (h : OfAt v w k L W) (hk : L.length = k) : Ints W W.heap.size (some ⟨w.heap.size + 1, 0, none⟩) k (fun j => L.getD j 0) := fun _ => by
  obtain ⟨a, b, c, d, e, hr, hL⟩ := h.row
  refine ⟨_, rfl, (Array.getElem?_eq_some_iff.1 hr).1, fun j hj => ?_⟩
  have e1 : (⟨w.heap.size + 1, 0, none⟩ : Addr).add j = ⟨w.heap.size + 1, j, none⟩ := by unfold Addr.add; split <;> simp_all
  rw [e1, cellH hr]
  subst hL
  simp at hk
  rcases (show j = 0 ∨ j = 1 ∨ j = 2 ∨ j = 3 ∨ j = 4 by omega) with rfl | rfl | rfl | rfl | rfl <;> simp [List.getD, List.getElem?_take, hj]

/-- The numbers of a set together. -/
def sumOf (v : Nat → Int) (s : Nat) : Int := ((els s).map v).sum

set_option maxRecDepth 100000 in
set_option maxHeartbeats 2000000 in
theorem pof_any (v : Nat → Int) (s : Nat) (hs : s < 32) (w : World) (h0 : ∀ j, j < 5 → 0 ≤ v j) (h9 : ∀ j, j < 5 → v j ≤ 999) :
    Calls Tryz.prog 65 #[.agg (nCells v), .int .u8 s] w fun e w' => e = .returned (.int .i64 (sumOf v s)) ∧ Below w.heap.size w w' := by
  have h5 := els_length ⟨s, hs⟩
  dsimp only at h5
  have ht5 : (els s).length ≤ 5 := h5
  obtain ⟨i0, hi, hz0, hz1, hz2⟩ := info_parts info_int'
  have H0 := Go.Lib.hid h0; clear h0
  have H9 := Go.Lib.hid h9; clear h9
  refine (callsIn_wide (n := 9)).1 ?_
  refine callsIn_of_wp_marks Tryz.func65 rfl trivial ?_ rfl
  simp only [Tryz.ntmps65, List.size_toArray, List.length_cons, List.length_nil, Nat.reduceAdd, Nat.reduceSub, Array.replicate_succ, Array.replicate_zero, List.push_toArray, List.append_toArray, List.nil_append, List.cons_append]
  have hms := made5
  gi_wp2_with (refine ⟨trivial, ?_⟩; gi_at_call 53; refine (callsIn_wide.2 (pall_any s _)).mono ?_; rintro e w' ⟨rfl, rfl⟩)
  clear hms
  have bO := Boxed.new ((w.alloc (.cells (nCells v) 53)).alloc (.cells #[.int .i64 0, .int .i64 0, .int .i64 0, .int .i64 0, .int .i64 0] 3)) 22 (.slice (some ⟨w.heap.size + 1, 0, none⟩) 0 5)
  have hnb : ((w.alloc (.cells (nCells v) 53)).alloc (.cells #[.int .i64 0, .int .i64 0, .int .i64 0, .int .i64 0, .int .i64 0] 3)).heap[w.heap.size]? = some (.cells (nCells v) 53 (0, 0)) := by
    rw [Below.heap_alloc _ _ _ (by simp)]; exact heap_alloc_new w _
  have hrb : ((w.alloc (.cells (nCells v) 53)).alloc (.cells #[.int .i64 0, .int .i64 0, .int .i64 0, .int .i64 0, .int .i64 0] 3)).heap[w.heap.size + 1]? = some (.cells #[.int .i64 0, .int .i64 0, .int .i64 0, .int .i64 0, .int .i64 0] 3 (0, 0)) := by
    have := heap_alloc_new (w.alloc (.cells (nCells v) 53)) (.cells #[.int .i64 0, .int .i64 0, .int .i64 0, .int .i64 0, .int .i64 0] 3)
    rwa [World.size_alloc] at this
  have hB1 : Below w.heap.size w ((w.alloc (.cells (nCells v) 53)).alloc (.cells #[.int .i64 0, .int .i64 0, .int .i64 0, .int .i64 0, .int .i64 0] 3)) := ((Below.refl _ w).alloc (Nat.le_refl _) _).alloc (by simp) _
  have hz1 : ((w.alloc (.cells (nCells v) 53)).alloc (.cells #[.int .i64 0, .int .i64 0, .int .i64 0, .int .i64 0, .int .i64 0] 3)).heap.size = w.heap.size + 1 + 1 := by simp
  obtain ⟨W1, hW1⟩ : ∃ W1, ((w.alloc (.cells (nCells v) 53)).alloc (.cells #[.int .i64 0, .int .i64 0, .int .i64 0, .int .i64 0, .int .i64 0] 3)) = W1 := ⟨_, rfl⟩
  rw [hW1] at bO hnb hrb hB1 hz1 ⊢
  clear hW1
  have hJ0 : OfAt v w 0 [] ((W1.alloc (.cells #[.slice (some ⟨w.heap.size + 1, 0, none⟩) 0 5] 22)).alloc (.cells #[.int .u8 (s : Int)] 56)) :=
    ⟨by rw [Below.heap_alloc _ _ _ (by simp; omega), Below.heap_alloc _ _ _ (by omega)]; exact hnb, ⟨0, 0, 0, 0, 0, by rw [Below.heap_alloc _ _ _ (by simp; omega), Below.heap_alloc _ _ _ (by omega)]; exact hrb, rfl⟩, by rw [Below.heap_alloc _ _ _ (by simp; omega)]; have h := bO; rw [hz1] at h; exact h, (hB1.alloc (by omega) _).alloc (by simp; omega) _, by simp; omega⟩
  have bN := Boxed.new (W1.alloc (.cells #[.slice (some ⟨w.heap.size + 1, 0, none⟩) 0 5] 22)) 56 (.int .u8 (s : Int))
  rw [World.size_alloc, hz1] at bN
  rw [hz1] at bO
  refine wpIn_rangeFunc_ownG (P := Tryz.prog) rfl (by decide) (gf := 67) (lb := #[.pointer (some ⟨w.heap.size + 1 + 1 + 1, 0, none⟩)]) rfl trivial (enters_of Tryz.func67 (by kernel_rfl) rfl)
    (pall_stops 8 (by omega) (w.heap.size + 1 + 1 + 1) w.heap.size s hs _ (by simp; omega) bN.cell) belowK_t (belowK_b (by simp; omega)) (Below.refl _ _) (fun _ => rfl)
    (fun pre W => OfAt v w pre.length (pre.map (fun x => v x.1)) W)
    (fun _ _ _ => False)
    (ofAt_own v w (fun (pre : List (El s)) => pre.length) (fun pre => pre.map fun x => v x.1) (by simp; omega))
    (fun _ _ _ _ _ hs _ _ => hs)
    hJ0
    (fun x => { tmps := #[.agg (nCells v), .int .u8 (s : Int), .pointer (some ⟨w.heap.size, 0, none⟩), undef, .int .i64 0, .pointer (some ⟨w.heap.size + 1 + 1, 0, none⟩), .int .i64 (x.1 : Int), .slice (some ⟨w.heap.size + 1, 0, none⟩) 0 5, .int .u8 (s : Int), .func (.func 67) #[] #[.pointer (some ⟨w.heap.size + 1 + 1 + 1, 0, none⟩)], .int .i64 (x.1 : Int), undef, undef, undef, undef, undef, undef, undef, undef], defers := [] }) ?assign ?body ?done ?stop
  case assign =>
    intro l x W K hK
    gi_wp2
    exact hK
  case body =>
    rintro l pre x W hJ hlt
    have hx5 : x.1 < 5 := List.mem_range.1 (List.mem_filter.1 x.2).1
    have hxi : (x.1 : Int) < 5 := by omega
    have hmo : Tryz.prog.follows .mixedOrders = true := by kernel_rfl
    have cn : W.cell? ⟨w.heap.size, x.1, none⟩ = some (.int .i64 (v x.1)) := (cellH hJ.nums x.1).trans (n_at v x.1 hx5)
    have cb : W.cell? ⟨w.heap.size + 1 + 1, 0, none⟩ = some (.slice (some ⟨w.heap.size + 1, 0, none⟩) pre.length 5) := cellH hJ.box 0
    have fb : W.frozen? ⟨w.heap.size + 1 + 1, 0, none⟩ = false := freeH hJ.box 0
    obtain ⟨u, hu⟩ := hJ.room (by omega)
    have fu : W.frozen? ⟨w.heap.size + 1, pre.length, none⟩ = false := hJ.free _
    have gu : ∀ o, (W.alloc o).cell? ⟨w.heap.size + 1, pre.length, none⟩ = some (.int .i64 u) := fun o => cell_alloc_l o hu
    have gf : ∀ o, (W.alloc o).frozen? ⟨w.heap.size + 1, pre.length, none⟩ = false := fun o => frozen_alloc_l o hu fu
    have gb : ∀ o, (W.alloc o).cell? ⟨w.heap.size + 1 + 1, 0, none⟩ = some (.slice (some ⟨w.heap.size + 1, 0, none⟩) pre.length 5) := fun o => cell_alloc_l o cb
    have gc : ∀ o, (W.alloc o).frozen? ⟨w.heap.size + 1 + 1, 0, none⟩ = false := fun o => frozen_alloc_l o cb fb
    have hz := hJ.size
    have HJ := Go.Lib.hid hJ; clear hJ
    have hm : pre.length + 1 ≤ 5 := by omega
    gi_wp2
    gi_region_with_o (fail)
    all_goals (obtain ⟨h1, h2, h3⟩ := HJ.out.next (by omega) (v x.1); exact ⟨h1.from _, h2, by show OfAt v w (pre ++ [x]).length ((pre ++ [x]).map fun x => v x.1) _; rw [List.length_append, List.map_append]; exact h3⟩)
  case done =>
    rintro D ys W hD hys hJ hK
    have cb : W.cell? ⟨w.heap.size + 1 + 1, 0, none⟩ = some (.slice (some ⟨w.heap.size + 1, 0, none⟩) ys.length 5) := cellH hJ.box 0
    have hl : ys.length = (els s).length := by have := congrArg List.length hys; rw [List.length_map] at this; exact this
    have hL : ys.map (fun x => v x.1) = (els s).map v := by
      have := congrArg (List.map v) hys
      simpa [List.map_map, Function.comp_def] using this
    have hI := hJ.ints (by rw [List.length_map])
    have hbl : Below w.heap.size w (W.putObj D (.deferred none)) := hJ.below.trans (belowK_b (w := w) (Nat.le_refl _) W D _ _ (by simp at hD; omega) hK rfl rfl)
    have hy : ∀ j, j < ys.length → ∃ x ∈ els s, (ys.map (fun x => v x.1)).getD j 0 = v x := fun j hj => ⟨ys[j].1, ys[j].2, by simp [List.getD, hj]⟩
    have hy5 : ∀ x ∈ els s, x < 5 := fun x hx => List.mem_range.1 (List.mem_filter.1 hx).1
    have hy0 : ∀ j, j < ys.length → 0 ≤ (ys.map (fun x => v x.1)).getD j 0 := fun j hj => by obtain ⟨x, hx, e⟩ := hy j hj; rw [e]; exact H0.out x (hy5 x hx)
    have hy9 : ∀ j, j < ys.length → (ys.map (fun x => v x.1)).getD j 0 ≤ 999 := fun j hj => by obtain ⟨x, hx, e⟩ := hy j hj; rw [e]; exact H9.out x (hy5 x hx)
    have hsum : ((List.range ys.length).map fun j => (ys.map (fun x => v x.1)).getD j 0).sum = sumOf v s := by
      unfold sumOf
      rw [← hL]
      congr 1
      apply List.ext_getElem
      · simp
      · intro j h1 h2
        simp at h2
        simp [List.getD, h2]
    have hps := psum_any (some ⟨w.heap.size + 1, 0, none⟩) ys.length 5 W.heap.size (fun j => (ys.map (fun x => v x.1)).getD j 0) W (by omega) hI hy0 hy9
    rw [hsum] at hps
    clear hy hy5 hy0 hy9 hsum hI hL hys hl
    gi_wp2_with (refine ⟨trivial, ?_⟩; gi_at_call 76; refine (callsIn_wide.2 hps).mono ?_; rintro e w' ⟨rfl, rfl⟩)
    refine ⟨by simp, .inl ⟨_, _, rfl, run_takeDeferred hK, ?_⟩⟩
    exact ⟨_, results_tmp rfl _ _ _, rfl, hbl⟩
  case stop =>
    rintro D c pre W _ _ h _
    exact h.elim

end Go.Proofs.YtckchahangnfiaaGreatDoor
