/- SHELF: room. -/
import Derived.Test.YtckchahangnfiaaGreatDoorShC
import Derived.RangeFuncFrom
import Derived.Maps.AppendAt
namespace Go.Proofs.YtckchahangnfiaaGreatDoor
open Go.RowKit Go.Shelf

attribute [local go_sem] Oper.semAt_some

theorem cell_of_box_l {W : World} {B : Nat} {v : Value} {t : TypeId} (h : W.heap[B]? = some (.cells #[v] t (0, 0))) : W.cell? ⟨B, 0, none⟩ = some v ∧ W.frozen? ⟨B, 0, none⟩ = false := by
  constructor <;> simp [World.cell?, World.frozen?, h]
theorem cell_new_l (W : World) (v : Value) (t : TypeId) : (W.alloc (.cells #[v] t)).cell? ⟨W.heap.size, 0, none⟩ = some v ∧ (W.alloc (.cells #[v] t)).frozen? ⟨W.heap.size, 0, none⟩ = false :=
  cell_of_box_l (World.alloc_heap_new W _)
theorem cell_alloc_l {W : World} {a : Addr} {v : Value} (o : Obj) (h : W.cell? a = some v) : (W.alloc o).cell? a = some v := cell_kept h (World.grownBy_alloc W o none) (fun r e => by cases e)
theorem frozen_alloc_l {W : World} {a : Addr} {v : Value} (o : Obj) (h : W.cell? a = some v) (hf : W.frozen? a = false) : (W.alloc o).frozen? a = false := (frozen_kept h (World.grownBy_alloc W o none) (fun r e => by cases e)).trans hf
theorem bcell {N : Nat} {W w1 : World} (hb : Below N W w1) : (∀ b o, b < N → w1.cell? ⟨b, o, none⟩ = W.cell? ⟨b, o, none⟩) ∧ (∀ b o, b < N → w1.frozen? ⟨b, o, none⟩ = W.frozen? ⟨b, o, none⟩) :=
  ⟨fun b o h => hb.cell (p := ⟨b, o, none⟩) h, fun b o h => hb.frozen (p := ⟨b, o, none⟩) h⟩

/-- One round of room: the box at N + 1 is lowered by one. -/
theorem room_round {N k bb n bcap ln : Nat} (h9 : ln ≤ 9) {w W W' : World} (hc1 : W.cell? ⟨N + 1, 0, none⟩ = some (.int .i64 ((ln : Int) - (k : Int)))) (hf1 : W.frozen? ⟨N + 1, 0, none⟩ = false)
    (hb1 : W.cell? ⟨N, 1, none⟩ = some (.slice (some ⟨bb, 0, none⟩) n bcap)) (hB : Below N w W) (hk : k < 5) (e : W' = (W.setCell ⟨N + 1, 0, none⟩ (.int .i64 (IntKind.i64.wrap ((ln : Int) - (k : Int) - 1)))).drew) :
    KeepsOthers W W' ∧ Below N W W' ∧ (W'.cell? ⟨N + 1, 0, none⟩ = some (.int .i64 ((ln : Int) - ((k + 1 : Nat) : Int))) ∧ W'.frozen? ⟨N + 1, 0, none⟩ = false ∧ W'.cell? ⟨N, 1, none⟩ = some (.slice (some ⟨bb, 0, none⟩) n bcap)) ∧ Below N w W' := by
  subst e
  have hw : IntKind.i64.wrap ((ln : Int) - (k : Int) - 1) = (ln : Int) - ((k + 1 : Nat) : Int) := by rw [IntWalk.i64_in _ (by omega)]; omega
  have hB1 : Below N W (W.setCell ⟨N + 1, 0, none⟩ (.int .i64 (IntKind.i64.wrap ((ln : Int) - (k : Int) - 1)))).drew := ((Below.refl N W).setCell (p := ⟨N + 1, 0, none⟩) (by simp) _).drew
  refine ⟨(KeepsOthers.setCell _ _ _).trans (KeepsOthers.drew _), hB1, ⟨?_, ?_, ?_⟩, hB.trans hB1⟩
  · rw [World.cell?_drew, World.cell?_setCell_same _ _ _ hc1, hw]
  · rw [World.frozen?_drew, World.frozen?_setCell]; exact hf1
  · exact (World.cell?_setCell_other W ⟨N + 1, 0, none⟩ ⟨N, 1, none⟩ _ (by simp)).trans hb1

set_option maxRecDepth 100000 in
set_option maxHeartbeats 2000000 in
theorem room_low (lb bb lcap n bcap c : Nat) (P M : Value) (w : World) (hc : c ≤ 5) (hcn : c ≤ n) (hlb : lb < w.heap.size) (hbb : bb < w.heap.size)
    (hl : LaneAt w lb n) (hb : ∀ j, j < n → w.cell? ⟨bb, j * 3, none⟩ = some (.int .i64 1)) :
    Calls Tryz.prog 70 #[.agg (cellsAt (.slice (some ⟨lb, 0, none⟩) 1 lcap) (.slice (some ⟨bb, 0, none⟩) n bcap) P M c), .int .i64 0] w (RoomOk n c w) := by
  obtain ⟨ln, hln1, hln9, hl⟩ := hl
  refine (callsIn_wide (n := 9)).1 ?_
  refine callsIn_of_wp_marks Tryz.func70 rfl trivial ?_ rfl
  simp only [Tryz.ntmps70, List.size_toArray, List.length_cons, List.length_nil, Nat.reduceAdd, Nat.reduceSub, Array.replicate_succ, Array.replicate_zero, List.push_toArray, List.append_toArray, List.nil_append, List.cons_append]
  have HB := Go.Lib.hid hb; clear hb
  have hrow := fun (w : World) => row_low (.slice (some ⟨lb, 0, none⟩) 1 lcap) (.slice (some ⟨bb, 0, none⟩) n bcap) P M c w hc
  gi_wp2_with (first | (refine ⟨trivial, ?_⟩; gi_at_call 40; refine (callsIn_wide.2 (hrow _)).mono ?_; rintro e w1 ⟨rfl, hB1⟩) | (refine ⟨trivial, ?_⟩; gi_at_call 44; refine (callsIn_wide.2 (all_any _ _)).mono ?_; rintro e w2 ⟨rfl, rfl⟩))
  have hc5 := els_low ⟨c, by omega⟩
  have HE := Go.Lib.hid hc5; clear hc5
  have hz1 := hB1.size
  simp only [World.size_alloc] at hz1
  obtain ⟨hk, hf⟩ := bcell hB1
  have bS : (w1.alloc (.cells #[.int .u8 (low c : Int)] 69)).cell? ⟨w.heap.size + 1, 0, none⟩ = some (.int .i64 (ln : Int)) := cell_alloc_l _ (by rw [hk _ _ (by simp)]; simp)
  have fS : (w1.alloc (.cells #[.int .u8 (low c : Int)] 69)).frozen? ⟨w.heap.size + 1, 0, none⟩ = false := frozen_alloc_l (v := .int .i64 (ln : Int)) _ (by rw [hk _ _ (by simp)]; simp) (by rw [hf _ _ (by simp)]; simp)
  have bB : (w1.alloc (.cells #[.int .u8 (low c : Int)] 69)).cell? ⟨w.heap.size, 1, none⟩ = some (.slice (some ⟨bb, 0, none⟩) n bcap) := cell_alloc_l _ (by rw [hk _ _ (by simp; omega)]; simp)
  have hB0 : Below w.heap.size w (w1.alloc (.cells #[.int .u8 (low c : Int)] 69)) := ((((Below.refl _ w).alloc (Nat.le_refl _) _).alloc (by simp) _).trans (hB1.mono (by simp; omega))).alloc (by omega) _
  have bN := cell_new_l w1 (.int .u8 (low c : Int)) 69
  obtain ⟨W0, hW0⟩ : ∃ W0, w1.alloc (.cells #[.int .u8 (low c : Int)] 69) = W0 := ⟨_, rfl⟩
  have hsz : W0.heap.size = w1.heap.size + 1 := by rw [← hW0]; simp
  rw [hW0] at bS fS bB hB0 bN ⊢
  clear hk hf hW0 hrow
  have hi : (W0.cell? ⟨w.heap.size + 1, 0, none⟩ = some (.int .i64 ((ln : Int) - (([] : List (El (low c))).length : Int))) ∧ W0.frozen? ⟨w.heap.size + 1, 0, none⟩ = false ∧ W0.cell? ⟨w.heap.size, 1, none⟩ = some (.slice (some ⟨bb, 0, none⟩) n bcap)) ∧ Below w.heap.size w W0 := ⟨⟨bS, fS, bB⟩, hB0⟩
  clear bS fS bB
  refine wpIn_rangeFunc_ownF (P := Tryz.prog) rfl (by decide) (gf := 60) (lb := #[.pointer (some ⟨w1.heap.size, 0, none⟩)]) rfl trivial (enters_of Tryz.func60 (by kernel_rfl) rfl)
    (all_stops 8 (by omega) w1.heap.size w.heap.size (low c) (low_lt hc) W0 (by omega) bN.1) belowK_t (belowK_b (by omega)) (Below.refl _ _) (fun _ => rfl)
    (fun pre W => (W.cell? ⟨w.heap.size + 1, 0, none⟩ = some (.int .i64 ((ln : Int) - (pre.length : Int))) ∧ W.frozen? ⟨w.heap.size + 1, 0, none⟩ = false ∧ W.cell? ⟨w.heap.size, 1, none⟩ = some (.slice (some ⟨bb, 0, none⟩) n bcap)) ∧ Below w.heap.size w W)
    (fun _ _ _ => False)
    (OwnFrom.and (Own.from (fun s A B row hs hg hr => ⟨cell_kept hs.1 hg hr, (frozen_kept hs.1 hg hr).trans hs.2.1, cell_kept hs.2.2 hg hr⟩) _) (ownFrom_below (Nat.le_refl _) (by omega)))
    (fun _ _ _ _ _ hs _ _ => hs)
    hi
    (fun x => { tmps := #[.agg (cellsAt (.slice (some ⟨lb, 0, none⟩) 1 lcap) (.slice (some ⟨bb, 0, none⟩) n bcap) P M c), .int .i64 0, .pointer (some ⟨w.heap.size, 0, none⟩), undef, .int .i64 0, .pointer (some ⟨w.heap.size + 1, 0, none⟩), .int .i64 (x.1 : Int), .pointer (some ⟨w.heap.size, 0, none⟩), .pointer (some ⟨w.heap.size, 0, none⟩), .slice (some ⟨lb, 0, none⟩) 1 lcap, .int .i64 0, .pointer (some ⟨lb, 0, none⟩), .int .i64 (ln : Int), .agg (cellsAt (.slice (some ⟨lb, 0, none⟩) 1 lcap) (.slice (some ⟨bb, 0, none⟩) n bcap) P M c), .int .i64 0, .int .u8 (low c : Int), .func (.func 60) #[] #[.pointer (some ⟨w1.heap.size, 0, none⟩)], .int .i64 (x.1 : Int), undef, undef, undef, undef, undef, undef, undef, undef, undef, undef], defers := [] }) ?assign ?body ?done ?stop
  case assign =>
    intro l x W K hK
    gi_wp2
    exact hK
  case body =>
    rintro l pre x W ⟨⟨hc1, hf1, hb1⟩, hB2⟩ hlen
    have hmo : Tryz.prog.follows .mixedOrders = true := by kernel_rfl
    have hx : x.1 < c := List.mem_range.1 (HE.out ▸ x.2 : x.1 ∈ List.range c)
    have hlen5 : pre.length < 5 := Nat.lt_of_lt_of_le hlen (els_length ⟨low c, low_lt hc⟩)
    have hxn : x.1 < n := by omega
    have hx0 : W.cell? ⟨bb, x.1 * 3, none⟩ = some (.int .i64 1) := (hB2.cell (p := ⟨bb, x.1 * 3, none⟩) hbb).trans (HB.out x.1 hxn)
    clear HB
    have hend := fun (W' : World) (e : W' = (W.setCell ⟨w.heap.size + 1, 0, none⟩ (.int .i64 (IntKind.i64.wrap ((ln : Int) - (pre.length : Int) - 1)))).drew) => room_round hln9 hc1 hf1 hb1 hB2 hlen5 e
    have HN := Go.Lib.hid hend; clear hend
    gi_wp2
    gi_region_with_o (fail)
    all_goals (obtain ⟨h1, h2, h3, h4⟩ := HN.out _ rfl; exact ⟨h1, h2, by rw [List.length_append]; exact h3, h4⟩)
  case done =>
    rintro D ys W hD hys ⟨⟨hc1, hf1, hb1⟩, hB2⟩ hK
    have hl : ys.length = c := by have := congrArg List.length (hys.trans HE.out); rw [List.length_map, List.length_range] at this; exact this
    rw [hl] at hc1
    gi_wp2
    refine ⟨by simp, .inl ⟨_, _, rfl, run_takeDeferred hK, ?_⟩⟩
    exact ⟨_, results_tmp rfl _ _ _, _, by omega, by omega, rfl, hB2.trans (belowK_b (w := w) (Nat.le_refl _) W D _ _ (by omega) hK rfl rfl)⟩
  case stop =>
    rintro D c pre W _ _ h _
    exact h.elim

end Go.Proofs.YtckchahangnfiaaGreatDoor
