/- PILE: AppendSeq, Collect, list. -/
import Derived.Test.YtckchahangnfiaaGreatDoorPlD
import Derived.RangeFuncBox
namespace Go.Proofs.YtckchahangnfiaaGreatDoor
open Go.RowKit Go.Shelf

attribute [local go_sem] Oper.semAt_some

theorem info_int' : (Tryz.prog.info? 3).map (fun i => (i.zero, i.size, i.bytes)) = some (some (.int .i64 0), 1, 8) := by kernel_rfl

/-- The result is a slice that reads so. -/
def IntsOf (L : List Int) (w : World) (e : Ending) (w' : World) : Prop :=
  ∃ (A : Option Addr) (cap : Nat), e = .returned (.slice A L.length cap) ∧ Below w.heap.size w w' ∧ Ints w' w'.heap.size A L.length (fun j => L.getD j 0)

/-- A row that is owned reads so. -/
theorem ints_of_row {w : World} {base e k : Nat} {v : Value} {L : List Int} (h : w.ownsRow base e 1 v k (L.map fun x => .int .i64 x)) : ∃ A cap, v = .slice A L.length cap ∧ Ints w w.heap.size A L.length (fun j => L.getD j 0) := by
  have hk : L.length = k := by have := h.1; simpa using this
  rcases h.2 with ⟨rfl, h0⟩ | ⟨g, cap, cur, rfl, _, hg, hc1, _, hc2, hc3⟩
  · refine ⟨none, 0, by rw [hk, h0], fun h1 => ?_⟩
    omega
  · refine ⟨some ⟨g, 0, none⟩, cap, by rw [hk], fun h1 => ⟨⟨g, 0, none⟩, rfl, (Array.getElem?_eq_some_iff.1 hg).1, fun j hj => ?_⟩⟩
    have e1 : (⟨g, 0, none⟩ : Addr).add j = ⟨g, j, none⟩ := by unfold Addr.add; split <;> simp_all
    rw [e1, cellH hg]
    have e2 : (cur.toList.take (k * 1))[j]? = (L.map fun x => Value.int .i64 x)[j]? := by rw [hc3]
    rw [List.getElem?_take_of_lt (by omega), List.getElem?_map] at e2
    simp only [Array.getElem?_toList] at e2
    rw [e2, List.getElem?_eq_getElem hj]
    simp [List.getD, List.getElem?_eq_getElem hj]

/-- The members as ints. -/
def elsI (s : Nat) : List Int := (els s).map fun n : Nat => (n : Int)

set_option maxRecDepth 100000 in
set_option maxHeartbeats 2000000 in
theorem pappendSeq_any (s Bn : Nat) (hs : s < 32) (w : World) (hBn : Bn < w.heap.size) (hc : w.cell? ⟨Bn, 0, none⟩ = some (.int .u8 s)) :
    Calls Tryz.prog 66 #[.slice none 0 0, .func (.func 67) #[] #[.pointer (some ⟨Bn, 0, none⟩)]] w (IntsOf (elsI s) w) := by
  have h5 := els_length ⟨s, hs⟩
  dsimp only at h5
  have ht5 : (els s).length ≤ 5 := h5
  obtain ⟨i0, hi, hz0, hz1, hz2⟩ := info_parts info_int'
  refine (callsIn_wide (n := 9)).1 ?_
  refine callsIn_of_wp_marks Tryz.func66 rfl trivial ?_ rfl
  simp only [Tryz.ntmps66, List.size_toArray, List.length_cons, List.length_nil, Nat.reduceAdd, Nat.reduceSub, Array.replicate_succ, Array.replicate_zero, List.push_toArray, List.append_toArray, List.nil_append, List.cons_append]
  gi_wp2
  have bO := Boxed.new w 22 (.slice none 0 0)
  have hB0 : Below w.heap.size w (w.alloc (.cells #[.slice none 0 0] 22)) := (Below.refl _ w).alloc (Nat.le_refl _) _
  have hcN : (w.alloc (.cells #[.slice none 0 0] 22)).cell? ⟨Bn, 0, none⟩ = some (.int .u8 s) := (hB0.cell (p := ⟨Bn, 0, none⟩) hBn).trans hc
  refine wpIn_rangeFunc_ownG (P := Tryz.prog) rfl (by decide) (gf := 67) (lb := #[.pointer (some ⟨Bn, 0, none⟩)]) rfl trivial (enters_of Tryz.func67 (by kernel_rfl) rfl)
    (pall_stops 8 (by omega) Bn w.heap.size s hs _ (by simp; omega) hcN) belowK_t (belowK_b (by simp)) (Below.refl _ _) (fun _ => rfl)
    (fun pre W => (∃ v, Boxed W w.heap.size 22 v ∧ W.ownsRow w.heap.size 3 1 v pre.length (pre.map (fun x => Value.int .i64 (x.1 : Int))) ∧ True) ∧ Below w.heap.size w W)
    (fun _ _ _ => False)
    (OwnFrom.and (Own.from (holdsRow_own w.heap.size w.heap.size 22 3 1 (fun (pre : List (El s)) => pre.length) (fun pre => pre.map (fun x => Value.int .i64 (x.1 : Int))) (fun _ _ => True)) _) (ownFrom_below (Nat.le_refl _) (by simp)))
    (fun _ _ _ _ _ hs _ _ => hs)
    ⟨⟨_, bO, World.ownsRow_nil _ _ _ _, trivial⟩, hB0⟩
    (fun x => { tmps := #[.slice none 0 0, .func (.func 67) #[] #[.pointer (some ⟨Bn, 0, none⟩)], .pointer (some ⟨w.heap.size, 0, none⟩), undef, .slice none 0 0, .int .i64 (x.1 : Int), .func (.func 67) #[] #[.pointer (some ⟨Bn, 0, none⟩)], .int .i64 (x.1 : Int), undef, undef, undef, undef, undef], defers := [] }) ?assign ?body ?done ?stop
  case assign =>
    intro l x W K hK
    gi_wp2
    exact hK
  case body =>
    rintro l pre x W ⟨⟨v, hv, hrow, _⟩, hB⟩ hlt
    have hc := hv.cell
    gi_wp2_with (gi_at_builtin; refine wpListIn_append_own _ rfl _ _ 22 rfl w.heap.size 3 i0 (.int .i64 0) 1 8 Tryz.underlying22 hi hz0 hz1 hz2 rfl (by decide) _ _ _ rfl (hrow.alloc _) ⟨W.heap.size, 0, none⟩ 1 1 [.int .i64 (x.1 : Int)] rfl rfl (cell_one_new _ _ _) (by simp [Value.oneCell']) (by unfold maxLen; omega) (by omega) (by have := hB.size; simp; omega) ?_; intro v' w1 hown' hgrow _; obtain ⟨g', cap', rfl⟩ := ownsRow_succ hown'; obtain ⟨hv1, hv2, hr2, hk2, hb2⟩ := hv.appended (by decide) hrow hB.size (Nat.le_refl _) hown' hgrow; have hc1 := hv1.cell; have hf1 := hv1.frozen)
    exact ⟨hk2.from _, hb2, ⟨_, hv2, by simpa using hr2, trivial⟩, hB.trans hb2⟩
  case done =>
    rintro D ys W hD hys ⟨⟨v, hv, hrow, _⟩, hB⟩ hK
    have hc := hv.cell
    have hl : ys.map (fun x => Value.int .i64 (x.1 : Int)) = (elsI s).map fun x => .int .i64 x := by
      have := congrArg (List.map fun n : Nat => Value.int .i64 (n : Int)) hys
      simpa [elsI, List.map_map, Function.comp_def] using this
    gi_wp2
    refine ⟨by simp, .inl ⟨_, _, rfl, run_takeDeferred hK, ?_⟩⟩
    have hbl : Below w.heap.size w (W.putObj D (.deferred none)) := hB.trans (belowK_b (w := w) (Nat.le_refl _) W D _ _ (by simp at hD; omega) hK rfl rfl)
    have hrow2 := ownsRow_putObj hrow (.deferred none) hK rfl
    rw [hl] at hrow2
    obtain ⟨A, cap, rfl, hI⟩ := ints_of_row hrow2
    refine ⟨_, results_tmp rfl _ _ _, A, cap, rfl, hbl, hI⟩
  case stop =>
    rintro D c pre W _ _ h _
    exact h.elim

theorem pcollect_any (s Bn : Nat) (hs : s < 32) (w : World) (hBn : Bn < w.heap.size) (hc : w.cell? ⟨Bn, 0, none⟩ = some (.int .u8 s)) :
    Calls Tryz.prog 52 #[.func (.func 67) #[] #[.pointer (some ⟨Bn, 0, none⟩)]] w (IntsOf (elsI s) w) := by
  have HC := Go.Lib.hid hc; clear hc
  go_enter Tryz.func52, Tryz.ntmps52
  go_wp2_with (go_at_call 66; refine (pappendSeq_any s Bn hs _ hBn HC.out).mono ?_; rintro e w1 ⟨A, cap, rfl, hB, hI⟩; have HI := Go.Lib.hid hI; clear hI)
  go_ret
  exact ⟨A, cap, rfl, hB, HI.out⟩

theorem plist_any (s : Nat) (hs : s < 32) (w : World) :
    Calls Tryz.prog 31 #[.int .u8 s] w (IntsOf (elsI s) w) := by
  go_enter Tryz.func31, Tryz.ntmps31
  go_wp2_with (first
    | (go_at_call 53; refine (pall_any s _).mono ?_; rintro e w1 ⟨rfl, rfl⟩)
    | (go_at_call 52; refine (pcollect_any s _ hs _ (by simp) (by simp)).mono ?_; rintro e w1 ⟨A, cap, rfl, hB, hI⟩; have HI := Go.Lib.hid hI; clear hI))
  go_ret
  exact ⟨A, cap, rfl, ((Below.refl _ w).alloc (Nat.le_refl _) _).trans (hB.mono (by simp)), HI.out⟩

end Go.Proofs.YtckchahangnfiaaGreatDoor
