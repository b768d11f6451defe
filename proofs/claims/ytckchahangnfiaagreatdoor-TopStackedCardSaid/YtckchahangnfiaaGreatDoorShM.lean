/- SHELF: list, Quiet at two pieces. -/
import Derived.Test.YtckchahangnfiaaGreatDoorShL
import Derived.RangeFuncBox
namespace Go.Proofs.YtckchahangnfiaaGreatDoor
open Go.RowKit Go.Shelf

attribute [local go_sem] Oper.semAt_some

theorem info_int : (Tryz.prog.info? 3).map (fun i => (i.zero, i.size, i.bytes)) = some (some (.int .i64 0), 1, 8) := by kernel_rfl

/-- A list of so many. -/
def ListOf (k : Nat) (w : World) (e : Ending) (w' : World) : Prop := ∃ (A : Option Addr) (cap : Nat), e = .returned (.slice A k cap) ∧ Below w.heap.size w w'

set_option maxRecDepth 100000 in
set_option maxHeartbeats 2000000 in
theorem list_any (s : Nat) (hs : s < 32) (w : World) :
    Calls Tryz.prog 21 #[.int .u8 s] w (ListOf (els s).length w) := by
  have h5 := els_length ⟨s, hs⟩
  dsimp only at h5
  have ht5 : (els s).length ≤ 5 := h5
  obtain ⟨i0, hi, hz0, hz1, hz2⟩ := info_parts info_int
  refine (callsIn_wide (n := 9)).1 ?_
  refine callsIn_of_wp_marks Tryz.func21 rfl trivial ?_ rfl
  simp only [Tryz.ntmps21, List.size_toArray, List.length_cons, List.length_nil, Nat.reduceAdd, Nat.reduceSub, Array.replicate_succ, Array.replicate_zero, List.push_toArray, List.append_toArray, List.nil_append, List.cons_append]
  gi_wp2_with (refine ⟨trivial, ?_⟩; gi_at_call 44; refine (callsIn_wide.2 (all_any s _)).mono ?_; rintro e w' ⟨rfl, rfl⟩)
  have bO := Boxed.new w 22 (.slice none 0 0)
  have bN := Boxed.new (w.alloc (.cells #[.slice none 0 0] 22)) 69 (.int .u8 (s : Int))
  rw [World.size_alloc] at bN
  have hB0 : Below w.heap.size w ((w.alloc (.cells #[.slice none 0 0] 22)).alloc (.cells #[.int .u8 (s : Int)] 69)) := ((Below.refl _ w).alloc (Nat.le_refl _) _).alloc (by simp) _
  refine wpIn_rangeFunc_ownG (P := Tryz.prog) rfl (by decide) (gf := 60) (lb := #[.pointer (some ⟨w.heap.size + 1, 0, none⟩)]) rfl trivial (enters_of Tryz.func60 (by kernel_rfl) rfl)
    (all_stops 8 (by omega) (w.heap.size + 1) w.heap.size s hs _ (by simp) bN.cell) belowK_t (belowK_b (by simp; omega)) (Below.refl _ _) (fun _ => rfl)
    (fun pre W => (∃ v, Boxed W w.heap.size 22 v ∧ W.ownsRow w.heap.size 3 1 v pre.length (pre.map (fun x => Value.int .i64 (x.1 : Int))) ∧ True) ∧ Below w.heap.size w W)
    (fun _ _ _ => False)
    (OwnFrom.and (Own.from (holdsRow_own w.heap.size w.heap.size 22 3 1 (fun (pre : List (El s)) => pre.length) (fun pre => pre.map (fun x => Value.int .i64 (x.1 : Int))) (fun _ _ => True)) _) (ownFrom_below (Nat.le_refl _) (by simp; omega)))
    (fun _ _ _ _ _ hs _ _ => hs)
    ⟨⟨_, bO.alloc _, World.ownsRow_nil _ _ _ _, trivial⟩, hB0⟩
    (fun x => { tmps := #[.int .u8 (s : Int), undef, .slice none 0 0, .pointer (some ⟨w.heap.size, 0, none⟩), .int .i64 (x.1 : Int), .int .u8 (s : Int), .func (.func 60) #[] #[.pointer (some ⟨w.heap.size + 1, 0, none⟩)], .int .i64 (x.1 : Int), undef, undef, undef, undef, undef], defers := [] }) ?assign ?body ?done ?stop
  case assign =>
    intro l x W K hK
    gi_wp2
    exact hK
  case body =>
    rintro l pre x W ⟨⟨v, hv, hrow, _⟩, hB⟩ hlt
    have hc := hv.cell
    gi_wp2_with (gi_at_builtin; refine wpListIn_append_own _ rfl _ _ 22 rfl w.heap.size 3 i0 (.int .i64 0) 1 8 Tryz.underlying22 hi hz0 hz1 hz2 rfl (by decide) _ _ _ rfl (hrow.alloc _) ⟨W.heap.size, 0, none⟩ 1 1 [.int .i64 (x.1 : Int)] rfl rfl (cell_one_new _ _ _) (by simp [Value.oneCell']) (by unfold maxLen; omega) (by omega) (by have := hB.size; simp; omega) ?_; intro v' w1 hown' hgrow _; obtain ⟨g', cap', rfl⟩ := ownsRow_succ hown'; obtain ⟨hv1, hv2, hr2, hk2, hb2⟩ := hv.appended (by decide) hrow hB.size (Nat.le_refl _) hown' hgrow; have hc1 := hv1.cell; have hf1 := hv1.frozen)
    exact ⟨hk2.from _, hb2, ⟨_, hv2, by simpa using hr2, trivial⟩, hB.trans hb2⟩
  case done =>
    rintro D ys W hD hys ⟨⟨v, hv, hrow, _⟩, hB⟩ hK
    have hc := hv.cell
    have hl : ys.length = (els s).length := by have := congrArg List.length hys; rw [List.length_map] at this; exact this
    gi_wp2
    refine ⟨by simp, .inl ⟨_, _, rfl, run_takeDeferred hK, ?_⟩⟩
    have hbl : Below w.heap.size w (W.putObj D (.deferred none)) := hB.trans (belowK_b (w := w) (Nat.le_refl _) W D _ _ (by simp at hD; omega) hK rfl rfl)
    refine ⟨_, results_tmp rfl _ _ _, ?_⟩
    rw [← hl]
    rcases hrow.2 with ⟨rfl, h0⟩ | ⟨g, cap, cur, rfl, _⟩
    · rw [h0]
      exact ⟨none, 0, rfl, hbl⟩
    · exact ⟨_, _, rfl, hbl⟩
  case stop =>
    rintro D c pre W _ _ h _
    exact h.elim

theorem list1 (w : World) : Calls Tryz.prog 21 #[.int .u8 1] w (ListOf 1 w) := list_any 1 (by omega) w
theorem list0 (w : World) : Calls Tryz.prog 21 #[.int .u8 0] w (ListOf 0 w) := list_any 0 (by omega) w

/-- Two results: a list of so many, and OK. -/
def ListOk (k : Nat) (w : World) (e : Ending) (w' : World) : Prop := ∃ (A : Option Addr) (cap : Nat), e = .returned (.tuple #[.slice A k cap, .int .i64 0]) ∧ Below w.heap.size w w'

set_option maxRecDepth 100000 in
set_option maxHeartbeats 2000000 in
theorem Quiet_yes (lb bb pb lcap bcap pcap : Nat) (h : Nat → Int) (w : World) (H : ShelfMem w lb bb pb 2 pcap h) (hlt : h 1 ≤ h 0) :
    Calls Tryz.prog 8 #[.agg #[.slice (some ⟨lb, 0, none⟩) 1 lcap, .slice (some ⟨bb, 0, none⟩) 2 bcap, .slice (some ⟨pb, 0, none⟩) 2 pcap]] w (ListOk 1 w) := by
  have HH := Go.Lib.hid H; clear H
  have HL := Go.Lib.hid hlt; clear hlt
  go_enter Tryz.func8, Tryz.ntmps8
  go_wp2_with (first
    | (go_at_call 15; refine (open_mem none 0 0 (fun _ => 0) (HH.out.grown ((Below.refl _ w).alloc (Nat.le_refl _) _)) (by omega) (fun h => absurd h (by omega)) (fun j hj => absurd hj (by omega))).mono ?_; rintro e w1 ⟨r, rfl, hB1⟩
       have hBw1 : Below w.heap.size w w1 := ((Below.refl _ w).alloc (Nat.le_refl _) _).trans (hB1.mono (by simp))
       have hz1 := hBw1.size
       clear hB1)
    | (go_at_call 20; refine (quiet_yes lb bb lcap bcap _ _ h _ (by have := HH.out.bbl; simp; omega) (HH.out.grown (hBw1.alloc hz1 _)).bags HL.out).mono ?_; rintro e w2 ⟨rfl, hB2⟩
       have hBw2 : Below w.heap.size w w2 := (hBw1.alloc hz1 _).trans (hB2.mono (by simp; omega))
       have hz2 := hBw2.size)
    | (go_at_call 21; refine (list1 _).mono ?_; rintro e w3 ⟨A, cap, rfl, hB3⟩))
  go_ret2
  exact ⟨_, _, rfl, hBw2.trans (hB3.mono hz2)⟩

set_option maxRecDepth 100000 in
set_option maxHeartbeats 2000000 in
theorem Quiet_no (lb bb pb lcap bcap pcap : Nat) (h : Nat → Int) (w : World) (H : ShelfMem w lb bb pb 2 pcap h) (hlt : h 0 < h 1) :
    Calls Tryz.prog 8 #[.agg #[.slice (some ⟨lb, 0, none⟩) 1 lcap, .slice (some ⟨bb, 0, none⟩) 2 bcap, .slice (some ⟨pb, 0, none⟩) 2 pcap]] w (ListOk 0 w) := by
  have HH := Go.Lib.hid H; clear H
  have HL := Go.Lib.hid hlt; clear hlt
  go_enter Tryz.func8, Tryz.ntmps8
  go_wp2_with (first
    | (go_at_call 15; refine (open_mem none 0 0 (fun _ => 0) (HH.out.grown ((Below.refl _ w).alloc (Nat.le_refl _) _)) (by omega) (fun h => absurd h (by omega)) (fun j hj => absurd hj (by omega))).mono ?_; rintro e w1 ⟨r, rfl, hB1⟩
       have hBw1 : Below w.heap.size w w1 := ((Below.refl _ w).alloc (Nat.le_refl _) _).trans (hB1.mono (by simp))
       have hz1 := hBw1.size
       clear hB1)
    | (go_at_call 20; refine (quiet_no lb bb lcap bcap _ _ h _ (by have := HH.out.bbl; simp; omega) (HH.out.grown (hBw1.alloc hz1 _)).bags HL.out).mono ?_; rintro e w2 ⟨rfl, hB2⟩
       have hBw2 : Below w.heap.size w w2 := (hBw1.alloc hz1 _).trans (hB2.mono (by simp; omega))
       have hz2 := hBw2.size)
    | (go_at_call 21; refine (list0 _).mono ?_; rintro e w3 ⟨A, cap, rfl, hB3⟩))
  go_ret2
  exact ⟨_, _, rfl, hBw2.trans (hB3.mono hz2)⟩

end Go.Proofs.YtckchahangnfiaaGreatDoor
