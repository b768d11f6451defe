/- SHELF: fill. -/
import Derived.Test.YtckchahangnfiaaGreatDoorShE
import Derived.Defers
import Derived.Recover
import Derived.ScopeJumps
import Derived.WalkMore
namespace Go.Proofs.YtckchahangnfiaaGreatDoor
open Go.RowKit

theorem fill1_idle (a b : Value) (w : World) :
    CallsD Tryz.prog 56 #[a, b] .returning w fun e u' w' => e = .returned (.tuple #[]) ∧ u' = .returning ∧ w' = w := by
  refine callsD_of_wpS Tryz.func56 rfl fun c₀ cs hu => ?_
  apply wpS_seq
  apply wpS_region
  simp [wpOpsS, go_sem, recoverD, hu, Tryz.ntmps56, Exit.thenS]
  apply wpS_seq
  apply wpS_region
  simp [wpOpsS, go_sem, Exit.thenS, Array.replicate]
  refine wpS_cond (t := false) (by simp [Act.eval, Array.replicate]) ?_
  simp only [Bool.false_eq_true, if_false]
  refine wpS_of_wp (wp_skip ?_)
  cases c₀
  simp_all [bodyPostS, results, Tryz.results56]

/-- Where 'fill' stands between two pieces. -/
structure FillAt (lb bb pb lcap n bcap pcap : Nat) (P M : Value) (w : World) (k : Nat) (W : World) : Prop where
  box : W.heap[w.heap.size]? = some (.cells (cellsAt (.slice (some ⟨lb, 0, none⟩) 1 lcap) (.slice (some ⟨bb, 0, none⟩) n bcap) P M k) 66 (0, 0))
  res : W.heap[w.heap.size + 1]? = some (.cells (cellsAt (.slice none 0 0) (.slice none 0 0) (.slice none 0 0) (.map none) 0) 66 (0, 0))
  err : W.heap[w.heap.size + 1 + 1]? = some (.cells #[.nilIface] 92 (0, 0))
  below : Below w.heap.size w W
  size : w.heap.size + 3 ≤ W.heap.size

theorem FillAt.put {lb bb pb lcap n bcap pcap : Nat} {P M : Value} {w : World} {k : Nat} {W : World} (h : FillAt lb bb pb lcap n bcap pcap P M w k W) (hk : k < n) (hn : n ≤ 5) (hlb : lb < w.heap.size) (hbb : bb < w.heap.size)
    (hl : LaneAt w lb n) (hb : Hid (∀ j, j < n → w.cell? ⟨bb, j * 3, none⟩ = some (.int .i64 1))) :
    Calls Tryz.prog 57 #[.pointer (some ⟨w.heap.size, 0, none⟩), .int .i64 0] W fun e w' => e = .returned (.tuple #[]) ∧ FillAt lb bb pb lcap n bcap pcap P M w (k + 1) w' := by
  have hz := h.size
  refine (put_low w.heap.size lb bb lcap n bcap k P M W (by omega) hk (by omega) (by omega) (by omega) (by omega) h.box (hl.below h.below hlb) (fun j hj => (h.below.cell (p := ⟨bb, j * 3, none⟩) hbb).trans (hb.out j hj))).mono ?_
  rintro e w' ⟨rfl, hs, ht⟩
  exact ⟨rfl, hs, (ht.block _ (by omega) (by omega)).trans h.res, (ht.block _ (by omega) (by omega)).trans h.err, h.below.trans (ht.below (Nat.le_refl _) (by omega)), Nat.le_trans h.size ht.size⟩

theorem FillAt.start {lb bb pb lcap n bcap pcap : Nat} {P M : Value} (w : World) : FillAt lb bb pb lcap n bcap pcap P M w 0
    (((w.alloc (.cells (cellsAt (.slice (some ⟨lb, 0, none⟩) 1 lcap) (.slice (some ⟨bb, 0, none⟩) n bcap) P M 0) 66)).alloc (.cells (cellsAt (.slice none 0 0) (.slice none 0 0) (.slice none 0 0) (.map none) 0) 66)).alloc (.cells #[.nilIface] 92)) := by
  refine ⟨?_, ?_, ?_, (((Below.refl _ _).alloc (Nat.le_refl _) _).alloc (by simp) _).alloc (by simp; omega) _, by simp⟩
  · rw [Below.heap_alloc _ _ _ (by simp; omega), Below.heap_alloc _ _ _ (by simp)]
    exact heap_alloc_new w _
  · rw [Below.heap_alloc _ _ _ (by simp)]
    have := heap_alloc_new (w.alloc (.cells (cellsAt (.slice (some ⟨lb, 0, none⟩) 1 lcap) (.slice (some ⟨bb, 0, none⟩) n bcap) P M 0) 66)) (.cells (cellsAt (.slice none 0 0) (.slice none 0 0) (.slice none 0 0) (.map none) 0) 66)
    rwa [World.size_alloc] at this
  · have := heap_alloc_new ((w.alloc (.cells (cellsAt (.slice (some ⟨lb, 0, none⟩) 1 lcap) (.slice (some ⟨bb, 0, none⟩) n bcap) P M 0) 66)).alloc (.cells (cellsAt (.slice none 0 0) (.slice none 0 0) (.slice none 0 0) (.map none) 0) 66)) (.cells #[.nilIface] 92)
    rwa [World.size_alloc, World.size_alloc] at this

theorem cells_all (a0 a1 a2 a3 a4 a5 a6 a7 a8 a9 b0 b1 b2 b3 b4 b5 b6 b7 b8 b9 : Value) : ((((((((((#[a0, a1, a2, a3, a4, a5, a6, a7, a8, a9].setIfInBounds 0 b0).setIfInBounds 1 b1).setIfInBounds 2 b2).setIfInBounds 3 b3).setIfInBounds 4 b4).setIfInBounds 5 b5).setIfInBounds 6 b6).setIfInBounds 7 b7).setIfInBounds 8 b8).setIfInBounds 9 b9) = #[b0, b1, b2, b3, b4, b5, b6, b7, b8, b9] := by simp

/-- What the return leaves: the result's cells. -/
theorem FillAt.done {lb bb pb lcap n bcap pcap : Nat} {P : Option Addr} {pl pc : Nat} {mr : Option Nat} {w : World} {W W' : World} (h : FillAt lb bb pb lcap n bcap pcap (.slice P pl pc) (.map mr) w n W)
    (e : W' = (((((((((((W.setCell ⟨w.heap.size + 1, 0, none⟩ (.slice (some ⟨lb, 0, none⟩) 1 lcap)).setCell ⟨w.heap.size + 1, 1, none⟩ (.slice (some ⟨bb, 0, none⟩) n bcap)).setCell ⟨w.heap.size + 1, 2, none⟩ (.slice P pl pc)).setCell ⟨w.heap.size + 1, 3, none⟩ (.int .i64 0)).setCell ⟨w.heap.size + 1, 4, none⟩ (.int .i64 0)).setCell ⟨w.heap.size + 1, 5, none⟩ (.int .i64 0)).setCell ⟨w.heap.size + 1, 6, none⟩ (.int .i64 0)).setCell ⟨w.heap.size + 1, 7, none⟩ (.int .i64 0)).setCell ⟨w.heap.size + 1, 8, none⟩ (.int .i64 n)).setCell ⟨w.heap.size + 1, 9, none⟩ (.map mr)).setCell ⟨w.heap.size + 1 + 1, 0, none⟩ .nilIface)) :
    W'.heap[w.heap.size + 1]? = some (.cells (cellsAt (.slice (some ⟨lb, 0, none⟩) 1 lcap) (.slice (some ⟨bb, 0, none⟩) n bcap) (.slice P pl pc) (.map mr) n) 66 (0, 0)) ∧
    W'.heap[w.heap.size + 1 + 1]? = some (.cells #[.nilIface] 92 (0, 0)) ∧ Below w.heap.size w W' := by
  have h1 := setH (setH (setH (setH (setH (setH (setH (setH (setH (setH h.res 0 (.slice (some ⟨lb, 0, none⟩) 1 lcap)) 1 (.slice (some ⟨bb, 0, none⟩) n bcap)) 2 (.slice P pl pc)) 3 (.int .i64 0)) 4 (.int .i64 0)) 5 (.int .i64 0)) 6 (.int .i64 0)) 7 (.int .i64 0)) 8 (.int .i64 n)) 9 (.map mr)
  rw [cells_all] at h1
  have hb : But (w.heap.size + 1) W ((((((((((W.setCell ⟨w.heap.size + 1, 0, none⟩ (.slice (some ⟨lb, 0, none⟩) 1 lcap)).setCell ⟨w.heap.size + 1, 1, none⟩ (.slice (some ⟨bb, 0, none⟩) n bcap)).setCell ⟨w.heap.size + 1, 2, none⟩ (.slice P pl pc)).setCell ⟨w.heap.size + 1, 3, none⟩ (.int .i64 0)).setCell ⟨w.heap.size + 1, 4, none⟩ (.int .i64 0)).setCell ⟨w.heap.size + 1, 5, none⟩ (.int .i64 0)).setCell ⟨w.heap.size + 1, 6, none⟩ (.int .i64 0)).setCell ⟨w.heap.size + 1, 7, none⟩ (.int .i64 0)).setCell ⟨w.heap.size + 1, 8, none⟩ (.int .i64 n)).setCell ⟨w.heap.size + 1, 9, none⟩ (.map mr)) :=
    (((((((((((But.refl _ W).set 0 _).set 1 _).set 2 _).set 3 _).set 4 _).set 5 _).set 6 _).set 7 _).set 8 _).set 9 _)
  obtain ⟨X, hX⟩ : ∃ X, ((((((((((W.setCell ⟨w.heap.size + 1, 0, none⟩ (.slice (some ⟨lb, 0, none⟩) 1 lcap)).setCell ⟨w.heap.size + 1, 1, none⟩ (.slice (some ⟨bb, 0, none⟩) n bcap)).setCell ⟨w.heap.size + 1, 2, none⟩ (.slice P pl pc)).setCell ⟨w.heap.size + 1, 3, none⟩ (.int .i64 0)).setCell ⟨w.heap.size + 1, 4, none⟩ (.int .i64 0)).setCell ⟨w.heap.size + 1, 5, none⟩ (.int .i64 0)).setCell ⟨w.heap.size + 1, 6, none⟩ (.int .i64 0)).setCell ⟨w.heap.size + 1, 7, none⟩ (.int .i64 0)).setCell ⟨w.heap.size + 1, 8, none⟩ (.int .i64 n)).setCell ⟨w.heap.size + 1, 9, none⟩ (.map mr)) = X := ⟨_, rfl⟩
  rw [hX] at e h1 hb
  clear hX
  subst e
  have hz := h.size
  refine ⟨?_, ?_, ?_⟩
  · rw [Below.heap_setCell _ _ _ _ (by simp)]
    exact h1
  · exact setH (c := #[.nilIface]) ((hb.block _ (by omega) (by omega)).trans h.err) 0 .nilIface
  · exact (h.below.trans (hb.below (by omega) (by omega))).setCell (p := ⟨w.heap.size + 1 + 1, 0, none⟩) (by simp; omega) _

set_option maxRecDepth 100000 in
set_option maxHeartbeats 4000000 in
theorem fill_low (lb bb pb lcap n bcap pcap : Nat) (P : Option Addr) (pl pc : Nat) (mr : Option Nat) (w : World) (h1n : 1 ≤ n) (hn : n ≤ 5) (hnp : n ≤ pcap) (hlb : lb < w.heap.size) (hbb : bb < w.heap.size) (hpb : pb < w.heap.size)
    (hl : LaneAt w lb n) (hb : ∀ j, j < n → w.cell? ⟨bb, j * 3, none⟩ = some (.int .i64 1)) (hp : ∀ j, j < n → w.cell? ⟨pb, j, none⟩ = some (.int .i64 0)) :
    Calls Tryz.prog 37 #[.agg (cellsAt (.slice (some ⟨lb, 0, none⟩) 1 lcap) (.slice (some ⟨bb, 0, none⟩) n bcap) (.slice P pl pc) (.map mr) 0), .slice (some ⟨pb, 0, none⟩) n pcap] w fun e w' =>
      e = .returned (.tuple #[.agg (cellsAt (.slice (some ⟨lb, 0, none⟩) 1 lcap) (.slice (some ⟨bb, 0, none⟩) n bcap) (.slice P pl pc) (.map mr) n), .nilIface]) ∧ Below w.heap.size w w' := by
  have hmf : ∀ (fn : Fn) (first cap : Array Value) (w : World), (Instr.makeFunc fn first cap).run Tryz.prog w = .ok (.func fn first cap) w := fun _ _ _ _ => rfl
  have HB := Go.Lib.hid hb; clear hb
  have HP := Go.Lib.hid hp; clear hp
  go_enter_defers Tryz.func37, Tryz.ntmps37
  go_wp2
  have hst := FillAt.start (lb := lb) (bb := bb) (pb := pb) (lcap := lcap) (n := n) (bcap := bcap) (pcap := pcap) (P := .slice P pl pc) (M := .map mr) w
  obtain ⟨W0, hW0⟩ : ∃ W0, (((w.alloc (.cells (cellsAt (.slice (some ⟨lb, 0, none⟩) 1 lcap) (.slice (some ⟨bb, 0, none⟩) n bcap) (.slice P pl pc) (.map mr) 0) 66)).alloc (.cells (cellsAt (.slice none 0 0) (.slice none 0 0) (.slice none 0 0) (.map none) 0) 66)).alloc (.cells #[.nilIface] 92)) = W0 := ⟨_, rfl⟩
  rw [hW0] at hst
  have HW := Go.Lib.hid hW0; clear hW0
  change Code.wp _ _ _ _ (((w.alloc (.cells (cellsAt (.slice (some ⟨lb, 0, none⟩) 1 lcap) (.slice (some ⟨bb, 0, none⟩) n bcap) (.slice P pl pc) (.map mr) 0) 66)).alloc (.cells (cellsAt (.slice none 0 0) (.slice none 0 0) (.slice none 0 0) (.map none) 0) 66)).alloc (.cells #[.nilIface] 92))
  rw [HW.out]
  refine wp_scope_jumps 0 (fun a' W => ∃ (k m C : Nat) (A' : Option Addr) (u7 u8 u9 u10 u11 u12 u13 u14 u15 : Value), k + m = n ∧ m ≤ C ∧ (0 < m → A' = some ⟨pb, k, none⟩) ∧ FillAt lb bb pb lcap n bcap pcap (.slice P pl pc) (.map mr) w k W ∧
      a' = { tmps := #[.agg (cellsAt (.slice (some ⟨lb, 0, none⟩) 1 lcap) (.slice (some ⟨bb, 0, none⟩) n bcap) (.slice P pl pc) (.map mr) 0), .slice A' m C, .pointer (some ⟨w.heap.size, 0, none⟩), undef, .pointer (some ⟨w.heap.size + 1, 0, none⟩), .pointer (some ⟨w.heap.size + 1 + 1, 0, none⟩), .func (.func 56) #[] #[.pointer (some ⟨w.heap.size + 1, 0, none⟩), .pointer (some ⟨w.heap.size + 1 + 1, 0, none⟩)], u7, u8, u9, u10, u11, u12, u13, u14, u15, undef], defers := [{ target := .fn (.func 56) #[.pointer (some ⟨w.heap.size + 1, 0, none⟩), .pointer (some ⟨w.heap.size + 1 + 1, 0, none⟩)], args := #[] }] })
    (fun a' _ => match a'.tmps.getD 1 undef with | .slice _ m _ => m | _ => 0) rfl ?_ ?_
  · have hp0 := HP.out 0 (by omega)
    have hp0' : W0.cell? ⟨pb, 0, none⟩ = some (.int .i64 0) := (hst.below.cell (p := ⟨pb, 0, none⟩) hpb).trans hp0
    clear hp0
    by_cases hpc : pcap = 1
    · go_wp2
      go_step3
      go_wp2_with (go_at_call 57; refine (hst.put (by omega) hn hlb hbb hl HB).mono ?_; rintro e W1 ⟨rfl, hst1⟩)
      go_step3
      exact ⟨rfl, 1, _, _, _, _, _, _, _, _, _, _, _, _, by omega, by omega, fun h => absurd h (by omega), hst1, rfl⟩
    · go_wp2
      go_step3
      go_wp2_with (go_at_call 57; refine (hst.put (by omega) hn hlb hbb hl HB).mono ?_; rintro e W1 ⟨rfl, hst1⟩)
      go_step3
      exact ⟨rfl, 1, _, _, _, _, _, _, _, _, _, _, _, _, by omega, by omega, fun _ => rfl, hst1, rfl⟩
  · rintro a' W ⟨k, m, C, A', u7, u8, u9, u10, u11, u12, u13, u14, u15, hk, hC, hA, hst1, rfl⟩
    cases m with
    | succ m =>
      obtain rfl := hA (by omega)
      have hp0' : W.cell? ⟨pb, k, none⟩ = some (.int .i64 0) := (hst1.below.cell (p := ⟨pb, k, none⟩) hpb).trans (HP.out k (by omega))
      have hm5 : m < 5 := by omega
      have hkn : k < n := by omega
      have HK := Go.Lib.hid hk; clear hk
      by_cases hpc : C = 1
      · go_wp2_with (go_at_call 57; refine (hst1.put hkn hn hlb hbb hl HB).mono ?_; rintro e W1 ⟨rfl, hst2⟩)
        go_step3
        have hk := HK.out
        exact ⟨rfl, ⟨k + 1, m, _, _, _, _, _, _, _, _, _, _, _, by omega, by omega, fun h => absurd h (by omega), hst2, rfl⟩, by simp⟩
      · go_wp2_with (go_at_call 57; refine (hst1.put hkn hn hlb hbb hl HB).mono ?_; rintro e W1 ⟨rfl, hst2⟩)
        go_step3
        have hk := HK.out
        exact ⟨rfl, ⟨k + 1, m, _, _, _, _, _, _, _, _, _, _, _, by omega, by omega, fun _ => rfl, hst2, rfl⟩, by simp⟩
    | zero =>
      obtain rfl : k = n := by omega
      have b0 : W.cell? ⟨w.heap.size, 0, none⟩ = some (.slice (some ⟨lb, 0, none⟩) 1 lcap) := cellH hst1.box 0
      have b1 : W.cell? ⟨w.heap.size, 1, none⟩ = some (.slice (some ⟨bb, 0, none⟩) k bcap) := cellH hst1.box 1
      have b2 : W.cell? ⟨w.heap.size, 2, none⟩ = some (.slice P pl pc) := cellH hst1.box 2
      have b3 : W.cell? ⟨w.heap.size, 3, none⟩ = some (.int .i64 0) := cellH hst1.box 3
      have b4 : W.cell? ⟨w.heap.size, 4, none⟩ = some (.int .i64 0) := cellH hst1.box 4
      have b5 : W.cell? ⟨w.heap.size, 5, none⟩ = some (.int .i64 0) := cellH hst1.box 5
      have b6 : W.cell? ⟨w.heap.size, 6, none⟩ = some (.int .i64 0) := cellH hst1.box 6
      have b7 : W.cell? ⟨w.heap.size, 7, none⟩ = some (.int .i64 0) := cellH hst1.box 7
      have b8 : W.cell? ⟨w.heap.size, 8, none⟩ = some (.int .i64 k) := cellH hst1.box 8
      have b9 : W.cell? ⟨w.heap.size, 9, none⟩ = some (.map mr) := cellH hst1.box 9
      have r0 : W.cell? ⟨w.heap.size + 1, 0, none⟩ = some (.slice none 0 0) := cellH hst1.res 0
      have f0 : W.frozen? ⟨w.heap.size + 1, 0, none⟩ = false := freeH hst1.res 0
      have r1 : W.cell? ⟨w.heap.size + 1, 1, none⟩ = some (.slice none 0 0) := cellH hst1.res 1
      have f1 : W.frozen? ⟨w.heap.size + 1, 1, none⟩ = false := freeH hst1.res 1
      have r2 : W.cell? ⟨w.heap.size + 1, 2, none⟩ = some (.slice none 0 0) := cellH hst1.res 2
      have f2 : W.frozen? ⟨w.heap.size + 1, 2, none⟩ = false := freeH hst1.res 2
      have r3 : W.cell? ⟨w.heap.size + 1, 3, none⟩ = some (.int .i64 0) := cellH hst1.res 3
      have f3 : W.frozen? ⟨w.heap.size + 1, 3, none⟩ = false := freeH hst1.res 3
      have r4 : W.cell? ⟨w.heap.size + 1, 4, none⟩ = some (.int .i64 0) := cellH hst1.res 4
      have f4 : W.frozen? ⟨w.heap.size + 1, 4, none⟩ = false := freeH hst1.res 4
      have r5 : W.cell? ⟨w.heap.size + 1, 5, none⟩ = some (.int .i64 0) := cellH hst1.res 5
      have f5 : W.frozen? ⟨w.heap.size + 1, 5, none⟩ = false := freeH hst1.res 5
      have r6 : W.cell? ⟨w.heap.size + 1, 6, none⟩ = some (.int .i64 0) := cellH hst1.res 6
      have f6 : W.frozen? ⟨w.heap.size + 1, 6, none⟩ = false := freeH hst1.res 6
      have r7 : W.cell? ⟨w.heap.size + 1, 7, none⟩ = some (.int .i64 0) := cellH hst1.res 7
      have f7 : W.frozen? ⟨w.heap.size + 1, 7, none⟩ = false := freeH hst1.res 7
      have r8 : W.cell? ⟨w.heap.size + 1, 8, none⟩ = some (.int .i64 0) := cellH hst1.res 8
      have f8 : W.frozen? ⟨w.heap.size + 1, 8, none⟩ = false := freeH hst1.res 8
      have r9 : W.cell? ⟨w.heap.size + 1, 9, none⟩ = some (.map none) := cellH hst1.res 9
      have f9 : W.frozen? ⟨w.heap.size + 1, 9, none⟩ = false := freeH hst1.res 9
      have e0 : W.cell? ⟨w.heap.size + 1 + 1, 0, none⟩ = some .nilIface := cellH hst1.err 0
      have g0 : W.frozen? ⟨w.heap.size + 1 + 1, 0, none⟩ = false := freeH hst1.err 0
      have hd := fun (W' : World) e => hst1.done (W' := W') e
      have HD := Go.Lib.hid hd; clear hd
      go_wp2
      obtain ⟨W9, hW9⟩ : ∃ W9, (((((((((((W.setCell ⟨w.heap.size + 1, 0, none⟩ (.slice (some ⟨lb, 0, none⟩) 1 lcap)).setCell ⟨w.heap.size + 1, 1, none⟩ (.slice (some ⟨bb, 0, none⟩) k bcap)).setCell ⟨w.heap.size + 1, 2, none⟩ (.slice P pl pc)).setCell ⟨w.heap.size + 1, 3, none⟩ (.int .i64 0)).setCell ⟨w.heap.size + 1, 4, none⟩ (.int .i64 0)).setCell ⟨w.heap.size + 1, 5, none⟩ (.int .i64 0)).setCell ⟨w.heap.size + 1, 6, none⟩ (.int .i64 0)).setCell ⟨w.heap.size + 1, 7, none⟩ (.int .i64 0)).setCell ⟨w.heap.size + 1, 8, none⟩ (.int .i64 k)).setCell ⟨w.heap.size + 1, 9, none⟩ (.map mr)).setCell ⟨w.heap.size + 1 + 1, 0, none⟩ .nilIface) = W9 := ⟨_, rfl⟩
      rw [hW9]
      obtain ⟨d1, d2, d3⟩ := HD.out W9 hW9.symm
      clear hW9
      simp only [Exit.jump]
      refine leaves_cons (f := 56) (args := #[.pointer (some ⟨w.heap.size + 1, 0, none⟩), .pointer (some ⟨w.heap.size + 1 + 1, 0, none⟩)]) (by simp) (by simp [go_sem]) ?_
      refine (fill1_idle _ _ _).mono ?_
      rintro e u' w'' ⟨rfl, rfl, rfl⟩
      have s0 : w''.cell? ⟨w.heap.size + 1, 0, none⟩ = some (.slice (some ⟨lb, 0, none⟩) 1 lcap) := cellH d1 0
      have s1 : w''.cell? ⟨w.heap.size + 1, 1, none⟩ = some (.slice (some ⟨bb, 0, none⟩) k bcap) := cellH d1 1
      have s2 : w''.cell? ⟨w.heap.size + 1, 2, none⟩ = some (.slice P pl pc) := cellH d1 2
      have s3 : w''.cell? ⟨w.heap.size + 1, 3, none⟩ = some (.int .i64 0) := cellH d1 3
      have s4 : w''.cell? ⟨w.heap.size + 1, 4, none⟩ = some (.int .i64 0) := cellH d1 4
      have s5 : w''.cell? ⟨w.heap.size + 1, 5, none⟩ = some (.int .i64 0) := cellH d1 5
      have s6 : w''.cell? ⟨w.heap.size + 1, 6, none⟩ = some (.int .i64 0) := cellH d1 6
      have s7 : w''.cell? ⟨w.heap.size + 1, 7, none⟩ = some (.int .i64 0) := cellH d1 7
      have s8 : w''.cell? ⟨w.heap.size + 1, 8, none⟩ = some (.int .i64 k) := cellH d1 8
      have s9 : w''.cell? ⟨w.heap.size + 1, 9, none⟩ = some (.map mr) := cellH d1 9
      have t0 : w''.cell? ⟨w.heap.size + 1 + 1, 0, none⟩ = some .nilIface := cellH d2 0
      clear b0 b1 b2 b3 b4 b5 b6 b7 b8 b9 r0 r1 r2 r3 r4 r5 r6 r7 r8 r9 e0
      simp [Leaves, settle, results, Tryz.results37, go_sem, s0, s1, s2, s3, s4, s5, s6, s7, s8, s9, t0]
      exact d3

end Go.Proofs.YtckchahangnfiaaGreatDoor
