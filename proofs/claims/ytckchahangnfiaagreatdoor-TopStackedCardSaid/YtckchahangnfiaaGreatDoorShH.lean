/- SHELF: open. -/
import Derived.Test.YtckchahangnfiaaGreatDoorShG
namespace Go.Proofs.YtckchahangnfiaaGreatDoor
open Go.RowKit

theorem set10 {W : World} {b T : Nat} {a0 a1 a2 a3 a4 a5 a6 a7 a8 a9 : Value} (h : W.heap[b]? = some (.cells #[a0, a1, a2, a3, a4, a5, a6, a7, a8, a9] T (0, 0))) (v0 v1 v2 v3 v4 v5 v6 v7 v8 v9 : Value) :
    ((((((((((W.setCell ⟨b, 0, none⟩ v0).setCell ⟨b, 1, none⟩ v1).setCell ⟨b, 2, none⟩ v2).setCell ⟨b, 3, none⟩ v3).setCell ⟨b, 4, none⟩ v4).setCell ⟨b, 5, none⟩ v5).setCell ⟨b, 6, none⟩ v6).setCell ⟨b, 7, none⟩ v7).setCell ⟨b, 8, none⟩ v8).setCell ⟨b, 9, none⟩ v9).heap[b]? = some (.cells #[v0, v1, v2, v3, v4, v5, v6, v7, v8, v9] T (0, 0)) ∧ But b W ((((((((((W.setCell ⟨b, 0, none⟩ v0).setCell ⟨b, 1, none⟩ v1).setCell ⟨b, 2, none⟩ v2).setCell ⟨b, 3, none⟩ v3).setCell ⟨b, 4, none⟩ v4).setCell ⟨b, 5, none⟩ v5).setCell ⟨b, 6, none⟩ v6).setCell ⟨b, 7, none⟩ v7).setCell ⟨b, 8, none⟩ v8).setCell ⟨b, 9, none⟩ v9) := by
  have h1 := (setH (setH (setH (setH (setH (setH (setH (setH (setH (setH h 0 v0) 1 v1) 2 v2) 3 v3) 4 v4) 5 v5) 6 v6) 7 v7) 8 v8) 9 v9)
  rw [cells_all] at h1
  exact ⟨h1, (((((((((((But.refl _ W).set 0 v0).set 1 v1).set 2 v2).set 3 v3).set 4 v4).set 5 v5).set 6 v6).set 7 v7).set 8 v8).set 9 v9)⟩

/-- What 'open' leaves. -/
def Opened (lb bb pb lcap n bcap pcap : Nat) (w : World) (e : Ending) (w' : World) : Prop :=
  ∃ r : Nat, e = .returned (.tuple #[.agg (cellsAt (.slice (some ⟨lb, 0, none⟩) 1 lcap) (.slice (some ⟨bb, 0, none⟩) n bcap) (.slice (some ⟨pb, 0, none⟩) n pcap) (.map (some r)) n), .int .i64 0]) ∧ Below w.heap.size w w'

set_option maxRecDepth 100000 in
set_option maxHeartbeats 4000000 in
theorem open_low (lb bb pb lcap n bcap pcap : Nat) (h : Nat → Int) (A : Option Addr) (m cap : Nat) (x : Nat → Nat) (w : World) (h1n : 1 ≤ n) (hn : n ≤ 5) (hnp : n ≤ pcap) (hlb : lb < w.heap.size) (hbb : bb < w.heap.size) (hpb : pb < w.heap.size)
    (hl : LaneAt w lb n) (hb : BagsAt w bb n h) (hp : ∀ j, j < n → w.cell? ⟨pb, j, none⟩ = some (.int .i64 0))
    (hm : m ≤ 5) (hx : 0 < m → ∃ xb, A = some ⟨xb, 0, none⟩ ∧ xb < w.heap.size ∧ ∀ j, j < m → w.cell? ⟨xb, j, none⟩ = some (.int .i64 (x j))) (hxn : ∀ j, j < m → x j < n) :
    Calls Tryz.prog 15 #[.agg #[.slice (some ⟨lb, 0, none⟩) 1 lcap, .slice (some ⟨bb, 0, none⟩) n bcap, .slice (some ⟨pb, 0, none⟩) n pcap], .slice A m cap] w (Opened lb bb pb lcap n bcap pcap w) := by
  have hmm := @run_makeMap Tryz.prog
  have HB := Go.Lib.hid hb; clear hb
  have HP := Go.Lib.hid hp; clear hp
  have HX := Go.Lib.hid hx; clear hx
  have HXN := Go.Lib.hid hxn; clear hxn
  go_enter Tryz.func15, Tryz.ntmps15
  go_wp2_with (first
    | (go_at_call 35; refine (checkLanes_yes _ _ n _ h1n (hl.below (((Below.refl _ w).alloc (Nat.le_refl _) _).alloc (by simp) _) hlb)).mono ?_; rintro e w' ⟨rfl, rfl⟩)
    | (go_at_call 36; refine (checkBags_yes bb n bcap h _ hn (by simp; omega) (HB.out.below (((Below.refl _ w).alloc (Nat.le_refl _) _).alloc (by simp) _) hbb)).mono ?_; rintro e w1 ⟨rfl, hB1⟩
       have hBw : Below w.heap.size w w1 := (((Below.refl _ w).alloc (Nat.le_refl _) _).alloc (by simp) _).trans (hB1.mono (by simp; omega))
       have hz1 : w.heap.size + 2 ≤ w1.heap.size := by have := hB1.size; simp at this; omega
       obtain ⟨hk1, hf1⟩ := bcell hB1
       have hN2 : (w1.alloc (Obj.map #[] 0)).cell? ⟨w.heap.size, 2, none⟩ = some (.slice (some ⟨pb, 0, none⟩) n pcap) := cell_alloc_l _ (by rw [hk1 _ _ (by simp; omega)]; simp)
       have hBm : Below w.heap.size w (w1.alloc (Obj.map #[] 0)) := hBw.alloc (by omega) _)
    | (go_at_call 37; refine (fill_low lb bb pb lcap n bcap pcap _ _ _ _ _ h1n hn hnp (by simp; omega) (by simp; omega) (by simp; omega) (hl.below hBm hlb) (fun j hj => (HB.out.below hBm hbb).long j hj) (fun j hj => (hBm.cell (p := ⟨pb, j, none⟩) hpb).trans (HP.out j hj))).mono ?_; rintro e w2 ⟨rfl, hB2⟩
       have hBw2 : Below w.heap.size w w2 := hBm.trans (hB2.mono (by simp; omega))
       have hz2 : w.heap.size + 3 ≤ w2.heap.size := by have := hB2.size; simp at this; omega))
  have hr : (w2.alloc (.cells #[.slice (some ⟨lb, 0, none⟩) 1 lcap, .slice (some ⟨bb, 0, none⟩) n bcap, .slice (some ⟨pb, 0, none⟩) n pcap, .int .i64 0, .int .i64 0, .int .i64 0, .int .i64 0, .int .i64 0, .int .i64 n, .map (some w1.heap.size)] 66)).heap[w.heap.size + 1]? = some (.cells #[.slice none 0 0, .slice none 0 0, .slice none 0 0, .int .i64 0, .int .i64 0, .int .i64 0, .int .i64 0, .int .i64 0, .int .i64 0, .map none] 66 (0, 0)) := by
    rw [Below.heap_alloc _ _ _ (by omega), hB2.block _ (by simp; omega), Below.heap_alloc _ _ _ (by omega), hB1.block _ (by simp)]
    have := heap_alloc_new (w.alloc (.cells #[.slice (some ⟨lb, 0, none⟩) 1 lcap, .slice (some ⟨bb, 0, none⟩) n bcap, .slice (some ⟨pb, 0, none⟩) n pcap] 27)) (.cells #[.slice none 0 0, .slice none 0 0, .slice none 0 0, .int .i64 0, .int .i64 0, .int .i64 0, .int .i64 0, .int .i64 0, .int .i64 0, .map none] 66)
    rwa [World.size_alloc] at this
  have hq := heap_alloc_new w2 (.cells #[.slice (some ⟨lb, 0, none⟩) 1 lcap, .slice (some ⟨bb, 0, none⟩) n bcap, .slice (some ⟨pb, 0, none⟩) n pcap, .int .i64 0, .int .i64 0, .int .i64 0, .int .i64 0, .int .i64 0, .int .i64 n, .map (some w1.heap.size)] 66)
  have hBw3 : Below w.heap.size w (w2.alloc (.cells #[.slice (some ⟨lb, 0, none⟩) 1 lcap, .slice (some ⟨bb, 0, none⟩) n bcap, .slice (some ⟨pb, 0, none⟩) n pcap, .int .i64 0, .int .i64 0, .int .i64 0, .int .i64 0, .int .i64 0, .int .i64 n, .map (some w1.heap.size)] 66)) := hBw2.alloc (by omega) _
  obtain ⟨W3, hW3⟩ : ∃ W3, w2.alloc (.cells #[.slice (some ⟨lb, 0, none⟩) 1 lcap, .slice (some ⟨bb, 0, none⟩) n bcap, .slice (some ⟨pb, 0, none⟩) n pcap, .int .i64 0, .int .i64 0, .int .i64 0, .int .i64 0, .int .i64 0, .int .i64 n, .map (some w1.heap.size)] 66) = W3 := ⟨_, rfl⟩
  have hz3 : W3.heap.size = w2.heap.size + 1 := by rw [← hW3]; simp
  rw [hW3] at hr hq hBw3 ⊢
  clear hW3 hk1 hf1 hN2 hBm hmm hB1 hB2
  have hr3 : W3.heap[w.heap.size + 1]? = some (.cells #[.slice none 0 0, .slice none 0 0, .slice none 0 0, .int .i64 0, .int .i64 0, .int .i64 0, .int .i64 0, .int .i64 0, .int .i64 0, .map none] 66 (0, 0)) := hr
  have hq3 : W3.heap[w2.heap.size]? = some (.cells #[.slice (some ⟨lb, 0, none⟩) 1 lcap, .slice (some ⟨bb, 0, none⟩) n bcap, .slice (some ⟨pb, 0, none⟩) n pcap, .int .i64 0, .int .i64 0, .int .i64 0, .int .i64 0, .int .i64 0, .int .i64 n, .map (some w1.heap.size)] 66 (0, 0)) := hq
  clear hr hq
  have c8 : W3.cell? ⟨w2.heap.size, 8, none⟩ = some (.int .i64 n) := cellH hq3 8
  have HR := Go.Lib.hid hr3; clear hr3
  have HQ := Go.Lib.hid hq3; clear hq3
  go_loop [50] (fun i => ∃ k : Nat, k ≤ m ∧ i = .int .i64 k) (fun i => m - (intOf i).toNat)
  case atStart => exact ⟨0, by omega, rfl⟩
  case round =>
    obtain ⟨k, hk, rfl⟩ := hrel
    by_cases hlt : k < m
    · obtain ⟨xb, rfl, hxb, hxc⟩ := HX.out (by omega)
      have cx : W3.cell? ⟨xb, k, none⟩ = some (.int .i64 (x k)) := (hBw3.cell (p := ⟨xb, k, none⟩) hxb).trans (hxc k hlt)
      have hx1 := HXN.out k hlt
      clear hxc
      go_wp2_with (go_at_call 39; refine (within_yes _ _ _ _ (by omega) (by omega)).mono ?_; rintro e w' ⟨rfl, rfl⟩)
      go_round
      case rel => exact ⟨k + 1, by omega, by go_num⟩
      case measure => simp [intOf]; omega
    · obtain rfl : k = m := by omega
      have hq3 := HQ.out
      have hr3 := HR.out
      have b0 : W3.cell? ⟨w2.heap.size, 0, none⟩ = some (.slice (some ⟨lb, 0, none⟩) 1 lcap) := cellH hq3 0
      have b1 : W3.cell? ⟨w2.heap.size, 1, none⟩ = some (.slice (some ⟨bb, 0, none⟩) n bcap) := cellH hq3 1
      have b2 : W3.cell? ⟨w2.heap.size, 2, none⟩ = some (.slice (some ⟨pb, 0, none⟩) n pcap) := cellH hq3 2
      have b3 : W3.cell? ⟨w2.heap.size, 3, none⟩ = some (.int .i64 0) := cellH hq3 3
      have b4 : W3.cell? ⟨w2.heap.size, 4, none⟩ = some (.int .i64 0) := cellH hq3 4
      have b5 : W3.cell? ⟨w2.heap.size, 5, none⟩ = some (.int .i64 0) := cellH hq3 5
      have b6 : W3.cell? ⟨w2.heap.size, 6, none⟩ = some (.int .i64 0) := cellH hq3 6
      have b7 : W3.cell? ⟨w2.heap.size, 7, none⟩ = some (.int .i64 0) := cellH hq3 7
      have b8 : W3.cell? ⟨w2.heap.size, 8, none⟩ = some (.int .i64 n) := cellH hq3 8
      have b9 : W3.cell? ⟨w2.heap.size, 9, none⟩ = some (.map (some w1.heap.size)) := cellH hq3 9
      have r0 : W3.cell? ⟨w.heap.size + 1, 0, none⟩ = some (.slice none 0 0) := cellH hr3 0
      have f0 : W3.frozen? ⟨w.heap.size + 1, 0, none⟩ = false := freeH hr3 0
      have r1 : W3.cell? ⟨w.heap.size + 1, 1, none⟩ = some (.slice none 0 0) := cellH hr3 1
      have f1 : W3.frozen? ⟨w.heap.size + 1, 1, none⟩ = false := freeH hr3 1
      have r2 : W3.cell? ⟨w.heap.size + 1, 2, none⟩ = some (.slice none 0 0) := cellH hr3 2
      have f2 : W3.frozen? ⟨w.heap.size + 1, 2, none⟩ = false := freeH hr3 2
      have r3 : W3.cell? ⟨w.heap.size + 1, 3, none⟩ = some (.int .i64 0) := cellH hr3 3
      have f3 : W3.frozen? ⟨w.heap.size + 1, 3, none⟩ = false := freeH hr3 3
      have r4 : W3.cell? ⟨w.heap.size + 1, 4, none⟩ = some (.int .i64 0) := cellH hr3 4
      have f4 : W3.frozen? ⟨w.heap.size + 1, 4, none⟩ = false := freeH hr3 4
      have r5 : W3.cell? ⟨w.heap.size + 1, 5, none⟩ = some (.int .i64 0) := cellH hr3 5
      have f5 : W3.frozen? ⟨w.heap.size + 1, 5, none⟩ = false := freeH hr3 5
      have r6 : W3.cell? ⟨w.heap.size + 1, 6, none⟩ = some (.int .i64 0) := cellH hr3 6
      have f6 : W3.frozen? ⟨w.heap.size + 1, 6, none⟩ = false := freeH hr3 6
      have r7 : W3.cell? ⟨w.heap.size + 1, 7, none⟩ = some (.int .i64 0) := cellH hr3 7
      have f7 : W3.frozen? ⟨w.heap.size + 1, 7, none⟩ = false := freeH hr3 7
      have r8 : W3.cell? ⟨w.heap.size + 1, 8, none⟩ = some (.int .i64 0) := cellH hr3 8
      have f8 : W3.frozen? ⟨w.heap.size + 1, 8, none⟩ = false := freeH hr3 8
      have r9 : W3.cell? ⟨w.heap.size + 1, 9, none⟩ = some (.map none) := cellH hr3 9
      have f9 : W3.frozen? ⟨w.heap.size + 1, 9, none⟩ = false := freeH hr3 9
      clear hq3 hr3
      have hd := fun v0 v1 v2 v3 v4 v5 v6 v7 v8 v9 => set10 HR.out v0 v1 v2 v3 v4 v5 v6 v7 v8 v9
      have HD := Go.Lib.hid hd; clear hd
      go_wp2
      obtain ⟨d1, d2⟩ := HD.out (.slice (some ⟨lb, 0, none⟩) 1 lcap) (.slice (some ⟨bb, 0, none⟩) n bcap) (.slice (some ⟨pb, 0, none⟩) n pcap) (.int .i64 0) (.int .i64 0) (.int .i64 0) (.int .i64 0) (.int .i64 0) (.int .i64 n) (.map (some w1.heap.size))
      obtain ⟨W9, hW9⟩ : ∃ W9, ((((((((((W3.setCell ⟨w.heap.size + 1, 0, none⟩ (.slice (some ⟨lb, 0, none⟩) 1 lcap)).setCell ⟨w.heap.size + 1, 1, none⟩ (.slice (some ⟨bb, 0, none⟩) n bcap)).setCell ⟨w.heap.size + 1, 2, none⟩ (.slice (some ⟨pb, 0, none⟩) n pcap)).setCell ⟨w.heap.size + 1, 3, none⟩ (.int .i64 0)).setCell ⟨w.heap.size + 1, 4, none⟩ (.int .i64 0)).setCell ⟨w.heap.size + 1, 5, none⟩ (.int .i64 0)).setCell ⟨w.heap.size + 1, 6, none⟩ (.int .i64 0)).setCell ⟨w.heap.size + 1, 7, none⟩ (.int .i64 0)).setCell ⟨w.heap.size + 1, 8, none⟩ (.int .i64 n)).setCell ⟨w.heap.size + 1, 9, none⟩ (.map (some w1.heap.size))) = W9 := ⟨_, rfl⟩
      rw [hW9] at d1 d2 ⊢
      clear hW9
      have s0 : W9.cell? ⟨w.heap.size + 1, 0, none⟩ = some (.slice (some ⟨lb, 0, none⟩) 1 lcap) := cellH d1 0
      have s1 : W9.cell? ⟨w.heap.size + 1, 1, none⟩ = some (.slice (some ⟨bb, 0, none⟩) n bcap) := cellH d1 1
      have s2 : W9.cell? ⟨w.heap.size + 1, 2, none⟩ = some (.slice (some ⟨pb, 0, none⟩) n pcap) := cellH d1 2
      have s3 : W9.cell? ⟨w.heap.size + 1, 3, none⟩ = some (.int .i64 0) := cellH d1 3
      have s4 : W9.cell? ⟨w.heap.size + 1, 4, none⟩ = some (.int .i64 0) := cellH d1 4
      have s5 : W9.cell? ⟨w.heap.size + 1, 5, none⟩ = some (.int .i64 0) := cellH d1 5
      have s6 : W9.cell? ⟨w.heap.size + 1, 6, none⟩ = some (.int .i64 0) := cellH d1 6
      have s7 : W9.cell? ⟨w.heap.size + 1, 7, none⟩ = some (.int .i64 0) := cellH d1 7
      have s8 : W9.cell? ⟨w.heap.size + 1, 8, none⟩ = some (.int .i64 n) := cellH d1 8
      have s9 : W9.cell? ⟨w.heap.size + 1, 9, none⟩ = some (.map (some w1.heap.size)) := cellH d1 9
      refine bodyPost_ret (v := .tuple #[.agg (cellsAt (.slice (some ⟨lb, 0, none⟩) 1 lcap) (.slice (some ⟨bb, 0, none⟩) n bcap) (.slice (some ⟨pb, 0, none⟩) n pcap) (.map (some w1.heap.size)) n), .int .i64 0])
        (by simp [results, Tryz.results15, go_sem, s0, s1, s2, s3, s4, s5, s6, s7, s8, s9]) rfl ⟨_, rfl, hBw3.trans (d2.below (by omega) (by omega))⟩

end Go.Proofs.YtckchahangnfiaaGreatDoor
