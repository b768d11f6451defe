/- TopStacked: the examples. -/
import Derived.Test.YtckchahangnfiaaGreatDoorTsA
namespace Go.Proofs.YtckchahangnfiaaGreatDoor
open Go.RowKit

theorem must01 (lb bb pb lcap bcap pcap : Nat) (h : Nat → Int) (w : World) (H : ShelfMem w lb bb pb 2 pcap h) (hlt : h 0 < h 1) :
    Calls Tryz.prog 7 #[.agg #[.slice (some ⟨lb, 0, none⟩) 1 lcap, .slice (some ⟨bb, 0, none⟩) 2 bcap, .slice (some ⟨pb, 0, none⟩) 2 pcap], .int .i64 0, .int .i64 1] w fun e w' =>
      e = .returned (.tuple #[.int .i64 1, .int .i64 0]) ∧ Below w.heap.size w w' := must_low lb bb pb lcap 2 bcap pcap 0 1 h w H (by omega) (by omega) hlt
theorem on2 (qb qcap xcap xb : Nat) (w : World) (hqb : qb < w.heap.size) (hxb : xb < w.heap.size) (H : ParcelsAt w qb 2 (fun _ => 1) (fun _ => 1) (fun j => if j = 0 then 1 else 0) (fun _ => 1)) (hx : w.cell? ⟨xb, 0, none⟩ = some (.int .i64 0)) :
    Calls Tryz.prog 6 #[.agg #[.slice (some ⟨qb, 0, none⟩) 2 qcap, .int .i64 2], .slice (some ⟨xb, 0, none⟩) 1 xcap] w fun e w' =>
      ∃ (A : Option Addr) (cap : Nat), e = .returned (.tuple #[.slice A 1 cap, .int .i64 0]) ∧ Below w.heap.size w w' ∧ Ints w' w'.heap.size A 1 (fun _ => 1) := by
  refine (pOn_any qb 2 qcap xcap xb 0 2 (fun _ => 1) (fun j => if j = 0 then 1 else 0) (fun _ => 1) w (by omega) (by omega) hqb hxb (by omega) (by omega) H hx (fun k _ => by decide)).mono ?_
  rintro e w' ⟨A, cap, R, hR, he, hB, hI⟩
  have e1 : R = [1] := by rw [hR]; decide
  subst e1
  refine ⟨A, cap, he, hB, fun h0 => ?_⟩
  obtain ⟨ad, h1, h2, h3⟩ := hI h0
  refine ⟨ad, h1, h2, fun j hj => ?_⟩
  have : j = 0 := by simpa using hj
  subst this
  exact h3 0 (by simp)

theorem boxes5 (w : World) (A B C D E : Array Value) (tA tB tC tD tE : TypeId) {W : World} (hW : W = ((((w.alloc (.cells A tA)).alloc (.cells B tB)).alloc (.cells C tC)).alloc (.cells D tD)).alloc (.cells E tE)) :
    (∀ o, W.cell? ⟨w.heap.size, o, none⟩ = A[o]?) ∧ (∀ o, W.cell? ⟨w.heap.size + 1, o, none⟩ = B[o]?) ∧ (∀ o, W.cell? ⟨w.heap.size + 2, o, none⟩ = C[o]?) ∧ (∀ o, W.cell? ⟨w.heap.size + 3, o, none⟩ = D[o]?) ∧ (∀ o, W.cell? ⟨w.heap.size + 4, o, none⟩ = E[o]?) ∧
    Below w.heap.size w W ∧ W.heap.size = w.heap.size + 5 := by
  subst hW
  obtain ⟨h0, h1, h2, h3, h4⟩ := boxes3 w A B C tA tB tC
  have e3 : (((w.alloc (.cells A tA)).alloc (.cells B tB)).alloc (.cells C tC)).heap.size = w.heap.size + 3 := by simp
  have e4 : ((((w.alloc (.cells A tA)).alloc (.cells B tB)).alloc (.cells C tC)).alloc (.cells D tD)).heap.size = w.heap.size + 4 := by simp
  refine ⟨fun o => ?_, fun o => ?_, fun o => ?_, fun o => ?_, fun o => ?_, (h3.alloc (by omega) _).alloc (by omega) _, by simp⟩
  · rw [cell_old _ _ (by omega), cell_old _ _ (by omega)]; exact h0 o
  · rw [cell_old _ _ (by omega), cell_old _ _ (by omega)]; exact h1 o
  · rw [cell_old _ _ (by omega), cell_old _ _ (by omega)]; exact h2 o
  · rw [cell_old _ _ (by omega)]
    have := cell_new (((w.alloc (.cells A tA)).alloc (.cells B tB)).alloc (.cells C tC)) D tD o
    rwa [e3] at this
  · have := cell_new ((((w.alloc (.cells A tA)).alloc (.cells B tB)).alloc (.cells C tC)).alloc (.cells D tD)) E tE o
    rwa [e4] at this

theorem awake_mem (w : World) (c4 : Array Value) (tA tB tC tD tE : TypeId) {W : World} (hW : W = (((((w.alloc (.cells #[.int .i64 1, .int .i64 1] tA)).alloc (.cells #[.int .i64 2] tB)).alloc (.cells #[.int .i64 1, .int .i64 0, .int .i64 0, .int .i64 1, .int .i64 1, .int .i64 1] tC)).alloc (.cells #[.int .i64 0, .int .i64 0] tD)).alloc (.cells c4 tE))) :
    ShelfMem W (w.heap.size + 1) (w.heap.size + 1 + 1) (w.heap.size + 1 + 1 + 1) 2 2 (fun j => (j : Int)) ∧ (∀ o, W.cell? ⟨w.heap.size, o, none⟩ = #[Value.int .i64 1, .int .i64 1][o]?) ∧ Below w.heap.size w W ∧ w.heap.size < W.heap.size := by
  obtain ⟨h0, h1, h2, h3, h4, h5, h6⟩ := boxes5 w _ _ _ _ _ tA tB tC tD tE hW
  have two : ∀ {p : Nat → Prop}, p 0 → p 1 → ∀ j, j < 2 → p j := fun a b j hj => by
    rcases (show j = 0 ∨ j = 1 by omega) with rfl | rfl <;> assumption
  exact ⟨⟨by omega, by omega, by omega, by omega, by omega, by omega, ⟨2, by omega, by omega, h1 0⟩, ⟨two (h2 0) (h2 3), two (h2 1) (h2 4), two (h2 2) (h2 5), fun j _ => by omega, fun j _ => by omega⟩, two (h3 0) (h3 1)⟩, h0, h5, by omega⟩

theorem awake_par (w w1 : World) (hBw1 : Below w.heap.size w w1) (tA tB : TypeId) {W : World} (hW : W = (w1.alloc (.cells #[.int .i64 1, .int .i64 1, .int .i64 1, .int .i64 1, .int .i64 1, .int .i64 1, .int .i64 0, .int .i64 1] tA)).alloc (.cells #[.int .i64 0] tB)) :
    ParcelsAt W w1.heap.size 2 (fun _ => 1) (fun _ => 1) (fun j => if j = 0 then 1 else 0) (fun _ => 1) ∧ W.cell? ⟨w1.heap.size + 1, 0, none⟩ = some (.int .i64 0) ∧ w1.heap.size + 1 < W.heap.size ∧ Below w.heap.size w W := by
  subst hW
  obtain ⟨h0, h1, h2, h3⟩ := boxes2 w1 #[.int .i64 1, .int .i64 1, .int .i64 1, .int .i64 1, .int .i64 1, .int .i64 1, .int .i64 0, .int .i64 1] #[.int .i64 0] tA tB
  have two : ∀ {p : Nat → Prop}, p 0 → p 1 → ∀ j, j < 2 → p j := fun a b j hj => by
    rcases (show j = 0 ∨ j = 1 by omega) with rfl | rfl <;> assumption
  exact ⟨⟨two (h0 0) (h0 4), two (h0 1) (h0 5), two (h0 2) (h0 6), two (h0 3) (h0 7), fun _ _ => by omega, fun _ _ => by omega, fun _ _ => by omega, fun j _ => by split <;> omega, fun j _ => by split <;> omega, fun _ _ => by omega, fun _ _ => by omega⟩, h1 0, h3, hBw1.trans (h2.mono hBw1.size)⟩

theorem below_drewN {B : Nat} {a w : World} (h : Below B a w) (d : Nat) : Below B a (w.drewN d) := ⟨h.os, h.tape, h.output, h.size, h.block⟩

set_option maxRecDepth 100000 in
set_option maxHeartbeats 4000000 in
theorem awake_any (w : World) : Calls Tryz.prog 11 #[] w fun e w' => e = .returned (.bool true) ∧ Below w.heap.size w w' := by
  go_enter Tryz.func11, Tryz.ntmps11
  go_wp2_with fail
  obtain ⟨W0, hW0⟩ : ∃ W0, (((((w.alloc (.cells #[.int .i64 1, .int .i64 1] 33)).alloc (.cells #[.int .i64 2] 3)).alloc (.cells #[.int .i64 1, .int .i64 0, .int .i64 0, .int .i64 1, .int .i64 1, .int .i64 1] 35)).alloc (.cells #[.int .i64 0, .int .i64 0] 3)).alloc (.cells #[.slice (some ⟨w.heap.size + 1, 0, none⟩) 1 1, .slice (some ⟨w.heap.size + 1 + 1, 0, none⟩) 2 2, .slice (some ⟨w.heap.size + 1 + 1 + 1, 0, none⟩) 2 2] 27)) = W0 := ⟨_, rfl⟩
  rw [hW0]
  obtain ⟨hSM, hc0, hB0, hz0⟩ := awake_mem w _ _ _ _ _ _ hW0.symm
  clear hW0
  refine (must01 _ _ _ _ _ _ _ W0 hSM (by omega)).mono ?_
  rintro e w1 ⟨rfl, hB1⟩
  have hc1 : ∀ o, w1.cell? ⟨w.heap.size, o, none⟩ = #[Value.int .i64 1, .int .i64 1][o]? := fun o => (hB1.cell (p := ⟨w.heap.size, o, none⟩) hz0).trans (hc0 o)
  have hBw1 := hB0.trans (hB1.mono (by omega))
  clear hc0 hSM
  go_wp2_with fail
  clear hc1
  obtain ⟨W2, hW2⟩ : ∃ W2, (w1.alloc (.cells #[.int .i64 1, .int .i64 1, .int .i64 1, .int .i64 1, .int .i64 1, .int .i64 1, .int .i64 0, .int .i64 1] 37)).alloc (.cells #[.int .i64 0] 3) = W2 := ⟨_, rfl⟩
  rw [hW2]
  obtain ⟨hP, hx, hz2, hBw2⟩ := awake_par w w1 hBw1 _ _ hW2.symm
  clear hW2
  refine (on2 _ _ _ _ W2 (by omega) hz2 hP hx).mono ?_
  rintro e w3 ⟨A, cap, rfl, hB3, hI⟩
  have hBw3 := hBw2.trans (hB3.mono hBw2.size)
  have HI := Go.Lib.hid hI; clear hI
  clear hP hx
  go_wp2_with (go_at_call 23; refine (likeInts_any A (some ⟨w3.heap.size, 0, none⟩) 1 cap 1 1 w3.heap.size (w3.heap.size + 1) (fun _ => 1) (fun _ => 1) _ (by omega) (by omega) (HI.out.keep (fun b hb => Below.heap_alloc _ _ _ hb)) (fun _ => ⟨⟨w3.heap.size, 0, none⟩, rfl, by simp, fun j hj => by
    have : j = 0 := by simpa using hj
    subst this
    simp [Addr.add]⟩)).mono ?_; rintro e w4 ⟨b, rfl, hb, d, rfl⟩; obtain rfl := hb.2 ⟨rfl, fun _ _ => rfl⟩; clear hb)
  go_ret
  exact ⟨rfl, below_drewN (hBw3.alloc hBw3.size _) _⟩

end Go.Proofs.YtckchahangnfiaaGreatDoor
