/- SHELF: put. -/
import Derived.Test.YtckchahangnfiaaGreatDoorShD
import Derived.Deep.RegionHeld3
import Derived.RegionTactic
import Derived.ChangeAlike
namespace Go.Proofs.YtckchahangnfiaaGreatDoor
open Go.RowKit

theorem cellH {w : World} {b T : Nat} {c : Array Value} (h : w.heap[b]? = some (.cells c T (0, 0))) (i : Nat) : w.cell? ⟨b, i, none⟩ = c[i]? := by simp [World.cell?, h]
theorem freeH {w : World} {b T : Nat} {c : Array Value} (h : w.heap[b]? = some (.cells c T (0, 0))) (i : Nat) : w.frozen? ⟨b, i, none⟩ = false := by simp [World.frozen?, h]
theorem setH {w : World} {b T : Nat} {c : Array Value} (h : w.heap[b]? = some (.cells c T (0, 0))) (i : Nat) (v : Value) : (w.setCell ⟨b, i, none⟩ v).heap[b]? = some (.cells (c.setIfInBounds i v) T (0, 0)) := by
  simp [World.setCell, Array.getElem?_modify, h]

/-- Of what there was, block 'sb' alone may have turned. -/
structure But (sb : Nat) (w w' : World) : Prop where
  size : w.heap.size ≤ w'.heap.size
  block : ∀ b, b < w.heap.size → b ≠ sb → w'.heap[b]? = w.heap[b]?
  os : w'.os = w.os
  tape : w'.tape = w.tape
  output : w'.output = w.output
theorem But.refl (sb : Nat) (w : World) : But sb w w := ⟨Nat.le_refl _, fun _ _ _ => rfl, rfl, rfl, rfl⟩
theorem But.trans {sb : Nat} {a b c : World} (h : But sb a b) (k : But sb b c) : But sb a c :=
  ⟨Nat.le_trans h.size k.size, fun i hi hn => (k.block i (Nat.lt_of_lt_of_le hi h.size) hn).trans (h.block i hi hn), k.os.trans h.os, k.tape.trans h.tape, k.output.trans h.output⟩
theorem But.of_below {sb : Nat} {w w' : World} (h : Below w.heap.size w w') : But sb w w' := ⟨h.size, fun b hb _ => h.block b hb, h.os, h.tape, h.output⟩
theorem But.below {sb N : Nat} {w w' : World} (h : But sb w w') (h1 : N ≤ sb) (h2 : N ≤ w.heap.size) : Below N w w' := ⟨h.os, h.tape, h.output, h.size, fun b hb => h.block b (by omega) (by omega)⟩
theorem But.set {sb : Nat} {a w : World} (h : But sb a w) (i : Nat) (v : Value) : But sb a (w.setCell ⟨sb, i, none⟩ v) :=
  ⟨by simpa using h.size, fun b hb hn => (Below.heap_setCell w ⟨sb, i, none⟩ v b hn).trans (h.block b hb hn), h.os, h.tape, h.output⟩
theorem But.drew {sb : Nat} {a w : World} (h : But sb a w) : But sb a w.drew := ⟨h.size, h.block, h.os, h.tape, h.output⟩
theorem But.cell {sb : Nat} {w w' : World} (h : But sb w w') {p : Addr} (hp : p.block < w.heap.size) (hn : p.block ≠ sb) : w'.cell? p = w.cell? p := by unfold World.cell?; rw [h.block _ hp hn]

theorem cells_next (L B P M : Value) (c : Nat) (hc : c < 5) : ((cellsAt L B P M c).setIfInBounds (3 + c) (.int .i64 0)).setIfInBounds 8 (.int .i64 ((c : Int) + 1)) = cellsAt L B P M (c + 1) := by
  rcases (show c = 0 ∨ c = 1 ∨ c = 2 ∨ c = 3 ∨ c = 4 by omega) with rfl | rfl | rfl | rfl | rfl <;> rfl
theorem cells_plan (L B P M : Value) (c : Nat) (hc : c < 5) : (cellsAt L B P M c)[3 + c]? = some (.int .i64 0) := by
  rcases (show c = 0 ∨ c = 1 ∨ c = 2 ∨ c = 3 ∨ c = 4 by omega) with rfl | rfl | rfl | rfl | rfl <;> rfl

theorem put_after {sb lb bb lcap n bcap c : Nat} {P M : Value} {w w1 w' : World} (hc : c < 5) (hs : w.heap[sb]? = some (.cells (cellsAt (.slice (some ⟨lb, 0, none⟩) 1 lcap) (.slice (some ⟨bb, 0, none⟩) n bcap) P M c) 66 (0, 0)))
    (hB : Below w.heap.size w w1) (e : w' = ((w1.setCell ⟨sb, 3 + c, none⟩ (.int .i64 0)).drew).setCell ⟨sb, 8, none⟩ (.int .i64 ((c : Int) + 1)) ∨ w' = ((w1.setCell ⟨sb, 3 + c, none⟩ (.int .i64 0)).setCell ⟨sb, 8, none⟩ (.int .i64 ((c : Int) + 1))).drew) :
    w'.heap[sb]? = some (.cells (cellsAt (.slice (some ⟨lb, 0, none⟩) 1 lcap) (.slice (some ⟨bb, 0, none⟩) n bcap) P M (c + 1)) 66 (0, 0)) ∧ But sb w w' := by
  have h1 : w1.heap[sb]? = _ := (hB.block sb (Array.getElem?_eq_some_iff.1 hs).1).trans hs
  have h2 := setH (setH h1 (3 + c) (.int .i64 0)) 8 (.int .i64 ((c : Int) + 1))
  rw [cells_next _ _ _ _ _ hc] at h2
  have hb : But sb w w1 := .of_below hB
  rcases e with rfl | rfl
  · exact ⟨h2, (hb.set _ _).drew.set _ _⟩
  · exact ⟨h2, ((hb.set _ _).set _ _).drew⟩

theorem put_keep {sb lb bb lcap n bcap c : Nat} {P M : Value} {w W w' : World} (hB1 : Below W.heap.size W w') (hB : Below w.heap.size w W) (hs : sb < w.heap.size) (hbb : bb < w.heap.size)
    (h0 : W.cell? ⟨sb, 0, none⟩ = some (.slice (some ⟨lb, 0, none⟩) 1 lcap)) (h1 : W.cell? ⟨sb, 1, none⟩ = some (.slice (some ⟨bb, 0, none⟩) n bcap)) (h2 : W.cell? ⟨sb, 2, none⟩ = some P)
    (h3 : W.cell? ⟨sb, 3, none⟩ = some (.int .i64 0)) (h4 : W.cell? ⟨sb, 4, none⟩ = some (.int .i64 0)) (h5 : W.cell? ⟨sb, 5, none⟩ = some (.int .i64 0)) (h6 : W.cell? ⟨sb, 6, none⟩ = some (.int .i64 0)) (h7 : W.cell? ⟨sb, 7, none⟩ = some (.int .i64 0))
    (h8 : W.cell? ⟨sb, 8, none⟩ = some (.int .i64 c)) (h9 : W.cell? ⟨sb, 9, none⟩ = some M) (hb : W.cell? ⟨bb, c * 3, none⟩ = some (.int .i64 1)) :
    w'.cell? ⟨sb, 0, none⟩ = some (.slice (some ⟨lb, 0, none⟩) 1 lcap) ∧ w'.cell? ⟨sb, 1, none⟩ = some (.slice (some ⟨bb, 0, none⟩) n bcap) ∧ w'.cell? ⟨sb, 2, none⟩ = some P ∧
      w'.cell? ⟨sb, 3, none⟩ = some (.int .i64 0) ∧ w'.cell? ⟨sb, 4, none⟩ = some (.int .i64 0) ∧ w'.cell? ⟨sb, 5, none⟩ = some (.int .i64 0) ∧ w'.cell? ⟨sb, 6, none⟩ = some (.int .i64 0) ∧ w'.cell? ⟨sb, 7, none⟩ = some (.int .i64 0) ∧
      w'.cell? ⟨sb, 8, none⟩ = some (.int .i64 c) ∧ w'.cell? ⟨sb, 9, none⟩ = some M ∧ w'.cell? ⟨bb, c * 3, none⟩ = some (.int .i64 1) ∧ Below w.heap.size w w' := by
  have hz := hB.size
  have k : ∀ b o, b < w.heap.size → w'.cell? ⟨b, o, none⟩ = W.cell? ⟨b, o, none⟩ := fun b o h => hB1.cell (p := ⟨b, o, none⟩) (by show b < _; omega)
  exact ⟨(k _ _ hs).trans h0, (k _ _ hs).trans h1, (k _ _ hs).trans h2, (k _ _ hs).trans h3, (k _ _ hs).trans h4, (k _ _ hs).trans h5, (k _ _ hs).trans h6, (k _ _ hs).trans h7, (k _ _ hs).trans h8, (k _ _ hs).trans h9, (k _ _ hbb).trans hb, hB.trans (hB1.mono hz)⟩

theorem room_at {lb bb lcap n bcap c : Nat} {P M : Value} {w W : World} (hB : Below w.heap.size w W) (hc : c < 5) (hcn : c < n) (hlb : lb < w.heap.size) (hbb : bb < w.heap.size)
    (hl : LaneAt w lb n) (hb : Hid (∀ j, j < n → w.cell? ⟨bb, j * 3, none⟩ = some (.int .i64 1))) :
    Calls Tryz.prog 70 #[.agg (cellsAt (.slice (some ⟨lb, 0, none⟩) 1 lcap) (.slice (some ⟨bb, 0, none⟩) n bcap) P M c), .int .i64 0] W (RoomOk n c W) := by
  have hz := hB.size
  exact room_low lb bb lcap n bcap c P M W (by omega) (by omega) (by omega) (by omega) (hl.below hB hlb) (fun j hj => (hB.cell (p := ⟨bb, j * 3, none⟩) hbb).trans (hb.out j hj))

set_option maxRecDepth 100000 in
set_option maxHeartbeats 4000000 in
theorem put_low (sb lb bb lcap n bcap c : Nat) (P M : Value) (w : World) (hc : c < 5) (hcn : c < n) (hlb : lb < w.heap.size) (hbb : bb < w.heap.size) (hsl : sb ≠ lb) (hsb : sb ≠ bb)
    (hs : w.heap[sb]? = some (.cells (cellsAt (.slice (some ⟨lb, 0, none⟩) 1 lcap) (.slice (some ⟨bb, 0, none⟩) n bcap) P M c) 66 (0, 0)))
    (hl : LaneAt w lb n) (hb : ∀ j, j < n → w.cell? ⟨bb, j * 3, none⟩ = some (.int .i64 1)) :
    Calls Tryz.prog 57 #[.pointer (some ⟨sb, 0, none⟩), .int .i64 0] w fun e w' => e = .returned (.tuple #[]) ∧
      w'.heap[sb]? = some (.cells (cellsAt (.slice (some ⟨lb, 0, none⟩) 1 lcap) (.slice (some ⟨bb, 0, none⟩) n bcap) P M (c + 1)) 66 (0, 0)) ∧ But sb w w' := by
  have h0 : w.cell? ⟨sb, 0, none⟩ = some (.slice (some ⟨lb, 0, none⟩) 1 lcap) := cellH hs 0
  have h1 : w.cell? ⟨sb, 1, none⟩ = some (.slice (some ⟨bb, 0, none⟩) n bcap) := cellH hs 1
  have h2 : w.cell? ⟨sb, 2, none⟩ = some P := cellH hs 2
  have h3 : w.cell? ⟨sb, 3, none⟩ = some (.int .i64 0) := cellH hs 3
  have h4 : w.cell? ⟨sb, 4, none⟩ = some (.int .i64 0) := cellH hs 4
  have h5 : w.cell? ⟨sb, 5, none⟩ = some (.int .i64 0) := cellH hs 5
  have h6 : w.cell? ⟨sb, 6, none⟩ = some (.int .i64 0) := cellH hs 6
  have h7 : w.cell? ⟨sb, 7, none⟩ = some (.int .i64 0) := cellH hs 7
  have h8 : w.cell? ⟨sb, 8, none⟩ = some (.int .i64 c) := cellH hs 8
  have h9 : w.cell? ⟨sb, 9, none⟩ = some M := cellH hs 9
  have hbc := hb c hcn
  have HB := Go.Lib.hid hb; clear hb
  have hsw : sb < w.heap.size := (Array.getElem?_eq_some_iff.1 hs).1
  have HS := Go.Lib.hid hs; clear hs
  have hc0 : (c : Int) < (n : Int) := by omega
  go_enter Tryz.func57, Tryz.ntmps57
  go_wp2_with (first | (go_at_call 39; refine (within_yes _ _ _ _ (by omega) (by omega)).mono ?_; rintro e w' ⟨rfl, rfl⟩))
  go_region_held3 (fun w' => w'.cell? ⟨sb, 0, none⟩ = some (.slice (some ⟨lb, 0, none⟩) 1 lcap) ∧ w'.cell? ⟨sb, 1, none⟩ = some (.slice (some ⟨bb, 0, none⟩) n bcap) ∧ w'.cell? ⟨sb, 2, none⟩ = some P ∧
      w'.cell? ⟨sb, 3, none⟩ = some (.int .i64 0) ∧ w'.cell? ⟨sb, 4, none⟩ = some (.int .i64 0) ∧ w'.cell? ⟨sb, 5, none⟩ = some (.int .i64 0) ∧ w'.cell? ⟨sb, 6, none⟩ = some (.int .i64 0) ∧ w'.cell? ⟨sb, 7, none⟩ = some (.int .i64 0) ∧
      w'.cell? ⟨sb, 8, none⟩ = some (.int .i64 c) ∧ w'.cell? ⟨sb, 9, none⟩ = some M ∧ w'.cell? ⟨bb, c * 3, none⟩ = some (.int .i64 1) ∧ Below w.heap.size w w')
    (first | (exact ⟨h0, h1, h2, h3, h4, h5, h6, h7, h8, h9, hbc, (Below.refl _ _).drew⟩) | (go_split_ands; exact put_keep (by assumption) (by assumption) hsw hbb (by assumption) (by assumption) (by assumption) (by assumption) (by assumption) (by assumption) (by assumption) (by assumption) (by assumption) (by assumption) (by assumption)) | go_keep)
    (first | (go_at_call 70; refine (room_at (by first | assumption | exact (Below.refl _ _).drew) hc hcn hlb hbb hl HB).mono ?_; rintro e w1 ⟨r, hr1, hr2, rfl, hB1⟩))
  rename_i hS
  obtain ⟨_, _, _, _, _, _, _, _, g8, _, _, hB2⟩ := hS
  have gp : w1.cell? ⟨sb, 3 + c, none⟩ = some (.int .i64 0) := (cellH ((hB2.block sb hsw).trans HS.out) (3 + c)).trans (cells_plan _ _ _ _ c hc)
  have gf : w1.frozen? ⟨sb, 3 + c, none⟩ = false := freeH ((hB2.block sb hsw).trans HS.out) (3 + c)
  have gf8 : w1.frozen? ⟨sb, 8, none⟩ = false := freeH ((hB2.block sb hsw).trans HS.out) 8
  have hend := fun (w' : World) e => put_after (w' := w') hc HS.out hB2 e
  have HE := Go.Lib.hid hend; clear hend
  go_wp2
  go_region
  all_goals go_wp2
  go_end0
  exact ⟨rfl, HE.out _ (.inr rfl)⟩

end Go.Proofs.YtckchahangnfiaaGreatDoor
