/- PILE: stands, standing, surely. -/
import Derived.Test.YtckchahangnfiaaGreatDoorPlH
namespace Go.Proofs.YtckchahangnfiaaGreatDoor
open Go.RowKit

/-- Two pieces, one on the other: a below, b on it. -/
structure Duo (w : World) (qb n : Nat) (br : Nat → Int) (a b : Nat) : Prop where
  a32 : a < 32
  b32 : b < 32
  two : pcnt (a ||| b) = 2
  an : tz a < n
  bn : tz b < n
  qb_ : qb < w.heap.size
  br_ : ∀ j, j < n → w.cell? ⟨qb, j * 4 + 2, none⟩ = some (.int .i64 (br j))
  br0 : ∀ j, j < n → 0 ≤ br j
  br9 : ∀ j, j < n → br j ≤ 99
theorem Duo.below {w w' : World} {qb n a b N : Nat} {br : Nat → Int} (H : Duo w qb n br a b) (hB : Below N w w') (h : qb < N) : Duo w' qb n br a b :=
  { H with qb_ := Nat.lt_of_lt_of_le H.qb_ hB.size, br_ := fun j hj => (hB.cell (p := ⟨qb, j * 4 + 2, none⟩) h).trans (H.br_ j hj) }

/-- Weights: the pieces' numbers. -/
structure Weighs (v : Nat → Int) (b : Nat) : Prop where
  v0 : ∀ j, j < 5 → 0 ≤ v j
  v9 : ∀ j, j < 5 → v j ≤ 999
  b0 : 0 ≤ sumOf v b
  b9 : sumOf v b ≤ 99

theorem sumOf_zero (v : Nat → Int) : sumOf v 0 = 0 := by
  have : els 0 = [] := by decide
  simp [sumOf, this]

theorem pof_zero (v : Nat → Int) (h0 : ∀ j, j < 5 → 0 ≤ v j) (h9 : ∀ j, j < 5 → v j ≤ 999) (W : World) : Calls Tryz.prog 65 #[.agg (nCells v), .int .u8 0] W fun e w' => e = .returned (.int .i64 0) ∧ Below W.heap.size W w' :=
  (pof_any v 0 (by omega) W h0 h9).mono fun e w' ⟨h1, h2⟩ => ⟨by rw [h1, sumOf_zero], h2⟩

set_option maxRecDepth 100000 in
set_option maxHeartbeats 4000000 in
theorem pstands_yes (qb n qcap : Nat) (L : Int) (x y z v br : Nat → Int) (a b : Nat) (w : World) (D : Duo w qb n br a b) (V : Weighs v b) (h : sumOf v b ≤ br (tz a)) :
    Calls Tryz.prog 46 #[.agg (yCells (.slice (some ⟨qb, 0, none⟩) n qcap) L x y z), .agg (pCells a b), .agg (nCells v)] w fun e w' => e = .returned (.bool true) ∧ Below w.heap.size w w' := by
  have HD := Go.Lib.hid D; clear D
  have HV := Go.Lib.hid V; clear V
  have HL := Go.Lib.hid h; clear h
  have hsz : ∀ W, Calls Tryz.prog 33 #[.agg (pCells a b)] W fun e w' => e = .returned (.int .i64 2) ∧ Below W.heap.size W w' := fun W => (psizeP_any a b W HD.out.a32 HD.out.b32).mono fun e w' ⟨h1, h2⟩ => ⟨by rw [h1, HD.out.two]; rfl, h2⟩
  have HS := Go.Lib.hid hsz; clear hsz
  go_enter Tryz.func46, Tryz.ntmps46
  go_wp2_with (go_at_call 33; refine (HS.out _).mono ?_; rintro e w1 ⟨rfl, hB1⟩)
  obtain ⟨b0, b1, b2, hB0, hz0⟩ := boxes3 w (yCells (.slice (some ⟨qb, 0, none⟩) n qcap) L x y z) (pCells a b) (nCells v) 55 58 53
  have hS1 := three_keep (N := w.heap.size) (qb := qb) (q := tz a * 4 + 2) b0 b1 b2 ((hB0.cell (p := ⟨qb, tz a * 4 + 2, none⟩) HD.out.qb_).trans (HD.out.br_ _ HD.out.an)) hB0 hz0 HD.out.qb_ hB1
  clear b0 b1 b2 hB0 hz0 hB1
  have HS1 := Go.Lib.hid hS1; clear hS1
  go_loopw [10] (fun i W => ∃ q : Nat, q ≤ 2 ∧ i = .int .i64 q ∧ Go.RowKit.Hid ((∀ o, W.cell? ⟨w.heap.size, o, none⟩ = (yCells (.slice (some ⟨qb, 0, none⟩) n qcap) L x y z)[o]?) ∧ (∀ o, W.cell? ⟨w.heap.size + 1, o, none⟩ = (pCells a b)[o]?) ∧ (∀ o, W.cell? ⟨w.heap.size + 2, o, none⟩ = (nCells v)[o]?) ∧ W.cell? ⟨qb, tz a * 4 + 2, none⟩ = some (.int .i64 (br (tz a))) ∧ Below w.heap.size w W ∧ w.heap.size + 2 < W.heap.size)) (fun i _ => 2 - (intOf i).toNat)
  case atStart => exact ⟨0, by omega, rfl, HS1⟩
  case round =>
    obtain ⟨q, hq, rfl, HH⟩ := hrel
    clear HS1
    rcases (show q = 0 ∨ q = 1 ∨ q = 2 by omega) with rfl | rfl | rfl
    · obtain ⟨c0, c1, c2, cq, hB, hz⟩ := HH.out
      have hqz := HD.out.qb_
      go_wp2_with (first
        | (go_at_call 63; refine (pfate0w qb n qcap L x y z v a b b (sumOf v b) (br (tz a)) _ HD.out.a32 HD.out.an (by omega) (by assumption) HV.out.b0 HV.out.b9 HL.out (HD.out.br0 _ HD.out.an) (HD.out.br9 _ HD.out.an) (fun W => pabove0 a b W HD.out.a32 HD.out.b32) (fun W => pof_any v b HD.out.b32 W HV.out.v0 HV.out.v9)).mono ?_; rintro e w2 ⟨rfl, hB2⟩)
        | (go_at_call 62; refine (pcrushed_no _ _).mono ?_; rintro e w' ⟨rfl, rfl⟩))
      go_roundw
      case rel => exact ⟨1, by omega, by go_num, Go.Lib.hid (three_keep c0 c1 c2 cq hB hz HD.out.qb_ hB2)⟩
      case measure => simp [intOf]
    · obtain ⟨c0, c1, c2, cq, hB, hz⟩ := HH.out
      have hqz := HD.out.qb_
      have cb : wr.cell? ⟨qb, tz b * 4 + 2, none⟩ = some (.int .i64 (br (tz b))) := (hB.cell (p := ⟨qb, tz b * 4 + 2, none⟩) hqz).trans (HD.out.br_ _ HD.out.bn)
      have HCB := Go.Lib.hid cb; clear cb
      go_wp2_with (first
        | (go_at_call 63; refine (pfate1w qb n qcap L x y z v a b 0 0 (br (tz b)) _ HD.out.b32 HD.out.bn (by omega) HCB.out (by omega) (by omega) (HD.out.br0 _ HD.out.bn) (HD.out.br0 _ HD.out.bn) (HD.out.br9 _ HD.out.bn) (fun W => pabove1 a b W HD.out.a32 HD.out.b32) (fun W => pof_zero v HV.out.v0 HV.out.v9 W)).mono ?_; rintro e w2 ⟨rfl, hB2⟩)
        | (go_at_call 62; refine (pcrushed_no _ _).mono ?_; rintro e w' ⟨rfl, rfl⟩))
      go_roundw
      case rel => exact ⟨2, by omega, by go_num, Go.Lib.hid (three_keep c0 c1 c2 cq hB hz HD.out.qb_ hB2)⟩
      case measure => simp [intOf]
    · obtain ⟨c0, c1, c2, cq, hB, hz⟩ := HH.out
      clear c0 c1 c2 cq
      go_wp2
      go_ret
      exact ⟨rfl, hB⟩

set_option maxRecDepth 100000 in
set_option maxHeartbeats 4000000 in
theorem pstands_no (qb n qcap : Nat) (L : Int) (x y z v br : Nat → Int) (a b : Nat) (w : World) (D : Duo w qb n br a b) (V : Weighs v b) (h : br (tz a) < sumOf v b) :
    Calls Tryz.prog 46 #[.agg (yCells (.slice (some ⟨qb, 0, none⟩) n qcap) L x y z), .agg (pCells a b), .agg (nCells v)] w fun e w' => e = .returned (.bool false) ∧ Below w.heap.size w w' := by
  have HD := Go.Lib.hid D; clear D
  have HV := Go.Lib.hid V; clear V
  have HL := Go.Lib.hid h; clear h
  have hsz : ∀ W, Calls Tryz.prog 33 #[.agg (pCells a b)] W fun e w' => e = .returned (.int .i64 2) ∧ Below W.heap.size W w' := fun W => (psizeP_any a b W HD.out.a32 HD.out.b32).mono fun e w' ⟨h1, h2⟩ => ⟨by rw [h1, HD.out.two]; rfl, h2⟩
  have HS := Go.Lib.hid hsz; clear hsz
  go_enter Tryz.func46, Tryz.ntmps46
  go_wp2_with (go_at_call 33; refine (HS.out _).mono ?_; rintro e w1 ⟨rfl, hB1⟩)
  obtain ⟨b0, b1, b2, hB0, hz0⟩ := boxes3 w (yCells (.slice (some ⟨qb, 0, none⟩) n qcap) L x y z) (pCells a b) (nCells v) 55 58 53
  have hS1 := three_keep (N := w.heap.size) (qb := qb) (q := tz a * 4 + 2) b0 b1 b2 ((hB0.cell (p := ⟨qb, tz a * 4 + 2, none⟩) HD.out.qb_).trans (HD.out.br_ _ HD.out.an)) hB0 hz0 HD.out.qb_ hB1
  clear b0 b1 b2 hB0 hz0 hB1
  have HS1 := Go.Lib.hid hS1; clear hS1
  go_loopw [10] (fun i W => i = .int .i64 0 ∧ Go.RowKit.Hid ((∀ o, W.cell? ⟨w.heap.size, o, none⟩ = (yCells (.slice (some ⟨qb, 0, none⟩) n qcap) L x y z)[o]?) ∧ (∀ o, W.cell? ⟨w.heap.size + 1, o, none⟩ = (pCells a b)[o]?) ∧ (∀ o, W.cell? ⟨w.heap.size + 2, o, none⟩ = (nCells v)[o]?) ∧ W.cell? ⟨qb, tz a * 4 + 2, none⟩ = some (.int .i64 (br (tz a))) ∧ Below w.heap.size w W ∧ w.heap.size + 2 < W.heap.size)) (fun i _ => 2 - (intOf i).toNat)
  case atStart => exact ⟨rfl, HS1⟩
  case round =>
    obtain ⟨rfl, HH⟩ := hrel
    clear HS1
    obtain ⟨c0, c1, c2, cq, hB, hz⟩ := HH.out
    have hqz := HD.out.qb_
    go_wp2_with (first
      | (go_at_call 63; refine (pfate0c qb n qcap L x y z v a b b (sumOf v b) (br (tz a)) _ HD.out.a32 HD.out.an (by omega) (by assumption) HV.out.b0 HV.out.b9 HL.out (HD.out.br0 _ HD.out.an) (HD.out.br9 _ HD.out.an) (fun W => pabove0 a b W HD.out.a32 HD.out.b32) (fun W => pof_any v b HD.out.b32 W HV.out.v0 HV.out.v9)).mono ?_; rintro e w2 ⟨rfl, hB2⟩)
      | (go_at_call 62; refine (pcrushed_yes _ _).mono ?_; rintro e w' ⟨rfl, rfl⟩))
    go_ret
    exact ⟨rfl, hB.trans (hB2.mono (by omega))⟩

end Go.Proofs.YtckchahangnfiaaGreatDoor
