/- PILE: pile. -/
import Derived.Test.YtckchahangnfiaaGreatDoorPlG
namespace Go.Proofs.YtckchahangnfiaaGreatDoor
open Go.RowKit

/-- A pile of one piece; of none. -/
abbrev pOne (a : Nat) : Array Value := #[.int .u8 a, .int .u8 0, .int .u8 0, .int .u8 0, .int .u8 0]
abbrev pNone : Array Value := #[.int .u8 0, .int .u8 0, .int .u8 0, .int .u8 0, .int .u8 0]

theorem ppieces0 (w : World) : Calls Tryz.prog 29 #[.agg pNone] w fun e w' => e = .returned (.int .u8 0) ∧ Below w.heap.size w w' := ppieces_any 0 0 w (by omega) (by omega)
theorem ppieces1 (a : Nat) (w : World) (ha : a < 32) : Calls Tryz.prog 29 #[.agg (pOne a)] w fun e w' => e = .returned (.int .u8 a) ∧ Below w.heap.size w w' :=
  (ppieces_any a 0 w ha (by omega)).mono fun e w' ⟨h1, h2⟩ => ⟨by rw [h1, Nat.or_zero], h2⟩
theorem psize1 (a : Nat) (w : World) (ha : a < 32) (h1 : pcnt a = 1) : Calls Tryz.prog 33 #[.agg (pOne a)] w fun e w' => e = .returned (.int .i64 1) ∧ Below w.heap.size w w' :=
  (psizeP_any a 0 w ha (by omega)).mono fun e w' ⟨h, h2⟩ => ⟨by rw [h, Nat.or_zero, h1]; rfl, h2⟩
theorem phigh1 (P : Value) (L : Int) (x y v : Nat → Int) (a : Nat) (w : World) (ha : a < 32) (h0 : ∀ j, j < 5 → 0 ≤ v j) (h9 : ∀ j, j < 5 → v j ≤ 999) (hs : sumOf v a ≤ L) :
    Calls Tryz.prog 50 #[.agg (yCells P L x y v), .agg (pOne a)] w fun e w' => e = .returned (.bool false) ∧ Below w.heap.size w w' :=
  phigh_no P L x y v a 0 w ha (by omega) h0 h9 (by rw [Nat.or_zero]; exact hs)
theorem phas0 (n : Nat) (w : World) (h2 : n < 5) : Calls Tryz.prog 49 #[.int .u8 0, .int .i64 n] w fun e w' => e = .returned (.bool false) ∧ w = w' :=
  (phas_any 0 n w (by omega) h2).mono fun e w' ⟨h, h2⟩ => ⟨by rw [h]; simp, h2⟩
theorem phas1 (i n : Nat) (w : World) (h1 : i < 5) (h2 : n < 5) (hne : i ≠ n) : Calls Tryz.prog 49 #[.int .u8 ((2 ^ i : Nat) : Int), .int .i64 n] w fun e w' => e = .returned (.bool false) ∧ w = w' :=
  (phas_any (2 ^ i) n w (Nat.pow_lt_pow_right (by omega) h1 : 2 ^ i < 2 ^ 5) h2).mono fun e w' ⟨h, h2⟩ => ⟨by rw [h, Nat.testBit_two_pow_of_ne hne], h2⟩
theorem pow_lemma : ∀ i : Fin 5, (2 : Int) ^ i.1 % 256 = ((2 ^ i.1 : Nat) : Int) := by decide +kernel

/-- 'pile' in the middle. -/
structure PAt (w : World) (A C : Array Value) (W : World) : Prop where
  yard : W.heap[w.heap.size]? = some (.cells A 55 (0, 0))
  res : W.heap[w.heap.size + 1]? = some (.cells pNone 58 (0, 0))
  cur : W.heap[w.heap.size + 1 + 1]? = some (.cells C 58 (0, 0))
  below : Below w.heap.size w W
  size : w.heap.size + 3 ≤ W.heap.size
theorem PAt.start (w : World) (A : Array Value) : PAt w A pNone (((w.alloc (.cells A 55)).alloc (.cells pNone 58)).alloc (.cells pNone 58)) := by
  refine ⟨?_, ?_, ?_, (((Below.refl _ w).alloc (Nat.le_refl _) _).alloc (by simp) _).alloc (by simp; omega) _, by simp⟩
  · rw [Below.heap_alloc _ _ _ (by simp; omega), Below.heap_alloc _ _ _ (by simp)]
    exact heap_alloc_new w _
  · rw [Below.heap_alloc _ _ _ (by simp)]
    have := heap_alloc_new (w.alloc (.cells A 55)) (.cells pNone 58)
    rwa [World.size_alloc] at this
  · have := heap_alloc_new ((w.alloc (.cells A 55)).alloc (.cells pNone 58)) (.cells pNone 58)
    rwa [World.size_alloc, World.size_alloc] at this
theorem PAt.keep {w W W' : World} {A C : Array Value} (h : PAt w A C W) (hB : Below W.heap.size W W') : PAt w A C W' := by
  have hz := h.size
  exact ⟨(hB.block _ (by omega)).trans h.yard, (hB.block _ (by omega)).trans h.res, (hB.block _ (by omega)).trans h.cur, h.below.trans (hB.mono (by omega)), Nat.le_trans hz hB.size⟩
theorem PAt.set {w W : World} {A C : Array Value} (h : PAt w A C W) (j : Nat) (v : Value) {C' : Array Value} (e : C.setIfInBounds j v = C') : PAt w A C' (W.setCell ⟨w.heap.size + 1 + 1, j, none⟩ v) := by
  have hz := h.size
  subst e
  exact ⟨(Below.heap_setCell _ _ _ _ (by simp; omega)).trans h.yard, (Below.heap_setCell _ _ _ _ (by simp)).trans h.res, setH h.cur j v, h.below.setCell (p := ⟨w.heap.size + 1 + 1, j, none⟩) (by simp; omega) _, by simpa using hz⟩

def st1 (i r : Nat) : Array Value := if r = 0 then pNone else pOne (2 ^ i)
def st2 (i k r : Nat) : Array Value := if r = 0 then pNone else if r = 1 then pOne (2 ^ i) else pCells (2 ^ i) (2 ^ k)

set_option maxRecDepth 100000 in
set_option maxHeartbeats 4000000 in
theorem ppile1 (P : Option Addr) (n qcap : Nat) (L : Int) (x y v : Nat → Int) (i xb xcap : Nat) (w : World) (hn : n ≤ 5) (hi : i < n) (hxb : xb < w.heap.size) (hx : w.cell? ⟨xb, 0, none⟩ = some (.int .i64 i))
    (h0 : ∀ j, j < 5 → 0 ≤ v j) (h9 : ∀ j, j < 5 → v j ≤ 999) (hs : sumOf v (2 ^ i) ≤ L) :
    Calls Tryz.prog 26 #[.agg (yCells (.slice P n qcap) L x y v), .slice (some ⟨xb, 0, none⟩) 1 xcap] w fun e w' => e = .returned (.agg (pOne (2 ^ i))) ∧ Below w.heap.size w w' := by
  have h32 : 2 ^ i < 32 := (Nat.pow_lt_pow_right (by omega) (by omega) : 2 ^ i < 2 ^ 5)
  have hhi := fun W => phigh1 (.slice P n qcap) L x y v (2 ^ i) W h32 h0 h9 hs
  have HHI := Go.Lib.hid hhi; clear hhi
  have hpw := pow_lemma ⟨i, by omega⟩
  dsimp only at hpw
  have HPW := Go.Lib.hid hpw; clear hpw
  have HX := Go.Lib.hid hx; clear hx
  clear h0 h9 hs
  go_enter Tryz.func26, Tryz.ntmps26
  go_wp2
  have HS := Go.Lib.hid (PAt.start w (yCells (.slice P n qcap) L x y v))
  go_loopw [10] (fun q W => ∃ r : Nat, r ≤ 1 ∧ q = .int .i64 r ∧ Go.RowKit.Hid (PAt w (yCells (.slice P n qcap) L x y v) (st1 i r) W)) (fun q _ => 1 - (intOf q).toNat)
  case atStart => exact ⟨0, by omega, rfl, HS⟩
  case round =>
    obtain ⟨r, hr, rfl, HH⟩ := hrel
    clear HS
    rcases (show r = 0 ∨ r = 1 by omega) with rfl | rfl
    · as_aux_lemma =>
        have cx : wr.cell? ⟨xb, 0, none⟩ = some (.int .i64 i) := (HH.out.below.cell (p := ⟨xb, 0, none⟩) hxb).trans HX.out
        have cN : wr.cell? ⟨w.heap.size, 0, none⟩ = some (.slice P n qcap) := cellH HH.out.yard 0
        have cC : ∀ o, wr.cell? ⟨w.heap.size + 1 + 1, o, none⟩ = (pNone)[o]? := fun o => cellH HH.out.cur o
        have h5 : i < 5 := by omega
        go_wp2_with (first
          | (go_at_call 48; refine (pwithin_yes _ _ _ _ (by omega) (by omega)).mono ?_; rintro e w' ⟨rfl, rfl⟩)
          | (go_at_call 29; refine (ppieces0 _).mono ?_; rintro e w1 ⟨rfl, hB1⟩
             have H1 := HH.out.keep hB1
             have d0 : w1.cell? ⟨w.heap.size + 1 + 1, 0, none⟩ = some (.int .u8 0) := cellH H1.cur 0
             have d1 : w1.frozen? ⟨w.heap.size + 1 + 1, 0, none⟩ = false := freeH H1.cur 0
             have HH1 := Go.Lib.hid H1; clear H1)
          | (go_at_call 49; refine (phas0 i _ h5).mono ?_; rintro e w' ⟨rfl, rfl⟩))
        go_roundw
        case rel => exact ⟨1, by omega, by go_num, Go.Lib.hid (HH1.out.set 0 _ (by rw [HPW.out]; rfl))⟩
        case measure => simp [intOf]
    · as_aux_lemma =>
        have cN : ∀ o, wr.cell? ⟨w.heap.size, o, none⟩ = (yCells (.slice P n qcap) L x y v)[o]? := fun o => cellH HH.out.yard o
        have cC : ∀ o, wr.cell? ⟨w.heap.size + 1 + 1, o, none⟩ = (pOne (2 ^ i))[o]? := fun o => cellH HH.out.cur o
        go_wp2_with (first
          | (go_at_call 50; refine (HHI.out _).mono ?_; rintro e w1 ⟨rfl, hB1⟩
             have H1 := HH.out.keep hB1
             have d0 : ∀ o, w1.cell? ⟨w.heap.size + 1 + 1, o, none⟩ = (pOne (2 ^ i))[o]? := fun o => cellH H1.cur o
             clear cN cC
             have HH1 := Go.Lib.hid H1; clear H1)
          | (with_reducible refine wpList_store_whole rfl 58 (.tmp 4) (.tmp 38) rfl (w.heap.size + 1) (pOne (2 ^ i)) rfl rfl HH1.out.res (by kernel_rfl) rfl (by simp [Value.oneCell']) ?_
             intro W9 e1 e2))
        refine bodyPost_ret (v := .agg (pOne (2 ^ i))) (results_cell_row rfl _ _ (w.heap.size + 1) 58 _ (0, 0) _ (by rfl) e1 Tryz.underlying58 rfl (by kernel_rfl)) rfl ⟨rfl, HH1.out.below.trans (e2.below (by omega) (by have := HH1.out.size; omega))⟩

set_option maxRecDepth 100000 in
set_option maxHeartbeats 4000000 in
theorem ppile2 (P : Option Addr) (n qcap : Nat) (L : Int) (x y v : Nat → Int) (i k xb xcap : Nat) (w : World) (hn : n ≤ 5) (hi : i < n) (hk : k < n) (hne : i ≠ k) (hxb : xb < w.heap.size) (hx : w.cell? ⟨xb, 0, none⟩ = some (.int .i64 i)) (hy : w.cell? ⟨xb, 1, none⟩ = some (.int .i64 k))
    (h0 : ∀ j, j < 5 → 0 ≤ v j) (h9 : ∀ j, j < 5 → v j ≤ 999) (hs : sumOf v (2 ^ i ||| 2 ^ k) ≤ L) :
    Calls Tryz.prog 26 #[.agg (yCells (.slice P n qcap) L x y v), .slice (some ⟨xb, 0, none⟩) 2 xcap] w fun e w' => e = .returned (.agg (pCells (2 ^ i) (2 ^ k))) ∧ Below w.heap.size w w' := by
  have h32 : 2 ^ i < 32 := (Nat.pow_lt_pow_right (by omega) (by omega) : 2 ^ i < 2 ^ 5)
  have k32 : 2 ^ k < 32 := (Nat.pow_lt_pow_right (by omega) (by omega) : 2 ^ k < 2 ^ 5)
  have hhi := fun W => phigh_no (.slice P n qcap) L x y v (2 ^ i) (2 ^ k) W h32 k32 h0 h9 hs
  have hpk := pow_lemma ⟨k, by omega⟩
  dsimp only at hpk
  have HPK := Go.Lib.hid hpk; clear hpk
  have hyw := hy
  have HY := Go.Lib.hid hy; clear hy hyw
  have HHI := Go.Lib.hid hhi; clear hhi
  have hpw := pow_lemma ⟨i, by omega⟩
  dsimp only at hpw
  have HPW := Go.Lib.hid hpw; clear hpw
  have HX := Go.Lib.hid hx; clear hx
  clear h0 h9 hs
  go_enter Tryz.func26, Tryz.ntmps26
  go_wp2
  have HS := Go.Lib.hid (PAt.start w (yCells (.slice P n qcap) L x y v))
  go_loopw [10] (fun q W => ∃ r : Nat, r ≤ 2 ∧ q = .int .i64 r ∧ Go.RowKit.Hid (PAt w (yCells (.slice P n qcap) L x y v) (st2 i k r) W)) (fun q _ => 2 - (intOf q).toNat)
  case atStart => exact ⟨0, by omega, rfl, HS⟩
  case round =>
    obtain ⟨r, hr, rfl, HH⟩ := hrel
    clear HS
    rcases (show r = 0 ∨ r = 1 ∨ r = 2 by omega) with rfl | rfl | rfl
    · as_aux_lemma =>
        have cx : wr.cell? ⟨xb, 0, none⟩ = some (.int .i64 i) := (HH.out.below.cell (p := ⟨xb, 0, none⟩) hxb).trans HX.out
        have cN : wr.cell? ⟨w.heap.size, 0, none⟩ = some (.slice P n qcap) := cellH HH.out.yard 0
        have cC : ∀ o, wr.cell? ⟨w.heap.size + 1 + 1, o, none⟩ = (pNone)[o]? := fun o => cellH HH.out.cur o
        have h5 : i < 5 := by omega
        go_wp2_with (first
          | (go_at_call 48; refine (pwithin_yes _ _ _ _ (by omega) (by omega)).mono ?_; rintro e w' ⟨rfl, rfl⟩)
          | (go_at_call 29; refine (ppieces0 _).mono ?_; rintro e w1 ⟨rfl, hB1⟩
             have H1 := HH.out.keep hB1
             have d0 : w1.cell? ⟨w.heap.size + 1 + 1, 0, none⟩ = some (.int .u8 0) := cellH H1.cur 0
             have d1 : w1.frozen? ⟨w.heap.size + 1 + 1, 0, none⟩ = false := freeH H1.cur 0
             have HH1 := Go.Lib.hid H1; clear H1)
          | (go_at_call 49; refine (phas0 i _ h5).mono ?_; rintro e w' ⟨rfl, rfl⟩))
        go_roundw
        case rel => exact ⟨1, by omega, by go_num, Go.Lib.hid (HH1.out.set 0 _ (by rw [HPW.out]; rfl))⟩
        case measure => simp [intOf]
    · as_aux_lemma =>
        have cx : wr.cell? ⟨xb, 1, none⟩ = some (.int .i64 k) := (HH.out.below.cell (p := ⟨xb, 1, none⟩) hxb).trans HY.out
        have cN : wr.cell? ⟨w.heap.size, 0, none⟩ = some (.slice P n qcap) := cellH HH.out.yard 0
        have cC : ∀ o, wr.cell? ⟨w.heap.size + 1 + 1, o, none⟩ = (pOne (2 ^ i))[o]? := fun o => cellH HH.out.cur o
        have h5 : k < 5 := by omega
        go_wp2_with (first
          | (go_at_call 48; refine (pwithin_yes _ _ _ _ (by omega) (by omega)).mono ?_; rintro e w' ⟨rfl, rfl⟩)
          | (go_at_call 29; refine (ppieces1 (2 ^ i) _ h32).mono ?_; rintro e w1 ⟨rfl, hB1⟩
             have H1 := HH.out.keep hB1
             have d0 : w1.cell? ⟨w.heap.size + 1 + 1, 1, none⟩ = some (.int .u8 0) := cellH H1.cur 1
             have d1 : w1.frozen? ⟨w.heap.size + 1 + 1, 1, none⟩ = false := freeH H1.cur 1
             have HH1 := Go.Lib.hid H1; clear H1)
          | (go_at_call 49; refine (phas1 i k _ (by omega) h5 hne).mono ?_; rintro e w' ⟨rfl, rfl⟩))
        go_roundw
        case rel => exact ⟨2, by omega, by go_num, Go.Lib.hid (HH1.out.set 1 _ (by rw [HPK.out]; rfl))⟩
        case measure => simp [intOf]
    · as_aux_lemma =>
        have cN : ∀ o, wr.cell? ⟨w.heap.size, o, none⟩ = (yCells (.slice P n qcap) L x y v)[o]? := fun o => cellH HH.out.yard o
        have cC : ∀ o, wr.cell? ⟨w.heap.size + 1 + 1, o, none⟩ = (pCells (2 ^ i) (2 ^ k))[o]? := fun o => cellH HH.out.cur o
        go_wp2_with (first
          | (go_at_call 50; refine (HHI.out _).mono ?_; rintro e w1 ⟨rfl, hB1⟩
             have H1 := HH.out.keep hB1
             have d0 : ∀ o, w1.cell? ⟨w.heap.size + 1 + 1, o, none⟩ = (pCells (2 ^ i) (2 ^ k))[o]? := fun o => cellH H1.cur o
             clear cN cC
             have HH1 := Go.Lib.hid H1; clear H1)
          | (with_reducible refine wpList_store_whole rfl 58 (.tmp 4) (.tmp 38) rfl (w.heap.size + 1) (pCells (2 ^ i) (2 ^ k)) rfl rfl HH1.out.res (by kernel_rfl) rfl (by simp [Value.oneCell']) ?_
             intro W9 e1 e2))
        refine bodyPost_ret (v := .agg (pCells (2 ^ i) (2 ^ k))) (results_cell_row rfl _ _ (w.heap.size + 1) 58 _ (0, 0) _ (by rfl) e1 Tryz.underlying58 rfl (by kernel_rfl)) rfl ⟨rfl, HH1.out.below.trans (e2.below (by omega) (by have := HH1.out.size; omega))⟩

end Go.Proofs.YtckchahangnfiaaGreatDoor
