/- SHELF: front, Must. -/
import Derived.Test.YtckchahangnfiaaGreatDoorShI
namespace Go.Proofs.YtckchahangnfiaaGreatDoor
open Go.RowKit

theorem cells_plan2 (L B P M : Value) (c i : Nat) (hi : i < 5) : (cellsAt L B P M c)[3 + i]? = some (.int .i64 0) := by
  rcases (show i = 0 ∨ i = 1 ∨ i = 2 ∨ i = 3 ∨ i = 4 by omega) with rfl | rfl | rfl | rfl | rfl <;> rfl

theorem front_keep {i c : Nat} {L B P M : Value} {w W w' : World} (hB1 : Below W.heap.size W w') (hB : Below w.heap.size w W) (hz : w.heap.size < W.heap.size)
    (h0 : W.cell? ⟨w.heap.size, 0, none⟩ = some (L)) (h1 : W.cell? ⟨w.heap.size, 1, none⟩ = some (B)) (h2 : W.cell? ⟨w.heap.size, 2, none⟩ = some (P)) (h3 : W.cell? ⟨w.heap.size, 3, none⟩ = some (.int .i64 0)) (h4 : W.cell? ⟨w.heap.size, 4, none⟩ = some (.int .i64 0)) (h5 : W.cell? ⟨w.heap.size, 5, none⟩ = some (.int .i64 0)) (h6 : W.cell? ⟨w.heap.size, 6, none⟩ = some (.int .i64 0)) (h7 : W.cell? ⟨w.heap.size, 7, none⟩ = some (.int .i64 0)) (h8 : W.cell? ⟨w.heap.size, 8, none⟩ = some (.int .i64 c)) (h9 : W.cell? ⟨w.heap.size, 9, none⟩ = some (M)) (hi : W.cell? ⟨w.heap.size, 3 + i, none⟩ = some (.int .i64 0)) :
    w'.cell? ⟨w.heap.size, 0, none⟩ = some (L) ∧ w'.cell? ⟨w.heap.size, 1, none⟩ = some (B) ∧ w'.cell? ⟨w.heap.size, 2, none⟩ = some (P) ∧ w'.cell? ⟨w.heap.size, 3, none⟩ = some (.int .i64 0) ∧ w'.cell? ⟨w.heap.size, 4, none⟩ = some (.int .i64 0) ∧ w'.cell? ⟨w.heap.size, 5, none⟩ = some (.int .i64 0) ∧ w'.cell? ⟨w.heap.size, 6, none⟩ = some (.int .i64 0) ∧ w'.cell? ⟨w.heap.size, 7, none⟩ = some (.int .i64 0) ∧ w'.cell? ⟨w.heap.size, 8, none⟩ = some (.int .i64 c) ∧ w'.cell? ⟨w.heap.size, 9, none⟩ = some (M) ∧ w'.cell? ⟨w.heap.size, 3 + i, none⟩ = some (.int .i64 0) ∧ Below w.heap.size w w' ∧ w.heap.size < w'.heap.size := by
  have k : ∀ o, w'.cell? ⟨w.heap.size, o, none⟩ = W.cell? ⟨w.heap.size, o, none⟩ := fun o => hB1.cell (p := ⟨w.heap.size, o, none⟩) hz
  have := hB1.size
  exact ⟨(k _).trans h0, (k _).trans h1, (k _).trans h2, (k _).trans h3, (k _).trans h4, (k _).trans h5, (k _).trans h6, (k _).trans h7, (k _).trans h8, (k _).trans h9, (k _).trans hi, hB.trans (hB1.mono (by omega)), by omega⟩

set_option maxRecDepth 100000 in
set_option maxHeartbeats 4000000 in
theorem front_low (L B P M : Value) (c i : Nat) (w : World) (hc : c ≤ 5) (hi : i < c) :
    Calls Tryz.prog 16 #[.agg (cellsAt L B P M c), .int .i64 i] w fun e w' => e = .returned (.int .u8 (aft (low c) i)) ∧ Below w.heap.size w w' := by
  go_enter Tryz.func16, Tryz.ntmps16
  go_wp2_with fail
  have hq := heap_alloc_new w (.cells (cellsAt L B P M c) 66)
  have hB0 := (Below.refl w.heap.size w).alloc (Nat.le_refl _) (.cells (cellsAt L B P M c) 66)
  obtain ⟨W0, hW0⟩ : ∃ W0, w.alloc (.cells (cellsAt L B P M c) 66) = W0 := ⟨_, rfl⟩
  have hz0 : W0.heap.size = w.heap.size + 1 := by rw [← hW0]; simp
  rw [hW0] at hq hB0 ⊢
  clear hW0
  have b0 : W0.cell? ⟨w.heap.size, 0, none⟩ = some (L) := cellH hq 0
  have b1 : W0.cell? ⟨w.heap.size, 1, none⟩ = some (B) := cellH hq 1
  have b2 : W0.cell? ⟨w.heap.size, 2, none⟩ = some (P) := cellH hq 2
  have b3 : W0.cell? ⟨w.heap.size, 3, none⟩ = some (.int .i64 0) := cellH hq 3
  have b4 : W0.cell? ⟨w.heap.size, 4, none⟩ = some (.int .i64 0) := cellH hq 4
  have b5 : W0.cell? ⟨w.heap.size, 5, none⟩ = some (.int .i64 0) := cellH hq 5
  have b6 : W0.cell? ⟨w.heap.size, 6, none⟩ = some (.int .i64 0) := cellH hq 6
  have b7 : W0.cell? ⟨w.heap.size, 7, none⟩ = some (.int .i64 0) := cellH hq 7
  have b8 : W0.cell? ⟨w.heap.size, 8, none⟩ = some (.int .i64 c) := cellH hq 8
  have b9 : W0.cell? ⟨w.heap.size, 9, none⟩ = some (M) := cellH hq 9
  have bi : W0.cell? ⟨w.heap.size, 3 + i, none⟩ = some (.int .i64 0) := (cellH hq (3 + i)).trans (cells_plan2 L B P M c i (by omega))
  clear hq
  have q1 : (i : Int) < 5 := by omega
  go_region_held3 (fun w' => w'.cell? ⟨w.heap.size, 0, none⟩ = some (L) ∧ w'.cell? ⟨w.heap.size, 1, none⟩ = some (B) ∧ w'.cell? ⟨w.heap.size, 2, none⟩ = some (P) ∧ w'.cell? ⟨w.heap.size, 3, none⟩ = some (.int .i64 0) ∧ w'.cell? ⟨w.heap.size, 4, none⟩ = some (.int .i64 0) ∧ w'.cell? ⟨w.heap.size, 5, none⟩ = some (.int .i64 0) ∧ w'.cell? ⟨w.heap.size, 6, none⟩ = some (.int .i64 0) ∧ w'.cell? ⟨w.heap.size, 7, none⟩ = some (.int .i64 0) ∧ w'.cell? ⟨w.heap.size, 8, none⟩ = some (.int .i64 c) ∧ w'.cell? ⟨w.heap.size, 9, none⟩ = some (M) ∧ w'.cell? ⟨w.heap.size, 3 + i, none⟩ = some (.int .i64 0) ∧ Below w.heap.size w w' ∧ w.heap.size < w'.heap.size)
    (first | (exact ⟨b0, b1, b2, b3, b4, b5, b6, b7, b8, b9, bi, hB0.drew, by show w.heap.size < W0.heap.size; omega⟩) | (go_split_ands; exact front_keep (by assumption) (by assumption) (by assumption) (by assumption) (by assumption) (by assumption) (by assumption) (by assumption) (by assumption) (by assumption) (by assumption) (by assumption) (by assumption) (by assumption)) | go_keep)
    (first | (go_at_call 40; refine (row_low L B P M c _ hc).mono ?_; rintro e w1 ⟨rfl, hB1⟩) | (go_at_call 41; refine (after_any (low c) i _ (low_lt hc) (by omega)).mono ?_; rintro e w1 ⟨rfl, rfl⟩))
  rename_i hS
  obtain ⟨_, _, _, _, _, _, _, _, _, _, _, hB2, _⟩ := hS
  go_wp2
  go_ret
  exact ⟨rfl, hB2⟩

theorem aft_low : ∀ n : Fin 6, ∀ i k : Fin 5, i.1 < k.1 → k.1 < n.1 → (aft (low n.1) i.1).testBit k.1 = true := by decide +kernel

/-- What the shelf of T5 is in memory: one lane that is long enough; n pieces, all in it. -/
structure ShelfMem (w : World) (lb bb pb n pcap : Nat) (h : Nat → Int) : Prop where
  n1 : 1 ≤ n
  n5 : n ≤ 5
  np : n ≤ pcap
  lbl : lb < w.heap.size
  bbl : bb < w.heap.size
  pbl : pb < w.heap.size
  lane : LaneAt w lb n
  bags : BagsAt w bb n h
  plan : ∀ j, j < n → w.cell? ⟨pb, j, none⟩ = some (.int .i64 0)
theorem ShelfMem.below {w w' : World} {lb bb pb n pcap N : Nat} {h : Nat → Int} (H : ShelfMem w lb bb pb n pcap h) (hB : Below N w w') (h1 : lb < N) (h2 : bb < N) (h3 : pb < N) : ShelfMem w' lb bb pb n pcap h :=
  ⟨H.n1, H.n5, H.np, Nat.lt_of_lt_of_le H.lbl hB.size, Nat.lt_of_lt_of_le H.bbl hB.size, Nat.lt_of_lt_of_le H.pbl hB.size, H.lane.below hB h1, H.bags.below hB h2, fun j hj => (hB.cell (p := ⟨pb, j, none⟩) h3).trans (H.plan j hj)⟩
theorem ShelfMem.grown {w w' : World} {lb bb pb n pcap : Nat} {h : Nat → Int} (H : ShelfMem w lb bb pb n pcap h) (hB : Below w.heap.size w w') : ShelfMem w' lb bb pb n pcap h := H.below hB H.lbl H.bbl H.pbl

theorem has_true (s n : Nat) (w : World) (h1 : s < 32) (h2 : n < 5) (h : s.testBit n = true) :
    Calls Tryz.prog 17 #[.int .u8 s, .int .i64 n] w fun e w' => e = .returned (.bool true) ∧ w = w' :=
  (has_any s n w h1 h2).mono fun e w' ⟨a, b⟩ => ⟨by rw [a, h], b⟩

theorem open_mem {lb bb pb lcap n bcap pcap : Nat} {h : Nat → Int} {w : World} (A : Option Addr) (m cap : Nat) (x : Nat → Nat) (H : ShelfMem w lb bb pb n pcap h) (hm : m ≤ 5)
    (hx : 0 < m → ∃ xb, A = some ⟨xb, 0, none⟩ ∧ xb < w.heap.size ∧ ∀ j, j < m → w.cell? ⟨xb, j, none⟩ = some (.int .i64 (x j))) (hxn : ∀ j, j < m → x j < n) :
    Calls Tryz.prog 15 #[.agg #[.slice (some ⟨lb, 0, none⟩) 1 lcap, .slice (some ⟨bb, 0, none⟩) n bcap, .slice (some ⟨pb, 0, none⟩) n pcap], .slice A m cap] w (Opened lb bb pb lcap n bcap pcap w) :=
  open_low lb bb pb lcap n bcap pcap h A m cap x w H.n1 H.n5 H.np H.lbl H.bbl H.pbl H.lane H.bags H.plan hm hx hxn

set_option maxRecDepth 100000 in
set_option maxHeartbeats 4000000 in
theorem must_low (lb bb pb lcap n bcap pcap i k : Nat) (h : Nat → Int) (w : World) (H : ShelfMem w lb bb pb n pcap h) (hik : i < k) (hk : k < n) (hlt : h i < h k) :
    Calls Tryz.prog 7 #[.agg #[.slice (some ⟨lb, 0, none⟩) 1 lcap, .slice (some ⟨bb, 0, none⟩) n bcap, .slice (some ⟨pb, 0, none⟩) n pcap], .int .i64 i, .int .i64 k] w fun e w' =>
      e = .returned (.tuple #[.int .i64 1, .int .i64 0]) ∧ Below w.heap.size w w' := by
  have hn5 := H.n5
  have HH := Go.Lib.hid H; clear H
  have HL := Go.Lib.hid hlt; clear hlt
  have hne : ((i : Int) == (k : Int)) = false := by simp; omega
  have hx : ∀ j, j < 2 → (fun j => if j = 0 then i else k) j < n := fun j _ => by dsimp only; split <;> omega
  have HX := Go.Lib.hid hx; clear hx
  go_enter Tryz.func7, Tryz.ntmps7
  go_wp2_with (first
    | (go_at_call 15; refine (open_mem _ 2 _ (fun j => if j = 0 then i else k) (HH.out.grown (((Below.refl _ w).alloc (Nat.le_refl _) _).alloc (by simp) _)) (by omega) (fun _ => ⟨w.heap.size + 1, rfl, by simp, fun j hj => (by
        rcases (show j = 0 ∨ j = 1 by omega) with rfl | rfl <;> simp)⟩) HX.out).mono ?_; rintro e w1 ⟨r, rfl, hB1⟩
       have hBw1 : Below w.heap.size w w1 := (((Below.refl _ w).alloc (Nat.le_refl _) _).alloc (by simp) _).trans (hB1.mono (by simp; omega))
       have hz1 := hBw1.size
       clear hB1)
    | (go_at_call 16; refine (front_low _ _ _ _ n i _ hn5 (by omega)).mono ?_; rintro e w2 ⟨rfl, hB2⟩
       obtain ⟨hk2, hf2⟩ := bcell hB2
       have hBw2 : Below w.heap.size w w2 := (hBw1.alloc hz1 _).trans (hB2.mono (by simp; omega))
       have hz2 := hBw2.size)
    | (go_at_call 17; refine (has_true (aft (low n) i) k _ (aft_lt ⟨low n, low_lt hn5⟩ ⟨i, by omega⟩) (by omega) (aft_low ⟨n, by omega⟩ ⟨i, by omega⟩ ⟨k, by omega⟩ hik hk)).mono ?_; rintro e w' ⟨rfl, rfl⟩)
    | (go_at_call 19; refine (judge_always bb n bcap i k h _ _ _ n _ hn5 (by omega) hk (Nat.lt_of_lt_of_le HH.out.bbl hz2) (HH.out.grown hBw2).bags HL.out).mono ?_; rintro e w3 ⟨rfl, hB3⟩)
    | (go_at_call 18; refine (number_always _).mono ?_; rintro e w' ⟨rfl, rfl⟩))
  go_ret2
  exact ⟨rfl, hBw2.trans (hB3.mono hz2)⟩

set_option maxRecDepth 100000 in
set_option maxHeartbeats 4000000 in
theorem must_ge (lb bb pb lcap n bcap pcap i k : Nat) (h : Nat → Int) (w : World) (H : ShelfMem w lb bb pb n pcap h) (hik : i < k) (hk : k < n) (hlt : h k ≤ h i) :
    Calls Tryz.prog 7 #[.agg #[.slice (some ⟨lb, 0, none⟩) 1 lcap, .slice (some ⟨bb, 0, none⟩) n bcap, .slice (some ⟨pb, 0, none⟩) n pcap], .int .i64 i, .int .i64 k] w fun e w' =>
      e = .returned (.tuple #[.int .i64 2, .int .i64 0]) ∧ Below w.heap.size w w' := by
  have hn5 := H.n5
  have HH := Go.Lib.hid H; clear H
  have HL := Go.Lib.hid hlt; clear hlt
  have hne : ((i : Int) == (k : Int)) = false := by simp; omega
  have hx : ∀ j, j < 2 → (fun j => if j = 0 then i else k) j < n := fun j _ => by dsimp only; split <;> omega
  have HX := Go.Lib.hid hx; clear hx
  go_enter Tryz.func7, Tryz.ntmps7
  go_wp2_with (first
    | (go_at_call 15; refine (open_mem _ 2 _ (fun j => if j = 0 then i else k) (HH.out.grown (((Below.refl _ w).alloc (Nat.le_refl _) _).alloc (by simp) _)) (by omega) (fun _ => ⟨w.heap.size + 1, rfl, by simp, fun j hj => (by
        rcases (show j = 0 ∨ j = 1 by omega) with rfl | rfl <;> simp)⟩) HX.out).mono ?_; rintro e w1 ⟨r, rfl, hB1⟩
       have hBw1 : Below w.heap.size w w1 := (((Below.refl _ w).alloc (Nat.le_refl _) _).alloc (by simp) _).trans (hB1.mono (by simp; omega))
       have hz1 := hBw1.size
       clear hB1)
    | (go_at_call 16; refine (front_low _ _ _ _ n i _ hn5 (by omega)).mono ?_; rintro e w2 ⟨rfl, hB2⟩
       obtain ⟨hk2, hf2⟩ := bcell hB2
       have hBw2 : Below w.heap.size w w2 := (hBw1.alloc hz1 _).trans (hB2.mono (by simp; omega))
       have hz2 := hBw2.size)
    | (go_at_call 17; refine (has_true (aft (low n) i) k _ (aft_lt ⟨low n, low_lt hn5⟩ ⟨i, by omega⟩) (by omega) (aft_low ⟨n, by omega⟩ ⟨i, by omega⟩ ⟨k, by omega⟩ hik hk)).mono ?_; rintro e w' ⟨rfl, rfl⟩)
    | (go_at_call 19; refine (judge_noWay bb n bcap i k h _ _ _ n _ hn5 (by omega) hk (Nat.lt_of_lt_of_le HH.out.bbl hz2) (HH.out.grown hBw2).bags HL.out).mono ?_; rintro e w3 ⟨rfl, hB3⟩)
    | (go_at_call 18; refine (number_noWay _).mono ?_; rintro e w' ⟨rfl, rfl⟩))
  go_ret2
  exact ⟨rfl, hBw2.trans (hB3.mono hz2)⟩

end Go.Proofs.YtckchahangnfiaaGreatDoor
