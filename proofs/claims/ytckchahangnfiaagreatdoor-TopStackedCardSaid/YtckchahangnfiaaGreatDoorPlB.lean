/- PILE: checkYard, open. -/
import Derived.Test.YtckchahangnfiaaGreatDoorPlA
import Derived.Test.YtckchahangnfiaaGreatDoorShE
import Derived.BigRegion
import Derived.Laws.Rows
import Derived.Deep.MidRow
namespace Go.Proofs.YtckchahangnfiaaGreatDoor
open Go.RowKit

/-- Parcels that are valid. -/
structure ParcelsAt (w : World) (qb n : Nat) (lo hi br tl : Nat → Int) : Prop where
  lo_ : ∀ j, j < n → w.cell? ⟨qb, j * 4, none⟩ = some (.int .i64 (lo j))
  hi_ : ∀ j, j < n → w.cell? ⟨qb, j * 4 + 1, none⟩ = some (.int .i64 (hi j))
  br_ : ∀ j, j < n → w.cell? ⟨qb, j * 4 + 2, none⟩ = some (.int .i64 (br j))
  tl_ : ∀ j, j < n → w.cell? ⟨qb, j * 4 + 3, none⟩ = some (.int .i64 (tl j))
  lo1 : ∀ j, j < n → 1 ≤ lo j
  lh : ∀ j, j < n → lo j ≤ hi j
  hi12 : ∀ j, j < n → hi j ≤ 12
  br0 : ∀ j, j < n → 0 ≤ br j
  br30 : ∀ j, j < n → br j ≤ 30
  tl1 : ∀ j, j < n → 1 ≤ tl j
  tl3 : ∀ j, j < n → tl j ≤ 3
theorem ParcelsAt.below {w w' : World} {qb n N : Nat} {lo hi br tl : Nat → Int} (H : ParcelsAt w qb n lo hi br tl) (hB : Below N w w') (h : qb < N) : ParcelsAt w' qb n lo hi br tl :=
  { H with
    lo_ := fun j hj => (hB.cell (p := ⟨qb, j * 4, none⟩) h).trans (H.lo_ j hj)
    hi_ := fun j hj => (hB.cell (p := ⟨qb, j * 4 + 1, none⟩) h).trans (H.hi_ j hj)
    br_ := fun j hj => (hB.cell (p := ⟨qb, j * 4 + 2, none⟩) h).trans (H.br_ j hj)
    tl_ := fun j hj => (hB.cell (p := ⟨qb, j * 4 + 3, none⟩) h).trans (H.tl_ j hj) }

set_option maxHeartbeats 1000000 in
theorem pcheckYard_yes (qb n qcap : Nat) (L : Int) (lo hi br tl : Nat → Int) (w : World) (hn : n ≤ 5) (hqb : qb < w.heap.size) (h1 : 1 ≤ L) (h2 : L ≤ 12) (H : ParcelsAt w qb n lo hi br tl) :
    Calls Tryz.prog 47 #[.agg #[.slice (some ⟨qb, 0, none⟩) n qcap, .int .i64 L]] w fun e w' => e = .returned (.int .i64 0) ∧ Below w.heap.size w w' := by
  have HH := Go.Lib.hid H; clear H
  have hn5 : (n : Int) ≤ 5 := by omega
  go_enter Tryz.func47, Tryz.ntmps47
  go_wp2
  go_loopw [13] (fun i wr => ∃ k : Nat, k ≤ n ∧ i = .int .i64 k ∧ Below w.heap.size w wr ∧ wr.cell? ⟨w.heap.size, 1, none⟩ = some (.int .i64 L) ∧ w.heap.size < wr.heap.size) (fun i _ => n - (intOf i).toNat)
  case atStart => exact ⟨0, by omega, rfl, (Below.refl _ _).alloc (Nat.le_refl _) _, by simp, by simp⟩
  case round =>
    obtain ⟨k, hk, rfl, hB, hL, hz⟩ := hrel
    by_cases hlt : k < n
    · have H1 := HH.out.below hB hqb
      have c0 := H1.lo_ k hlt
      have c1 := H1.hi_ k hlt
      have c2 := H1.br_ k hlt
      have c3 := H1.tl_ k hlt
      have g0 := H1.lo1 k hlt
      have g1 := H1.lh k hlt
      have g2 := H1.hi12 k hlt
      have g3 := H1.br0 k hlt
      have g4 := H1.br30 k hlt
      have g5 := H1.tl1 k hlt
      have g6 := H1.tl3 k hlt
      clear H1
      go_wp2_with (go_at_call 64; refine (pcheckParcel_yes _ _ _ _ _ g0 g1 g2 g3 g4 g5 g6).mono ?_; rintro e w' ⟨rfl, hB1⟩)
      go_roundw
      case rel => exact ⟨k + 1, by omega, by go_num, (hB.alloc (by omega) _).trans (hB1.mono (by simp; omega)), (hB1.cell (p := ⟨w.heap.size, 1, none⟩) (by simp; omega)).trans (cell_alloc_l _ hL), by have := hB1.size; simp at this; omega⟩
      case measure => simp [intOf]; omega
    · obtain rfl : k = n := by omega
      go_wp2_with (go_at_call 48; refine (pwithin_yes _ _ _ _ (by omega) (by omega)).mono ?_; rintro e w' ⟨rfl, rfl⟩)
      go_ret
      exact ⟨rfl, hB⟩

/-- A yard at work. -/
abbrev yCells (P : Value) (L : Int) (a b c : Nat → Int) : Array Value := #[P, .int .i64 L, .int .i64 (a 0), .int .i64 (a 1), .int .i64 (a 2), .int .i64 (a 3), .int .i64 (a 4), .int .i64 (b 0), .int .i64 (b 1), .int .i64 (b 2), .int .i64 (b 3), .int .i64 (b 4), .int .i64 (c 0), .int .i64 (c 1), .int .i64 (c 2), .int .i64 (c 3), .int .i64 (c 4)]
/-- Of the first k. -/
def upto (k : Nat) (f : Nat → Int) (j : Nat) : Int := if j < k then f j else 0

theorem y_next (P : Value) (L : Int) (lo hi tl : Nat → Int) (k : Nat) (hk : k < 5) :
    (((yCells P L (upto k lo) (upto k hi) (upto k tl)).setIfInBounds (2 + k) (.int .i64 (lo k))).setIfInBounds (7 + k) (.int .i64 (hi k))).setIfInBounds (12 + k) (.int .i64 (tl k)) = yCells P L (upto (k + 1) lo) (upto (k + 1) hi) (upto (k + 1) tl) := by
  rcases (show k = 0 ∨ k = 1 ∨ k = 2 ∨ k = 3 ∨ k = 4 by omega) with rfl | rfl | rfl | rfl | rfl <;> simp [upto]
theorem y_at (P : Value) (L : Int) (a b c : Nat → Int) (k : Nat) (hk : k < 5) : (yCells P L a b c)[2 + k]? = some (.int .i64 (a k)) ∧ (yCells P L a b c)[7 + k]? = some (.int .i64 (b k)) ∧ (yCells P L a b c)[12 + k]? = some (.int .i64 (c k)) := by
  rcases (show k = 0 ∨ k = 1 ∨ k = 2 ∨ k = 3 ∨ k = 4 by omega) with rfl | rfl | rfl | rfl | rfl <;> exact ⟨rfl, rfl, rfl⟩

theorem cells17 (a0 a1 a2 a3 a4 a5 a6 a7 a8 a9 a10 a11 a12 a13 a14 a15 a16 v0 v1 v2 v3 v4 v5 v6 v7 v8 v9 v10 v11 v12 v13 v14 v15 v16 : Value) : (((((((((((((((((#[a0, a1, a2, a3, a4, a5, a6, a7, a8, a9, a10, a11, a12, a13, a14, a15, a16].setIfInBounds 0 v0).setIfInBounds 1 v1).setIfInBounds 2 v2).setIfInBounds 3 v3).setIfInBounds 4 v4).setIfInBounds 5 v5).setIfInBounds 6 v6).setIfInBounds 7 v7).setIfInBounds 8 v8).setIfInBounds 9 v9).setIfInBounds 10 v10).setIfInBounds 11 v11).setIfInBounds 12 v12).setIfInBounds 13 v13).setIfInBounds 14 v14).setIfInBounds 15 v15).setIfInBounds 16 v16) = #[v0, v1, v2, v3, v4, v5, v6, v7, v8, v9, v10, v11, v12, v13, v14, v15, v16] := by simp
theorem set17 {W : World} {b T : Nat} {a0 a1 a2 a3 a4 a5 a6 a7 a8 a9 a10 a11 a12 a13 a14 a15 a16 : Value} (h : W.heap[b]? = some (.cells #[a0, a1, a2, a3, a4, a5, a6, a7, a8, a9, a10, a11, a12, a13, a14, a15, a16] T (0, 0))) (v0 v1 v2 v3 v4 v5 v6 v7 v8 v9 v10 v11 v12 v13 v14 v15 v16 : Value) :
    (((((((((((((((((W.setCell ⟨b, 0, none⟩ v0).setCell ⟨b, 1, none⟩ v1).setCell ⟨b, 2, none⟩ v2).setCell ⟨b, 3, none⟩ v3).setCell ⟨b, 4, none⟩ v4).setCell ⟨b, 5, none⟩ v5).setCell ⟨b, 6, none⟩ v6).setCell ⟨b, 7, none⟩ v7).setCell ⟨b, 8, none⟩ v8).setCell ⟨b, 9, none⟩ v9).setCell ⟨b, 10, none⟩ v10).setCell ⟨b, 11, none⟩ v11).setCell ⟨b, 12, none⟩ v12).setCell ⟨b, 13, none⟩ v13).setCell ⟨b, 14, none⟩ v14).setCell ⟨b, 15, none⟩ v15).setCell ⟨b, 16, none⟩ v16).heap[b]? = some (.cells #[v0, v1, v2, v3, v4, v5, v6, v7, v8, v9, v10, v11, v12, v13, v14, v15, v16] T (0, 0)) ∧ But b W (((((((((((((((((W.setCell ⟨b, 0, none⟩ v0).setCell ⟨b, 1, none⟩ v1).setCell ⟨b, 2, none⟩ v2).setCell ⟨b, 3, none⟩ v3).setCell ⟨b, 4, none⟩ v4).setCell ⟨b, 5, none⟩ v5).setCell ⟨b, 6, none⟩ v6).setCell ⟨b, 7, none⟩ v7).setCell ⟨b, 8, none⟩ v8).setCell ⟨b, 9, none⟩ v9).setCell ⟨b, 10, none⟩ v10).setCell ⟨b, 11, none⟩ v11).setCell ⟨b, 12, none⟩ v12).setCell ⟨b, 13, none⟩ v13).setCell ⟨b, 14, none⟩ v14).setCell ⟨b, 15, none⟩ v15).setCell ⟨b, 16, none⟩ v16) := by
  have h1 := (setH (setH (setH (setH (setH (setH (setH (setH (setH (setH (setH (setH (setH (setH (setH (setH (setH h 0 v0) 1 v1) 2 v2) 3 v3) 4 v4) 5 v5) 6 v6) 7 v7) 8 v8) 9 v9) 10 v10) 11 v11) 12 v12) 13 v13) 14 v14) 15 v15) 16 v16)
  rw [cells17] at h1
  exact ⟨h1, ((((((((((((((((((But.refl _ W).set 0 v0).set 1 v1).set 2 v2).set 3 v3).set 4 v4).set 5 v5).set 6 v6).set 7 v7).set 8 v8).set 9 v9).set 10 v10).set 11 v11).set 12 v12).set 13 v13).set 14 v14).set 15 v15).set 16 v16)⟩


theorem loadAt_row {P : Program} (w : World) (g : Nat) (t ty : TypeId) (cs : Array Value) (fr : Nat × Nat) (d : TypeDesc) (hg : w.heap[g]? = some (.cells cs t fr))
    (hu : P.underlying ty = some d) (hd : d.isRow = true) (hi : (P.info? ty).map (·.size) = some cs.size) :
    (Instr.loadAt ty (.pointer (some ⟨g, 0, none⟩))).run P w = .ok (.agg cs) w := by
  have := run_loadAt_mid (P := P) w g 0 ty cs.toList d (fun j v hv => by rw [Nat.zero_add, cell_of_row w g j cs t fr hg]; simpa using hv) hu hd (by simpa using hi)
  simpa using this

theorem setCells_row {T : Nat} (g : Nat) : ∀ (vs : List Value) (o : Nat) (c : List Value) (w : World), w.heap[g]? = some (.cells c.toArray T (0, 0)) → o + vs.length ≤ c.length →
    (w.setCells g o vs).heap[g]? = some (.cells (c.take o ++ vs ++ c.drop (o + vs.length)).toArray T (0, 0)) ∧ But g w (w.setCells g o vs)
  | [], o, c, w, h, ho => by
    simp only [World.setCells, List.length_nil, Nat.add_zero, List.append_nil, List.take_append_drop]
    exact ⟨h, But.refl _ _⟩
  | v :: vs, o, c, w, h, ho => by
    have hlen : o < c.length := by simp at ho; omega
    have h1 := setH h o v
    have e1 : c.toArray.setIfInBounds o v = (c.set o v).toArray := by simp
    rw [e1] at h1
    have := setCells_row (T := T) g vs (o + 1) (c.set o v) (w.setCell ⟨g, o, none⟩ v) h1 (by simp at ho ⊢; omega)
    simp only [World.setCells]
    refine ⟨?_, ((But.refl g w).set o v).trans this.2⟩
    rw [this.1]
    congr 2
    apply congrArg
    have e2 : (c.set o v).take (o + 1) = c.take o ++ [v] := by
      rw [List.take_set, List.take_succ_eq_append_getElem hlen, List.set_append_right _ _ (by simp; omega)]
      simp [Nat.min_eq_left (Nat.le_of_lt hlen)]
    have e3 : (c.set o v).drop (o + 1 + vs.length) = c.drop (o + (v :: vs).length) := by
      rw [List.drop_set_of_lt (by omega)]
      congr 1
      simp; omega
    rw [e2, e3]
    simp

theorem storeAt_row {P : Program} (w : World) (g : Nat) (t ty : TypeId) (cs vs : Array Value) (hg : w.heap[g]? = some (.cells cs t (0, 0))) (hi : (P.info? ty).map (·.size) = some vs.size) (hs : cs.size = vs.size) (h1 : vs.all (·.oneCell') = true) :
    ∃ w', (Instr.storeAt ty (.pointer (some ⟨g, 0, none⟩)) (.agg vs)).run P w = .ok () w' ∧ w'.heap[g]? = some (.cells vs t (0, 0)) ∧ But g w w' := by
  obtain ⟨c⟩ := cs
  obtain ⟨l⟩ := vs
  have hl : c.length = l.length := by simpa using hs
  have := setCells_row (T := t) g l 0 c w hg (by omega)
  refine ⟨_, run_storeAt_mid w g 0 ty ⟨l⟩ (fun j hj => ⟨?_, freeH hg _⟩) hi h1, ?_, this.2⟩
  · rw [cellH hg]
    simp at hj ⊢
    omega
  · rw [this.1]
    simp [← hl]

theorem wpList_load_whole {P : Program} {ops : Array Oper} {rest : List Oper} {o : Oper} {a : Act} {w : World} {Q : Exit → Act → World → Prop} (hgd : o.guard = none) (ty : TypeId) (x : Operand) (ho : o.op = .load ty x)
    (g : Nat) (hx : a.eval x = .pointer (some ⟨g, 0, none⟩)) {t : TypeId} {cs : Array Value} {fr : Nat × Nat} {d : TypeDesc} (hg : w.heap[g]? = some (.cells cs t fr))
    (hu : P.underlying ty = some d) (hd : d.isRow = true) (hi : (P.info? ty).map (·.size) = some cs.size)
    (h : wpList P ops Q rest (a.put o.dst (.agg cs)) w) : wpList P ops Q (o :: rest) a w :=
  wpList_load_mid hgd ty x ho g 0 hx cs.toList d (fun j v hv => by rw [Nat.zero_add, cell_of_row w g j cs t fr hg]; simpa using hv) hu hd (by simpa using hi) (by simpa using h)

theorem wpList_store_whole {P : Program} {ops : Array Oper} {rest : List Oper} {o : Oper} {a : Act} {w : World} {Q : Exit → Act → World → Prop} (hgd : o.guard = none) (ty : TypeId) (x y : Operand) (ho : o.op = .store ty x y)
    (g : Nat) (vs : Array Value) (hx : a.eval x = .pointer (some ⟨g, 0, none⟩)) (hy : a.eval y = .agg vs) {t : TypeId} {cs : Array Value} (hg : w.heap[g]? = some (.cells cs t (0, 0)))
    (hi : (P.info? ty).map (·.size) = some vs.size) (hs : cs.size = vs.size) (h1 : vs.all (·.oneCell') = true)
    (h : ∀ w', w'.heap[g]? = some (.cells vs t (0, 0)) → But g w w' → wpList P ops Q rest (a.put o.dst undef) w') : wpList P ops Q (o :: rest) a w := by
  obtain ⟨c⟩ := cs
  obtain ⟨l⟩ := vs
  have hl : c.length = l.length := by simpa using hs
  have := setCells_row (T := t) g l 0 c w hg (by omega)
  refine wpList_store_mid hgd ty x y ho g 0 ⟨l⟩ hx hy (fun j hj => ⟨?_, freeH hg _⟩) hi h1 (h _ ?_ this.2)
  · rw [cellH hg]
    simp at hj ⊢
    omega
  · rw [this.1]
    simp [← hl]

theorem results_cell_slot {P : Program} {fn : Func} {p q : Tmp} {ty : TypeId} (h : fn.results = #[.cell p ty, .tmp q]) {tmps : Array Value} {w : World} {g : Nat} {t : TypeId} {cs : Array Value} {fr : Nat × Nat} {d : TypeDesc} {x : Value}
    (hp : tmps.getD p undef = .pointer (some ⟨g, 0, none⟩)) (hg : w.heap[g]? = some (.cells cs t fr))
    (hu : P.underlying ty = some d) (hd : d.isRow = true) (hi : (P.info? ty).map (·.size) = some cs.size) (hx : tmps.getD q undef = x) :
    (results fn tmps).run P w = .ok (.tuple #[.agg cs, x]) w := by
  have hp' : tmps[p]?.getD undef = .pointer (some ⟨g, 0, none⟩) := by simpa using hp
  have hl : (loadVar ty ⟨g, 0, none⟩).run P w = .ok (.agg cs) w := by
    have := run_loadVar_mid (P := P) w g 0 ty cs.toList d (fun j v hv => by rw [Nat.zero_add, cell_of_row w g j cs t fr hg]; simpa using hv) hu hd (by simpa using hi)
    simpa using this
  subst hx
  simp [results, h, hp', asAddr, hl]

/-- 'open' in the middle: k pieces are laid. -/
structure YRound (qb n qcap : Nat) (L : Int) (lo hi tl : Nat → Int) (w : World) (z k : Nat) (W : World) : Prop where
  yard : W.heap[z]? = some (.cells (yCells (.slice (some ⟨qb, 0, none⟩) n qcap) L (upto k lo) (upto k hi) (upto k tl)) 55 (0, 0))
  res : W.heap[w.heap.size + 1]? = some (.cells (yCells (.slice none 0 0) 0 (upto 0 lo) (upto 0 hi) (upto 0 tl)) 55 (0, 0))
  below : Below w.heap.size w W
  lt : w.heap.size + 2 ≤ z
  size : z < W.heap.size

theorem YRound.grown {qb n qcap : Nat} {L : Int} {lo hi tl : Nat → Int} {w : World} {z k : Nat} {W : World} (h : YRound qb n qcap L lo hi tl w z k W) (o : Obj) : YRound qb n qcap L lo hi tl w z k (W.alloc o) :=
  ⟨by rw [Below.heap_alloc _ _ _ h.size]; exact h.yard, by rw [Below.heap_alloc _ _ _ (Nat.lt_trans (Nat.lt_of_lt_of_le (by omega) h.lt) h.size)]; exact h.res, h.below.alloc h.below.size _, h.lt, by simp; exact Nat.lt_succ_of_lt h.size⟩

theorem YRound.next {qb n qcap : Nat} {L : Int} {lo hi tl : Nat → Int} {w : World} {z k : Nat} {W : World} (h : YRound qb n qcap L lo hi tl w z k W) (hk : k < 5) :
    YRound qb n qcap L lo hi tl w z (k + 1) (((W.setCell ⟨z, 2 + k, none⟩ (.int .i64 (lo k))).setCell ⟨z, 7 + k, none⟩ (.int .i64 (hi k))).setCell ⟨z, 12 + k, none⟩ (.int .i64 (tl k))).drew := by
  have h1 := setH (setH (setH h.yard (2 + k) (.int .i64 (lo k))) (7 + k) (.int .i64 (hi k))) (12 + k) (.int .i64 (tl k))
  rw [y_next _ _ _ _ _ _ hk] at h1
  have hb : But z W (((W.setCell ⟨z, 2 + k, none⟩ (.int .i64 (lo k))).setCell ⟨z, 7 + k, none⟩ (.int .i64 (hi k))).setCell ⟨z, 12 + k, none⟩ (.int .i64 (tl k))).drew := ((((But.refl z W).set _ _).set _ _).set _ _).drew
  have hl := h.lt
  have hs := h.size
  exact ⟨h1, (hb.block _ (by omega) (by omega)).trans h.res, h.below.trans (hb.below (by omega) (by omega)), hl, Nat.lt_of_lt_of_le hs hb.size⟩

set_option maxRecDepth 100000 in
set_option maxHeartbeats 4000000 in
theorem popen_any (qb n qcap : Nat) (L : Int) (lo hi br tl : Nat → Int) (w : World) (hn : n ≤ 5) (hqb : qb < w.heap.size) (h1 : 1 ≤ L) (h2 : L ≤ 12) (H : ParcelsAt w qb n lo hi br tl) :
    Calls Tryz.prog 24 #[.agg #[.slice (some ⟨qb, 0, none⟩) n qcap, .int .i64 L]] w fun e w' =>
      e = .returned (.tuple #[.agg (yCells (.slice (some ⟨qb, 0, none⟩) n qcap) L (upto n lo) (upto n hi) (upto n tl)), .int .i64 0]) ∧ Below w.heap.size w w' := by
  have HH := Go.Lib.hid H; clear H
  go_enter Tryz.func24, Tryz.ntmps24
  go_wp2_with (first
    | (go_at_call 47; refine (pcheckYard_yes qb n qcap L lo hi br tl _ hn (by simp; omega) h1 h2 (HH.out.below (((Below.refl _ w).alloc (Nat.le_refl _) _).alloc (by simp) _) hqb)).mono ?_; rintro e w1 ⟨rfl, hB1⟩
       have hz1 : w.heap.size + 2 ≤ w1.heap.size := by have := hB1.size; simp at this; omega
       obtain ⟨hk1, hf1⟩ := bcell hB1
       have hN0 : ∀ o, (w1.alloc o).cell? ⟨w.heap.size, 0, none⟩ = some (.slice (some ⟨qb, 0, none⟩) n qcap) := fun o => cell_alloc_l _ (by rw [hk1 _ _ (by simp; omega)]; simp)
       have hN1 : ∀ o, w1.cell? ⟨w.heap.size, o, none⟩ = #[Value.slice (some ⟨qb, 0, none⟩) n qcap, .int .i64 L][o]? := fun o => by rw [hk1 _ _ (by simp; omega)]; simp))
  clear hN0 hN1
  have hq := heap_alloc_new w1 (.cells (yCells (.slice (some ⟨qb, 0, none⟩) n qcap) L (upto 0 lo) (upto 0 hi) (upto 0 tl)) 55)
  have hr0 : w1.heap[w.heap.size + 1]? = some (.cells (yCells (.slice none 0 0) 0 (upto 0 lo) (upto 0 hi) (upto 0 tl)) 55 (0, 0)) := by
    rw [hB1.block _ (by simp)]
    have := heap_alloc_new (w.alloc (.cells #[.slice (some ⟨qb, 0, none⟩) n qcap, .int .i64 L] 30)) (.cells (yCells (.slice none 0 0) 0 (upto 0 lo) (upto 0 hi) (upto 0 tl)) 55)
    rwa [World.size_alloc] at this
  have hr : (w1.alloc (.cells (yCells (.slice (some ⟨qb, 0, none⟩) n qcap) L (upto 0 lo) (upto 0 hi) (upto 0 tl)) 55)).heap[w.heap.size + 1]? = some (.cells (yCells (.slice none 0 0) 0 (upto 0 lo) (upto 0 hi) (upto 0 tl)) 55 (0, 0)) := by
    rw [Below.heap_alloc _ _ _ (by omega)]; exact hr0
  have hBw : Below w.heap.size w (w1.alloc (.cells (yCells (.slice (some ⟨qb, 0, none⟩) n qcap) L (upto 0 lo) (upto 0 hi) (upto 0 tl)) 55)) := ((((Below.refl _ w).alloc (Nat.le_refl _) _).alloc (by simp) _).trans (hB1.mono (by simp; omega))).alloc (by omega) _
  change Code.wp _ _ _ _ (w1.alloc (.cells (yCells (.slice (some ⟨qb, 0, none⟩) n qcap) L (upto 0 lo) (upto 0 hi) (upto 0 tl)) 55))
  obtain ⟨W0, hW0⟩ : ∃ W0, w1.alloc (.cells (yCells (.slice (some ⟨qb, 0, none⟩) n qcap) L (upto 0 lo) (upto 0 hi) (upto 0 tl)) 55) = W0 := ⟨_, rfl⟩
  have hz : w1.heap.size < W0.heap.size := by rw [← hW0]; simp
  rw [hW0] at hq hr hBw ⊢
  clear hW0 hr0 hB1 hk1 hf1
  obtain ⟨z, hzz⟩ : ∃ z, w1.heap.size = z := ⟨_, rfl⟩
  rw [hzz] at hq hz hz1 ⊢
  clear hzz
  have HQ := Go.Lib.hid hq; clear hq
  have HR := Go.Lib.hid hr; clear hr
  go_loopw [19] (fun i W => ∃ k : Nat, k ≤ n ∧ i = .int .i64 k ∧ YRound qb n qcap L lo hi tl w z k W) (fun i _ => n - (intOf i).toNat)
  case atStart => exact ⟨0, by omega, rfl, HQ.out, HR.out, hBw, hz1, hz⟩
  case round =>
    obtain ⟨k, hk, rfl, hY⟩ := hrel
    by_cases hlt : k < n
    · as_aux_lemma =>
        have H1 := HH.out.below hY.below hqb
        have c0 := H1.lo_ k hlt
        have c1 := H1.hi_ k hlt
        have c2 := H1.br_ k hlt
        have c3 := H1.tl_ k hlt
        clear H1
        have hk5 : (k : Int) < 5 := by omega
        have HY := Go.Lib.hid hY; clear hY
        go_wp2_with fail
        have p0 : (wr.alloc (.cells #[.int .i64 (lo k), .int .i64 (hi k), .int .i64 (br k), .int .i64 (tl k)] 37)).cell? ⟨wr.heap.size, 0, none⟩ = some (.int .i64 (lo k)) := by simp
        have p1 : (wr.alloc (.cells #[.int .i64 (lo k), .int .i64 (hi k), .int .i64 (br k), .int .i64 (tl k)] 37)).cell? ⟨wr.heap.size, 1, none⟩ = some (.int .i64 (hi k)) := by simp
        have p3 : (wr.alloc (.cells #[.int .i64 (lo k), .int .i64 (hi k), .int .i64 (br k), .int .i64 (tl k)] 37)).cell? ⟨wr.heap.size, 3, none⟩ = some (.int .i64 (tl k)) := by simp
        have hY1 := YRound.grown HY.out (.cells #[.int .i64 (lo k), .int .i64 (hi k), .int .i64 (br k), .int .i64 (tl k)] 37)
        have hlz : z < wr.heap.size := HY.out.size
        obtain ⟨W1, hW1⟩ : ∃ W1, wr.alloc (.cells #[.int .i64 (lo k), .int .i64 (hi k), .int .i64 (br k), .int .i64 (tl k)] 37) = W1 := ⟨_, rfl⟩
        rw [hW1] at p0 p1 p3 hY1 ⊢
        clear hW1 HY
        obtain ⟨y0, y1, y2⟩ := y_at (.slice (some ⟨qb, 0, none⟩) n qcap) L (upto k lo) (upto k hi) (upto k tl) k (by omega)
        have q0 : W1.cell? ⟨z, 2 + k, none⟩ = some (.int .i64 (upto k lo k)) := (cellH hY1.yard _).trans y0
        have q1 : W1.cell? ⟨z, 7 + k, none⟩ = some (.int .i64 (upto k hi k)) := (cellH hY1.yard _).trans y1
        have q2 : W1.cell? ⟨z, 12 + k, none⟩ = some (.int .i64 (upto k tl k)) := (cellH hY1.yard _).trans y2
        have f0 : W1.frozen? ⟨z, 2 + k, none⟩ = false := freeH hY1.yard _
        have f1 : W1.frozen? ⟨z, 7 + k, none⟩ = false := freeH hY1.yard _
        have f2 : W1.frozen? ⟨z, 12 + k, none⟩ = false := freeH hY1.yard _
        clear y0 y1 y2
        have hne : z ≠ wr.heap.size := by omega
        have HY := Go.Lib.hid hY1; clear hY1
        go_region
        go_wp2_with fail
        go_roundw
        case rel => exact ⟨k + 1, by omega, by go_num, HY.out.next (by omega)⟩
        case measure => simp [intOf]; omega
    · as_aux_lemma =>
        obtain rfl : n = k := by omega
        have hzl := hY.lt
        have hws := hY.below.size
        have hyd : wr.heap[z]? = some (.cells (yCells (.slice (some ⟨qb, 0, none⟩) n qcap) L (upto n lo) (upto n hi) (upto n tl)) 55 (0, 0)) := hY.yard
        have hres : wr.heap[w.heap.size + 1]? = some (.cells (yCells (.slice none 0 0) 0 (upto 0 lo) (upto 0 hi) (upto 0 tl)) 55 (0, 0)) := hY.res
        have hbl : Below w.heap.size w wr := hY.below
        clear hY
        have HYD := Go.Lib.hid hyd; clear hyd
        have HRS := Go.Lib.hid hres; clear hres
        go_wp2_with (first
          | (with_reducible refine wpList_load_whole rfl 55 (.tmp 5) rfl z rfl HYD.out Tryz.underlying55 rfl (by kernel_rfl) ?_)
          | (with_reducible refine wpList_store_whole rfl 55 (.tmp 2) (.tmp 42) rfl (w.heap.size + 1) (yCells (.slice (some ⟨qb, 0, none⟩) n qcap) L (upto n lo) (upto n hi) (upto n tl)) rfl rfl HRS.out (by kernel_rfl) rfl (by simp [Value.oneCell']) ?_
             intro W9 d1 d2))
        refine bodyPost_ret (v := .tuple #[.agg (yCells (.slice (some ⟨qb, 0, none⟩) n qcap) L (upto n lo) (upto n hi) (upto n tl)), .int .i64 0])
          (results_cell_slot rfl (by rfl) d1 Tryz.underlying55 rfl (by kernel_rfl) (by rfl)) rfl ⟨rfl, hbl.trans (d2.below (by omega) (by omega))⟩

end Go.Proofs.YtckchahangnfiaaGreatDoor
