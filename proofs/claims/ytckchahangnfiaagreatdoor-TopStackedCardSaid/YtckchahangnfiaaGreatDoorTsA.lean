/- TopStacked: what lies in memory while the pieces are made. -/
import Derived.Test.YtckchahangnfiaaGreatDoorPlP
import Derived.Test.YtckchahangnfiaaGreatDoorShM
import Derived.Test.YtckchahangnfiaaGreatDoorHdG
namespace Go.Proofs.YtckchahangnfiaaGreatDoor
open Go.RowKit

def bagCells (hs : List Int) : List Value := hs.flatMap fun h => [.int .i64 1, .int .i64 h, .int .i64 h]
def parCells (hs : List Int) : List Value := hs.flatMap fun h => [.int .i64 (h + 1), .int .i64 (h + 1), .int .i64 (h + 1), .int .i64 1]
theorem bagCells_snoc (hs : List Int) (h : Int) : bagCells (hs ++ [h]) = bagCells hs ++ [.int .i64 1, .int .i64 h, .int .i64 h] := by simp [bagCells]
theorem parCells_snoc (hs : List Int) (h : Int) : parCells (hs ++ [h]) = parCells hs ++ [.int .i64 (h + 1), .int .i64 (h + 1), .int .i64 (h + 1), .int .i64 1] := by simp [parCells]
theorem rep_snoc (n : Nat) (v : Value) : List.replicate (n + 1) v = List.replicate n v ++ [v] := by rw [List.replicate_succ', ]

/-- The tin, the lane, the shelf and the yard, and the three rows. -/
structure Mem (w : World) (g : Nat) (bs : List Int) (pn : Nat) (ps : List Int) (c1 c2 c3 bv pv qv : Value) (W : World) : Prop where
  tin : TinAt W w.heap.size w.heap.size g
  lane : W.heap[w.heap.size + 1]? = some (.cells #[.int .i64 9] 3 (0, 0))
  shelf : W.heap[w.heap.size + 2]? = some (.cells #[.slice (some ⟨w.heap.size + 1, 0, none⟩) 1 1, c1, c2] 27 (0, 0))
  yard : W.heap[w.heap.size + 3]? = some (.cells #[c3, .int .i64 2] 30 (0, 0))
  bags : W.ownsRow (w.heap.size + 4) 35 3 bv bs.length (bagCells bs)
  plan : W.ownsRow (w.heap.size + 4) 3 1 pv pn (List.replicate pn (.int .i64 0))
  parc : W.ownsRow (w.heap.size + 4) 37 4 qv ps.length (parCells ps)
  below : Below w.heap.size w W
  size : w.heap.size + 4 ≤ W.heap.size

theorem own_block {W : World} {base e size n : Nat} {v : Value} {xs : List Value} (h : W.ownsRow base e size v n xs) {b : Nat} (hb : b < base) : some b ≠ v.ownBlock := by
  rcases h.2 with ⟨rfl, _⟩ | ⟨g, cap, cur, rfl, hg, _⟩
  · simp [Value.ownBlock]
  · simp [Value.ownBlock]; omega
theorem own_other {W : World} {base base' e e' size size' n n' : Nat} {v v' : Value} {xs xs' : List Value} (h : W.ownsRow base e size v n xs) (h' : W.ownsRow base' e' size' v' n' xs') (hne : e ≠ e') : v.ownBlock = none ∨ v.ownBlock ≠ v'.ownBlock := by
  rcases h.2 with ⟨rfl, _⟩ | ⟨g, cap, cur, rfl, _, hg, _⟩
  · exact .inl rfl
  · refine .inr fun e1 => ?_
    rcases h'.2 with ⟨rfl, _⟩ | ⟨g', cap', cur', rfl, _, hg', _⟩
    · simp [Value.ownBlock] at e1
    · simp [Value.ownBlock] at e1
      subst e1
      rw [hg] at hg'
      simp at hg'
      exact hne hg'.2

theorem Mem.keep {w W W' : World} {g pn : Nat} {bs ps : List Int} {c1 c2 c3 bv pv qv : Value} (h : Mem w g bs pn ps c1 c2 c3 bv pv qv W) (hB : Below W.heap.size W W') : Mem w g bs pn ps c1 c2 c3 bv pv qv W' := by
  have hz := h.size
  exact ⟨h.tin.keep fun b hb => hB.block b (by omega), (hB.block _ (by omega)).trans h.lane, (hB.block _ (by omega)).trans h.shelf, (hB.block _ (by omega)).trans h.yard,
    own_below h.bags hB, own_below h.plan hB, own_below h.parc hB, h.below.trans (hB.mono (by omega)), Nat.le_trans hz hB.size⟩
theorem Mem.tick {w W W' : World} {g pn : Nat} {bs ps : List Int} {c1 c2 c3 bv pv qv : Value} (h : Mem w g bs pn ps c1 c2 c3 bv pv qv W) (ho : Only w.heap.size W W') (ht : TinAt W' w.heap.size w.heap.size (g + 1)) : Mem w (g + 1) bs pn ps c1 c2 c3 bv pv qv W' := by
  have hz := h.size
  have hg : W.grownBy W' (some w.heap.size) := ⟨ho.os, ho.tape, ho.output, Nat.le_of_eq ho.size.symm, fun b hb hne => ho.block b (fun e => hne (by rw [e]))⟩
  refine ⟨ht, (ho.block _ (by omega)).trans h.lane, (ho.block _ (by omega)).trans h.shelf, (ho.block _ (by omega)).trans h.yard,
    h.bags.kept hg (.inr (own_block h.bags (by omega)).symm), h.plan.kept hg (.inr (own_block h.plan (by omega)).symm), h.parc.kept hg (.inr (own_block h.parc (by omega)).symm),
    h.below.trans ⟨ho.os, ho.tape, ho.output, Nat.le_of_eq ho.size.symm, fun b hb => ho.block b (by omega)⟩, by rw [ho.size]; exact hz⟩

/-- What lies below the rows stays where a row grows. -/
theorem grown_low {W W' : World} {base e size n b : Nat} {v : Value} {xs : List Value} (hr : W.ownsRow base e size v n xs) (hg : W.grownBy W' v.ownBlock) (hb : b < base) (hz : base ≤ W.heap.size) : W'.heap[b]? = W.heap[b]? :=
  hg.block b (by omega) (own_block hr hb)
theorem grown_below {W W' : World} {base e size n N : Nat} {v : Value} {xs : List Value} (hr : W.ownsRow base e size v n xs) (hg : W.grownBy W' v.ownBlock) (hN : N ≤ base) (hz : base ≤ W.heap.size) : Below N W W' :=
  ⟨hg.os, hg.tape, hg.output, hg.size, fun b hb => grown_low hr hg (by omega) hz⟩

theorem Mem.growBags {w W W' : World} {g pn : Nat} {bs ps : List Int} {c1 c2 c3 bv pv qv bv' : Value} {x : Int} (h : Mem w g bs pn ps c1 c2 c3 bv pv qv W) (hg : W.grownBy W' bv.ownBlock)
    (hr : W'.ownsRow (w.heap.size + 4) 35 3 bv' (bs.length + 1) (bagCells bs ++ [.int .i64 1, .int .i64 x, .int .i64 x])) : Mem w g (bs ++ [x]) pn ps c1 c2 c3 bv' pv qv W' := by
  have hz := h.size
  have low : ∀ b, b < w.heap.size + 4 → W'.heap[b]? = W.heap[b]? := fun b hb => grown_low h.bags hg hb hz
  exact ⟨h.tin.keep fun b hb => low b (by omega), (low _ (by omega)).trans h.lane, (low _ (by omega)).trans h.shelf, (low _ (by omega)).trans h.yard,
    by rw [List.length_append, bagCells_snoc]; exact hr, h.plan.kept hg (own_other h.plan h.bags (by decide)), h.parc.kept hg (own_other h.parc h.bags (by decide)), h.below.trans (grown_below h.bags hg (by omega) hz), Nat.le_trans hz hg.size⟩
theorem Mem.growPlan {w W W' : World} {g pn : Nat} {bs ps : List Int} {c1 c2 c3 bv pv qv pv' : Value} (h : Mem w g bs pn ps c1 c2 c3 bv pv qv W) (hg : W.grownBy W' pv.ownBlock)
    (hr : W'.ownsRow (w.heap.size + 4) 3 1 pv' (pn + 1) (List.replicate pn (.int .i64 0) ++ [.int .i64 0])) : Mem w g bs (pn + 1) ps c1 c2 c3 bv pv' qv W' := by
  have hz := h.size
  have low : ∀ b, b < w.heap.size + 4 → W'.heap[b]? = W.heap[b]? := fun b hb => grown_low h.plan hg hb hz
  exact ⟨h.tin.keep fun b hb => low b (by omega), (low _ (by omega)).trans h.lane, (low _ (by omega)).trans h.shelf, (low _ (by omega)).trans h.yard,
    h.bags.kept hg (own_other h.bags h.plan (by decide)), by rw [rep_snoc]; exact hr, h.parc.kept hg (own_other h.parc h.plan (by decide)), h.below.trans (grown_below h.plan hg (by omega) hz), Nat.le_trans hz hg.size⟩
theorem Mem.growParc {w W W' : World} {g pn : Nat} {bs ps : List Int} {c1 c2 c3 bv pv qv qv' : Value} {x : Int} (h : Mem w g bs pn ps c1 c2 c3 bv pv qv W) (hg : W.grownBy W' qv.ownBlock)
    (hr : W'.ownsRow (w.heap.size + 4) 37 4 qv' (ps.length + 1) (parCells ps ++ [.int .i64 (x + 1), .int .i64 (x + 1), .int .i64 (x + 1), .int .i64 1])) : Mem w g bs pn (ps ++ [x]) c1 c2 c3 bv pv qv' W' := by
  have hz := h.size
  have low : ∀ b, b < w.heap.size + 4 → W'.heap[b]? = W.heap[b]? := fun b hb => grown_low h.parc hg hb hz
  exact ⟨h.tin.keep fun b hb => low b (by omega), (low _ (by omega)).trans h.lane, (low _ (by omega)).trans h.shelf, (low _ (by omega)).trans h.yard,
    h.bags.kept hg (own_other h.bags h.parc (by decide)), h.plan.kept hg (own_other h.plan h.parc (by decide)), by rw [List.length_append, parCells_snoc]; exact hr, h.below.trans (grown_below h.parc hg (by omega) hz), Nat.le_trans hz hg.size⟩

/-- A store into the shelf or the yard. -/
theorem Mem.but {w W W' : World} {g pn sb : Nat} {bs ps : List Int} {c1 c2 c3 d1 d2 d3 bv pv qv : Value} (h : Mem w g bs pn ps c1 c2 c3 bv pv qv W) (hb : But (w.heap.size + sb) W W') (hsb : sb = 2 ∨ sb = 3)
    (hs : W'.heap[w.heap.size + 2]? = some (.cells #[.slice (some ⟨w.heap.size + 1, 0, none⟩) 1 1, d1, d2] 27 (0, 0))) (hy : W'.heap[w.heap.size + 3]? = some (.cells #[d3, .int .i64 2] 30 (0, 0))) :
    Mem w g bs pn ps d1 d2 d3 bv pv qv W' := by
  have hz := h.size
  have hg : W.grownBy W' (some (w.heap.size + sb)) := ⟨hb.os, hb.tape, hb.output, hb.size, fun b hlt hne => hb.block b hlt (fun e => hne (by rw [e]))⟩
  exact ⟨h.tin.keep fun b hb1 => hb.block b (by omega) (by omega), (hb.block _ (by omega) (by omega)).trans h.lane, hs, hy,
    h.bags.kept hg (.inr (own_block h.bags (by omega)).symm), h.plan.kept hg (.inr (own_block h.plan (by omega)).symm), h.parc.kept hg (.inr (own_block h.parc (by omega)).symm), h.below.trans (hb.below (by omega) (by omega)), Nat.le_trans hz hb.size⟩
theorem Mem.setBags {w W : World} {g pn : Nat} {bs ps : List Int} {c1 c2 c3 bv pv qv : Value} (h : Mem w g bs pn ps c1 c2 c3 bv pv qv W) (u : Value) : Mem w g bs pn ps u c2 c3 bv pv qv (W.setCell ⟨w.heap.size + 2, 1, none⟩ u) :=
  h.but (sb := 2) ((But.refl _ _).set _ _) (.inl rfl) (setH h.shelf 1 u) ((Below.heap_setCell _ _ _ _ (by simp)).trans h.yard)
theorem Mem.setPlan {w W : World} {g pn : Nat} {bs ps : List Int} {c1 c2 c3 bv pv qv : Value} (h : Mem w g bs pn ps c1 c2 c3 bv pv qv W) (u : Value) : Mem w g bs pn ps c1 u c3 bv pv qv (W.setCell ⟨w.heap.size + 2, 2, none⟩ u) :=
  h.but (sb := 2) ((But.refl _ _).set _ _) (.inl rfl) (setH h.shelf 2 u) ((Below.heap_setCell _ _ _ _ (by simp)).trans h.yard)
theorem Mem.setYard {w W : World} {g pn : Nat} {bs ps : List Int} {c1 c2 c3 bv pv qv : Value} (h : Mem w g bs pn ps c1 c2 c3 bv pv qv W) (u : Value) : Mem w g bs pn ps c1 c2 u bv pv qv (W.setCell ⟨w.heap.size + 3, 0, none⟩ u) :=
  h.but (sb := 3) ((But.refl _ _).set _ _) (.inr rfl) ((Below.heap_setCell _ _ _ _ (by simp)).trans h.shelf) (setH h.yard 0 u)

theorem Mem.start {w w1 : World} (hB : Below w.heap.size w w1) (hz : w1.heap.size = w.heap.size + 1) (ht : TinAt w1 w.heap.size w.heap.size 0) :
    Mem w 0 [] 0 [] (.slice none 0 0) (.slice none 0 0) (.slice none 0 0) (.slice none 0 0) (.slice none 0 0) (.slice none 0 0)
      (((w1.alloc (.cells #[.int .i64 9] 3)).alloc (.cells #[.slice (some ⟨w.heap.size + 1, 0, none⟩) 1 1, .slice none 0 0, .slice none 0 0] 27)).alloc (.cells #[.slice none 0 0, .int .i64 2] 30)) := by
  refine ⟨ht.keep fun b hb => ?_, ?_, ?_, ?_, World.ownsRow_nil _ _ _ _, World.ownsRow_nil _ _ _ _, World.ownsRow_nil _ _ _ _, ((hB.alloc (by omega) _).alloc (by simp; omega) _).alloc (by simp; omega) _, by simp; omega⟩
  · rw [Below.heap_alloc _ _ _ (by simp; omega), Below.heap_alloc _ _ _ (by simp; omega), Below.heap_alloc _ _ _ (by omega)]
  · rw [Below.heap_alloc _ _ _ (by simp; omega), Below.heap_alloc _ _ _ (by simp; omega), ← hz]
    exact heap_alloc_new w1 _
  · rw [Below.heap_alloc _ _ _ (by simp; omega)]
    have := heap_alloc_new (w1.alloc (.cells #[.int .i64 9] 3)) (.cells #[.slice (some ⟨w.heap.size + 1, 0, none⟩) 1 1, .slice none 0 0, .slice none 0 0] 27)
    rwa [World.size_alloc, hz] at this
  · have := heap_alloc_new ((w1.alloc (.cells #[.int .i64 9] 3)).alloc (.cells #[.slice (some ⟨w.heap.size + 1, 0, none⟩) 1 1, .slice none 0 0, .slice none 0 0] 27)) (.cells #[.slice none 0 0, .int .i64 2] 30)
    rwa [World.size_alloc, World.size_alloc, hz] at this

end Go.Proofs.YtckchahangnfiaaGreatDoor
