/- LOOPS OVER ITERATORS WHOSE VALUES ARE TOLD BY WHAT HOLDS OF THEM. -/
/- LOOPS OVER ITERATORS, THE WIDEST FORM: what the iterator may turn (A) and what the body may turn (U) are told by any predicate; values by what holds of them (ok); Z is kept. -/
/- A LOOP OVER AN ITERATOR WITHIN A ROUND OF ANOTHER LOOP, THE WIDEST FORM. -/
import Derived.Test.YtoobopohohoidaaGreatDoorRng
import Derived.RangeFuncNested
set_option linter.unusedSimpArgs false
set_option linter.unusedVariables false
namespace Go.Proofs.YtoobopohohoidaaGreatDoor
open Go.RowKit Go.Shelf

/-- The iterator f, called at w, yields m values, and keeps Z. -/
def IterV (P : Program) (f : FuncId) (lb : Array Value) (m : Nat) (ok : Nat → Array Value → World → Prop) (T K : Nat → Prop) (Z : World → Prop) (w : World) : Prop :=
  ∀ (l : Nat) (J : Nat → World → Prop) (Jx : World → Prop), (∀ i W W', J i W → Turn (ItT w T) W W' → J i W') → (∀ W W', Jx W → Turn (ItT w T) W W' → Jx W') → l < w.heap.size → ¬ K l → ¬ T l →
    (∀ i v W mm, i < m → ok i v W → J i W → YieldAt .wide mm P l v W fun e W' => (e = .returned (.bool true) ∧ J (i + 1) W' ∧ Turn (ItU w K) W W') ∨ (e = .returned (.bool false) ∧ Jx W' ∧ Turn (ItU w K) W W')) →
    J 0 w → Calls P f (#[.func (.yield l) #[] #[]] ++ lb) w fun e W' => (∃ v, e = .returned v) ∧ Z W' ∧ (J m W' ∨ Jx W')

/-- A LOOP OVER AN ITERATOR THAT KEEPS Z. -/
theorem range_iterV {P : Program} {g : Operand} {ps : Array Tmp} {assign body : Code} {Q : Exit → Act → World → Prop} {a : Act} {w : World} {n : Nat} {f : FuncId} {lb : Array Value} {m : Nat} {ok : Nat → Array Value → World → Prop} {T K : Nat → Prop} {Z : World → Prop}
    (hres : ∀ (l : Nat) W, (resolve a.eval (rangeCall g l) 0).run P W = .ok { target := .fn (.func f) lb, args := #[.func (.yield l) #[] #[]] } W)
    (hinv : ∀ (l : Nat) W, (invoke (.fn (.func f) lb) #[.func (.yield l) #[] #[]]).run P W = .ok (.enter f (#[.func (.yield l) #[] #[]] ++ lb)) W)
    (hval : ∀ i v W, i < m → ok i v W → v.size = ps.size) (hT : ∀ b, T b → b < w.heap.size) (hK : ∀ b, K b → b < w.heap.size)
    (hit : ∀ W, Turn (fun _ => False) w W → W.heap.size = w.heap.size + 2 → IterV P f lb m ok T K Z W)
    (J : Nat → World → Prop) (Jx : Code → World → Prop) (Bd : Nat → Nat → Act → World → Prop)
    (hJ : ∀ i W W', J i W → Turn (ItT w T) W W' → J i W') (hJx : ∀ c W W', Jx c W → Turn (ItT w T) W W' → Jx c W')
    (hBd : ∀ l i a W W', Bd l i a W → Turn (fun b => b = l) W W' → Bd l i a W')
    (hZ : ∀ W W', Z W → Turn (fun b => w.heap.size ≤ b) W W' → Z W')
    (h0 : J 0 w)
    (hassign : ∀ (l i : Nat) (v : Array Value) (W : World) (C : Act → World → Prop), i < m → ok i v W → J i W → w.heap.size ≤ l → l < W.heap.size → (∀ a1 W1, Bd l i a1 W1 → Turn (ItU w K) W W1 → C a1 W1) →
      assign.wpIn (Fence.wide.inRound l) 20 P (Exit.then C (fun _ _ _ => False)) { tmps := (ps.zip v).foldl (fun t (p, x) => t.setIfInBounds p x) a.tmps, defers := [] } W)
    (hbody : ∀ (l i : Nat) (a1 : Act) (W : World), i < m → w.heap.size ≤ l → l < W.heap.size → Bd l i a1 W → body.wpIn (Fence.wide.inRound l) 20 P (rndPost (J (i + 1)) Jx (ItU w K) W) a1 W)
    (hdone : ∀ (D : Nat) (W : World), w.heap.size ≤ D → J m W → Z W → W.heap[D]? = some (.deferred (some [])) → Q .normal { a with defers := { target := .collected D, args := #[] } :: a.defers } W)
    (hstop : ∀ (c : Code) (D : Nat) (W : World), w.heap.size ≤ D → Jx c W → Z W → W.heap[D]? = some (.deferred (some [])) → c.wpIn .wide n P Q { a with defers := { target := .collected D, args := #[] } :: a.defers } W) :
    (Code.rangeFunc g ps assign body).wpIn .wide n P Q a w := by
  refine wpIn_rangeFunc ?_
  intro fn hfn
  obtain ⟨rc, hrc⟩ : ∃ rc : Loop, { state := .ready, pending := none, fn, tmps := a.tmps, params := ps, assign, body, defers := w.heap.size } = rc := ⟨_, rfl⟩
  have r1 : rc.state = .ready := by rw [← hrc]
  have r2 : rc.pending = none := by rw [← hrc]
  have r3 : rc.params = ps := by rw [← hrc]
  have r4 : rc.fn = fn := by rw [← hrc]
  have r5 : rc.tmps = a.tmps := by rw [← hrc]
  have r6 : rc.assign = assign := by rw [← hrc]
  have r7 : rc.body = body := by rw [← hrc]
  have hent := run_enterLoop_outer (P := P) (w := w) fn a.tmps ps assign body
  rw [hrc] at hent
  have hL := World.alloc_heap_new (w.alloc (.deferred (some []))) (.loop rc)
  rw [World.size_alloc] at hL
  have hD : ((w.alloc (.deferred (some []))).alloc (.loop rc)).heap[w.heap.size]? = some (.deferred (some [])) := (Below.heap_alloc _ _ _ (by simp)).trans (World.alloc_heap_new w _)
  have hT1 : ∀ T', Turn T' w ((w.alloc (.deferred (some []))).alloc (.loop rc)) := fun T' => ((Turn.refl T' w).alloc _).alloc _
  have hz1 : ((w.alloc (.deferred (some []))).alloc (.loop rc)).heap.size = w.heap.size + 2 := by simp
  obtain ⟨W1, hW1⟩ : ∃ W1, (w.alloc (.deferred (some []))).alloc (.loop rc) = W1 := ⟨_, rfl⟩
  rw [hW1] at hent hL hD hT1 hz1
  clear hW1 hrc
  have hI1 : J 0 W1 := hJ 0 _ _ h0 (hT1 _)
  refine ⟨w.heap.size + 1, [{ target := .collected w.heap.size, args := #[] }], W1, { target := .fn (.func f) lb, args := #[.func (.yield (w.heap.size + 1)) #[] #[]] }, W1, f, #[.func (.yield (w.heap.size + 1)) #[] #[]] ++ lb, W1, hent, hres _ _, fun _ _ => trivial, hinv _ _, fun h => (by cases h), ?_⟩
  have hnt : ∀ b, w.heap.size ≤ b → b < w.heap.size + 2 → ¬ ItT W1 T b := fun b h1 h2 h => by
    rcases h with h | h
    · omega
    · have := hT _ h; omega
  have hlow : ∀ W W', Turn (ItT W1 T) W W' → Turn (ItT w T) W W' := fun W W' h => h.mono fun b _ hb => by
    rcases hb with hb | hb
    · exact .inl (by omega)
    · exact .inr hb
  have hp := hit W1 (hT1 _) hz1 (w.heap.size + 1)
    (fun i W => J i W ∧ W.heap[w.heap.size + 1]? = some (.loop rc) ∧ W.heap[w.heap.size]? = some (.deferred (some [])))
    (fun W => ∃ c, Jx c W ∧ W.heap[w.heap.size + 1]? = some (.loop { rc with state := .done, pending := some c }) ∧ W.heap[w.heap.size]? = some (.deferred (some [])))
    (fun i W W' ⟨h1, h2, h3⟩ ht => ⟨hJ _ _ _ h1 (hlow _ _ ht), (ht.block _ (Array.getElem?_eq_some_iff.1 h2).1 (hnt _ (by omega) (by omega))).trans h2, (ht.block _ (Array.getElem?_eq_some_iff.1 h3).1 (hnt _ (by omega) (by omega))).trans h3⟩)
    (fun W W' ⟨c, h1, h2, h3⟩ ht => ⟨c, hJx _ _ _ h1 (hlow _ _ ht), (ht.block _ (Array.getElem?_eq_some_iff.1 h2).1 (hnt _ (by omega) (by omega))).trans h2, (ht.block _ (Array.getElem?_eq_some_iff.1 h3).1 (hnt _ (by omega) (by omega))).trans h3⟩)
    (by omega) (fun h => absurd (hK _ h) (by omega)) (fun h => absurd (hT _ h) (by omega)) ?_ ⟨hI1, hL, hD⟩
  · refine (callsIn_wide.2 hp).mono ?_
    rintro e W2 ⟨⟨v, rfl⟩, hz2, (⟨hi, hl, hd⟩ | ⟨c, hx, hl, hd⟩)⟩
    · exact ⟨none, _, by rw [← r2]; exact run_endLoop hl (by rw [r1]; simp), hdone _ _ (Nat.le_refl _) (hJ _ _ _ hi ((Turn.refl _ _).putObj (.inl (by omega)) _)) (hZ _ _ hz2 ((Turn.refl _ _).putObj (show w.heap.size ≤ w.heap.size + 1 by omega) _)) ((World.putObj_heap_other (by omega)).trans hd)⟩
    · exact ⟨some c, _, run_endLoop hl (by simp), hstop _ _ _ (Nat.le_refl _) (hJx _ _ _ hx ((Turn.refl _ _).putObj (.inl (by omega)) _)) (hZ _ _ hz2 ((Turn.refl _ _).putObj (show w.heap.size ≤ w.heap.size + 1 by omega) _)) ((World.putObj_heap_other (by omega)).trans hd)⟩
  · rintro i v W mm him hv ⟨hi, hl, hd⟩
    have hlt : w.heap.size + 1 < W.heap.size := (Array.getElem?_eq_some_iff.1 hl).1
    have hy := run_yield (P := P) (args := v) hl (by rw [r3]; exact hval i v W him hv)
    rw [r3, r4, r5, r6, r7] at hy
    have hU : ∀ A B, Turn (ItU w K) A B → Turn (ItU W1 K) A B := fun A B h => h.mono fun b _ hb => ⟨by have := hb.1; omega, hb.2⟩
    have hUl : ItU W1 K (w.heap.size + 1) := ⟨by omega, fun h => absurd (hK _ h) (by omega)⟩
    refine ⟨fn, _, assign, body, hy, roundWide' (n := 20) (roundIn_of_wpIn hfn (hassign _ i v W _ him hv hi (by omega) hlt ?_))⟩
    intro a1 W0 hBd0 hT0
    have hl0 : W0.heap[w.heap.size + 1]? = some (.loop rc) := (hT0.block _ hlt (fun h => by have := h.1; omega)).trans hl
    have hd0 : W0.heap[w.heap.size]? = some (.deferred (some [])) := (hT0.block _ (by omega) (fun h => by have := h.1; omega)).trans hd
    have hlt0 : w.heap.size + 1 < W0.heap.size := (Array.getElem?_eq_some_iff.1 hl0).1
    refine ⟨_, run_beginRound hl0 r1, ?_⟩
    have hl2 : (W0.putObj (w.heap.size + 1) (.loop { rc with state := .busy })).heap[w.heap.size + 1]? = some (.loop { rc with state := .busy }) := World.putObj_heap_same hlt0
    have hd2 : (W0.putObj (w.heap.size + 1) (.loop { rc with state := .busy })).heap[w.heap.size]? = some (.deferred (some [])) := (World.putObj_heap_other (by omega)).trans hd0
    have hf2 : Turn (ItU W1 K) W (W0.putObj (w.heap.size + 1) (.loop { rc with state := .busy })) := (hU _ _ hT0).putObj hUl _
    have hz2 : (W0.putObj (w.heap.size + 1) (.loop { rc with state := .busy })).heap.size = W0.heap.size := by simp [World.putObj]
    refine wpIn_mono (hbody _ i a1 _ him (by omega) (by omega) (hBd _ _ _ _ _ hBd0 ((Turn.refl (fun b => b = w.heap.size + 1) _).putObj (l := w.heap.size + 1) rfl _))) ?_
    rintro e a3 W3 hp
    cases e with
    | normal =>
      obtain ⟨hi3, hB⟩ := hp
      have hl3 := (hB.block _ (by omega) (fun h => by have := h.1; omega)).trans hl2
      refine ⟨_, _, run_endRound none hl3, .inl ⟨rfl, ⟨hJ _ _ _ hi3 ((Turn.refl _ _).putObj (.inl (by omega)) _), ?_, (World.putObj_heap_other (by omega)).trans ((hB.block _ (by omega) (fun h => by have := h.1; omega)).trans hd2)⟩, (hf2.trans (hU _ _ hB)).putObj hUl _⟩⟩
      rw [World.putObj_heap_same (Array.getElem?_eq_some_iff.1 hl3).1]
      congr 2
      cases rc
      simp_all
    | exit k =>
      obtain ⟨hi3, hB⟩ := hp
      have hl3 := (hB.block _ (by omega) (fun h => by have := h.1; omega)).trans hl2
      refine ⟨_, _, run_endRound (some (.exit k)) hl3, .inr ⟨rfl, ⟨_, hJx _ _ _ hi3 ((Turn.refl _ _).putObj (.inl (by omega)) _), ?_, (World.putObj_heap_other (by omega)).trans ((hB.block _ (by omega) (fun h => by have := h.1; omega)).trans hd2)⟩, (hf2.trans (hU _ _ hB)).putObj hUl _⟩⟩
      rw [World.putObj_heap_same (Array.getElem?_eq_some_iff.1 hl3).1]
      rfl
    | ret =>
      obtain ⟨hi3, hB⟩ := hp
      have hl3 := (hB.block _ (by omega) (fun h => by have := h.1; omega)).trans hl2
      refine ⟨_, _, run_endRound (some .ret) hl3, .inr ⟨rfl, ⟨_, hJx _ _ _ hi3 ((Turn.refl _ _).putObj (.inl (by omega)) _), ?_, (World.putObj_heap_other (by omega)).trans ((hB.block _ (by omega) (fun h => by have := h.1; omega)).trans hd2)⟩, (hf2.trans (hU _ _ hB)).putObj hUl _⟩⟩
      rw [World.putObj_heap_same (Array.getElem?_eq_some_iff.1 hl3).1]
      rfl
    | goto t => exact hp.elim
    | panic ch => exact hp.elim
    | outgrown => exact hp.elim

end Go.Proofs.YtoobopohohoidaaGreatDoor

namespace Go.Proofs.YtoobopohohoidaaGreatDoor
open Go.RowKit Go.Shelf

def IterA (P : Program) (f : FuncId) (lb : Array Value) (m : Nat) (ok : Nat → Array Value → World → Prop) (A U : Nat → Prop) (Z : World → Prop) (w : World) : Prop :=
  ∀ (l : Nat) (J : Nat → World → Prop) (Jx : World → Prop), (∀ i W W', J i W → Turn A W W' → J i W') → (∀ W W', Jx W → Turn A W W' → Jx W') → l < w.heap.size →
    (∀ i v W mm, i < m → ok i v W → J i W → YieldAt .wide mm P l v W fun e W' => (e = .returned (.bool true) ∧ J (i + 1) W' ∧ Turn U W W') ∨ (e = .returned (.bool false) ∧ Jx W' ∧ Turn U W W')) →
    J 0 w → Calls P f (#[.func (.yield l) #[] #[]] ++ lb) w fun e W' => (∃ v, e = .returned v) ∧ Z W' ∧ (J m W' ∨ Jx W')

/-- What the body of a loop over it may turn. -/
abbrev BodyU (w : World) (U : Nat → Prop) : Nat → Prop := fun b => U b ∧ b ≠ w.heap.size ∧ b ≠ w.heap.size + 1
/-- What may turn between rounds. -/
abbrev LoopT (w : World) (A : Nat → Prop) : Nat → Prop := fun b => b = w.heap.size ∨ b = w.heap.size + 1 ∨ A b

theorem range_iterA {P : Program} {g : Operand} {ps : Array Tmp} {assign body : Code} {Q : Exit → Act → World → Prop} {a : Act} {w : World} {n : Nat} {f : FuncId} {lb : Array Value} {m : Nat} {ok : Nat → Array Value → World → Prop} {A U : Nat → Prop} {Z : World → Prop}
    (hres : ∀ (l : Nat) W, (resolve a.eval (rangeCall g l) 0).run P W = .ok { target := .fn (.func f) lb, args := #[.func (.yield l) #[] #[]] } W)
    (hinv : ∀ (l : Nat) W, (invoke (.fn (.func f) lb) #[.func (.yield l) #[] #[]]).run P W = .ok (.enter f (#[.func (.yield l) #[] #[]] ++ lb)) W)
    (hval : ∀ i v W, i < m → ok i v W → v.size = ps.size) (hA0 : ¬ A w.heap.size) (hA1 : ¬ A (w.heap.size + 1)) (hU1 : U (w.heap.size + 1))
    (hit : ∀ W, Turn (fun _ => False) w W → W.heap.size = w.heap.size + 2 → IterA P f lb m ok A U Z W)
    (J : Nat → World → Prop) (Jx : Code → World → Prop) (Bd : Nat → Act → World → Prop)
    (hJ : ∀ i W W', J i W → Turn (LoopT w A) W W' → J i W') (hJx : ∀ c W W', Jx c W → Turn (LoopT w A) W W' → Jx c W')
    (hBd : ∀ i a W W', Bd i a W → Turn (fun b => b = w.heap.size + 1) W W' → Bd i a W')
    (hZ : ∀ W W', Z W → Turn (fun b => b = w.heap.size ∨ b = w.heap.size + 1) W W' → Z W')
    (h0 : J 0 w)
    (hassign : ∀ (i : Nat) (v : Array Value) (W : World) (C : Act → World → Prop), i < m → ok i v W → J i W → (w.heap.size + 2 ≤ W.heap.size ∧ ∃ rc, W.heap[w.heap.size + 1]? = some (.loop rc)) → (∀ a1 W1, Bd i a1 W1 → Turn (BodyU w U) W W1 → C a1 W1) →
      assign.wpIn (Fence.wide.inRound (w.heap.size + 1)) 20 P (Exit.then C (fun _ _ _ => False)) { tmps := (ps.zip v).foldl (fun t (p, x) => t.setIfInBounds p x) a.tmps, defers := [] } W)
    (hbody : ∀ (i : Nat) (a1 : Act) (W : World), i < m → (∃ rc, W.heap[w.heap.size + 1]? = some (.loop rc)) → W.heap[w.heap.size]? = some (.deferred (some [])) → Bd i a1 W → body.wpIn (Fence.wide.inRound (w.heap.size + 1)) 20 P (rndPost (J (i + 1)) Jx (BodyU w U) W) a1 W)
    (hdone : ∀ (W : World), J m W → Z W → W.heap[w.heap.size]? = some (.deferred (some [])) → Q .normal { a with defers := { target := .collected w.heap.size, args := #[] } :: a.defers } W)
    (hstop : ∀ (c : Code) (W : World), Jx c W → Z W → W.heap[w.heap.size]? = some (.deferred (some [])) → c.wpIn .wide n P Q { a with defers := { target := .collected w.heap.size, args := #[] } :: a.defers } W) :
    (Code.rangeFunc g ps assign body).wpIn .wide n P Q a w := by
  refine wpIn_rangeFunc ?_
  intro fn hfn
  obtain ⟨rc, hrc⟩ : ∃ rc : Loop, { state := .ready, pending := none, fn, tmps := a.tmps, params := ps, assign, body, defers := w.heap.size } = rc := ⟨_, rfl⟩
  have r1 : rc.state = .ready := by rw [← hrc]
  have r2 : rc.pending = none := by rw [← hrc]
  have r3 : rc.params = ps := by rw [← hrc]
  have r4 : rc.fn = fn := by rw [← hrc]
  have r5 : rc.tmps = a.tmps := by rw [← hrc]
  have r6 : rc.assign = assign := by rw [← hrc]
  have r7 : rc.body = body := by rw [← hrc]
  have hent := run_enterLoop_outer (P := P) (w := w) fn a.tmps ps assign body
  rw [hrc] at hent
  have hL := World.alloc_heap_new (w.alloc (.deferred (some []))) (.loop rc)
  rw [World.size_alloc] at hL
  have hD : ((w.alloc (.deferred (some []))).alloc (.loop rc)).heap[w.heap.size]? = some (.deferred (some [])) := (Below.heap_alloc _ _ _ (by simp)).trans (World.alloc_heap_new w _)
  have hT1 : ∀ T', Turn T' w ((w.alloc (.deferred (some []))).alloc (.loop rc)) := fun T' => ((Turn.refl T' w).alloc _).alloc _
  have hz1 : ((w.alloc (.deferred (some []))).alloc (.loop rc)).heap.size = w.heap.size + 2 := by simp
  obtain ⟨W1, hW1⟩ : ∃ W1, (w.alloc (.deferred (some []))).alloc (.loop rc) = W1 := ⟨_, rfl⟩
  rw [hW1] at hent hL hD hT1 hz1
  clear hW1 hrc
  have hI1 : J 0 W1 := hJ 0 _ _ h0 (hT1 _)
  refine ⟨w.heap.size + 1, [{ target := .collected w.heap.size, args := #[] }], W1, { target := .fn (.func f) lb, args := #[.func (.yield (w.heap.size + 1)) #[] #[]] }, W1, f, #[.func (.yield (w.heap.size + 1)) #[] #[]] ++ lb, W1, hent, hres _ _, fun _ _ => trivial, hinv _ _, fun h => (by cases h), ?_⟩
  have hlow : ∀ W W', Turn A W W' → Turn (LoopT w A) W W' := fun W W' h => h.mono fun b _ hb => .inr (.inr hb)
  have hp := hit W1 (hT1 _) hz1 (w.heap.size + 1)
    (fun i W => J i W ∧ W.heap[w.heap.size + 1]? = some (.loop rc) ∧ W.heap[w.heap.size]? = some (.deferred (some [])))
    (fun W => ∃ c, Jx c W ∧ W.heap[w.heap.size + 1]? = some (.loop { rc with state := .done, pending := some c }) ∧ W.heap[w.heap.size]? = some (.deferred (some [])))
    (fun i W W' ⟨h1, h2, h3⟩ ht => ⟨hJ _ _ _ h1 (hlow _ _ ht), (ht.block _ (Array.getElem?_eq_some_iff.1 h2).1 hA1).trans h2, (ht.block _ (Array.getElem?_eq_some_iff.1 h3).1 hA0).trans h3⟩)
    (fun W W' ⟨c, h1, h2, h3⟩ ht => ⟨c, hJx _ _ _ h1 (hlow _ _ ht), (ht.block _ (Array.getElem?_eq_some_iff.1 h2).1 hA1).trans h2, (ht.block _ (Array.getElem?_eq_some_iff.1 h3).1 hA0).trans h3⟩)
    (by omega) ?_ ⟨hI1, hL, hD⟩
  · refine (callsIn_wide.2 hp).mono ?_
    rintro e W2 ⟨⟨v, rfl⟩, hz2, (⟨hi, hl, hd⟩ | ⟨c, hx, hl, hd⟩)⟩
    · exact ⟨none, _, by rw [← r2]; exact run_endLoop hl (by rw [r1]; simp), hdone _ (hJ _ _ _ hi ((Turn.refl _ _).putObj (.inr (.inl rfl)) _)) (hZ _ _ hz2 ((Turn.refl _ _).putObj (.inr rfl) _)) ((World.putObj_heap_other (by omega)).trans hd)⟩
    · exact ⟨some c, _, run_endLoop hl (by simp), hstop _ _ (hJx _ _ _ hx ((Turn.refl _ _).putObj (.inr (.inl rfl)) _)) (hZ _ _ hz2 ((Turn.refl _ _).putObj (.inr rfl) _)) ((World.putObj_heap_other (by omega)).trans hd)⟩
  · rintro i v W mm him hv ⟨hi, hl, hd⟩
    have hlt : w.heap.size + 1 < W.heap.size := (Array.getElem?_eq_some_iff.1 hl).1
    have hy := run_yield (P := P) (args := v) hl (by rw [r3]; exact hval i v W him hv)
    rw [r3, r4, r5, r6, r7] at hy
    have hU : ∀ X Y, Turn (BodyU w U) X Y → Turn U X Y := fun X Y h => h.mono fun b _ hb => hb.1
    refine ⟨fn, _, assign, body, hy, roundWide' (n := 20) (roundIn_of_wpIn hfn (hassign i v W _ him hv hi ⟨by omega, _, hl⟩ ?_))⟩
    intro a1 W0 hBd0 hT0
    have hl0 : W0.heap[w.heap.size + 1]? = some (.loop rc) := (hT0.block _ hlt (fun h => h.2.2 rfl)).trans hl
    have hd0 : W0.heap[w.heap.size]? = some (.deferred (some [])) := (hT0.block _ (by omega) (fun h => h.2.1 rfl)).trans hd
    have hlt0 : w.heap.size + 1 < W0.heap.size := (Array.getElem?_eq_some_iff.1 hl0).1
    refine ⟨_, run_beginRound hl0 r1, ?_⟩
    have hl2 : (W0.putObj (w.heap.size + 1) (.loop { rc with state := .busy })).heap[w.heap.size + 1]? = some (.loop { rc with state := .busy }) := World.putObj_heap_same hlt0
    have hd2 : (W0.putObj (w.heap.size + 1) (.loop { rc with state := .busy })).heap[w.heap.size]? = some (.deferred (some [])) := (World.putObj_heap_other (by omega)).trans hd0
    have hf2 : Turn U W (W0.putObj (w.heap.size + 1) (.loop { rc with state := .busy })) := (hU _ _ hT0).putObj hU1 _
    have hz2 : (W0.putObj (w.heap.size + 1) (.loop { rc with state := .busy })).heap.size = W0.heap.size := by simp [World.putObj]
    refine wpIn_mono (hbody i a1 _ him ⟨_, hl2⟩ hd2 (hBd _ _ _ _ hBd0 ((Turn.refl (fun b => b = w.heap.size + 1) _).putObj (l := w.heap.size + 1) rfl _))) ?_
    rintro e a3 W3 hp
    cases e with
    | normal =>
      obtain ⟨hi3, hB⟩ := hp
      have hl3 := (hB.block _ (by omega) (fun h => h.2.2 rfl)).trans hl2
      refine ⟨_, _, run_endRound none hl3, .inl ⟨rfl, ⟨hJ _ _ _ hi3 ((Turn.refl _ _).putObj (.inr (.inl rfl)) _), ?_, (World.putObj_heap_other (by omega)).trans ((hB.block _ (by omega) (fun h => h.2.1 rfl)).trans hd2)⟩, (hf2.trans (hU _ _ hB)).putObj hU1 _⟩⟩
      rw [World.putObj_heap_same (Array.getElem?_eq_some_iff.1 hl3).1]
      congr 2
      cases rc
      simp_all
    | exit k =>
      obtain ⟨hi3, hB⟩ := hp
      have hl3 := (hB.block _ (by omega) (fun h => h.2.2 rfl)).trans hl2
      refine ⟨_, _, run_endRound (some (.exit k)) hl3, .inr ⟨rfl, ⟨_, hJx _ _ _ hi3 ((Turn.refl _ _).putObj (.inr (.inl rfl)) _), ?_, (World.putObj_heap_other (by omega)).trans ((hB.block _ (by omega) (fun h => h.2.1 rfl)).trans hd2)⟩, (hf2.trans (hU _ _ hB)).putObj hU1 _⟩⟩
      rw [World.putObj_heap_same (Array.getElem?_eq_some_iff.1 hl3).1]
      rfl
    | ret =>
      obtain ⟨hi3, hB⟩ := hp
      have hl3 := (hB.block _ (by omega) (fun h => h.2.2 rfl)).trans hl2
      refine ⟨_, _, run_endRound (some .ret) hl3, .inr ⟨rfl, ⟨_, hJx _ _ _ hi3 ((Turn.refl _ _).putObj (.inr (.inl rfl)) _), ?_, (World.putObj_heap_other (by omega)).trans ((hB.block _ (by omega) (fun h => h.2.1 rfl)).trans hd2)⟩, (hf2.trans (hU _ _ hB)).putObj hU1 _⟩⟩
      rw [World.putObj_heap_same (Array.getElem?_eq_some_iff.1 hl3).1]
      rfl
    | goto t => exact hp.elim
    | panic ch => exact hp.elim
    | outgrown => exact hp.elim

theorem Turn.then_new {T : Nat → Prop} {w W W' : World} (h : Turn T w W) (k : Turn (fun b => w.heap.size ≤ b) W W') : Turn T w W' :=
  ⟨Nat.le_trans h.size k.size, k.os.trans h.os, k.tape.trans h.tape, k.output.trans h.output, fun b hb hn => (k.block b (Nat.lt_of_lt_of_le hb h.size) (by omega)).trans (h.block b hb hn)⟩

end Go.Proofs.YtoobopohohoidaaGreatDoor

namespace Go.Proofs.YtoobopohohoidaaGreatDoor
open Go.RowKit Go.Shelf

abbrev BodyUN (w : World) (U : Nat → Prop) : Nat → Prop := fun b => U b ∧ b ≠ w.heap.size
abbrev LoopTN (w : World) (A : Nat → Prop) : Nat → Prop := fun b => b = w.heap.size ∨ A b

theorem range_iterN {P : Program} {g : Operand} {ps : Array Tmp} {assign body : Code} {Q : Exit → Act → World → Prop} {a : Act} {w : World} {n l0 : Nat} {f : FuncId} {lb : Array Value} {m : Nat} {ok : Nat → Array Value → World → Prop} {A U : Nat → Prop} {Z : World → Prop}
    (hl0 : ∃ r0, w.heap[l0]? = some (.loop r0))
    (hres : ∀ (l : Nat) W, (resolve a.eval (rangeCall g l) 0).run P W = .ok { target := .fn (.func f) lb, args := #[.func (.yield l) #[] #[]] } W)
    (hinv : ∀ (l : Nat) W, (invoke (.fn (.func f) lb) #[.func (.yield l) #[] #[]]).run P W = .ok (.enter f (#[.func (.yield l) #[] #[]] ++ lb)) W)
    (hval : ∀ i v W, i < m → ok i v W → v.size = ps.size) (hA1 : ¬ A w.heap.size) (hU1 : U w.heap.size)
    (hit : ∀ W, Turn (fun _ => False) w W → W.heap.size = w.heap.size + 1 → IterA P f lb m ok A U Z W)
    (J : Nat → World → Prop) (Jx : Code → World → Prop) (Bd : Nat → Act → World → Prop)
    (hJ : ∀ i W W', J i W → Turn (LoopTN w A) W W' → J i W') (hJx : ∀ c W W', Jx c W → Turn (LoopTN w A) W W' → Jx c W')
    (hBd : ∀ i a W W', Bd i a W → Turn (fun b => b = w.heap.size) W W' → Bd i a W')
    (hZ : ∀ W W', Z W → Turn (fun b => b = w.heap.size) W W' → Z W')
    (h0 : J 0 w)
    (hassign : ∀ (i : Nat) (v : Array Value) (W : World) (C : Act → World → Prop), i < m → ok i v W → J i W → (w.heap.size + 1 ≤ W.heap.size ∧ ∃ rc, W.heap[w.heap.size]? = some (.loop rc)) → (∀ a1 W1, Bd i a1 W1 → Turn (BodyUN w U) W W1 → C a1 W1) →
      assign.wpIn (Fence.wide.inRound w.heap.size) 20 P (Exit.then C (fun _ _ _ => False)) { tmps := (ps.zip v).foldl (fun t (p, x) => t.setIfInBounds p x) a.tmps, defers := [] } W)
    (hbody : ∀ (i : Nat) (a1 : Act) (W : World), i < m → (∃ rc, W.heap[w.heap.size]? = some (.loop rc)) → Bd i a1 W → body.wpIn (Fence.wide.inRound w.heap.size) 20 P (rndPost (J (i + 1)) Jx (BodyUN w U) W) a1 W)
    (hdone : ∀ (W : World), J m W → Z W → Q .normal a W)
    (hstop : ∀ (c : Code) (W : World), Jx c W → Z W → c.wpIn (Fence.wide.inRound l0) n P Q a W) :
    (Code.rangeFunc g ps assign body).wpIn (Fence.wide.inRound l0) n P Q a w := by
  obtain ⟨r0, hr0⟩ := hl0
  refine wpIn_rangeFunc ?_
  intro fn hfn
  obtain ⟨rc, hrc⟩ : ∃ rc : Loop, { state := .ready, pending := none, fn, tmps := a.tmps, params := ps, assign, body, defers := r0.defers } = rc := ⟨_, rfl⟩
  have r1 : rc.state = .ready := by rw [← hrc]
  have r2 : rc.pending = none := by rw [← hrc]
  have r3 : rc.params = ps := by rw [← hrc]
  have r4 : rc.fn = fn := by rw [← hrc]
  have r5 : rc.tmps = a.tmps := by rw [← hrc]
  have r6 : rc.assign = assign := by rw [← hrc]
  have r7 : rc.body = body := by rw [← hrc]
  have hent := run_enterLoop_inner (P := P) hr0 fn a.tmps ps assign body
  rw [hrc] at hent
  have hL := World.alloc_heap_new w (.loop rc)
  have hT1 : ∀ T', Turn T' w (w.alloc (.loop rc)) := fun T' => (Turn.refl T' w).alloc _
  have hz1 : (w.alloc (.loop rc)).heap.size = w.heap.size + 1 := by simp
  obtain ⟨W1, hW1⟩ : ∃ W1, w.alloc (.loop rc) = W1 := ⟨_, rfl⟩
  rw [hW1] at hent hL hT1 hz1
  clear hW1 hrc
  have hI1 : J 0 W1 := hJ 0 _ _ h0 (hT1 _)
  refine ⟨w.heap.size, [], W1, { target := .fn (.func f) lb, args := #[.func (.yield w.heap.size) #[] #[]] }, W1, f, #[.func (.yield w.heap.size) #[] #[]] ++ lb, W1, hent, hres _ _, fun _ _ => trivial, hinv _ _, fun h => (by cases h), ?_⟩
  have hlow : ∀ W W', Turn A W W' → Turn (LoopTN w A) W W' := fun W W' h => h.mono fun b _ hb => .inr hb
  have hp := hit W1 (hT1 _) hz1 w.heap.size
    (fun i W => J i W ∧ W.heap[w.heap.size]? = some (.loop rc))
    (fun W => ∃ c, Jx c W ∧ W.heap[w.heap.size]? = some (.loop { rc with state := .done, pending := some c }))
    (fun i W W' ⟨h1, h2⟩ ht => ⟨hJ _ _ _ h1 (hlow _ _ ht), (ht.block _ (Array.getElem?_eq_some_iff.1 h2).1 hA1).trans h2⟩)
    (fun W W' ⟨c, h1, h2⟩ ht => ⟨c, hJx _ _ _ h1 (hlow _ _ ht), (ht.block _ (Array.getElem?_eq_some_iff.1 h2).1 hA1).trans h2⟩)
    (by omega) ?_ ⟨hI1, hL⟩
  · refine CallsIn.inRound (F := .wide) l0 ((callsIn_wide.2 hp).mono ?_)
    rintro e W2 ⟨⟨v, rfl⟩, hz2, (⟨hi, hl⟩ | ⟨c, hx, hl⟩)⟩
    · exact ⟨none, _, by rw [← r2]; exact run_endLoop hl (by rw [r1]; simp), hdone _ (hJ _ _ _ hi ((Turn.refl _ _).putObj (.inl rfl) _)) (hZ _ _ hz2 ((Turn.refl (fun b => b = w.heap.size) _).putObj (l := w.heap.size) rfl _))⟩
    · exact ⟨some c, _, run_endLoop hl (by simp), hstop _ _ (hJx _ _ _ hx ((Turn.refl _ _).putObj (.inl rfl) _)) (hZ _ _ hz2 ((Turn.refl (fun b => b = w.heap.size) _).putObj (l := w.heap.size) rfl _))⟩
  · rintro i v W mm him hv ⟨hi, hl⟩
    have hlt : w.heap.size < W.heap.size := (Array.getElem?_eq_some_iff.1 hl).1
    have hy := run_yield (P := P) (args := v) hl (by rw [r3]; exact hval i v W him hv)
    rw [r3, r4, r5, r6, r7] at hy
    have hU : ∀ X Y, Turn (BodyUN w U) X Y → Turn U X Y := fun X Y h => h.mono fun b _ hb => hb.1
    refine ⟨fn, _, assign, body, hy, roundWide' (n := 20) (roundIn_of_wpIn (F := .wide) trivial (hassign i v W _ him hv hi ⟨by omega, _, hl⟩ ?_))⟩
    intro a1 W0 hBd0 hT0
    have hl0 : W0.heap[w.heap.size]? = some (.loop rc) := (hT0.block _ hlt (fun h => h.2 rfl)).trans hl
    have hlt0 : w.heap.size < W0.heap.size := (Array.getElem?_eq_some_iff.1 hl0).1
    refine ⟨_, run_beginRound hl0 r1, ?_⟩
    have hl2 : (W0.putObj w.heap.size (.loop { rc with state := .busy })).heap[w.heap.size]? = some (.loop { rc with state := .busy }) := World.putObj_heap_same hlt0
    have hf2 : Turn U W (W0.putObj w.heap.size (.loop { rc with state := .busy })) := (hU _ _ hT0).putObj hU1 _
    have hz2 : (W0.putObj w.heap.size (.loop { rc with state := .busy })).heap.size = W0.heap.size := by simp [World.putObj]
    refine wpIn_mono (hbody i a1 _ him ⟨_, hl2⟩ (hBd _ _ _ _ hBd0 ((Turn.refl (fun b => b = w.heap.size) _).putObj (l := w.heap.size) rfl _))) ?_
    rintro e a3 W3 hp
    cases e with
    | normal =>
      obtain ⟨hi3, hB⟩ := hp
      have hl3 := (hB.block _ (by omega) (fun h => h.2 rfl)).trans hl2
      refine ⟨_, _, run_endRound none hl3, .inl ⟨rfl, ⟨hJ _ _ _ hi3 ((Turn.refl _ _).putObj (.inl rfl) _), ?_⟩, (hf2.trans (hU _ _ hB)).putObj hU1 _⟩⟩
      rw [World.putObj_heap_same (Array.getElem?_eq_some_iff.1 hl3).1]
      congr 2
      cases rc
      simp_all
    | exit k =>
      obtain ⟨hi3, hB⟩ := hp
      have hl3 := (hB.block _ (by omega) (fun h => h.2 rfl)).trans hl2
      refine ⟨_, _, run_endRound (some (.exit k)) hl3, .inr ⟨rfl, ⟨_, hJx _ _ _ hi3 ((Turn.refl _ _).putObj (.inl rfl) _), ?_⟩, (hf2.trans (hU _ _ hB)).putObj hU1 _⟩⟩
      rw [World.putObj_heap_same (Array.getElem?_eq_some_iff.1 hl3).1]
      rfl
    | ret =>
      obtain ⟨hi3, hB⟩ := hp
      have hl3 := (hB.block _ (by omega) (fun h => h.2 rfl)).trans hl2
      refine ⟨_, _, run_endRound (some .ret) hl3, .inr ⟨rfl, ⟨_, hJx _ _ _ hi3 ((Turn.refl _ _).putObj (.inl rfl) _), ?_⟩, (hf2.trans (hU _ _ hB)).putObj hU1 _⟩⟩
      rw [World.putObj_heap_same (Array.getElem?_eq_some_iff.1 hl3).1]
      rfl
    | goto t => exact hp.elim
    | panic ch => exact hp.elim
    | outgrown => exact hp.elim

end Go.Proofs.YtoobopohohoidaaGreatDoor
