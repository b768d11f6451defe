/- LOOPS OVER ITERATORS, IN GENERAL: an iterator is told by the list that it yields, the blocks that it may turn (T), and those that the loop's body must leave (K). -/
/- A LAW FOR REGIONS THAT DRAW THEIR ORDER, IN ANY FENCE (rounds of loops over iterators too): what yields the same in every world that meets S may be taken first. -/
/- LOOPS OVER ITERATORS THAT KEEP SOMETHING OF THEIR OWN. -/
import Derived.Test.YtoobopohohoidaaGreatDoorGen
import Derived.RangeFuncNested
import Derived.RangeFuncBound
import Derived.RangeFuncCalls
import Derived.RangeFuncLeaves
import Derived.RangeFuncFrom
import Derived.Shelf.Abstract
import Derived.Shelf.RegionOpen
import Derived.OwnWalkIn
import Derived.TacticsInMore
import Derived.LoopNIn
import Derived.LoopIn
import Derived.OrdersHeld
import Derived.OrdersIn
import Derived.RegionIn
import Derived.Deep.RegionHeld3
set_option linter.unusedSimpArgs false
set_option linter.unusedVariables false
namespace Go.Proofs.YtoobopohohoidaaGreatDoor
open Go.RowKit Go.Shelf

/-- Of what there was, blocks of T alone may have turned. -/
structure Turn (T : Nat → Prop) (w w' : World) : Prop where
  size : w.heap.size ≤ w'.heap.size
  os : w'.os = w.os
  tape : w'.tape = w.tape
  output : w'.output = w.output
  block : ∀ b, b < w.heap.size → ¬ T b → w'.heap[b]? = w.heap[b]?
theorem Turn.refl (T : Nat → Prop) (w : World) : Turn T w w := ⟨Nat.le_refl _, rfl, rfl, rfl, fun _ _ _ => rfl⟩
theorem Turn.trans {T : Nat → Prop} {a b c : World} (h : Turn T a b) (k : Turn T b c) : Turn T a c :=
  ⟨Nat.le_trans h.size k.size, k.os.trans h.os, k.tape.trans h.tape, k.output.trans h.output, fun i hi hn => (k.block i (Nat.lt_of_lt_of_le hi h.size) hn).trans (h.block i hi hn)⟩
theorem Turn.mono {T T' : Nat → Prop} {w w' : World} (h : Turn T w w') (hT : ∀ b, b < w.heap.size → T b → T' b) : Turn T' w w' :=
  ⟨h.size, h.os, h.tape, h.output, fun b hb hn => h.block b hb fun ht => hn (hT b hb ht)⟩
theorem Turn.of_below {N : Nat} {w w' : World} (h : Below N w w') : Turn (fun b => N ≤ b) w w' := ⟨h.size, h.os, h.tape, h.output, fun b _ hn => h.block b (by omega)⟩
theorem Turn.of_below' {w w' : World} (h : Below w.heap.size w w') (T : Nat → Prop) : Turn T w w' := ⟨h.size, h.os, h.tape, h.output, fun b hb _ => h.block b hb⟩
theorem Turn.of_but {sb : Nat} {w w' : World} (h : But sb w w') : Turn (fun b => b = sb) w w' := ⟨h.size, h.os, h.tape, h.output, fun b hb hn => h.block b hb hn⟩
theorem Turn.below {T : Nat → Prop} {N : Nat} {w w' : World} (h : Turn T w w') (hT : ∀ b, b < N → ¬ T b) (hN : N ≤ w.heap.size) : Below N w w' := ⟨h.os, h.tape, h.output, h.size, fun b hb => h.block b (by omega) (hT b hb)⟩
theorem Turn.putObj {T : Nat → Prop} {a w : World} (h : Turn T a w) {l : Nat} (hl : T l) (o : Obj) : Turn T a (w.putObj l o) :=
  ⟨by simpa [World.putObj] using h.size, h.os, h.tape, h.output, fun b hb hn => (World.putObj_heap_other (fun e => hn (by rw [e]; exact hl))).trans (h.block b hb hn)⟩
theorem Turn.alloc {T : Nat → Prop} {a w : World} (h : Turn T a w) (o : Obj) : Turn T a (w.alloc o) :=
  ⟨Nat.le_trans h.size (by simp), h.os, h.tape, h.output, fun b hb hn => (Below.heap_alloc _ _ _ (Nat.lt_of_lt_of_le hb h.size)).trans (h.block b hb hn)⟩
theorem Turn.drew {T : Nat → Prop} {a w : World} (h : Turn T a w) : Turn T a w.drew := ⟨h.size, h.os, h.tape, h.output, h.block⟩
theorem Turn.drewN {T : Nat → Prop} {a w : World} (h : Turn T a w) (d : Nat) : Turn T a (w.drewN d) := ⟨h.size, h.os, h.tape, h.output, h.block⟩
theorem Turn.cell {T : Nat → Prop} {w w' : World} (h : Turn T w w') {p : Addr} (hp : p.block < w.heap.size) (hn : ¬ T p.block) : w'.cell? p = w.cell? p := by unfold World.cell?; rw [h.block _ hp hn]
theorem Turn.new {T : Nat → Prop} {w w' : World} (h : Turn T w w') (hT : ∀ b, b < w.heap.size → ¬ T b) : Below w.heap.size w w' := h.below hT (Nat.le_refl _)

/-- What an iterator, called at w, may turn. -/
abbrev ItT (w : World) (T : Nat → Prop) : Nat → Prop := fun b => w.heap.size ≤ b ∨ T b
/-- What a body, behind w, may turn. -/
abbrev ItU (w : World) (K : Nat → Prop) : Nat → Prop := fun b => b < w.heap.size ∧ ¬ K b

/-- The iterator f, called at w, yields m values. -/
def Iter (P : Program) (f : FuncId) (lb : Array Value) (m : Nat) (val : Nat → Array Value) (T K : Nat → Prop) (w : World) : Prop :=
  ∀ (l : Nat) (J : Nat → World → Prop) (Jx : World → Prop), (∀ i W W', J i W → Turn (ItT w T) W W' → J i W') → (∀ W W', Jx W → Turn (ItT w T) W W' → Jx W') → l < w.heap.size → ¬ K l → ¬ T l →
    (∀ i W mm, i < m → J i W → YieldAt .wide mm P l (val i) W fun e W' => (e = .returned (.bool true) ∧ J (i + 1) W' ∧ Turn (ItU w K) W W') ∨ (e = .returned (.bool false) ∧ Jx W' ∧ Turn (ItU w K) W W')) →
    J 0 w → Calls P f (#[.func (.yield l) #[] #[]] ++ lb) w fun e W' => (∃ v, e = .returned v) ∧ (J m W' ∨ Jx W')

theorem roundWide' {n m : Nat} {P : Program} {l : Nat} {f : FuncId} {tmps : Array Value} {assign body : Code} {w : World} {R : Ending → World → Prop} (h : RoundIn .wide n P l f tmps assign body w R) : RoundIn .wide m P l f tmps assign body w R :=
  ⟨h.1, fun c cs _ => h.2 c cs (room_wide _)⟩

/-- How a round may be left. -/
def rndPost (J : World → Prop) (Jx : Code → World → Prop) (U : Nat → Prop) (W : World) : Exit → Act → World → Prop
  | .normal, _, W' => J W' ∧ Turn U W W'
  | .exit i, _, W' => Jx (.exit i) W' ∧ Turn U W W'
  | .ret, _, W' => Jx .ret W' ∧ Turn U W W'
  | _, _, _ => False

/-- A LOOP OVER AN ITERATOR. -/
theorem range_iter {P : Program} {g : Operand} {ps : Array Tmp} {assign body : Code} {Q : Exit → Act → World → Prop} {a : Act} {w : World} {n : Nat} {f : FuncId} {lb : Array Value} {m : Nat} {val : Nat → Array Value} {T K : Nat → Prop}
    (hres : ∀ (l : Nat) W, (resolve a.eval (rangeCall g l) 0).run P W = .ok { target := .fn (.func f) lb, args := #[.func (.yield l) #[] #[]] } W)
    (hinv : ∀ (l : Nat) W, (invoke (.fn (.func f) lb) #[.func (.yield l) #[] #[]]).run P W = .ok (.enter f (#[.func (.yield l) #[] #[]] ++ lb)) W)
    (hval : ∀ i, i < m → (val i).size = ps.size) (hT : ∀ b, T b → b < w.heap.size) (hK : ∀ b, K b → b < w.heap.size)
    (hit : ∀ W, Turn (fun _ => False) w W → W.heap.size = w.heap.size + 2 → Iter P f lb m val T K W)
    (J : Nat → World → Prop) (Jx : Code → World → Prop) (Bd : Nat → Nat → Act → World → Prop)
    (hJ : ∀ i W W', J i W → Turn (ItT w T) W W' → J i W') (hJx : ∀ c W W', Jx c W → Turn (ItT w T) W W' → Jx c W')
    (hBd : ∀ l i a W W', Bd l i a W → Turn (fun b => b = l) W W' → Bd l i a W')
    (h0 : J 0 w)
    (hassign : ∀ (l i : Nat) (W : World) (C : Act → World → Prop), i < m → J i W → w.heap.size ≤ l → l < W.heap.size → (∀ a1 W1, Bd l i a1 W1 → Turn (ItU w K) W W1 → C a1 W1) →
      assign.wpIn (Fence.wide.inRound l) 20 P (Exit.then C (fun _ _ _ => False)) { tmps := (ps.zip (val i)).foldl (fun t (p, v) => t.setIfInBounds p v) a.tmps, defers := [] } W)
    (hbody : ∀ (l i : Nat) (a1 : Act) (W : World), i < m → w.heap.size ≤ l → l < W.heap.size → Bd l i a1 W → body.wpIn (Fence.wide.inRound l) 20 P (rndPost (J (i + 1)) Jx (ItU w K) W) a1 W)
    (hdone : ∀ (D : Nat) (W : World), w.heap.size ≤ D → J m W → W.heap[D]? = some (.deferred (some [])) → Q .normal { a with defers := { target := .collected D, args := #[] } :: a.defers } W)
    (hstop : ∀ (c : Code) (D : Nat) (W : World), w.heap.size ≤ D → Jx c W → W.heap[D]? = some (.deferred (some [])) → c.wpIn .wide n P Q { a with defers := { target := .collected D, args := #[] } :: a.defers } W) :
    (Code.rangeFunc g ps assign body).wpIn .wide n P Q a w := by
  refine wpIn_rangeFunc ?_
  intro fn hfn
  obtain ⟨rc, hrc⟩ : ∃ rc : Loop, { state := .ready, pending := none, fn, tmps := a.tmps, params := ps, assign, body, defers := w.heap.size } = rc := ⟨_, rfl⟩
  have r1 : rc.state = .ready := by rw [← hrc]
  have r2 : rc.pending = none := by rw [← hrc]
  have r3 : rc.params = ps := by rw [← hrc]
  have r4 : rc.fn = fn := by rw [← hrc]
  have r5 : rc.tmps = a.tmps := by rw [← hrc]
  have r6 : rc.assign = assign := by rw [← hrc]
  have r7 : rc.body = body := by rw [← hrc]
  have hent := run_enterLoop_outer (P := P) (w := w) fn a.tmps ps assign body
  rw [hrc] at hent
  have hL := World.alloc_heap_new (w.alloc (.deferred (some []))) (.loop rc)
  rw [World.size_alloc] at hL
  have hD : ((w.alloc (.deferred (some []))).alloc (.loop rc)).heap[w.heap.size]? = some (.deferred (some [])) := (Below.heap_alloc _ _ _ (by simp)).trans (World.alloc_heap_new w _)
  have hT1 : ∀ T', Turn T' w ((w.alloc (.deferred (some []))).alloc (.loop rc)) := fun T' => ((Turn.refl T' w).alloc _).alloc _
  have hz1 : ((w.alloc (.deferred (some []))).alloc (.loop rc)).heap.size = w.heap.size + 2 := by simp
  obtain ⟨W1, hW1⟩ : ∃ W1, (w.alloc (.deferred (some []))).alloc (.loop rc) = W1 := ⟨_, rfl⟩
  rw [hW1] at hent hL hD hT1 hz1
  clear hW1 hrc
  have hI1 : J 0 W1 := hJ 0 _ _ h0 (hT1 _)
  refine ⟨w.heap.size + 1, [{ target := .collected w.heap.size, args := #[] }], W1, { target := .fn (.func f) lb, args := #[.func (.yield (w.heap.size + 1)) #[] #[]] }, W1, f, #[.func (.yield (w.heap.size + 1)) #[] #[]] ++ lb, W1, hent, hres _ _, fun _ _ => trivial, hinv _ _, fun h => (by cases h), ?_⟩
  have hnt : ∀ b, w.heap.size ≤ b → b < w.heap.size + 2 → ¬ ItT W1 T b := fun b h1 h2 h => by
    rcases h with h | h
    · omega
    · have := hT _ h; omega
  have hlow : ∀ W W', Turn (ItT W1 T) W W' → Turn (ItT w T) W W' := fun W W' h => h.mono fun b _ hb => by
    rcases hb with hb | hb
    · exact .inl (by omega)
    · exact .inr hb
  have hp := hit W1 (hT1 _) hz1 (w.heap.size + 1)
    (fun i W => J i W ∧ W.heap[w.heap.size + 1]? = some (.loop rc) ∧ W.heap[w.heap.size]? = some (.deferred (some [])))
    (fun W => ∃ c, Jx c W ∧ W.heap[w.heap.size + 1]? = some (.loop { rc with state := .done, pending := some c }) ∧ W.heap[w.heap.size]? = some (.deferred (some [])))
    (fun i W W' ⟨h1, h2, h3⟩ ht => ⟨hJ _ _ _ h1 (hlow _ _ ht), (ht.block _ (Array.getElem?_eq_some_iff.1 h2).1 (hnt _ (by omega) (by omega))).trans h2, (ht.block _ (Array.getElem?_eq_some_iff.1 h3).1 (hnt _ (by omega) (by omega))).trans h3⟩)
    (fun W W' ⟨c, h1, h2, h3⟩ ht => ⟨c, hJx _ _ _ h1 (hlow _ _ ht), (ht.block _ (Array.getElem?_eq_some_iff.1 h2).1 (hnt _ (by omega) (by omega))).trans h2, (ht.block _ (Array.getElem?_eq_some_iff.1 h3).1 (hnt _ (by omega) (by omega))).trans h3⟩)
    (by omega) (fun h => absurd (hK _ h) (by omega)) (fun h => absurd (hT _ h) (by omega)) ?_ ⟨hI1, hL, hD⟩
  · refine (callsIn_wide.2 hp).mono ?_
    rintro e W2 ⟨⟨v, rfl⟩, (⟨hi, hl, hd⟩ | ⟨c, hx, hl, hd⟩)⟩
    · exact ⟨none, _, by rw [← r2]; exact run_endLoop hl (by rw [r1]; simp), hdone _ _ (Nat.le_refl _) (hJ _ _ _ hi ((Turn.refl _ _).putObj (.inl (by omega)) _)) ((World.putObj_heap_other (by omega)).trans hd)⟩
    · exact ⟨some c, _, run_endLoop hl (by simp), hstop _ _ _ (Nat.le_refl _) (hJx _ _ _ hx ((Turn.refl _ _).putObj (.inl (by omega)) _)) ((World.putObj_heap_other (by omega)).trans hd)⟩
  · rintro i W mm him ⟨hi, hl, hd⟩
    have hlt : w.heap.size + 1 < W.heap.size := (Array.getElem?_eq_some_iff.1 hl).1
    have hy := run_yield (P := P) (args := val i) hl (by rw [r3]; exact hval i him)
    rw [r3, r4, r5, r6, r7] at hy
    have hU : ∀ A B, Turn (ItU w K) A B → Turn (ItU W1 K) A B := fun A B h => h.mono fun b _ hb => ⟨by have := hb.1; omega, hb.2⟩
    have hUl : ItU W1 K (w.heap.size + 1) := ⟨by omega, fun h => absurd (hK _ h) (by omega)⟩
    refine ⟨fn, _, assign, body, hy, roundWide' (n := 20) (roundIn_of_wpIn hfn (hassign _ i W _ him hi (by omega) hlt ?_))⟩
    intro a1 W0 hBd0 hT0
    have hl0 : W0.heap[w.heap.size + 1]? = some (.loop rc) := (hT0.block _ hlt (fun h => by have := h.1; omega)).trans hl
    have hd0 : W0.heap[w.heap.size]? = some (.deferred (some [])) := (hT0.block _ (by omega) (fun h => by have := h.1; omega)).trans hd
    have hlt0 : w.heap.size + 1 < W0.heap.size := (Array.getElem?_eq_some_iff.1 hl0).1
    refine ⟨_, run_beginRound hl0 r1, ?_⟩
    have hl2 : (W0.putObj (w.heap.size + 1) (.loop { rc with state := .busy })).heap[w.heap.size + 1]? = some (.loop { rc with state := .busy }) := World.putObj_heap_same hlt0
    have hd2 : (W0.putObj (w.heap.size + 1) (.loop { rc with state := .busy })).heap[w.heap.size]? = some (.deferred (some [])) := (World.putObj_heap_other (by omega)).trans hd0
    have hf2 : Turn (ItU W1 K) W (W0.putObj (w.heap.size + 1) (.loop { rc with state := .busy })) := (hU _ _ hT0).putObj hUl _
    have hz2 : (W0.putObj (w.heap.size + 1) (.loop { rc with state := .busy })).heap.size = W0.heap.size := by simp [World.putObj]
    refine wpIn_mono (hbody _ i a1 _ him (by omega) (by omega) (hBd _ _ _ _ _ hBd0 ((Turn.refl (fun b => b = w.heap.size + 1) _).putObj (l := w.heap.size + 1) rfl _))) ?_
    rintro e a3 W3 hp
    cases e with
    | normal =>
      obtain ⟨hi3, hB⟩ := hp
      have hl3 := (hB.block _ (by omega) (fun h => by have := h.1; omega)).trans hl2
      refine ⟨_, _, run_endRound none hl3, .inl ⟨rfl, ⟨hJ _ _ _ hi3 ((Turn.refl _ _).putObj (.inl (by omega)) _), ?_, (World.putObj_heap_other (by omega)).trans ((hB.block _ (by omega) (fun h => by have := h.1; omega)).trans hd2)⟩, (hf2.trans (hU _ _ hB)).putObj hUl _⟩⟩
      rw [World.putObj_heap_same (Array.getElem?_eq_some_iff.1 hl3).1]
      congr 2
      cases rc
      simp_all
    | exit k =>
      obtain ⟨hi3, hB⟩ := hp
      have hl3 := (hB.block _ (by omega) (fun h => by have := h.1; omega)).trans hl2
      refine ⟨_, _, run_endRound (some (.exit k)) hl3, .inr ⟨rfl, ⟨_, hJx _ _ _ hi3 ((Turn.refl _ _).putObj (.inl (by omega)) _), ?_, (World.putObj_heap_other (by omega)).trans ((hB.block _ (by omega) (fun h => by have := h.1; omega)).trans hd2)⟩, (hf2.trans (hU _ _ hB)).putObj hUl _⟩⟩
      rw [World.putObj_heap_same (Array.getElem?_eq_some_iff.1 hl3).1]
      rfl
    | ret =>
      obtain ⟨hi3, hB⟩ := hp
      have hl3 := (hB.block _ (by omega) (fun h => by have := h.1; omega)).trans hl2
      refine ⟨_, _, run_endRound (some .ret) hl3, .inr ⟨rfl, ⟨_, hJx _ _ _ hi3 ((Turn.refl _ _).putObj (.inl (by omega)) _), ?_, (World.putObj_heap_other (by omega)).trans ((hB.block _ (by omega) (fun h => by have := h.1; omega)).trans hd2)⟩, (hf2.trans (hU _ _ hB)).putObj hUl _⟩⟩
      rw [World.putObj_heap_same (Array.getElem?_eq_some_iff.1 hl3).1]
      rfl
    | goto t => exact hp.elim
    | panic ch => exact hp.elim
    | outgrown => exact hp.elim

end Go.Proofs.YtoobopohohoidaaGreatDoor

namespace Go.Proofs.YtoobopohohoidaaGreatDoor
open Go

section
variable {F : Fence} {n : Nat} {P : Program} {ops : Array Oper} {Q : Exit → Act → World → Prop} {md : Region.Mode} {S : World → Prop}

/-- No operation defers. -/
def noDefer (ops : Array Oper) : Bool := ops.all fun o => match o.op with | .defer _ => false | _ => true
theorem noDefer_sem (h : noDefer ops = true) {j : Nat} {o : Oper} (hj : ops[j]? = some o) (ro : Option Nat) (ρ : Operand → Value) : Oper.semAt ro ρ o = execOp ρ o := by
  refine Oper.semAt_eq ro ρ o fun c e => ?_
  obtain ⟨hlt, rfl⟩ := Array.getElem?_eq_some_iff.1 hj
  have := (Array.all_eq_true.1 h) j hlt
  rw [e] at this
  cases this

theorem yieldsIf_wpOpI {i : Nat} {o : Oper} {v : Value} {a : Act} (hfn : ∀ f, F.fn f) (hnd : noDefer ops = true) (hi : ops[i]? = some o) (hy : YieldsIf P ops S o v a)
    {K : Act → World → Prop} {w : World} (hS : S w) (h : K (a.put o.dst v) w) : wpOpIn F n P ops Q i K a w := by
  unfold Go.wpOpIn
  simp only [hi]
  rcases hy with ⟨hw, hv⟩ | ⟨hw, rfl⟩
  · simp only [hw, if_true, Oper.wpIn, noDefer_sem hnd hi, hv w hS, Oper.uponIn]; exact ⟨fun f _ => hfn f, h⟩
  · simp only [hw, Bool.false_eq_true, if_false]; exact ⟨fun f _ => hfn f, h⟩

theorem wpOpI_put {j : Nat} {oi oj : Oper} {v : Value} (hfn : ∀ f, F.fn f) (hnd : noDefer ops = true) (hj : ops[j]? = some oj) (hap : oi.apart ops oj = true)
    (hsi : ∀ cs b, oi.op ≠ .select cs b) (hsj : ∀ cs b, oj.op ≠ .select cs b)
    (hQ : ∀ c a w, Q (.panic c) (a.put oi.dst v) w → Q (.panic c) a w) {K : Act → World → Prop} {a : Act} {w : World}
    (hy : YieldsIf P ops S oi v a) (h : wpOpIn F n P ops Q j K (a.put oi.dst v) w) :
    wpOpIn F n P ops Q j (fun a' w' => YieldsIf P ops S oi v a' ∧ K (a'.put oi.dst v) w') a w := by
  obtain ⟨h1, h2, h3⟩ := Oper.apart_spec hap
  have keep : ∀ (a : Act), YieldsIf P ops S oi v a → ∀ u, YieldsIf P ops S oi v (a.put oj.dst u) := fun a hy u =>
    hy.of_same (execOp_put oi hsi a oj.dst u h3) (wanted_put oi a oj.dst u h3)
  have keepD : ∀ d, YieldsIf P ops S oi v { a with defers := d :: a.defers } := fun d => hy.of_same rfl rfl
  have hj0 := hj
  unfold wpOpIn at *
  simp only [hj] at h ⊢
  rw [wanted_put oj a oi.dst v h1] at h
  split
  · rename_i hw
    simp only [hw, if_true] at h
    unfold Oper.wpIn at *
    refine ⟨fun f _ => hfn f, ?_⟩
    have h := h.2
    rw [noDefer_sem hnd hj0, execOp_put oj hsj a oi.dst v h1] at h
    rw [noDefer_sem hnd hj0]
    generalize (execOp a.eval oj).run P w = r at *
    cases r with
    | ok x w' =>
      cases x <;> simp only [Oper.uponIn] at h ⊢
      case value u => exact ⟨keep a hy u, by rw [← Act.put_comm a v u h2]; exact h⟩
      case skip => exact ⟨keep a hy _, by rw [← Act.put_comm a v undef h2]; exact h⟩
      case defer d =>
        refine ⟨keep _ (keepD d) _, ?_⟩
        rw [← Act.put_comm _ v undef h2, ← Act.put_defers]
        exact h
      case enter f args =>
        refine ⟨h.1, CallsIn.mono h.2 fun e w'' he => ?_⟩
        cases e with
        | returned u => exact ⟨keep a hy u, by rw [← Act.put_comm a v u h2]; exact he⟩
        | panicked c => exact hQ _ _ _ he
        | outgrown => exact he
      case row row args => exact ⟨h.1, RowsIn.mono h.2 fun u w'' he => ⟨keep a hy u, by rw [← Act.put_comm a v u h2]; exact he⟩⟩
      case round l f tmps assign body =>
        refine ⟨h.1, RoundIn.mono h.2 fun e w'' he => ?_⟩
        cases e with
        | returned u => exact ⟨keep a hy u, by rw [← Act.put_comm a v u h2]; exact he⟩
        | panicked c => exact hQ _ _ _ he
        | outgrown => exact he
    | halt x w' =>
      cases x <;> simp only [Oper.uponIn] at h ⊢
      case panic u => exact hQ _ _ _ h
  · rename_i hw
    simp only [hw] at h
    exact ⟨fun f _ => hfn f, keep a hy _, by rw [← Act.put_comm a v undef h2]; exact h.2⟩

/-- Whatever order is picked from here on, and S holds behind each operation. -/
def wpAnyI (F : Fence) (n : Nat) (P : Program) (md : Region.Mode) (ops : Array Oper) (Q : Exit → Act → World → Prop) (S : World → Prop) : Nat → Array Bool → Act → World → Prop
  | 0, listed, a, w => Region.ready md ops listed = [] ∧ Q .normal a w
  | fuel + 1, listed, a, w =>
    (Region.ready md ops listed = [] → Q .normal a w) ∧
    ∀ i ∈ Region.ready md ops listed, wpOpIn F n P ops Q i (fun a' w' => S w' ∧ wpAnyI F n P md ops Q S fuel (listed.setIfInBounds i true) a' w') a w

theorem wpAnyIn_of_I : ∀ (fuel : Nat) (listed : Array Bool) (a : Act) (w : World), wpAnyI F n P md ops Q S fuel listed a w → wpAnyIn F n P md ops Q fuel listed a w
  | 0, _, _, _, h => h
  | fuel + 1, _, _, _, h => ⟨h.1, fun i hi => wpOpIn_mono (fun a' w' h' => wpAnyIn_of_I fuel _ a' w' h'.2) (h.2 i hi)⟩

theorem wpAnyI_first {i : Nat} {oi : Oper} {v : Value} (hfn : ∀ f, F.fn f) (hnd : noDefer ops = true) (hi : ops[i]? = some oi) (hsel : ∀ (j : Nat) (o : Oper) cs b, ops[j]? = some o → o.op ≠ .select cs b)
    (hQ : ∀ c a w, Q (.panic c) (a.put oi.dst v) w → Q (.panic c) a w) :
    ∀ (fuel : Nat) (listed : Array Bool) (a : Act) (w : World),
      (∀ j oj, ops[j]? = some oj → j ≠ i → listed.getD j true = false → (∀ e ∈ oj.after, Region.binds md e = true → e.on ≠ i) → oi.apart ops oj = true) →
      i ∈ Region.ready md ops listed → YieldsIf P ops S oi v a → S w →
      wpAnyI F n P md ops Q S fuel (listed.setIfInBounds i true) (a.put oi.dst v) w → wpAnyI F n P md ops Q S (fuel + 1) listed a w := by
  intro fuel
  induction fuel with
  | zero =>
    intro listed a w _ hr hy hS H
    refine ⟨fun h => (by rw [h] at hr; cases hr), fun j hj => ?_⟩
    by_cases hji : j = i
    · subst hji; exact yieldsIf_wpOpI hfn hnd hi hy hS ⟨hS, H⟩
    · have := ready_mono hj hji
      rw [H.1] at this
      cases this
  | succ fuel ih =>
    intro listed a w hfree hr hy hS H
    refine ⟨fun h => (by rw [h] at hr; cases hr), fun j hj => ?_⟩
    by_cases hji : j = i
    · subst hji; exact yieldsIf_wpOpI hfn hnd hi hy hS ⟨hS, H⟩
    · have h1 := H.2 j (ready_mono hj hji)
      obtain ⟨hjun, oj, hoj, hall⟩ := mem_ready.1 hj
      have hnot : ∀ e ∈ oj.after, Region.binds md e = true → e.on ≠ i := fun e he hb heq => by
        have h1 := hall e he hb
        have h0 := (mem_ready.1 hr).1
        rw [heq] at h1
        rcases Nat.lt_or_ge i listed.size with h' | h'
        · simp [h'] at h0 h1; rw [h0] at h1; cases h1
        · simp [Array.getElem?_eq_none h'] at h1
      have h2 := wpOpI_put hfn hnd hoj (hfree j oj hoj hji hjun hnot) (fun cs b => hsel i oi cs b hi) (fun cs b => hsel j oj cs b hoj) hQ hy h1
      have hri := ready_mono hr (Ne.symm hji)
      have hfree' : ∀ k ok, ops[k]? = some ok → k ≠ i → (listed.setIfInBounds j true).getD k true = false →
          (∀ e ∈ ok.after, Region.binds md e = true → e.on ≠ i) → oi.apart ops ok = true := fun k ok hk hki hun hno => by
        refine hfree k ok hk hki ?_ hno
        by_cases hjk : j = k
        · subst hjk; exact hjun
        · rw [getD_set_ne true hjk] at hun; exact hun
      refine wpOpIn_mono (fun a' w' h3 => ⟨h3.2.1, ih (listed.setIfInBounds j true) a' w' hfree' hri h3.1 h3.2.1 ?_⟩) h2
      rw [Array.setIfInBounds_comm _ _ hji]
      exact h3.2.2

/-- Number 'i' first. -/
theorem wpAnyI_take {i : Nat} {oi : Oper} {v : Value} {fuel : Nat} {listed : Array Bool} {a : Act} {w : World} (hfn : ∀ f, F.fn f) (hnd : noDefer ops = true) (hi : ops[i]? = some oi)
    (hs : Region.noSelect ops = true) (hf : Region.free md ops listed i = true) (hr : (Region.ready md ops listed).contains i = true)
    (hQ : ∀ c a w, Q (.panic c) (a.put oi.dst v) w → Q (.panic c) a w) (hS : S w) (hy : YieldsIf P ops S oi v a)
    (h : wpAnyI F n P md ops Q S fuel (listed.setIfInBounds i true) (a.put oi.dst v) w) : wpAnyI F n P md ops Q S (fuel + 1) listed a w :=
  wpAnyI_first hfn hnd hi (Region.noSelect_spec hs) hQ fuel listed a w (Region.free_spec hi hf) (by simpa using hr) hy hS h

/-- Number 'i', which alone may come up. -/
theorem wpAnyI_one {i : Nat} {o : Oper} {fuel : Nat} {listed : Array Bool} {a : Act} {w : World} (hr : Region.ready md ops listed = [i]) (ho : ops[i]? = some o)
    (h : ∀ K' : Act → World → Prop, (∀ a w, S w → wpAnyI F n P md ops Q S fuel (listed.setIfInBounds i true) a w → K' a w) → if Region.wanted o (yielded ops a.tmps) = true then Oper.wpIn F n P o a w K' Q else (∀ f, o.about P w a.eval = some f → F.fn f) ∧ K' (a.put o.dst undef) w) :
    wpAnyI F n P md ops Q S (fuel + 1) listed a w := by
  refine ⟨fun h0 => (by rw [hr] at h0; cases h0), fun j hj => ?_⟩
  rw [hr] at hj
  obtain rfl : j = i := by simpa using hj
  exact wpOpIn_step ho fun K' hK' => h K' fun a w h1 h2 => hK' a w ⟨h1, h2⟩

theorem wpAnyI_done {listed : Array Bool} {a : Act} {w : World} (hr : Region.ready md ops listed = []) (h : Q .normal a w) : ∀ fuel, wpAnyI F n P md ops Q S fuel listed a w
  | 0 => ⟨hr, h⟩
  | _ + 1 => ⟨fun _ => h, by rw [hr]; simp⟩

theorem wpIn_region_heldI {id : Nat} {a : Act} {w : World} (hm : P.follows .mixedOrders = true)
    (h : wpAnyI F n P .any ops Q S ops.size (Array.replicate ops.size false) a w.drew) : (Code.region id ops true).wpIn F n P Q a w :=
  wpIn_region_any hm (wpAnyIn_of_I _ _ _ _ h)

/-- .. that does not panic: whatever the post says of a panic. -/
theorem wpIn_region_heldN {id : Nat} {a : Act} {w : World} (hm : P.follows .mixedOrders = true)
    (h : wpAnyI F n P .any ops (NoPanic Q) S ops.size (Array.replicate ops.size false) a w.drew) : (Code.region id ops true).wpIn F n P Q a w :=
  wpIn_mono (wpIn_region_heldI hm h) NoPanic.imp

end
end Go.Proofs.YtoobopohohoidaaGreatDoor

namespace Go.Proofs.YtoobopohohoidaaGreatDoor
open Go.RowKit Go.Shelf

/-- The iterator f, called at w, yields m values, and keeps Z. -/
def IterZ (P : Program) (f : FuncId) (lb : Array Value) (m : Nat) (val : Nat → Array Value) (T K : Nat → Prop) (Z : World → Prop) (w : World) : Prop :=
  ∀ (l : Nat) (J : Nat → World → Prop) (Jx : World → Prop), (∀ i W W', J i W → Turn (ItT w T) W W' → J i W') → (∀ W W', Jx W → Turn (ItT w T) W W' → Jx W') → l < w.heap.size → ¬ K l → ¬ T l →
    (∀ i W mm, i < m → J i W → YieldAt .wide mm P l (val i) W fun e W' => (e = .returned (.bool true) ∧ J (i + 1) W' ∧ Turn (ItU w K) W W') ∨ (e = .returned (.bool false) ∧ Jx W' ∧ Turn (ItU w K) W W')) →
    J 0 w → Calls P f (#[.func (.yield l) #[] #[]] ++ lb) w fun e W' => (∃ v, e = .returned v) ∧ Z W' ∧ (J m W' ∨ Jx W')

/-- A LOOP OVER AN ITERATOR THAT KEEPS Z. -/
theorem range_iterZ {P : Program} {g : Operand} {ps : Array Tmp} {assign body : Code} {Q : Exit → Act → World → Prop} {a : Act} {w : World} {n : Nat} {f : FuncId} {lb : Array Value} {m : Nat} {val : Nat → Array Value} {T K : Nat → Prop} {Z : World → Prop}
    (hres : ∀ (l : Nat) W, (resolve a.eval (rangeCall g l) 0).run P W = .ok { target := .fn (.func f) lb, args := #[.func (.yield l) #[] #[]] } W)
    (hinv : ∀ (l : Nat) W, (invoke (.fn (.func f) lb) #[.func (.yield l) #[] #[]]).run P W = .ok (.enter f (#[.func (.yield l) #[] #[]] ++ lb)) W)
    (hval : ∀ i, i < m → (val i).size = ps.size) (hT : ∀ b, T b → b < w.heap.size) (hK : ∀ b, K b → b < w.heap.size)
    (hit : ∀ W, Turn (fun _ => False) w W → W.heap.size = w.heap.size + 2 → IterZ P f lb m val T K Z W)
    (J : Nat → World → Prop) (Jx : Code → World → Prop) (Bd : Nat → Nat → Act → World → Prop)
    (hJ : ∀ i W W', J i W → Turn (ItT w T) W W' → J i W') (hJx : ∀ c W W', Jx c W → Turn (ItT w T) W W' → Jx c W')
    (hBd : ∀ l i a W W', Bd l i a W → Turn (fun b => b = l) W W' → Bd l i a W')
    (hZ : ∀ W W', Z W → Turn (fun b => w.heap.size ≤ b) W W' → Z W')
    (h0 : J 0 w)
    (hassign : ∀ (l i : Nat) (W : World) (C : Act → World → Prop), i < m → J i W → w.heap.size ≤ l → l < W.heap.size → (∀ a1 W1, Bd l i a1 W1 → Turn (ItU w K) W W1 → C a1 W1) →
      assign.wpIn (Fence.wide.inRound l) 20 P (Exit.then C (fun _ _ _ => False)) { tmps := (ps.zip (val i)).foldl (fun t (p, v) => t.setIfInBounds p v) a.tmps, defers := [] } W)
    (hbody : ∀ (l i : Nat) (a1 : Act) (W : World), i < m → w.heap.size ≤ l → l < W.heap.size → Bd l i a1 W → body.wpIn (Fence.wide.inRound l) 20 P (rndPost (J (i + 1)) Jx (ItU w K) W) a1 W)
    (hdone : ∀ (D : Nat) (W : World), w.heap.size ≤ D → J m W → Z W → W.heap[D]? = some (.deferred (some [])) → Q .normal { a with defers := { target := .collected D, args := #[] } :: a.defers } W)
    (hstop : ∀ (c : Code) (D : Nat) (W : World), w.heap.size ≤ D → Jx c W → Z W → W.heap[D]? = some (.deferred (some [])) → c.wpIn .wide n P Q { a with defers := { target := .collected D, args := #[] } :: a.defers } W) :
    (Code.rangeFunc g ps assign body).wpIn .wide n P Q a w := by
  refine wpIn_rangeFunc ?_
  intro fn hfn
  obtain ⟨rc, hrc⟩ : ∃ rc : Loop, { state := .ready, pending := none, fn, tmps := a.tmps, params := ps, assign, body, defers := w.heap.size } = rc := ⟨_, rfl⟩
  have r1 : rc.state = .ready := by rw [← hrc]
  have r2 : rc.pending = none := by rw [← hrc]
  have r3 : rc.params = ps := by rw [← hrc]
  have r4 : rc.fn = fn := by rw [← hrc]
  have r5 : rc.tmps = a.tmps := by rw [← hrc]
  have r6 : rc.assign = assign := by rw [← hrc]
  have r7 : rc.body = body := by rw [← hrc]
  have hent := run_enterLoop_outer (P := P) (w := w) fn a.tmps ps assign body
  rw [hrc] at hent
  have hL := World.alloc_heap_new (w.alloc (.deferred (some []))) (.loop rc)
  rw [World.size_alloc] at hL
  have hD : ((w.alloc (.deferred (some []))).alloc (.loop rc)).heap[w.heap.size]? = some (.deferred (some [])) := (Below.heap_alloc _ _ _ (by simp)).trans (World.alloc_heap_new w _)
  have hT1 : ∀ T', Turn T' w ((w.alloc (.deferred (some []))).alloc (.loop rc)) := fun T' => ((Turn.refl T' w).alloc _).alloc _
  have hz1 : ((w.alloc (.deferred (some []))).alloc (.loop rc)).heap.size = w.heap.size + 2 := by simp
  obtain ⟨W1, hW1⟩ : ∃ W1, (w.alloc (.deferred (some []))).alloc (.loop rc) = W1 := ⟨_, rfl⟩
  rw [hW1] at hent hL hD hT1 hz1
  clear hW1 hrc
  have hI1 : J 0 W1 := hJ 0 _ _ h0 (hT1 _)
  refine ⟨w.heap.size + 1, [{ target := .collected w.heap.size, args := #[] }], W1, { target := .fn (.func f) lb, args := #[.func (.yield (w.heap.size + 1)) #[] #[]] }, W1, f, #[.func (.yield (w.heap.size + 1)) #[] #[]] ++ lb, W1, hent, hres _ _, fun _ _ => trivial, hinv _ _, fun h => (by cases h), ?_⟩
  have hnt : ∀ b, w.heap.size ≤ b → b < w.heap.size + 2 → ¬ ItT W1 T b := fun b h1 h2 h => by
    rcases h with h | h
    · omega
    · have := hT _ h; omega
  have hlow : ∀ W W', Turn (ItT W1 T) W W' → Turn (ItT w T) W W' := fun W W' h => h.mono fun b _ hb => by
    rcases hb with hb | hb
    · exact .inl (by omega)
    · exact .inr hb
  have hp := hit W1 (hT1 _) hz1 (w.heap.size + 1)
    (fun i W => J i W ∧ W.heap[w.heap.size + 1]? = some (.loop rc) ∧ W.heap[w.heap.size]? = some (.deferred (some [])))
    (fun W => ∃ c, Jx c W ∧ W.heap[w.heap.size + 1]? = some (.loop { rc with state := .done, pending := some c }) ∧ W.heap[w.heap.size]? = some (.deferred (some [])))
    (fun i W W' ⟨h1, h2, h3⟩ ht => ⟨hJ _ _ _ h1 (hlow _ _ ht), (ht.block _ (Array.getElem?_eq_some_iff.1 h2).1 (hnt _ (by omega) (by omega))).trans h2, (ht.block _ (Array.getElem?_eq_some_iff.1 h3).1 (hnt _ (by omega) (by omega))).trans h3⟩)
    (fun W W' ⟨c, h1, h2, h3⟩ ht => ⟨c, hJx _ _ _ h1 (hlow _ _ ht), (ht.block _ (Array.getElem?_eq_some_iff.1 h2).1 (hnt _ (by omega) (by omega))).trans h2, (ht.block _ (Array.getElem?_eq_some_iff.1 h3).1 (hnt _ (by omega) (by omega))).trans h3⟩)
    (by omega) (fun h => absurd (hK _ h) (by omega)) (fun h => absurd (hT _ h) (by omega)) ?_ ⟨hI1, hL, hD⟩
  · refine (callsIn_wide.2 hp).mono ?_
    rintro e W2 ⟨⟨v, rfl⟩, hz2, (⟨hi, hl, hd⟩ | ⟨c, hx, hl, hd⟩)⟩
    · exact ⟨none, _, by rw [← r2]; exact run_endLoop hl (by rw [r1]; simp), hdone _ _ (Nat.le_refl _) (hJ _ _ _ hi ((Turn.refl _ _).putObj (.inl (by omega)) _)) (hZ _ _ hz2 ((Turn.refl _ _).putObj (show w.heap.size ≤ w.heap.size + 1 by omega) _)) ((World.putObj_heap_other (by omega)).trans hd)⟩
    · exact ⟨some c, _, run_endLoop hl (by simp), hstop _ _ _ (Nat.le_refl _) (hJx _ _ _ hx ((Turn.refl _ _).putObj (.inl (by omega)) _)) (hZ _ _ hz2 ((Turn.refl _ _).putObj (show w.heap.size ≤ w.heap.size + 1 by omega) _)) ((World.putObj_heap_other (by omega)).trans hd)⟩
  · rintro i W mm him ⟨hi, hl, hd⟩
    have hlt : w.heap.size + 1 < W.heap.size := (Array.getElem?_eq_some_iff.1 hl).1
    have hy := run_yield (P := P) (args := val i) hl (by rw [r3]; exact hval i him)
    rw [r3, r4, r5, r6, r7] at hy
    have hU : ∀ A B, Turn (ItU w K) A B → Turn (ItU W1 K) A B := fun A B h => h.mono fun b _ hb => ⟨by have := hb.1; omega, hb.2⟩
    have hUl : ItU W1 K (w.heap.size + 1) := ⟨by omega, fun h => absurd (hK _ h) (by omega)⟩
    refine ⟨fn, _, assign, body, hy, roundWide' (n := 20) (roundIn_of_wpIn hfn (hassign _ i W _ him hi (by omega) hlt ?_))⟩
    intro a1 W0 hBd0 hT0
    have hl0 : W0.heap[w.heap.size + 1]? = some (.loop rc) := (hT0.block _ hlt (fun h => by have := h.1; omega)).trans hl
    have hd0 : W0.heap[w.heap.size]? = some (.deferred (some [])) := (hT0.block _ (by omega) (fun h => by have := h.1; omega)).trans hd
    have hlt0 : w.heap.size + 1 < W0.heap.size := (Array.getElem?_eq_some_iff.1 hl0).1
    refine ⟨_, run_beginRound hl0 r1, ?_⟩
    have hl2 : (W0.putObj (w.heap.size + 1) (.loop { rc with state := .busy })).heap[w.heap.size + 1]? = some (.loop { rc with state := .busy }) := World.putObj_heap_same hlt0
    have hd2 : (W0.putObj (w.heap.size + 1) (.loop { rc with state := .busy })).heap[w.heap.size]? = some (.deferred (some [])) := (World.putObj_heap_other (by omega)).trans hd0
    have hf2 : Turn (ItU W1 K) W (W0.putObj (w.heap.size + 1) (.loop { rc with state := .busy })) := (hU _ _ hT0).putObj hUl _
    have hz2 : (W0.putObj (w.heap.size + 1) (.loop { rc with state := .busy })).heap.size = W0.heap.size := by simp [World.putObj]
    refine wpIn_mono (hbody _ i a1 _ him (by omega) (by omega) (hBd _ _ _ _ _ hBd0 ((Turn.refl (fun b => b = w.heap.size + 1) _).putObj (l := w.heap.size + 1) rfl _))) ?_
    rintro e a3 W3 hp
    cases e with
    | normal =>
      obtain ⟨hi3, hB⟩ := hp
      have hl3 := (hB.block _ (by omega) (fun h => by have := h.1; omega)).trans hl2
      refine ⟨_, _, run_endRound none hl3, .inl ⟨rfl, ⟨hJ _ _ _ hi3 ((Turn.refl _ _).putObj (.inl (by omega)) _), ?_, (World.putObj_heap_other (by omega)).trans ((hB.block _ (by omega) (fun h => by have := h.1; omega)).trans hd2)⟩, (hf2.trans (hU _ _ hB)).putObj hUl _⟩⟩
      rw [World.putObj_heap_same (Array.getElem?_eq_some_iff.1 hl3).1]
      congr 2
      cases rc
      simp_all
    | exit k =>
      obtain ⟨hi3, hB⟩ := hp
      have hl3 := (hB.block _ (by omega) (fun h => by have := h.1; omega)).trans hl2
      refine ⟨_, _, run_endRound (some (.exit k)) hl3, .inr ⟨rfl, ⟨_, hJx _ _ _ hi3 ((Turn.refl _ _).putObj (.inl (by omega)) _), ?_, (World.putObj_heap_other (by omega)).trans ((hB.block _ (by omega) (fun h => by have := h.1; omega)).trans hd2)⟩, (hf2.trans (hU _ _ hB)).putObj hUl _⟩⟩
      rw [World.putObj_heap_same (Array.getElem?_eq_some_iff.1 hl3).1]
      rfl
    | ret =>
      obtain ⟨hi3, hB⟩ := hp
      have hl3 := (hB.block _ (by omega) (fun h => by have := h.1; omega)).trans hl2
      refine ⟨_, _, run_endRound (some .ret) hl3, .inr ⟨rfl, ⟨_, hJx _ _ _ hi3 ((Turn.refl _ _).putObj (.inl (by omega)) _), ?_, (World.putObj_heap_other (by omega)).trans ((hB.block _ (by omega) (fun h => by have := h.1; omega)).trans hd2)⟩, (hf2.trans (hU _ _ hB)).putObj hUl _⟩⟩
      rw [World.putObj_heap_same (Array.getElem?_eq_some_iff.1 hl3).1]
      rfl
    | goto t => exact hp.elim
    | panic ch => exact hp.elim
    | outgrown => exact hp.elim

end Go.Proofs.YtoobopohohoidaaGreatDoor
