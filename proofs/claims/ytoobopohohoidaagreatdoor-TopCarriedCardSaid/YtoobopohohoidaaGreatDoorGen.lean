/- GENERAL: laws on memory, whole blocks, rows and regions that name no function of the program. -/
import Derived.Test.YtoobopohohoidaaGreatDoorProg
import Derived.WalkKit
import Derived.WalkSpells
import Derived.WalkLawsBesides
import Derived.BigQuiet
import Derived.BigRegion
import Derived.Deep.QuietTactic
import Derived.Deep.RegionHeld3
import Derived.Deep.AppendLies
import Derived.Deep.MidRow
import Derived.Laws.Rows
import Derived.Lib.Hide
import Derived.RangeFuncBox
import Derived.OrdersHeld
import Derived.Below
set_option linter.unusedSimpArgs false
set_option linter.unusedVariables false
namespace Go.Proofs.YtoobopohohoidaaGreatDoor
open Go.RowKit

theorem cell_of_box_l {W : World} {B : Nat} {v : Value} {t : TypeId} (h : W.heap[B]? = some (.cells #[v] t (0, 0))) : W.cell? ⟨B, 0, none⟩ = some v ∧ W.frozen? ⟨B, 0, none⟩ = false := by
  constructor <;> simp [World.cell?, World.frozen?, h]
theorem cell_new_l (W : World) (v : Value) (t : TypeId) : (W.alloc (.cells #[v] t)).cell? ⟨W.heap.size, 0, none⟩ = some v ∧ (W.alloc (.cells #[v] t)).frozen? ⟨W.heap.size, 0, none⟩ = false :=
  cell_of_box_l (World.alloc_heap_new W _)
theorem cell_alloc_l {W : World} {a : Addr} {v : Value} (o : Obj) (h : W.cell? a = some v) : (W.alloc o).cell? a = some v := cell_kept h (World.grownBy_alloc W o none) (fun r e => by cases e)
theorem frozen_alloc_l {W : World} {a : Addr} {v : Value} (o : Obj) (h : W.cell? a = some v) (hf : W.frozen? a = false) : (W.alloc o).frozen? a = false := (frozen_kept h (World.grownBy_alloc W o none) (fun r e => by cases e)).trans hf
theorem bcell {N : Nat} {W w1 : World} (hb : Below N W w1) : (∀ b o, b < N → w1.cell? ⟨b, o, none⟩ = W.cell? ⟨b, o, none⟩) ∧ (∀ b o, b < N → w1.frozen? ⟨b, o, none⟩ = W.frozen? ⟨b, o, none⟩) :=
  ⟨fun b o h => hb.cell (p := ⟨b, o, none⟩) h, fun b o h => hb.frozen (p := ⟨b, o, none⟩) h⟩
theorem cellH {w : World} {b T : Nat} {c : Array Value} (h : w.heap[b]? = some (.cells c T (0, 0))) (i : Nat) : w.cell? ⟨b, i, none⟩ = c[i]? := by simp [World.cell?, h]
theorem freeH {w : World} {b T : Nat} {c : Array Value} (h : w.heap[b]? = some (.cells c T (0, 0))) (i : Nat) : w.frozen? ⟨b, i, none⟩ = false := by simp [World.frozen?, h]
theorem setH {w : World} {b T : Nat} {c : Array Value} (h : w.heap[b]? = some (.cells c T (0, 0))) (i : Nat) (v : Value) : (w.setCell ⟨b, i, none⟩ v).heap[b]? = some (.cells (c.setIfInBounds i v) T (0, 0)) := by
  simp [World.setCell, Array.getElem?_modify, h]
/-- Of what there was, block 'sb' alone may have turned. -/
structure But (sb : Nat) (w w' : World) : Prop where
  size : w.heap.size ≤ w'.heap.size
  block : ∀ b, b < w.heap.size → b ≠ sb → w'.heap[b]? = w.heap[b]?
  os : w'.os = w.os
  tape : w'.tape = w.tape
  output : w'.output = w.output
theorem But.refl (sb : Nat) (w : World) : But sb w w := ⟨Nat.le_refl _, fun _ _ _ => rfl, rfl, rfl, rfl⟩
theorem But.trans {sb : Nat} {a b c : World} (h : But sb a b) (k : But sb b c) : But sb a c :=
  ⟨Nat.le_trans h.size k.size, fun i hi hn => (k.block i (Nat.lt_of_lt_of_le hi h.size) hn).trans (h.block i hi hn), k.os.trans h.os, k.tape.trans h.tape, k.output.trans h.output⟩
theorem But.of_below {sb : Nat} {w w' : World} (h : Below w.heap.size w w') : But sb w w' := ⟨h.size, fun b hb _ => h.block b hb, h.os, h.tape, h.output⟩
theorem But.below {sb N : Nat} {w w' : World} (h : But sb w w') (h1 : N ≤ sb) (h2 : N ≤ w.heap.size) : Below N w w' := ⟨h.os, h.tape, h.output, h.size, fun b hb => h.block b (by omega) (by omega)⟩
theorem But.set {sb : Nat} {a w : World} (h : But sb a w) (i : Nat) (v : Value) : But sb a (w.setCell ⟨sb, i, none⟩ v) :=
  ⟨by simpa using h.size, fun b hb hn => (Below.heap_setCell w ⟨sb, i, none⟩ v b hn).trans (h.block b hb hn), h.os, h.tape, h.output⟩
theorem But.drew {sb : Nat} {a w : World} (h : But sb a w) : But sb a w.drew := ⟨h.size, h.block, h.os, h.tape, h.output⟩
theorem But.cell {sb : Nat} {w w' : World} (h : But sb w w') {p : Addr} (hp : p.block < w.heap.size) (hn : p.block ≠ sb) : w'.cell? p = w.cell? p := by unfold World.cell?; rw [h.block _ hp hn]
theorem block_add (a : Addr) (n : Nat) : (a.add n).block = a.block := by unfold Addr.add; split <;> rfl
/-- A slice of ints that reads, below block B. -/
def Ints (w : World) (B : Nat) (A : Option Addr) (n : Nat) (f : Nat → Int) : Prop :=
  0 < n → ∃ ad, A = some ad ∧ ad.block < B ∧ ∀ j, j < n → w.cell? (ad.add j) = some (.int .i64 (f j))
theorem Ints.keep {w w' : World} {B n : Nat} {A : Option Addr} {f : Nat → Int} (h : Ints w B A n f) (hk : ∀ b, b < B → w'.heap[b]? = w.heap[b]?) : Ints w' B A n f := fun h0 => by
  obtain ⟨ad, e, hb, hc⟩ := h h0
  exact ⟨ad, e, hb, fun j hj => by rw [← hc j hj]; unfold World.cell?; rw [block_add, hk _ hb]⟩
theorem loadAt_row {P : Program} (w : World) (g : Nat) (t ty : TypeId) (cs : Array Value) (fr : Nat × Nat) (d : TypeDesc) (hg : w.heap[g]? = some (.cells cs t fr))
    (hu : P.underlying ty = some d) (hd : d.isRow = true) (hi : (P.info? ty).map (·.size) = some cs.size) :
    (Instr.loadAt ty (.pointer (some ⟨g, 0, none⟩))).run P w = .ok (.agg cs) w := by
  have := run_loadAt_mid (P := P) w g 0 ty cs.toList d (fun j v hv => by rw [Nat.zero_add, cell_of_row w g j cs t fr hg]; simpa using hv) hu hd (by simpa using hi)
  simpa using this
theorem setCells_row {T : Nat} (g : Nat) : ∀ (vs : List Value) (o : Nat) (c : List Value) (w : World), w.heap[g]? = some (.cells c.toArray T (0, 0)) → o + vs.length ≤ c.length →
    (w.setCells g o vs).heap[g]? = some (.cells (c.take o ++ vs ++ c.drop (o + vs.length)).toArray T (0, 0)) ∧ But g w (w.setCells g o vs)
  | [], o, c, w, h, ho => by
    simp only [World.setCells, List.length_nil, Nat.add_zero, List.append_nil, List.take_append_drop]
    exact ⟨h, But.refl _ _⟩
  | v :: vs, o, c, w, h, ho => by
    have hlen : o < c.length := by simp at ho; omega
    have h1 := setH h o v
    have e1 : c.toArray.setIfInBounds o v = (c.set o v).toArray := by simp
    rw [e1] at h1
    have := setCells_row (T := T) g vs (o + 1) (c.set o v) (w.setCell ⟨g, o, none⟩ v) h1 (by simp at ho ⊢; omega)
    simp only [World.setCells]
    refine ⟨?_, ((But.refl g w).set o v).trans this.2⟩
    rw [this.1]
    congr 2
    apply congrArg
    have e2 : (c.set o v).take (o + 1) = c.take o ++ [v] := by
      rw [List.take_set, List.take_succ_eq_append_getElem hlen, List.set_append_right _ _ (by simp; omega)]
      simp [Nat.min_eq_left (Nat.le_of_lt hlen)]
    have e3 : (c.set o v).drop (o + 1 + vs.length) = c.drop (o + (v :: vs).length) := by
      rw [List.drop_set_of_lt (by omega)]
      congr 1
      simp; omega
    rw [e2, e3]
    simp
theorem storeAt_row {P : Program} (w : World) (g : Nat) (t ty : TypeId) (cs vs : Array Value) (hg : w.heap[g]? = some (.cells cs t (0, 0))) (hi : (P.info? ty).map (·.size) = some vs.size) (hs : cs.size = vs.size) (h1 : vs.all (·.oneCell') = true) :
    ∃ w', (Instr.storeAt ty (.pointer (some ⟨g, 0, none⟩)) (.agg vs)).run P w = .ok () w' ∧ w'.heap[g]? = some (.cells vs t (0, 0)) ∧ But g w w' := by
  obtain ⟨c⟩ := cs
  obtain ⟨l⟩ := vs
  have hl : c.length = l.length := by simpa using hs
  have := setCells_row (T := t) g l 0 c w hg (by omega)
  refine ⟨_, run_storeAt_mid w g 0 ty ⟨l⟩ (fun j hj => ⟨?_, freeH hg _⟩) hi h1, ?_, this.2⟩
  · rw [cellH hg]
    simp at hj ⊢
    omega
  · rw [this.1]
    simp [← hl]
theorem wpList_load_whole {P : Program} {ops : Array Oper} {rest : List Oper} {o : Oper} {a : Act} {w : World} {Q : Exit → Act → World → Prop} (hgd : o.guard = none) (ty : TypeId) (x : Operand) (ho : o.op = .load ty x)
    (g : Nat) (hx : a.eval x = .pointer (some ⟨g, 0, none⟩)) {t : TypeId} {cs : Array Value} {fr : Nat × Nat} {d : TypeDesc} (hg : w.heap[g]? = some (.cells cs t fr))
    (hu : P.underlying ty = some d) (hd : d.isRow = true) (hi : (P.info? ty).map (·.size) = some cs.size)
    (h : wpList P ops Q rest (a.put o.dst (.agg cs)) w) : wpList P ops Q (o :: rest) a w :=
  wpList_load_mid hgd ty x ho g 0 hx cs.toList d (fun j v hv => by rw [Nat.zero_add, cell_of_row w g j cs t fr hg]; simpa using hv) hu hd (by simpa using hi) (by simpa using h)
theorem wpList_store_whole {P : Program} {ops : Array Oper} {rest : List Oper} {o : Oper} {a : Act} {w : World} {Q : Exit → Act → World → Prop} (hgd : o.guard = none) (ty : TypeId) (x y : Operand) (ho : o.op = .store ty x y)
    (g : Nat) (vs : Array Value) (hx : a.eval x = .pointer (some ⟨g, 0, none⟩)) (hy : a.eval y = .agg vs) {t : TypeId} {cs : Array Value} (hg : w.heap[g]? = some (.cells cs t (0, 0)))
    (hi : (P.info? ty).map (·.size) = some vs.size) (hs : cs.size = vs.size) (h1 : vs.all (·.oneCell') = true)
    (h : ∀ w', w'.heap[g]? = some (.cells vs t (0, 0)) → But g w w' → wpList P ops Q rest (a.put o.dst undef) w') : wpList P ops Q (o :: rest) a w := by
  obtain ⟨c⟩ := cs
  obtain ⟨l⟩ := vs
  have hl : c.length = l.length := by simpa using hs
  have := setCells_row (T := t) g l 0 c w hg (by omega)
  refine wpList_store_mid hgd ty x y ho g 0 ⟨l⟩ hx hy (fun j hj => ⟨?_, freeH hg _⟩) hi h1 (h _ ?_ this.2)
  · rw [cellH hg]
    simp at hj ⊢
    omega
  · rw [this.1]
    simp [← hl]
theorem results_cell_slot {P : Program} {fn : Func} {p q : Tmp} {ty : TypeId} (h : fn.results = #[.cell p ty, .tmp q]) {tmps : Array Value} {w : World} {g : Nat} {t : TypeId} {cs : Array Value} {fr : Nat × Nat} {d : TypeDesc} {x : Value}
    (hp : tmps.getD p undef = .pointer (some ⟨g, 0, none⟩)) (hg : w.heap[g]? = some (.cells cs t fr))
    (hu : P.underlying ty = some d) (hd : d.isRow = true) (hi : (P.info? ty).map (·.size) = some cs.size) (hx : tmps.getD q undef = x) :
    (results fn tmps).run P w = .ok (.tuple #[.agg cs, x]) w := by
  have hp' : tmps[p]?.getD undef = .pointer (some ⟨g, 0, none⟩) := by simpa using hp
  have hl : (loadVar ty ⟨g, 0, none⟩).run P w = .ok (.agg cs) w := by
    have := run_loadVar_mid (P := P) w g 0 ty cs.toList d (fun j v hv => by rw [Nat.zero_add, cell_of_row w g j cs t fr hg]; simpa using hv) hu hd (by simpa using hi)
    simpa using this
  subst hx
  simp [results, h, hp', asAddr, hl]
theorem info_int' : (Tryz.prog.info? 3).map (fun i => (i.zero, i.size, i.bytes)) = some (some (.int .i64 0), 1, 8) := by kernel_rfl
/-- The result is a slice that reads so. -/
def IntsOf (L : List Int) (w : World) (e : Ending) (w' : World) : Prop :=
  ∃ (A : Option Addr) (cap : Nat), e = .returned (.slice A L.length cap) ∧ Below w.heap.size w w' ∧ Ints w' w'.heap.size A L.length (fun j => L.getD j 0)
/-- A row that is owned reads so. -/
theorem ints_of_row {w : World} {base e k : Nat} {v : Value} {L : List Int} (h : w.ownsRow base e 1 v k (L.map fun x => .int .i64 x)) : ∃ A cap, v = .slice A L.length cap ∧ Ints w w.heap.size A L.length (fun j => L.getD j 0) := by
  have hk : L.length = k := by have := h.1; simpa using this
  rcases h.2 with ⟨rfl, h0⟩ | ⟨g, cap, cur, rfl, _, hg, hc1, _, hc2, hc3⟩
  · refine ⟨none, 0, by rw [hk, h0], fun h1 => ?_⟩
    omega
  · refine ⟨some ⟨g, 0, none⟩, cap, by rw [hk], fun h1 => ⟨⟨g, 0, none⟩, rfl, (Array.getElem?_eq_some_iff.1 hg).1, fun j hj => ?_⟩⟩
    have e1 : (⟨g, 0, none⟩ : Addr).add j = ⟨g, j, none⟩ := by unfold Addr.add; split <;> simp_all
    rw [e1, cellH hg]
    have e2 : (cur.toList.take (k * 1))[j]? = (L.map fun x => Value.int .i64 x)[j]? := by rw [hc3]
    rw [List.getElem?_take_of_lt (by omega), List.getElem?_map] at e2
    simp only [Array.getElem?_toList] at e2
    rw [e2, List.getElem?_eq_getElem hj]
    simp [List.getD, List.getElem?_eq_getElem hj]
theorem block_own {β : Type} (B : Nat) (c : Array Value) (t : TypeId) : Own (fun (_ : β) W => W.heap[B]? = some (.cells c t (0, 0))) := fun _ X Y row h hg hrow =>
  (hg.block B (Array.getElem?_eq_some_iff.1 h).1 (fun e' => by obtain ⟨o, ho, hc⟩ := hrow B e'.symm; rw [h] at ho; cases ho; cases hc)).trans h
theorem grown_block {X Y : World} {row : Option Nat} {B : Nat} {c : Array Value} {t : TypeId} (h : X.heap[B]? = some (.cells c t (0, 0))) (hg : X.grownBy Y row) (hrow : ∀ r, row = some r → ∃ o, X.heap[r]? = some o ∧ o.isCells = false) : Y.heap[B]? = some (.cells c t (0, 0)) :=
  (hg.block B (Array.getElem?_eq_some_iff.1 h).1 (fun e' => by obtain ⟨o, ho, hc⟩ := hrow B e'.symm; rw [h] at ho; cases ho; cases hc)).trans h
theorem two_keep {N : Nat} {A B : Array Value} {w W w' : World} (h0 : ∀ o, W.cell? ⟨N, o, none⟩ = A[o]?) (h1 : ∀ o, W.cell? ⟨N + 1, o, none⟩ = B[o]?) (hB : Below N w W) (hz : N + 1 < W.heap.size) (hB1 : Below W.heap.size W w') :
    (∀ o, w'.cell? ⟨N, o, none⟩ = A[o]?) ∧ (∀ o, w'.cell? ⟨N + 1, o, none⟩ = B[o]?) ∧ Below N w w' ∧ N + 1 < w'.heap.size :=
  ⟨fun o => (hB1.cell (p := ⟨N, o, none⟩) (by show N < _; omega)).trans (h0 o), fun o => (hB1.cell (p := ⟨N + 1, o, none⟩) hz).trans (h1 o), hB.trans (hB1.mono (by omega)), Nat.lt_of_lt_of_le hz hB1.size⟩
theorem three_keep {N qb q : Nat} {A B C : Array Value} {u : Value} {w W w' : World} (h0 : ∀ o, W.cell? ⟨N, o, none⟩ = A[o]?) (h1 : ∀ o, W.cell? ⟨N + 1, o, none⟩ = B[o]?) (h2 : ∀ o, W.cell? ⟨N + 2, o, none⟩ = C[o]?)
    (hq : W.cell? ⟨qb, q, none⟩ = some u) (hB : Below N w W) (hz : N + 2 < W.heap.size) (hqb : qb < N) (hB1 : Below W.heap.size W w') :
    (∀ o, w'.cell? ⟨N, o, none⟩ = A[o]?) ∧ (∀ o, w'.cell? ⟨N + 1, o, none⟩ = B[o]?) ∧ (∀ o, w'.cell? ⟨N + 2, o, none⟩ = C[o]?) ∧ w'.cell? ⟨qb, q, none⟩ = some u ∧ Below N w w' ∧ N + 2 < w'.heap.size :=
  ⟨fun o => (hB1.cell (p := ⟨N, o, none⟩) (by show N < _; omega)).trans (h0 o), fun o => (hB1.cell (p := ⟨N + 1, o, none⟩) (by show N + 1 < _; omega)).trans (h1 o), fun o => (hB1.cell (p := ⟨N + 2, o, none⟩) hz).trans (h2 o),
   (hB1.cell (p := ⟨qb, q, none⟩) (by show qb < _; omega)).trans hq, hB.trans (hB1.mono (by omega)), Nat.lt_of_lt_of_le hz hB1.size⟩
theorem cell_old (W : World) (o : Obj) {b i : Nat} (h : b < W.heap.size) : (W.alloc o).cell? ⟨b, i, none⟩ = W.cell? ⟨b, i, none⟩ := ((Below.refl W.heap.size W).alloc (Nat.le_refl _) o).cell (p := ⟨b, i, none⟩) h
theorem cell_new (W : World) (c : Array Value) (t : TypeId) (i : Nat) : (W.alloc (.cells c t)).cell? ⟨W.heap.size, i, none⟩ = c[i]? := cellH (heap_alloc_new W _) i
theorem boxes2 (w : World) (A B : Array Value) (tA tB : TypeId) : (∀ o, ((w.alloc (.cells A tA)).alloc (.cells B tB)).cell? ⟨w.heap.size, o, none⟩ = A[o]?) ∧ (∀ o, ((w.alloc (.cells A tA)).alloc (.cells B tB)).cell? ⟨w.heap.size + 1, o, none⟩ = B[o]?) ∧
    Below w.heap.size w ((w.alloc (.cells A tA)).alloc (.cells B tB)) ∧ w.heap.size + 1 < ((w.alloc (.cells A tA)).alloc (.cells B tB)).heap.size := by
  refine ⟨fun o => by rw [cell_old _ _ (by simp), cell_new], fun o => ?_, ((Below.refl _ w).alloc (Nat.le_refl _) _).alloc (by simp) _, by simp⟩
  have := cell_new (w.alloc (.cells A tA)) B tB o
  rwa [World.size_alloc] at this
theorem boxes3 (w : World) (A B C : Array Value) (tA tB tC : TypeId) : (∀ o, (((w.alloc (.cells A tA)).alloc (.cells B tB)).alloc (.cells C tC)).cell? ⟨w.heap.size, o, none⟩ = A[o]?) ∧ (∀ o, (((w.alloc (.cells A tA)).alloc (.cells B tB)).alloc (.cells C tC)).cell? ⟨w.heap.size + 1, o, none⟩ = B[o]?) ∧
    (∀ o, (((w.alloc (.cells A tA)).alloc (.cells B tB)).alloc (.cells C tC)).cell? ⟨w.heap.size + 2, o, none⟩ = C[o]?) ∧ Below w.heap.size w (((w.alloc (.cells A tA)).alloc (.cells B tB)).alloc (.cells C tC)) ∧ w.heap.size + 2 < (((w.alloc (.cells A tA)).alloc (.cells B tB)).alloc (.cells C tC)).heap.size := by
  obtain ⟨h0, h1, h2, h3⟩ := boxes2 w A B tA tB
  refine ⟨fun o => by rw [cell_old _ _ (by simp; omega)]; exact h0 o, fun o => by rw [cell_old _ _ (by simp)]; exact h1 o, fun o => ?_, h2.alloc (by simp; omega) _, by simp⟩
  have := cell_new ((w.alloc (.cells A tA)).alloc (.cells B tB)) C tC o
  rwa [World.size_alloc, World.size_alloc] at this
theorem yieldsIf_load_whole {P : Program} {ops : Array Oper} {S : World → Prop} {op : Oper} {a : Act} (hw : Region.wanted op (yielded ops a.tmps) = true) (ty : TypeId) (x : Operand) (ho : op.op = .load ty x)
    (g : Nat) (hx : a.eval x = .pointer (some ⟨g, 0, none⟩)) {t : TypeId} {cs : Array Value} {fr : Nat × Nat} {d : TypeDesc} (hS : ∀ w, S w → w.heap[g]? = some (.cells cs t fr))
    (hu : P.underlying ty = some d) (hd : d.isRow = true) (hi : (P.info? ty).map (·.size) = some cs.size) : YieldsIf P ops S op (.agg cs) a :=
  yieldsIf_load_mid hw ty x ho g 0 hx cs.toList d (fun w h j v hv => by rw [Nat.zero_add, cell_of_row w g j cs t fr (hS w h)]; simpa using hv) hu hd (by simpa using hi)
theorem loadVar_whole {P : Program} {w : World} {g : Nat} {t ty : TypeId} {cs : Array Value} {fr : Nat × Nat} {d : TypeDesc} (hg : w.heap[g]? = some (.cells cs t fr))
    (hu : P.underlying ty = some d) (hd : d.isRow = true) (hi : (P.info? ty).map (·.size) = some cs.size) : (loadVar ty ⟨g, 0, none⟩).run P w = .ok (.agg cs) w := by
  have := run_loadVar_mid (P := P) w g 0 ty cs.toList d (fun j v hv => by rw [Nat.zero_add, cell_of_row w g j cs t fr hg]; simpa using hv) hu hd (by simpa using hi)
  simpa using this
theorem results_cells3 {P : Program} {fn : Func} {p q r : Tmp} {ty ty' ty'' : TypeId} (h : fn.results = #[.cell p ty, .cell q ty', .cell r ty'']) {tmps : Array Value} {w : World} {g g' g'' : Nat} {x y z : Value}
    (hp : tmps.getD p undef = .pointer (some ⟨g, 0, none⟩)) (hq : tmps.getD q undef = .pointer (some ⟨g', 0, none⟩)) (hr : tmps.getD r undef = .pointer (some ⟨g'', 0, none⟩))
    (h1 : (loadVar ty ⟨g, 0, none⟩).run P w = .ok x w) (h2 : (loadVar ty' ⟨g', 0, none⟩).run P w = .ok y w) (h3 : (loadVar ty'' ⟨g'', 0, none⟩).run P w = .ok z w) :
    (results fn tmps).run P w = .ok (.tuple #[x, y, z]) w := by
  have hp' : tmps[p]?.getD undef = .pointer (some ⟨g, 0, none⟩) := by simpa using hp
  have hq' : tmps[q]?.getD undef = .pointer (some ⟨g', 0, none⟩) := by simpa using hq
  have hr' : tmps[r]?.getD undef = .pointer (some ⟨g'', 0, none⟩) := by simpa using hr
  simp [results, h, hp', hq', hr', asAddr, h1, h2, h3]
theorem step_store_whole {P : Program} {ops : Array Oper} {o : Oper} {a : Act} {w : World} {K : Act → World → Prop} {Q : Exit → Act → World → Prop} {E : Prop} (hgd : o.guard = none) (ty : TypeId) (x y : Operand) (ho : o.op = .store ty x y)
    (g : Nat) (vs : Array Value) (hx : a.eval x = .pointer (some ⟨g, 0, none⟩)) (hy : a.eval y = .agg vs) {t : TypeId} {cs : Array Value} (hg : w.heap[g]? = some (.cells cs t (0, 0)))
    (hi : (P.info? ty).map (·.size) = some vs.size) (hs : cs.size = vs.size) (h1 : vs.all (·.oneCell') = true)
    (h : ∀ w', w'.heap[g]? = some (.cells vs t (0, 0)) → But g w w' → K (a.put o.dst undef) w') : if Region.wanted o (yielded ops a.tmps) = true then Oper.wp P o a w K Q else E := by
  have hw : Region.wanted o (yielded ops a.tmps) = true := by simp [Region.wanted, hgd]
  rw [if_pos hw]
  obtain ⟨c⟩ := cs
  obtain ⟨l⟩ := vs
  have hl : c.length = l.length := by simpa using hs
  have := setCells_row (T := t) g l 0 c w hg (by omega)
  refine wp_store_mid ty x y ho g 0 ⟨l⟩ hx hy (fun j hj => ⟨?_, freeH hg _⟩) hi h1 (h _ ?_ this.2)
  · rw [cellH hg]
    simp at hj ⊢
    omega
  · rw [this.1]
    simp [← hl]
theorem own_below {w w' : World} {base e size n : Nat} {v : Value} {xs : List Value} (h : w.ownsRow base e size v n xs) (hB : Below w.heap.size w w') : w'.ownsRow base e size v n xs :=
  h.kept (row := none) ⟨hB.os, hB.tape, hB.output, hB.size, fun b hb _ => hB.block b hb⟩ (by cases hv : v.ownBlock <;> simp)
/-- Behind an append. -/
theorem own_grown {N : Nat} {w W w1 : World} {v : Value} {e k : Nat} {xs : List Value} {o : Obj} (hB : Below N w W) (hN : N ≤ w.heap.size) (hrow : W.ownsRow N e 1 v k xs) (hg : (W.alloc o).grownBy w1 v.ownBlock) : Below N w w1 := by
  have hz := hB.size
  refine hB.trans (((Below.refl N W).alloc (by omega) o).grown hg (by simp; omega) fun j ej => ?_)
  rcases hrow.2 with ⟨rfl, _⟩ | ⟨g, cap, cur, rfl, hb, _, _⟩
  · simp [Value.ownBlock] at ej
  · obtain rfl : g = j := by simpa [Value.ownBlock] using ej
    exact hb
theorem take_filter_succ {α : Type} [Inhabited α] (p : α → Bool) (L : List α) (k : Nat) (hk : k < L.length) : (L.take (k + 1)).filter p = (L.take k).filter p ++ (if p (L[k]) then [L[k]] else []) := by
  rw [List.take_succ_eq_append_getElem hk, List.filter_append]
  congr 1
  by_cases h : p L[k] <;> simp [h]
/-- Two results: a slice that reads so, and OK. -/
def IntsOk (R : List Int) (w : World) (e : Ending) (w' : World) : Prop :=
  ∃ (A : Option Addr) (cap : Nat), e = .returned (.tuple #[.slice A R.length cap, .int .i64 0]) ∧ Below w.heap.size w w' ∧ Ints w' w'.heap.size A R.length (fun j => R.getD j 0)
theorem own_block {W : World} {base e size n : Nat} {v : Value} {xs : List Value} (h : W.ownsRow base e size v n xs) {b : Nat} (hb : b < base) : some b ≠ v.ownBlock := by
  rcases h.2 with ⟨rfl, _⟩ | ⟨g, cap, cur, rfl, hg, _⟩
  · simp [Value.ownBlock]
  · simp [Value.ownBlock]; omega
theorem own_other {W : World} {base base' e e' size size' n n' : Nat} {v v' : Value} {xs xs' : List Value} (h : W.ownsRow base e size v n xs) (h' : W.ownsRow base' e' size' v' n' xs') (hne : e ≠ e') : v.ownBlock = none ∨ v.ownBlock ≠ v'.ownBlock := by
  rcases h.2 with ⟨rfl, _⟩ | ⟨g, cap, cur, rfl, _, hg, _⟩
  · exact .inl rfl
  · refine .inr fun e1 => ?_
    rcases h'.2 with ⟨rfl, _⟩ | ⟨g', cap', cur', rfl, _, hg', _⟩
    · simp [Value.ownBlock] at e1
    · simp [Value.ownBlock] at e1
      subst e1
      rw [hg] at hg'
      simp at hg'
      exact hne hg'.2
/-- What lies below the rows stays where a row grows. -/
theorem grown_low {W W' : World} {base e size n b : Nat} {v : Value} {xs : List Value} (hr : W.ownsRow base e size v n xs) (hg : W.grownBy W' v.ownBlock) (hb : b < base) (hz : base ≤ W.heap.size) : W'.heap[b]? = W.heap[b]? :=
  hg.block b (by omega) (own_block hr hb)
theorem grown_below {W W' : World} {base e size n N : Nat} {v : Value} {xs : List Value} (hr : W.ownsRow base e size v n xs) (hg : W.grownBy W' v.ownBlock) (hN : N ≤ base) (hz : base ≤ W.heap.size) : Below N W W' :=
  ⟨hg.os, hg.tape, hg.output, hg.size, fun b hb => grown_low hr hg (by omega) hz⟩
theorem boxes5 (w : World) (A B C D E : Array Value) (tA tB tC tD tE : TypeId) {W : World} (hW : W = ((((w.alloc (.cells A tA)).alloc (.cells B tB)).alloc (.cells C tC)).alloc (.cells D tD)).alloc (.cells E tE)) :
    (∀ o, W.cell? ⟨w.heap.size, o, none⟩ = A[o]?) ∧ (∀ o, W.cell? ⟨w.heap.size + 1, o, none⟩ = B[o]?) ∧ (∀ o, W.cell? ⟨w.heap.size + 2, o, none⟩ = C[o]?) ∧ (∀ o, W.cell? ⟨w.heap.size + 3, o, none⟩ = D[o]?) ∧ (∀ o, W.cell? ⟨w.heap.size + 4, o, none⟩ = E[o]?) ∧
    Below w.heap.size w W ∧ W.heap.size = w.heap.size + 5 := by
  subst hW
  obtain ⟨h0, h1, h2, h3, h4⟩ := boxes3 w A B C tA tB tC
  have e3 : (((w.alloc (.cells A tA)).alloc (.cells B tB)).alloc (.cells C tC)).heap.size = w.heap.size + 3 := by simp
  have e4 : ((((w.alloc (.cells A tA)).alloc (.cells B tB)).alloc (.cells C tC)).alloc (.cells D tD)).heap.size = w.heap.size + 4 := by simp
  refine ⟨fun o => ?_, fun o => ?_, fun o => ?_, fun o => ?_, fun o => ?_, (h3.alloc (by omega) _).alloc (by omega) _, by simp⟩
  · rw [cell_old _ _ (by omega), cell_old _ _ (by omega)]; exact h0 o
  · rw [cell_old _ _ (by omega), cell_old _ _ (by omega)]; exact h1 o
  · rw [cell_old _ _ (by omega), cell_old _ _ (by omega)]; exact h2 o
  · rw [cell_old _ _ (by omega)]
    have := cell_new (((w.alloc (.cells A tA)).alloc (.cells B tB)).alloc (.cells C tC)) D tD o
    rwa [e3] at this
  · have := cell_new ((((w.alloc (.cells A tA)).alloc (.cells B tB)).alloc (.cells C tC)).alloc (.cells D tD)) E tE o
    rwa [e4] at this
theorem below_drewN {B : Nat} {a w : World} (h : Below B a w) (d : Nat) : Below B a (w.drewN d) := ⟨h.os, h.tape, h.output, h.size, h.block⟩
/-- A slice of so many, as its owner sees it. -/
def Slc (W : World) (base size : Nat) (A : Option Addr) (n cap : Nat) (xs : List Value) : Prop :=
  0 < n → ∃ g, A = some ⟨g, 0, none⟩ ∧ base ≤ g ∧ g < W.heap.size ∧ n ≤ cap ∧ ∀ j, j < n * size → W.cell? ⟨g, j, none⟩ = xs[j]?
theorem own_slice {W : World} {base e size n : Nat} {v : Value} {xs : List Value} (h : W.ownsRow base e size v n xs) : ∃ A cap, v = .slice A n cap ∧ Slc W base size A n cap xs := by
  rcases h.2 with ⟨rfl, h0⟩ | ⟨g, cap, cur, rfl, hb, hg, hn, _, _, hx⟩
  · subst h0; exact ⟨none, 0, rfl, fun h => absurd h (by omega)⟩
  · refine ⟨_, cap, rfl, fun _ => ⟨g, rfl, hb, (Array.getElem?_eq_some_iff.1 hg).1, hn, fun j hj => ?_⟩⟩
    rw [cellH hg, ← hx, List.getElem?_take_of_lt hj]
    simp
theorem Slc.keep {W W' : World} {base size n cap : Nat} {A : Option Addr} {xs : List Value} (h : Slc W base size A n cap xs) (hB : Below W.heap.size W W') : Slc W' base size A n cap xs := fun h0 => by
  obtain ⟨g, h1, h2, h3, h4, h5⟩ := h h0
  exact ⟨g, h1, h2, Nat.lt_of_lt_of_le h3 hB.size, h4, fun j hj => (hB.cell (p := ⟨g, j, none⟩) h3).trans (h5 j hj)⟩
theorem grown_other {W W' : World} {base e size n B t : Nat} {v : Value} {xs : List Value} {c : Array Value} (hr : W.ownsRow base e size v n xs) (hg : W.grownBy W' v.ownBlock) (hB : W.heap[B]? = some (.cells c t (0, 0))) (hne : t ≠ e) : W'.heap[B]? = some (.cells c t (0, 0)) := by
  refine (hg.block B (Array.getElem?_eq_some_iff.1 hB).1 fun e1 => ?_).trans hB
  rcases hr.2 with ⟨rfl, _⟩ | ⟨g, cap, cur, rfl, _, hgb, _⟩
  · simp [Value.ownBlock] at e1
  · simp [Value.ownBlock] at e1
    subst e1
    rw [hB] at hgb
    simp at hgb
    exact hne hgb.2

end Go.Proofs.YtoobopohohoidaaGreatDoor
