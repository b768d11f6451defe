/- BARROW: numbers; the closures' makers. -/
/- BARROW: plans: what lies in memory; the deferred closure; add. -/
import Derived.Test.YtoobopohohoidaaGreatDoorBE
import Derived.Test.YtoobopohohoidaaGreatDoorRngV
import Derived.Test.YtoobopohohoidaaGreatDoorBA
import Derived.Test.YtoobopohohoidaaGreatDoorKitC
set_option linter.unusedSimpArgs false
set_option linter.unusedVariables false
namespace Go.Proofs.YtoobopohohoidaaGreatDoor
open Go.RowKit Go.Maps Go.Shelf

attribute [local go_sem] Oper.semAt_some

theorem bnumbers_any (x y : Int) (w : World) :
    Calls Tryz.prog 69 #[.int .i64 x, .int .i64 y] w fun e w' =>
      e = .returned (.func (.func 89) #[] #[.pointer (some ⟨w.heap.size + 1, 0, none⟩), .pointer (some ⟨w.heap.size, 0, none⟩)]) ∧ w' = (w.alloc (.cells #[.int .i64 x] 3)).alloc (.cells #[.int .i64 y] 3) := by
  go_enter Tryz.func69, Tryz.ntmps69
  go_wp2
  go_ret
  exact ⟨rfl, rfl⟩
theorem binTime_any (V : Array Value) (w : World) (hV : (Tryz.prog.info? 74).map (·.size) = some V.size) :
    Calls Tryz.prog 22 #[.agg V] w fun e w' => e = .returned (.func (.func 40) #[] #[.pointer (some ⟨w.heap.size, 0, none⟩)]) ∧ w' = w.alloc (.cells V 74) := by
  go_enter Tryz.func22, Tryz.ntmps22
  go_wp2
  go_ret
  exact ⟨rfl, rfl⟩
theorem bplans_any (V : Array Value) (w : World) (hV : (Tryz.prog.info? 74).map (·.size) = some V.size) :
    Calls Tryz.prog 41 #[.agg V] w fun e w' => e = .returned (.func (.func 65) #[] #[.pointer (some ⟨w.heap.size, 0, none⟩)]) ∧ w' = w.alloc (.cells V 74) := by
  go_enter Tryz.func41, Tryz.ntmps41
  go_wp2
  go_ret
  exact ⟨rfl, rfl⟩
theorem btrips_any (V : Array Value) (A : Option Addr) (n c : Nat) (w : World) (hV : (Tryz.prog.info? 74).map (·.size) = some V.size) :
    Calls Tryz.prog 42 #[.agg V, .slice A n c] w fun e w' => e = .returned (.func (.func 70) #[] #[.pointer (some ⟨w.heap.size, 0, none⟩), .pointer (some ⟨w.heap.size + 1, 0, none⟩)]) ∧ w' = (w.alloc (.cells V 74)).alloc (.cells #[.slice A n c] 22) := by
  go_enter Tryz.func42, Tryz.ntmps42
  go_wp2
  go_ret
  exact ⟨rfl, rfl⟩

/-- The numbers from 1. -/
abbrev numV (i : Nat) : Array Value := #[.int .i64 ((i : Int) + 1)]
set_option maxRecDepth 100000 in
set_option maxHeartbeats 1000000 in
theorem bnumbers_iter (fb tb m : Nat) (w : World) (hm : m ≤ 99) (hf : w.heap[fb]? = some (.cells #[.int .i64 1] 3 (0, 0))) (ht : w.heap[tb]? = some (.cells #[.int .i64 m] 3 (0, 0))) :
    IterA Tryz.prog 89 #[.pointer (some ⟨tb, 0, none⟩), .pointer (some ⟨fb, 0, none⟩)] m (fun i v _ => v = numV i) (fun _ => False) (fun b => b ≠ fb) (fun _ => True) w := by
  intro l J Jx hJ hJx hl hY h0
  show Calls Tryz.prog 89 #[.func (.yield l) #[] #[], .pointer (some ⟨tb, 0, none⟩), .pointer (some ⟨fb, 0, none⟩)] w _
  refine (callsIn_wide (n := 12)).1 ?_
  refine callsIn_of_wp Tryz.func89 rfl trivial ?_ rfl
  simp only [Tryz.ntmps89, List.size_toArray, List.length_cons, List.length_nil, Nat.reduceAdd, Nat.reduceSub, Array.replicate_succ, Array.replicate_zero, List.push_toArray, List.append_toArray, List.nil_append, List.cons_append]
  have HJ := Go.Lib.hid hJ; clear hJ
  have HY := Go.Lib.hid hY; clear hY
  have HX := Go.Lib.hid hJx; clear hJx
  have c0 : w.cell? ⟨fb, 0, none⟩ = some (.int .i64 1) := cellH hf 0
  have c1 : w.cell? ⟨tb, 0, none⟩ = some (.int .i64 m) := cellH ht 0
  have HF := Go.Lib.hid hf
  clear hf ht
  gi_wp2
  gi_loopw [9] (fun p wr => ∃ i : Nat, i ≤ m ∧ p = .int .i64 i ∧ Hid (wr.heap[fb]? = some (.cells #[.int .i64 1] 3 (0, 0))) ∧ Hid (J i wr)) (fun p _ => m - (intOf p).toNat)
  case atStart => exact ⟨0, Nat.zero_le _, rfl, HF, Go.Lib.hid h0⟩
  case round =>
    obtain ⟨i, hi, rfl, HB, HI⟩ := hrel
    have c2 : wr.cell? ⟨fb, 0, none⟩ = some (.int .i64 1) := cellH HB.out 0
    by_cases hlt : i < m
    · obtain ⟨fn, tmps, assign, body, hy, hR⟩ := HY.out i _ wr 11 hlt rfl HI.out
      have e1 : ((i : Int) + 1) = 1 + i := by omega
      simp only [numV, e1] at hy
      clear e1
      gi_wp2
      refine hR.mono ?_
      rintro e W3 (⟨rfl, hJ3, hk3⟩ | ⟨rfl, hJx3, hk3⟩)
      · have hf3 := hk3.heap HB.out (fun h => h rfl)
        gi_wp2
        go_roundw
        case rel => exact ⟨i + 1, by omega, by go_num, Go.Lib.hid hf3, Go.Lib.hid hJ3⟩
        case measure => simp [intOf]; omega
      · gi_wp2
        refine bodyPost_ret (results_none rfl _ _ _) rfl ?_
        exact ⟨⟨_, rfl⟩, trivial, .inr hJx3⟩
    · have e : m = i := by omega
      subst e
      gi_wp2
      go_end0
      exact ⟨⟨_, rfl⟩, trivial, .inl HI.out⟩

end Go.Proofs.YtoobopohohoidaaGreatDoor

namespace Go.Proofs.YtoobopohohoidaaGreatDoor
open Go.RowKit Go.Maps Go.Shelf

attribute [local go_sem] Oper.semAt_some

/-- Where plans stands. -/
structure PE (N hb l : Nat) (HV : Array Value) (W : World) : Prop where
  haul : W.heap[hb]? = some (.cells HV 74 (0, 0))
  yld : W.heap[N]? = some (.cells #[.func (.yield l) #[] #[]] 41 (0, 0))
  ext : W.heap[N + 2]? = some (.cells #[.func (.func 68) #[] #[.pointer (some ⟨N, 0, none⟩), .pointer (some ⟨N + 1, 0, none⟩), .pointer (some ⟨hb, 0, none⟩), .pointer (some ⟨N + 3, 0, none⟩)]] 119 (0, 0))
  add : W.heap[N + 3]? = some (.cells #[.func (.func 66) #[] #[.pointer (some ⟨N + 1, 0, none⟩), .pointer (some ⟨N + 2, 0, none⟩)]] 146 (0, 0))
theorem PE.keep {N hb l : Nat} {HV : Array Value} {W W' : World} {T : Nat → Prop} (h : PE N hb l HV W) (hT : Turn T W W') (h1 : ¬ T hb) (h2 : ¬ T N) (h3 : ¬ T (N + 2)) (h4 : ¬ T (N + 3)) : PE N hb l HV W' :=
  ⟨hT.heap h.haul h1, hT.heap h.yld h2, hT.heap h.ext h3, hT.heap h.add h4⟩
theorem PE.lt {N hb l : Nat} {HV : Array Value} {W : World} (h : PE N hb l HV W) : N + 4 ≤ W.heap.size ∧ hb < W.heap.size := ⟨(Array.getElem?_eq_some_iff.1 h.add).1, (Array.getElem?_eq_some_iff.1 h.haul).1⟩
/-- The plan so far, in the row ro. -/
def PlanAt (N : Nat) (ro : Option Nat) (pre : List Nat) (W : World) : Prop :=
  ∃ (A : Option Addr) (c : Nat), W.heap[N + 1]? = some (.cells #[.slice A pre.length c] 22 (0, 0)) ∧ W.ownsRow (N + 4) 3 1 (.slice A pre.length c) pre.length (pre.map fun x : Nat => Value.int .i64 (x : Int)) ∧ (Value.slice A pre.length c).ownBlock = ro
theorem own_turnX {T : Nat → Prop} {W W' : World} {base e size n : Nat} {v : Value} {xs : List Value} (h : W.ownsRow base e size v n xs) (hT : Turn T W W') (hn : ∀ g, v.ownBlock = some g → ¬ T g) : W'.ownsRow base e size v n xs := by
  rcases h with ⟨h0, h | ⟨g, cap, cur, rfl, h2, h3, h4⟩⟩
  · exact ⟨h0, .inl h⟩
  · exact ⟨h0, .inr ⟨g, cap, cur, rfl, h2, hT.heap' h3 (hn g rfl), h4⟩⟩
theorem PlanAt.keep {N : Nat} {ro : Option Nat} {T : Nat → Prop} {pre : List Nat} {W W' : World} (h : PlanAt N ro pre W) (hT : Turn T W W') (h1 : ¬ T (N + 1)) (h2 : ∀ g, ro = some g → ¬ T g) : PlanAt N ro pre W' := by
  obtain ⟨A, c, h3, h4, h5⟩ := h
  exact ⟨A, c, hT.heap h3 h1, own_turnX h4 hT fun g e => h2 g (h5 ▸ e), h5⟩
theorem PlanAt.row {N g : Nat} {pre : List Nat} {W : World} (h : PlanAt N (some g) pre W) : N + 4 ≤ g ∧ g < W.heap.size := by
  obtain ⟨A, c, h3, h4, h5⟩ := h
  rcases h4.2 with ⟨hE, _⟩ | ⟨g', cap, cur, hE, h1, h2, _⟩
  · rw [hE] at h5; cases h5
  · rw [hE] at h5
    simp [Value.ownBlock] at h5
    subst h5
    exact ⟨h1, (Array.getElem?_eq_some_iff.1 h2).1⟩

/-- What may turn. -/
abbrev ExtT (N : Nat) (K : Nat → Prop) (ro : Option Nat) : Nat → Prop := fun b => b = N + 1 ∨ some b = ro ∨ (b < N ∧ ¬ K b)
/-- A row, or a newer one. -/
def RoStep (z : Nat) (ro ro' : Option Nat) : Prop := ro' = ro ∨ ∃ g, ro' = some g ∧ z ≤ g
theorem RoStep.trans {z z' : Nat} {a b c : Option Nat} (h : RoStep z a b) (hz : z ≤ z') (k : RoStep z' b c) : RoStep z a c := by
  rcases k with rfl | ⟨g, rfl, hg⟩
  · exact h
  · exact .inr ⟨g, rfl, by omega⟩
theorem ExtT.trans {N : Nat} {K : Nat → Prop} {a b : Option Nat} {U V W : World} (h : Turn (ExtT N K a) U V) (hr : RoStep U.heap.size a b) (k : Turn (ExtT N K b) V W) : Turn (ExtT N K a) U W := by
  have hz := h.size
  refine ⟨Nat.le_trans h.size k.size, k.os.trans h.os, k.tape.trans h.tape, k.output.trans h.output, fun i hi hn => (k.block i (by omega) ?_).trans (h.block i hi hn)⟩
  rintro (h1 | h1 | h1)
  · exact hn (.inl h1)
  · rcases hr with rfl | ⟨g, rfl, hg⟩
    · exact hn (.inr (.inl h1))
    · simp at h1; omega
  · exact hn (.inr (.inr h1))
/-- How extend and add end. -/
def ExtP (N hb l : Nat) (HV : Array Value) (K : Nat → Prop) (J : Nat → World → Prop) (Jx : World → Prop) (pre : List Nat) (ro : Option Nat) (i1 : Nat) (W : World) (e : Ending) (W' : World) : Prop :=
  ((e = .returned (.bool true) ∧ J i1 W') ∨ (e = .returned (.bool false) ∧ Jx W')) ∧ PE N hb l HV W' ∧ (∃ ro', PlanAt N ro' pre W' ∧ RoStep W.heap.size ro ro') ∧ Turn (ExtT N K ro) W W'

/-- The deferred closure takes a trip off again. -/
theorem bpop_any (pb k c : Nat) (A : Addr) (u : FrameMode) (w : World) (hk : k < c) (hc : c ≤ maxLen) (hA : A.spot = none) (hp : w.heap[pb]? = some (.cells #[.slice (some A) (k + 1) c] 22 (0, 0))) :
    CallsD Tryz.prog 67 #[.pointer (some ⟨pb, 0, none⟩)] u w fun e u' w' => u' = u ∧ e = .returned (.tuple #[]) ∧ w' = w.setCell ⟨pb, 0, none⟩ (.slice (some A) k c) := by
  have c0 : w.cell? ⟨pb, 0, none⟩ = some (.slice (some A) (k + 1) c) := cellH hp 0
  have f0 : w.frozen? ⟨pb, 0, none⟩ = false := freeH hp 0
  have hc2 : k ≤ 9223372036854775806 := by unfold maxLen at hc; omega
  clear hA hp hc
  refine callsD_of_wp Tryz.func67 rfl ?_
  simp only [Tryz.ntmps67, List.size_toArray, List.length_cons, List.length_nil, Nat.reduceAdd, Nat.reduceSub, Array.replicate_succ, Array.replicate_zero, List.push_toArray, List.append_toArray, List.nil_append, List.cons_append]
  go_wp2
  go_end0
  exact ⟨rfl, rfl⟩

theorem plan_type_ne : (22 : Nat) ≠ 3 := by decide

set_option maxRecDepth 100000 in
set_option maxHeartbeats 8000000 in
theorem badd_any (N hb l : Nat) (HV : Array Value) (K : Nat → Prop) (J : Nat → World → Prop) (Jx : World → Prop) (x left : Nat) (pre : List Nat) (ro : Option Nat) (i1 : Nat) (w : World) (hx : x ≤ 3) (hxl : x ≤ left) (hl : left ≤ 8) (hpre : pre.length ≤ 8) (hbN : hb < N) (hKh : K hb)
    (hJ : ∀ i W W', J i W → Turn (fun b => N ≤ b) W W' → J i W') (hJx : ∀ W W', Jx W → Turn (fun b => N ≤ b) W W' → Jx W')
    (hE : ∀ ro1 w1, Turn (fun b => N ≤ b) w w1 → PE N hb l HV w1 → PlanAt N ro1 (pre ++ [x]) w1 →
      Calls Tryz.prog 68 #[.int .i64 ((left - x : Nat) : Int), .pointer (some ⟨N, 0, none⟩), .pointer (some ⟨N + 1, 0, none⟩), .pointer (some ⟨hb, 0, none⟩), .pointer (some ⟨N + 3, 0, none⟩)] w1 (ExtP N hb l HV K J Jx (pre ++ [x]) ro1 i1 w1))
    (h1 : PE N hb l HV w) (h2 : PlanAt N ro pre w) :
    Calls Tryz.prog 66 #[.int .i64 x, .int .i64 left, .pointer (some ⟨N + 1, 0, none⟩), .pointer (some ⟨N + 2, 0, none⟩)] w (ExtP N hb l HV K J Jx pre ro i1 w) := by
  obtain ⟨i0, hi, hz0, hz1, hz2⟩ := info_parts info_intK
  have hmf : ∀ (fn : Fn) (first cap : Array Value) (w : World), (Instr.makeFunc fn first cap).run Tryz.prog w = .ok (.func fn first cap) w := fun _ _ _ _ => rfl
  obtain ⟨hN4, hhb⟩ := h1.lt
  obtain ⟨A, c, h3, h4, hro⟩ := id h2
  have cp : w.cell? ⟨N + 1, 0, none⟩ = some (.slice A pre.length c) := cellH h3 0
  obtain ⟨k, hk⟩ : ∃ k, pre.length = k := ⟨_, rfl⟩
  have HK := Go.Lib.hid hk
  rw [hk] at cp h3 h4 hpre hro
  have HRO := Go.Lib.hid hro
  have h5 := h4.alloc (.cells #[.int .i64 x] 3)
  have hcn := cell_list_new w [.int .i64 x] 3
  have H4 := Go.Lib.hid h5
  have HCN := Go.Lib.hid hcn
  have H1 := Go.Lib.hid h1
  have H3 := Go.Lib.hid h3
  have HE := Go.Lib.hid hE
  have HJ := Go.Lib.hid (And.intro hJ hJx)
  have HXL := Go.Lib.hid hxl
  have hxl' : (x : Int) ≤ left := by omega
  clear h5 hcn hE h1 h2 h3 h4 hk hJ hJx hxl hro
  go_enter_defers Tryz.func66, Tryz.ntmps66
  go_wp2_with (first
    | (at_builtin; go_must (refine wpList_append_lies _ rfl _ _ 22 rfl (N + 4) 3 i0 (.int .i64 0) 1 8 Tryz.underlying22 hi hz0 hz1 hz2 (by decide) (by decide) _ _ _ rfl H4.out ⟨w.heap.size, 0, none⟩ 1 1 [.int .i64 x] rfl rfl HCN.out (by simp [Value.oneCell']) (by omega) (by unfold maxLen; omega) (by omega) (by simp; omega) (w.heap.size + 1) (by simp) ?_; intro g c' w1 hown' hgrow hat _)
       obtain ⟨A', hA'⟩ : ∃ A', some (⟨g, 0, none⟩ : Addr) = A' := ⟨_, rfl⟩
       have HAT := Go.Lib.hid (And.intro hA' hat)
       rw [hA'] at hown' ⊢
       have hgX : Turn (fun b => some b = ro) w w1 := ((Turn.refl _ w).alloc _).trans ⟨hgrow.size, hgrow.os, hgrow.tape, hgrow.output, fun b hb hn => hgrow.block b hb (fun e => hn (e.trans HRO.out))⟩
       have HGX := Go.Lib.hid hgX
       have hg1 : Below (N + 4) w w1 := ((Below.refl (N + 4) w).alloc (by omega) _).trans (grown_below H4.out hgrow (Nat.le_refl _) (by simp; omega))
       have hp1 := (hg1.block (N + 1) (by omega)).trans H3.out
       have cp1 : w1.cell? ⟨N + 1, 0, none⟩ = some (.slice A k c) := cellH hp1 0
       have fp1 : w1.frozen? ⟨N + 1, 0, none⟩ = false := freeH hp1 0
       have hp2 := setH hp1 0 (.slice A' (k + 1) c')
       have HG1 := Go.Lib.hid hg1
       have HO1 := Go.Lib.hid hown'
       have HP2 := Go.Lib.hid hp2
       have ce : (w1.setCell ⟨N + 1, 0, none⟩ (.slice A' (k + 1) c')).cell? ⟨N + 2, 0, none⟩ = some (.func (.func 68) #[] #[.pointer (some ⟨N, 0, none⟩), .pointer (some ⟨N + 1, 0, none⟩), .pointer (some ⟨hb, 0, none⟩), .pointer (some ⟨N + 3, 0, none⟩)]) :=
         cellH ((Below.heap_setCell w1 ⟨N + 1, 0, none⟩ _ (N + 2) (by show N + 2 ≠ N + 1; omega)).trans ((hg1.block (N + 2) (by omega)).trans H1.out.ext)) 0
       clear hg1 hp1 hown' hgrow hp2 hgX hat hA'))
  have e0 : (left : Int) - x = ((left - x : Nat) : Int) := by have := HXL.out; omega
  rw [e0]
  clear e0 hxl'
  obtain ⟨W1, hW1⟩ : ∃ W1, w1.setCell ⟨N + 1, 0, none⟩ (.slice A' (k + 1) c') = W1 := ⟨_, rfl⟩
  have hS1 : Turn (fun b => b = N + 1) w1 W1 := hW1 ▸ Turn.of_but ((But.refl (N + 1) w1).set 0 _)
  have hTa : Turn (fun b => b = N + 1 ∨ some b = ro) w W1 := (HGX.out.mono fun b _ h => .inr h).trans (hS1.mono fun b _ h => .inl h)
  have hTb : Turn (fun b => N + 4 ≤ b ∨ b = N + 1) w W1 := ((Turn.of_below HG1.out).mono fun b _ h => .inl h).trans (hS1.mono fun b _ h => .inr h)
  obtain ⟨ro1, hro1⟩ : ∃ ro1, (Value.slice A' (k + 1) c').ownBlock = ro1 := ⟨_, rfl⟩
  have hst : RoStep w.heap.size ro ro1 := by
    obtain ⟨rfl, h | h⟩ := HAT.out
    · left; exact hro1.symm.trans (h.symm.trans HRO.out)
    · right; exact ⟨g, by rw [← hro1]; rfl, by omega⟩
  have hpl : PlanAt N ro1 (pre ++ [x]) W1 := by
    have hk := HK.out
    refine ⟨A', c', ?_, ?_, ?_⟩
    · rw [List.length_append, hk, ← hW1]; exact HP2.out
    · rw [List.length_append, hk, List.map_append]; exact own_turn HO1.out hS1 (fun b hb h => by omega)
    · rw [List.length_append, hk]; exact hro1
  rw [hW1]
  clear hW1
  refine (HE.out ro1 _ (hTb.mono fun b _ h => by omega) (H1.out.keep hTb (by omega) (by omega) (by omega) (by omega)) hpl).mono ?_
  rintro e w2 ⟨hr, hPE2, ⟨ro2, ⟨A2, c2, hq3, hq4, hq5⟩, hst2⟩, hT2⟩
  have hkl : (pre ++ [x]).length = k + 1 := by rw [List.length_append, HK.out]; rfl
  rw [hkl] at hq3 hq4 hq5
  obtain ⟨g2, cur, rfl, hgb, hgc, hk2, hk3, hk4, hk5⟩ : ∃ g cur, A2 = some ⟨g, 0, none⟩ ∧ N + 4 ≤ g ∧ w2.heap[g]? = some (.cells cur 3 (0, 0)) ∧ k + 1 ≤ c2 ∧ c2 ≤ maxLen ∧ cur.size = c2 * 1 ∧ cur.toList.take ((k + 1) * 1) = (pre ++ [x]).map fun x : Nat => Value.int .i64 (x : Int) := by
    rcases hq4.2 with ⟨hE, h0⟩ | ⟨g, cap, cur, hE, h1, h2, h3, h4, h5, h6⟩
    · omega
    · simp only [Value.slice.injEq] at hE
      obtain ⟨rfl, _, rfl⟩ := hE
      exact ⟨g, cur, rfl, h1, h2, h3, h4, h5, h6⟩
  have hT3 : Turn (fun b => b = N + 1) w2 (w2.setCell ⟨N + 1, 0, none⟩ (.slice (some ⟨g2, 0, none⟩) k c2)) := Turn.of_but ((But.refl (N + 1) w2).set 0 _)
  have hpl3 : PlanAt N ro2 pre (w2.setCell ⟨N + 1, 0, none⟩ (.slice (some ⟨g2, 0, none⟩) k c2)) := by
    have hk := HK.out
    refine ⟨some ⟨g2, 0, none⟩, c2, by rw [hk]; exact setH hq3 0 _, ?_, hq5⟩
    rw [hk]
    refine ⟨by simp [hk], .inr ⟨g2, c2, cur, rfl, hgb, hT3.heap' hgc (by omega), by omega, hk3, hk4, ?_⟩⟩
    have e1 : cur.toList.take (k * 1) = (cur.toList.take ((k + 1) * 1)).take k := by rw [List.take_take]; congr 1; omega
    rw [e1, hk5, List.map_append]
    exact List.take_left' (by simp [hk])
  have hX : Turn (ExtT N K ro) w (w2.setCell ⟨N + 1, 0, none⟩ (.slice (some ⟨g2, 0, none⟩) k c2)) :=
    (ExtT.trans (K := K) (hTa.mono fun b _ h => by rcases h with h | h; exact .inl h; exact .inr (.inl h)) hst hT2).trans (hT3.mono fun b _ h => .inl h)
  have hPE3 := hPE2.keep hT3 (by omega) (by omega) (by omega) (by omega)
  have hst3 : RoStep w.heap.size ro ro2 := hst.trans hTa.size hst2
  have HQ3 := Go.Lib.hid hq3
  have HF := Go.Lib.hid (And.intro hPE3 (And.intro (show ∃ ro', PlanAt N ro' pre (w2.setCell ⟨N + 1, 0, none⟩ (.slice (some ⟨g2, 0, none⟩) k c2)) ∧ RoStep w.heap.size ro ro' from ⟨ro2, hpl3, hst3⟩) hX))
  have hkk : k < c2 := by omega
  have HKK := Go.Lib.hid (And.intro hkk (And.intro hk3 hT3))
  clear hq3 hq4 hq5 hgc hk2 hk3 hk4 hk5 hT3 hpl3 hX hPE3 hPE2 hT2 hpl hTa hTb hkl hkk hst hst2 hst3 hS1 hro1
  rcases hr with ⟨rfl, hr⟩ | ⟨rfl, hr⟩
  · have HR := Go.Lib.hid hr
    clear hr
    go_wp2_with fail
    refine leaves_cons (f := 67) (args := #[.pointer (some ⟨N + 1, 0, none⟩)]) (by simp) (by simp [go_sem]) ?_
    refine (bpop_any (N + 1) k c2 ⟨g2, 0, none⟩ _ _ HKK.out.1 HKK.out.2.1 rfl HQ3.out).mono ?_
    rintro e u' w'' ⟨rfl, rfl, rfl⟩
    simp [Leaves, settle, results, Tryz.results66, go_sem]
    exact ⟨.inl ⟨rfl, HJ.out.1 _ _ _ HR.out (HKK.out.2.2.mono fun b _ h => by omega)⟩, HF.out.1, HF.out.2.1, HF.out.2.2⟩
  · have HR := Go.Lib.hid hr
    clear hr
    go_wp2_with fail
    refine leaves_cons (f := 67) (args := #[.pointer (some ⟨N + 1, 0, none⟩)]) (by simp) (by simp [go_sem]) ?_
    refine (bpop_any (N + 1) k c2 ⟨g2, 0, none⟩ _ _ HKK.out.1 HKK.out.2.1 rfl HQ3.out).mono ?_
    rintro e u' w'' ⟨rfl, rfl, rfl⟩
    simp [Leaves, settle, results, Tryz.results66, go_sem]
    exact ⟨.inr ⟨rfl, HJ.out.2 _ _ HR.out (HKK.out.2.2.mono fun b _ h => by omega)⟩, HF.out.1, HF.out.2.1, HF.out.2.2⟩

end Go.Proofs.YtoobopohohoidaaGreatDoor
