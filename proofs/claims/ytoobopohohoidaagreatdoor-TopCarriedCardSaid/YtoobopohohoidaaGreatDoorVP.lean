/- VAULT: the best choices, in order; afford; the deferred closure of choices. -/
/- VAULT: how extend leaves; laws on whole blocks in a round. -/
import Derived.Test.YtoobopohohoidaaGreatDoorVO
import Derived.Test.YtoobopohohoidaaGreatDoorRng
import Derived.RecoverIn
set_option linter.unusedSimpArgs false
set_option linter.unusedVariables false
namespace Go.Proofs.YtoobopohohoidaaGreatDoor
open Go.RowKit Go.Maps Go.Shelf

/-- The best choices from a place on. -/
def bestsL (P : Nat) : List Nat → Nat → List (List Int)
  | [], _ => [[]]
  | p :: t, s => (stepL P p s).flatMap fun x => if fetN s x.2 + fewN P t x.2 = fewN P (p :: t) s then (bestsL P t x.2).map (x.1 :: ·) else []
/-- Those behind one step. -/
def behind (P : Nat) (p : Nat) (t : List Nat) (s : Nat) (x : Int × Nat) : List (List Int) := if fetN s x.2 + fewN P t x.2 = fewN P (p :: t) s then (bestsL P t x.2).map (x.1 :: ·) else []
theorem bests_cons (P p : Nat) (t : List Nat) (s : Nat) : bestsL P (p :: t) s = (stepL P p s).flatMap (behind P p t s) := rfl
/-- How many come with the first i steps. -/
def offs (P p : Nat) (t : List Nat) (s i : Nat) : Nat := (((stepL P p s).take i).flatMap (behind P p t s)).length
theorem offs_zero (P p : Nat) (t : List Nat) (s : Nat) : offs P p t s 0 = 0 := by simp [offs]
theorem offs_all (P p : Nat) (t : List Nat) (s : Nat) : offs P p t s (stepL P p s).length = (bestsL P (p :: t) s).length := by rw [offs, List.take_length, bests_cons]
theorem offs_next {P p : Nat} {t : List Nat} {s i : Nat} {x : Int × Nat} (h : (stepL P p s)[i]? = some x) : offs P p t s (i + 1) = offs P p t s i + (behind P p t s x).length := by
  obtain ⟨hi, e⟩ := List.getElem?_eq_some_iff.1 h
  rw [offs, List.take_succ_eq_append_getElem hi, e, List.flatMap_append, List.length_append, ← offs]
  simp
theorem bests_at {P p : Nat} {t : List Nat} {s i j : Nat} {x : Int × Nat} (h : (stepL P p s)[i]? = some x) (hj : j < (behind P p t s x).length) : (bestsL P (p :: t) s).getD (offs P p t s i + j) [] = (behind P p t s x).getD j [] := by
  obtain ⟨hi, e⟩ := List.getElem?_eq_some_iff.1 h
  rw [bests_cons]
  have e1 : stepL P p s = (stepL P p s).take i ++ (x :: (stepL P p s).drop (i + 1)) := by rw [← e, ← List.drop_eq_getElem_cons hi, List.take_append_drop]
  have e2 : (stepL P p s).flatMap (behind P p t s) = ((stepL P p s).take i).flatMap (behind P p t s) ++ (behind P p t s x ++ ((stepL P p s).drop (i + 1)).flatMap (behind P p t s)) := by
    conv => lhs; rw [e1]
    rw [List.flatMap_append, List.flatMap_cons]
  rw [e2, List.getD_eq_getElem?_getD, offs, List.getElem?_append_right (by omega), List.getD_eq_getElem?_getD, Nat.add_sub_cancel_left, List.getElem?_append_left hj]
theorem bests_len (P : Nat) : ∀ (t : List Nat) (s : Nat) (c : List Int), c ∈ bestsL P t s → c.length = t.length
  | [], s, c, h => by simp [bestsL] at h; subst h; rfl
  | p :: t, s, c, h => by
    rw [bests_cons] at h
    obtain ⟨x, _, h⟩ := List.mem_flatMap.1 h
    unfold behind at h
    split at h
    · obtain ⟨c', hc', rfl⟩ := List.mem_map.1 h
      simp [bests_len P t x.2 c' hc']
    · cases h
theorem fet_le {P p : Nat} {t : List Nat} {s : Nat} {x : Int × Nat} (hs : s < 64) (hp : p < 6) (h : x ∈ stepL P p s) : fewN P (p :: t) s ≤ fetN s x.2 + fewN P t x.2 := by
  rw [few_vals hs hp]
  exact minL_le (List.mem_map.2 ⟨x, h, rfl⟩)
theorem fet_pos {P p : Nat} {t : List Nat} {s : Nat} {x : Int × Nat} (hs : s < 64) (hp : p < 6) (h : x ∈ stepL P p s) : fetN s x.2 ≤ fewN P (p :: t) s := by
  cases hv : s.testBit p with
  | true =>
    rw [stepL, if_pos (.inl hv)] at h
    simp at h
    subst h
    simp [fetN, with_same hs hp hv]
  | false =>
    have h1 : 1 ≤ fewN P (p :: t) s := by
      by_cases hc : cnt s < P
      · rw [few_room hv hc]; omega
      · rw [stepL, if_neg (by rintro (h1 | h1); rw [hv] at h1; cases h1; exact hc h1)] at h
        obtain ⟨q, hq, _⟩ := List.mem_map.1 h
        obtain ⟨q', _, _, e⟩ := few_ex (P := P) (t := t) hv hc (fun e => by rw [e] at hq; cases hq)
        omega
    have : fetN s x.2 ≤ 1 := by unfold fetN; split <;> omega
    omega

set_option maxRecDepth 100000 in
set_option maxHeartbeats 2000000 in
theorem vafford_any (P B : Nat) (t : List Nat) (m : Nat) (v1 v2 v3 v4 v5 v6 v7 v8 v9 v10 : Value) (tA : Option Addr) (tc kb k s lf : Nat) (w : World) (hP : 1 ≤ P) (ht6 : ∀ p ∈ t, p < 6) (hm : t.length = m) (hm8 : m ≤ 8) (hkB : B ≤ kb)
    (o1 : v1.oneCell' = true) (o2 : v2.oneCell' = true) (o3 : v3.oneCell' = true) (o4 : v4.oneCell' = true) (o5 : v5.oneCell' = true) (o6 : v6.oneCell' = true) (o7 : v7.oneCell' = true) (o8 : v8.oneCell' = true) (o9 : v9.oneCell' = true) (o10 : v10.oneCell' = true)
    (hk : k ≤ m) (hs : s < 64) (hc : cnt s ≤ P) (hI : Ints w B tA m (ofL t)) (hK : Known P t kb w) :
    Calls Tryz.prog 53 #[.agg (tourC P v1 v2 v3 v4 v5 v6 v7 v8 v9 v10 tA m tc kb), .agg (plV k s), .int .i64 lf] w fun e w' =>
      (e = if lf < fewN P (t.drop k) s then .panicked [{ v := .iface 132 (.agg #[]), recovered := false }] else .returned (.tuple #[])) ∧ Turn (fun b => b = kb) w w' ∧ Known P t kb w' := by
  obtain ⟨Fw, hFw⟩ : ∃ Fw, fewN P (t.drop k) s = Fw := ⟨_, rfl⟩
  have HF := Go.Lib.hid (fun (W : World) h1 h2 => (vfewest_any P B t m v1 v2 v3 v4 v5 v6 v7 v8 v9 v10 tA tc kb hP ht6 hm hm8 hkB o1 o2 o3 o4 o5 o6 o7 o8 o9 o10 (m - k) k s W rfl hk hs hc h1 h2).mono (R' := fun e w' => e = .returned (.int .i64 Fw) ∧ Turn (fun b => b = kb) W w' ∧ Known P t kb w') (by rintro e w' ⟨rfl, h1, h2⟩; exact ⟨by rw [hFw], h1, h2⟩))
  have hkb := hK.lt
  have HI := Go.Lib.hid (show Ints ((w.alloc (.cells (tourC P v1 v2 v3 v4 v5 v6 v7 v8 v9 v10 tA m tc kb) 61)).alloc (.cells (plV k s) 70)) B tA m (ofL t) from hI.keep fun b hb => (turn_boxes2 w _ _ _ _ (fun _ => False)).block b (by omega) (fun h => h))
  have HK := Go.Lib.hid (hK.keep (turn_boxes2 w (tourC P v1 v2 v3 v4 v5 v6 v7 v8 v9 v10 tA m tc kb) (plV k s) 61 70 (fun _ => False)) (fun h => h))
  have HT := Go.Lib.hid (turn_boxes2 w (tourC P v1 v2 v3 v4 v5 v6 v7 v8 v9 v10 tA m tc kb) (plV k s) 61 70 (fun b => b = kb))
  rw [hFw]
  clear hI hK hFw o1 o2 o3 o4 o5 o6 o7 o8 o9 o10
  by_cases hlt : lf < Fw
  · have hd : decide (lf < Fw) = true := by simp; omega
    rw [if_pos hlt]
    go_enter Tryz.func53, Tryz.ntmps53
    go_wp2_with (first | (go_at_call 18; refine (HF.out _ HI.out HK.out).mono ?_; rintro e w' ⟨rfl, hT1, hK1⟩))
    exact ⟨rfl, rfl, HT.out.trans hT1, hK1⟩
  · have hd : decide (lf < Fw) = false := by simp; omega
    rw [if_neg hlt]
    go_enter Tryz.func53, Tryz.ntmps53
    go_wp2_with (first | (go_at_call 18; refine (HF.out _ HI.out HK.out).mono ?_; rintro e w' ⟨rfl, hT1, hK1⟩))
    go_end0
    exact ⟨rfl, HT.out.trans hT1, hK1⟩

/-- The deferred closure of choices: nothing to recover. -/
theorem vcatch_idle (n b : Nat) (w : World) :
    CallsDIn .wide n Tryz.prog 52 #[.pointer (some ⟨b, 0, none⟩)] .returning w fun e u' w' => e = .returned (.tuple #[]) ∧ u' = .returning ∧ w' = w := by
  refine callsDIn_of_wpSIn Tryz.func52 rfl trivial fun c₀ cs hu => ?_
  apply wpSIn_seq
  apply wpSIn_region
  simp [wpOpsSIn, go_sem, recoverD, hu, Tryz.ntmps52, Exit.thenS]
  rw [show (#[Value.pointer (some ⟨b, 0, none⟩)] ++ (Array.replicate 9 undef).setIfInBounds 3 Value.nilIface) = #[Value.pointer (some ⟨b, 0, none⟩), undef, undef, undef, Value.nilIface, undef, undef, undef, undef, undef] from rfl]
  refine wpSIn_of_wpIn rfl ?_
  gi_wp2
  cases c₀
  simp_all [bodyPostS, results, Tryz.results52]

/-- .. and where afford has panicked: there is more. -/
theorem vcatch_more (n b T : Nat) (v : Value) (w : World) (hb : w.heap[b]? = some (.cells #[v] T (0, 0))) (hv : v.oneCell' = true) :
    CallsDIn .wide n Tryz.prog 52 #[.pointer (some ⟨b, 0, none⟩)] (.panicking [{ v := .iface 132 (.agg #[]), recovered := false }]) w fun e u' w' => e = .returned (.tuple #[]) ∧ u' = .panicking [{ v := .iface 132 (.agg #[]), recovered := true }] ∧
      w'.heap[b]? = some (.cells #[.bool true] T (0, 0)) ∧ Turn (fun x => x = b) w w' := by
  have hb1 := heap_old (.cells #[] 132) hb
  have hbz : b < w.heap.size := (Array.getElem?_eq_some_iff.1 hb).1
  have hE := Go.Lib.hid (show ((w.setCell ⟨b, 0, none⟩ (Value.bool true)).alloc (Obj.cells #[] 132)).heap[b]? = some (Obj.cells #[Value.bool true] T) from heap_old _ (setH hb 0 (.bool true)))
  have hF := Go.Lib.hid (show Turn (fun x => x = b) w ((w.setCell ⟨b, 0, none⟩ (Value.bool true)).alloc (Obj.cells #[] 132)) from (Turn.of_but ((But.refl b w).set 0 _)).alloc _)
  have c0 : (w.alloc (.cells #[] 132)).cell? ⟨b, 0, none⟩ = some v := cellH hb1 0
  have f0 : (w.alloc (.cells #[] 132)).frozen? ⟨b, 0, none⟩ = false := freeH hb1 0
  have ta : ∀ w, (Instr.typeAssert (.iface 132 (.agg #[])) 20 132 true).run Tryz.prog w = .ok (.tuple #[.agg #[], .bool true]) w := fun _ => by kernel_rfl
  refine callsDIn_of_wpSIn Tryz.func52 rfl trivial fun c₀ cs hu => ?_
  apply wpSIn_seq
  apply wpSIn_region
  simp [wpOpsSIn, go_sem, recoverD, hu, Tryz.ntmps52, Exit.thenS]
  rw [show (#[Value.pointer (some ⟨b, 0, none⟩)] ++ (Array.replicate 9 undef).setIfInBounds 3 (Value.iface 132 (.agg #[]))) = #[Value.pointer (some ⟨b, 0, none⟩), undef, undef, undef, Value.iface 132 (.agg #[]), undef, undef, undef, undef, undef] from rfl]
  refine wpSIn_of_wpIn rfl ?_
  gi_wp2
  all_goals (cases c₀; simp_all [bodyPostS, results, Tryz.results52])
  exact ⟨hE.out, hF.out⟩

end Go.Proofs.YtoobopohohoidaaGreatDoor

namespace Go.Proofs.YtoobopohohoidaaGreatDoor
open Go.RowKit Go.Maps Go.Shelf

theorem wpListIn_load_whole {F : Fence} {n : Nat} {P : Program} {ops : Array Oper} {rest : List Oper} {o : Oper} {a : Act} {w : World} {Q : Exit → Act → World → Prop} (hgd : o.guard = none) (ty : TypeId) (x : Operand) (ho : o.op = .load ty x)
    (g : Nat) (hx : a.eval x = .pointer (some ⟨g, 0, none⟩)) {t : TypeId} {cs : Array Value} {fr : Nat × Nat} {d : TypeDesc} (hg : w.heap[g]? = some (.cells cs t fr))
    (hu : P.underlying ty = some d) (hd : d.isRow = true) (hi : (P.info? ty).map (·.size) = some cs.size)
    (h : wpListIn F n P ops Q rest (a.put o.dst (.agg cs)) w) : wpListIn F n P ops Q (o :: rest) a w := by
  refine wpListIn_plain hgd fun K hK => ?_
  refine ⟨fun f hf => ?_, ?_⟩
  · unfold Oper.about at hf
    rw [ho] at hf
    cases hf
  · rw [Oper.semAt_eq _ _ _ (fun c => by rw [ho]; simp)]
    have hr : (execOp a.eval o).run P w = .ok (.value (.agg cs)) w := by
      unfold execOp
      simp only [ho, hx, Instr.loadAt, Instr.sureAddr, Sem.run_bind, Sem.run_pure, Result.andThen_ok, loadVar_whole hg hu hd hi]
    rw [hr, Oper.uponIn_value]
    exact hK _ _ h

/-- extend's deferred call. -/
abbrev catchD (rb : Nat) : Deferred := { target := .fn (.func 52) #[.pointer (some ⟨rb, 0, none⟩)], args := #[] }
theorem catch_in (rb : Nat) (w : World) : (invoke (catchD rb).target (catchD rb).args).run Tryz.prog w = .ok (.enter 52 #[.pointer (some ⟨rb, 0, none⟩)]) w := by
  simp [invoke, go_sem, enters_of Tryz.func52 (by kernel_rfl) rfl]
theorem ext_result {tmps : Array Value} {rb : Nat} {v : Bool} {W : World} (h8 : tmps.getD 8 undef = .pointer (some ⟨rb, 0, none⟩)) (hb : W.heap[rb]? = some (.cells #[.bool v] 4 (0, 0))) :
    (results Tryz.f51 tmps).run Tryz.prog W = .ok (.bool v) W := by
  have hl : (loadVar 4 ⟨rb, 0, none⟩).run Tryz.prog W = .ok (.bool v) W := by
    have := cellH hb 0
    simp [loadVar, go_sem, this]
  have h8' : tmps[8]?.getD undef = .pointer (some ⟨rb, 0, none⟩) := by simpa using h8
  simp [results, Tryz.results51, h8', asAddr, hl]
theorem ext_out {n rb : Nat} {tmps : Array Value} {v : Bool} {W : World} {R : Ending → World → Prop} (h8 : tmps.getD 8 undef = .pointer (some ⟨rb, 0, none⟩)) (hb : W.heap[rb]? = some (.cells #[.bool v] 4 (0, 0)))
    (hR : R (.returned (.bool v)) W) : LeavesInM .wide n Tryz.prog Tryz.f51 tmps R [catchD rb] .returning W := by
  refine ⟨by simp, .inr ⟨(fun h => by cases h), _, _, _, _, rfl, catch_in rb W, fun _ _ => trivial, ?_⟩⟩
  obtain ⟨h1, h2⟩ := vcatch_idle (n - 1) rb W
  refine ⟨h1, fun c cs hc hr => ?_⟩
  obtain ⟨e, u', w', fr, ⟨rfl, rfl, rfl⟩, h3⟩ := h2 c cs hc hr
  exact ⟨.returned (.tuple #[]), .returning, _, fr, ⟨_, ext_result h8 hb, hR⟩, h3⟩
theorem ext_panic {n rb : Nat} {tmps : Array Value} {v : Bool} {W : World} {R : Ending → World → Prop} (h8 : tmps.getD 8 undef = .pointer (some ⟨rb, 0, none⟩)) (hb : W.heap[rb]? = some (.cells #[.bool v] 4 (0, 0)))
    (hR : ∀ W', Turn (fun b => b = rb) W W' → R (.returned (.bool true)) W') :
    LeavesInM .wide n Tryz.prog Tryz.f51 tmps R [catchD rb] (.panicking [{ v := .iface 132 (.agg #[]), recovered := false }]) W := by
  refine ⟨by simp, .inr ⟨(fun h => by cases h), _, _, _, _, rfl, catch_in rb W, fun _ _ => trivial, ?_⟩⟩
  obtain ⟨h1, h2⟩ := vcatch_more (n - 1) rb 4 (.bool v) W hb rfl
  refine ⟨h1, fun c cs hc hr => ?_⟩
  obtain ⟨e, u', w', fr, ⟨rfl, rfl, hb', hT⟩, h3⟩ := h2 c cs hc hr
  exact ⟨.returned (.tuple #[]), .panicking [{ v := .iface 132 (.agg #[]), recovered := true }], _, fr, ⟨_, ext_result h8 hb', hR _ hT⟩, h3⟩

/-- Eight places for a choice. -/
def chV (q : List Int) : Array Value := #[.int .i64 (q.getD 0 0), .int .i64 (q.getD 1 0), .int .i64 (q.getD 2 0), .int .i64 (q.getD 3 0), .int .i64 (q.getD 4 0), .int .i64 (q.getD 5 0), .int .i64 (q.getD 6 0), .int .i64 (q.getD 7 0)]
theorem getD_set' {q : List Int} {k j : Nat} (h : k < q.length) (x : Int) : (q.set k x).getD j 0 = if k = j then x else q.getD j 0 := by
  rw [List.getD_eq_getElem?_getD, List.getElem?_set]
  split
  · rename_i e; subst e; simp [h]
  · rw [List.getD_eq_getElem?_getD]
theorem chV_set {q : List Int} {k : Nat} (h : k < q.length) (h8 : k < 8) (x : Int) : (chV q).setIfInBounds k (.int .i64 x) = chV (q.set k x) := by
  unfold chV
  simp only [getD_set' h]
  match k, h8 with
  | 0, _ => simp
  | 1, _ => simp
  | 2, _ => simp
  | 3, _ => simp
  | 4, _ => simp
  | 5, _ => simp
  | 6, _ => simp
  | 7, _ => simp
theorem chV_get (q : List Int) {k : Nat} (h8 : k < 8) : (chV q)[k]? = some (.int .i64 (q.getD k 0)) := by
  unfold chV
  match k, h8 with
  | 0, _ => rfl
  | 1, _ => rfl
  | 2, _ => rfl
  | 3, _ => rfl
  | 4, _ => rfl
  | 5, _ => rfl
  | 6, _ => rfl
  | 7, _ => rfl
theorem take_set' {q : List Int} {k : Nat} {pre : List Int} (h : k < q.length) (hp : q.take k = pre) (x : Int) : (q.set k x).take (k + 1) = pre ++ [x] := by
  have hk : pre.length = k := by rw [← hp, List.length_take, Nat.min_eq_left (by omega)]
  rw [List.take_set, List.take_succ_eq_append_getElem h, List.set_append_right _ _ (by simp; omega)]
  simp [hp, hk]
theorem take_less {q : List Int} {k : Nat} {pre : List Int} {x : Int} (h : q.take (k + 1) = pre ++ [x]) (hp : pre.length = k) : q.take k = pre := by
  have := congrArg (List.take k) h
  rw [List.take_take, Nat.min_eq_left (by omega), List.take_left' hp] at this
  exact this

/-- What extend yields. -/
def extL (P : Nat) (u : List Nat) (s left : Nat) : List (List Int) := if left = fewN P u s then bestsL P u s else []
theorem ext_behind {P p : Nat} {t : List Nat} {s : Nat} {x : Int × Nat} (h : fetN s x.2 ≤ fewN P (p :: t) s) : behind P p t s x = (extL P t x.2 (fewN P (p :: t) s - fetN s x.2)).map (x.1 :: ·) := by
  unfold behind extL
  by_cases e : fetN s x.2 + fewN P t x.2 = fewN P (p :: t) s
  · rw [if_pos e, if_pos (by omega)]
  · rw [if_neg e, if_neg (by omega)]; rfl

theorem bests_lt {P p : Nat} {t : List Nat} {s i j : Nat} {x : Int × Nat} (h : (stepL P p s)[i]? = some x) (hj : j < (behind P p t s x).length) : offs P p t s i + j < (bestsL P (p :: t) s).length := by
  obtain ⟨hi, e⟩ := List.getElem?_eq_some_iff.1 h
  rw [bests_cons]
  have e1 : stepL P p s = (stepL P p s).take i ++ (x :: (stepL P p s).drop (i + 1)) := by rw [← e, ← List.drop_eq_getElem_cons hi, List.take_append_drop]
  have e2 : (stepL P p s).flatMap (behind P p t s) = ((stepL P p s).take i).flatMap (behind P p t s) ++ (behind P p t s x ++ ((stepL P p s).drop (i + 1)).flatMap (behind P p t s)) := by
    conv => lhs; rw [e1]
    rw [List.flatMap_append, List.flatMap_cons]
  rw [e2, offs, List.length_append, List.length_append]
  omega
theorem map_getD {α : Type} {f : List α → List α} {L : List (List α)} {j : Nat} (h : j < L.length) : (L.map f).getD j [] = f (L.getD j []) := by
  rw [List.getD_eq_getElem?_getD, List.getElem?_map, List.getElem?_eq_getElem h, List.getD_eq_getElem?_getD, List.getElem?_eq_getElem h]
  rfl
/-- What the calls of extend in extend's loop yield. -/
theorem ext_vals {P p s i0 left M : Nat} {t : List Nat} {x : Int × Nat} {i : Nat} {pre : List Int} {val : Nat → Array Value} (hs : s < 64) (hp : p < 6) (hx : (stepL P p s)[i]? = some x) (hF : fewN P (p :: t) s = left)
    (hv : ∀ j, j < (extL P (p :: t) s left).length → i0 + j < M ∧ val (i0 + j) = #[.agg (chV (pre ++ (extL P (p :: t) s left).getD j []))]) :
    (∀ j, j < (extL P t x.2 (left - fetN s x.2)).length → i0 + offs P p t s i + j < M ∧ val (i0 + offs P p t s i + j) = #[.agg (chV (pre ++ [x.1] ++ (extL P t x.2 (left - fetN s x.2)).getD j []))]) ∧
      offs P p t s (i + 1) = offs P p t s i + (extL P t x.2 (left - fetN s x.2)).length := by
  have hm : x ∈ stepL P p s := List.mem_of_getElem? hx
  have hb := ext_behind (P := P) (t := t) (fet_pos hs hp hm (P := P) (t := t))
  rw [hF] at hb
  have he : extL P (p :: t) s left = bestsL P (p :: t) s := by rw [extL, if_pos hF.symm]
  rw [he] at hv
  refine ⟨fun j hj => ?_, by rw [offs_next hx, hb, List.length_map]⟩
  have hj' : j < (behind P p t s x).length := by rw [hb, List.length_map]; exact hj
  have h1 := hv _ (bests_lt hx hj')
  rw [bests_at hx hj', hb, map_getD hj] at h1
  rw [Nat.add_assoc]
  refine ⟨h1.1, h1.2.trans ?_⟩
  simp

/-- What extend works with. -/
structure ExtE (P B : Nat) (t : List Nat) (m : Nat) (TV : Array Value) (tA : Option Addr) (kb tb yb mb eb l : Nat) (W : World) : Prop where
  tour : W.heap[tb]? = some (.cells TV 61 (0, 0))
  yld : W.heap[yb]? = some (.cells #[.func (.yield l) #[] #[]] 129 (0, 0))
  ext : W.heap[eb]? = some (.cells #[.func (.func 51) #[] #[.pointer (some ⟨tb, 0, none⟩), .pointer (some ⟨yb, 0, none⟩), .pointer (some ⟨mb, 0, none⟩), .pointer (some ⟨eb, 0, none⟩)]] 130 (0, 0))
  ints : Ints W B tA m (ofL t)
  known : Known P t kb W
theorem ExtE.keep {P B : Nat} {t : List Nat} {m : Nat} {TV : Array Value} {tA : Option Addr} {kb tb yb mb eb l : Nat} {W W' : World} {T : Nat → Prop} (h : ExtE P B t m TV tA kb tb yb mb eb l W) (hT : Turn T W W')
    (h1 : ¬ T tb) (h2 : ¬ T yb) (h3 : ¬ T eb) (h4 : ∀ b, b < B → ¬ T b) (hB : B ≤ W.heap.size) (hK : Known P t kb W') : ExtE P B t m TV tA kb tb yb mb eb l W' :=
  ⟨hT.heap h.tour h1, hT.heap h.yld h2, hT.heap h.ext h3, h.ints.keep fun b hb => hT.block b (by omega) (h4 b hb), hK⟩
/-- The choice that is being made. -/
def MadeAt (mb m k : Nat) (pre : List Int) (W : World) : Prop := ∃ q : List Int, W.heap[mb]? = some (.cells (chV q) 65 (0, 0)) ∧ q.length = m ∧ q.take k = pre
theorem MadeAt.keep {mb m k : Nat} {pre : List Int} {W W' : World} {T : Nat → Prop} (h : MadeAt mb m k pre W) (hT : Turn T W W') (h1 : ¬ T mb) : MadeAt mb m k pre W' := let ⟨q, h2, h3⟩ := h; ⟨q, hT.heap h2 h1, h3⟩
/-- What extend may turn. -/
abbrev ExtX (mb kb N : Nat) (K : Nat → Prop) : Nat → Prop := fun b => b = mb ∨ b = kb ∨ (b < N ∧ ¬ K b)
/-- What extend's loop holds. -/
structure ExtJ (P B : Nat) (t : List Nat) (m : Nat) (TV : Array Value) (tA : Option Addr) (kb tb yb mb eb l N : Nat) (K : Nat → Prop) (k s left z : Nat) (pre : List Int) (w : World) (W : World) : Prop where
  env : ExtE P B t m TV tA kb tb yb mb eb l W
  place : W.heap[z]? = some (.cells (plV k s) 70 (0, 0))
  left : W.heap[z + 1]? = some (.cells #[.int .i64 left] 3 (0, 0))
  res : W.heap[z + 2]? = some (.cells #[.bool false] 4 (0, 0))
  made : MadeAt mb m k pre W
  turn : Turn (fun b => ExtX mb kb N K b ∨ z ≤ b) w W
theorem ExtJ.keep {P B : Nat} {t : List Nat} {m : Nat} {TV : Array Value} {tA : Option Addr} {kb tb yb mb eb l N : Nat} {K : Nat → Prop} {k s left z : Nat} {pre : List Int} {w : World} {W W' : World} {T : Nat → Prop}
    (h : ExtJ P B t m TV tA kb tb yb mb eb l N K k s left z pre w W) (hT : Turn T W W') (hn : ∀ b, T b → z + 3 ≤ b) (h1 : tb < z) (h2 : yb < z) (h3 : eb < z) (h4 : B ≤ z) (h5 : kb < z) (h6 : mb < z) : ExtJ P B t m TV tA kb tb yb mb eb l N K k s left z pre w W' :=
  have hz := (Array.getElem?_eq_some_iff.1 h.place).1
  ⟨h.env.keep hT (fun h => by have := hn _ h; omega) (fun h => by have := hn _ h; omega) (fun h => by have := hn _ h; omega) (fun b hb h => by have := hn _ h; omega) (by omega) (h.env.known.keep hT (fun h => by have := hn _ h; omega)),
   hT.heap h.place (fun h => by have := hn _ h; omega), hT.heap h.left (fun h => by have := hn _ h; omega), hT.heap h.res (fun h => by have := hn _ h; omega), h.made.keep hT (fun h => by have := hn _ h; omega),
   h.turn.trans (hT.mono fun b _ hb => .inr (by have := hn _ hb; omega))⟩

end Go.Proofs.YtoobopohohoidaaGreatDoor
