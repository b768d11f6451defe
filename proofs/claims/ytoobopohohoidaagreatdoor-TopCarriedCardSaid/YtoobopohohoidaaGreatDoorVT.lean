/- VAULT: begin, choices, first. -/
/- VAULT: choices, first. -/
/- VAULT: slices.Clone, list. -/
import Derived.Test.YtoobopohohoidaaGreatDoorVR
import Derived.Laws.AppendOwn
import Derived.OwnWalk
set_option linter.unusedSimpArgs false
set_option linter.unusedVariables false
namespace Go.Proofs.YtoobopohohoidaaGreatDoor
open Go.RowKit Go.Maps Go.Shelf

attribute [local go_sem] Oper.semAt_some

@[local go_sem] theorem run_store_func' {P : Program} {w : World} {a : Addr} {m : Mode} (fn : Fn) (first captured : Array Value) : (store a (.func fn first captured) m).run P w = stored P w a (.func fn first captured) m := run_store P w a _ m rfl

theorem results_cell_whole {P : Program} {fn : Func} {a : Tmp} {ty : TypeId} (h : fn.results = #[.cell a ty]) {tmps : Array Value} {w : World} {g : Nat} {t : TypeId} {cs : Array Value} {fr : Nat × Nat} {d : TypeDesc} (hx : tmps.getD a undef = .pointer (some ⟨g, 0, none⟩)) (hg : w.heap[g]? = some (.cells cs t fr))
    (hu : P.underlying ty = some d) (hd : d.isRow = true) (hi : (P.info? ty).map (·.size) = some cs.size) : (results fn tmps).run P w = .ok (.agg cs) w := by
  have hl := loadVar_whole hg hu hd hi
  have hx' : tmps[a]?.getD undef = .pointer (some ⟨g, 0, none⟩) := by simpa using hx
  simp [results, h, hx', asAddr, hl]

set_option maxRecDepth 100000 in
theorem vbegin_any (P s0 : Nat) (v1 v2 v3 v5 v6 v7 v8 v9 v10 : Value) (tA : Option Addr) (m tc kb : Nat) (w : World)
    (o1 : v1.oneCell' = true) (o2 : v2.oneCell' = true) (o3 : v3.oneCell' = true) (o5 : v5.oneCell' = true) (o6 : v6.oneCell' = true) (o7 : v7.oneCell' = true) (o8 : v8.oneCell' = true) (o9 : v9.oneCell' = true) (o10 : v10.oneCell' = true) :
    Calls Tryz.prog 19 #[.agg (tourC P v1 v2 v3 (.int .u8 s0) v5 v6 v7 v8 v9 v10 tA m tc kb)] w fun e w' => e = .returned (.agg (plV 0 s0)) ∧ Below w.heap.size w w' := by
  go_enter Tryz.func19, Tryz.ntmps19
  go_wp2
  have hb : ((w.alloc (.cells (tourC P v1 v2 v3 (.int .u8 s0) v5 v6 v7 v8 v9 v10 tA m tc kb) 61)).alloc (.cells #[.int .i64 0, .int .u8 s0] 70)).heap[w.heap.size + 1]? = some (.cells #[.int .i64 0, .int .u8 s0] 70 (0, 0)) := by
    have := heap_alloc_new (w.alloc (.cells (tourC P v1 v2 v3 (.int .u8 s0) v5 v6 v7 v8 v9 v10 tA m tc kb) 61)) (.cells #[.int .i64 0, .int .u8 s0] 70)
    rwa [World.size_alloc] at this
  refine ⟨rfl, _, results_cell_whole rfl rfl hb Tryz.underlying70 rfl (by kernel_rfl), rfl, ?_⟩
  exact ((Below.refl w.heap.size w).alloc (Nat.le_refl _) _).alloc (by simp) _

theorem chV_zero (m : Nat) : chV (List.replicate m 0) = chV [] := by
  have h : ∀ j, (List.replicate m (0 : Int)).getD j 0 = 0 := fun j => by
    rw [List.getD_eq_getElem?_getD, List.getElem?_replicate]
    split <;> rfl
  unfold chV
  simp only [h]
  rfl

set_option maxRecDepth 100000 in
set_option maxHeartbeats 4000000 in
theorem vchoices1_iter (P B : Nat) (t : List Nat) (m : Nat) (v1 v2 v3 v5 v6 v7 v8 v9 v10 : Value) (tA : Option Addr) (tc kb s0 tb : Nat) (K : Nat → Prop) (w : World) (hP : 1 ≤ P) (ht6 : ∀ p ∈ t, p < 6) (hm : t.length = m) (hm8 : m ≤ 8) (hkB : B ≤ kb)
    (o1 : v1.oneCell' = true) (o2 : v2.oneCell' = true) (o3 : v3.oneCell' = true) (o5 : v5.oneCell' = true) (o6 : v6.oneCell' = true) (o7 : v7.oneCell' = true) (o8 : v8.oneCell' = true) (o9 : v9.oneCell' = true) (o10 : v10.oneCell' = true)
    (hs : s0 < 64) (hc : cnt s0 ≤ P) (hKB : ∀ b, b < B → K b) (hKt : K tb) (hKk : K kb) (htk : tb ≠ kb)
    (hT : w.heap[tb]? = some (.cells (tourC P v1 v2 v3 (.int .u8 s0) v5 v6 v7 v8 v9 v10 tA m tc kb) 61 (0, 0))) (hI : Ints w B tA m (ofL t)) (hKn : Known P t kb w) :
    IterZ Tryz.prog 50 #[.pointer (some ⟨tb, 0, none⟩)] (bestsL P t s0).length (fun i => #[.agg (chV ((bestsL P t s0).getD i []))]) (fun b => b = kb) K (Known P t kb) w := by
  intro l J Jx hJ hJx hl hKl hTl hY h0
  have hkw := hKn.lt
  have htw : tb < w.heap.size := (Array.getElem?_eq_some_iff.1 hT).1
  refine (callsIn_wide (n := 12)).1 ?_
  refine callsIn_of_wp_marks Tryz.func50 rfl trivial ?_ rfl
  simp only [Tryz.ntmps50, List.size_toArray, List.length_cons, List.length_nil, Nat.reduceAdd, Nat.reduceSub, Array.replicate_succ, Array.replicate_zero, List.push_toArray, List.append_toArray, List.nil_append, List.cons_append]
  have hmo : Tryz.prog.follows .mixedOrders = true := by kernel_rfl
  have HY := Go.Lib.hid hY
  have HJ := Go.Lib.hid hJ
  have HJX := Go.Lib.hid hJx
  have HT := Go.Lib.hid hT
  have HI := Go.Lib.hid hI
  have HKN := Go.Lib.hid hKn
  clear hY hJ hJx hT hI hKn
  gi_wp2
  obtain ⟨x0, x1, x2, xz⟩ := heaps3 w #[.func (.yield l) #[] #[]] (chV []) #[.func (.func 51) #[] #[.pointer (some ⟨tb, 0, none⟩), .pointer (some ⟨w.heap.size, 0, none⟩), .pointer (some ⟨w.heap.size + 1, 0, none⟩), .pointer (some ⟨w.heap.size + 1 + 1, 0, none⟩)]] 129 65 130
  have hT3 : ∀ T, Turn T w (((w.alloc (.cells #[.func (.yield l) #[] #[]] 129)).alloc (.cells (chV []) 65)).alloc (.cells #[.func (.func 51) #[] #[.pointer (some ⟨tb, 0, none⟩), .pointer (some ⟨w.heap.size, 0, none⟩), .pointer (some ⟨w.heap.size + 1, 0, none⟩), .pointer (some ⟨w.heap.size + 1 + 1, 0, none⟩)]] 130)) := fun T => (((Turn.refl T w).alloc _).alloc _).alloc _
  change Code.wpIn _ _ _ _ _ _ (((w.alloc (.cells #[.func (.yield l) #[] #[]] 129)).alloc (.cells (chV []) 65)).alloc (.cells #[.func (.func 51) #[] #[.pointer (some ⟨tb, 0, none⟩), .pointer (some ⟨w.heap.size, 0, none⟩), .pointer (some ⟨w.heap.size + 1, 0, none⟩), .pointer (some ⟨w.heap.size + 1 + 1, 0, none⟩)]] 130))
  obtain ⟨W1, hW1⟩ : ∃ W1, (((w.alloc (.cells #[.func (.yield l) #[] #[]] 129)).alloc (.cells (chV []) 65)).alloc (.cells #[.func (.func 51) #[] #[.pointer (some ⟨tb, 0, none⟩), .pointer (some ⟨w.heap.size, 0, none⟩), .pointer (some ⟨w.heap.size + 1, 0, none⟩), .pointer (some ⟨w.heap.size + 1 + 1, 0, none⟩)]] 130)) = W1 := ⟨_, rfl⟩
  rw [hW1] at x0 x1 x2 xz hT3 ⊢
  clear hW1
  have hE : ExtE P B t m (tourC P v1 v2 v3 (.int .u8 s0) v5 v6 v7 v8 v9 v10 tA m tc kb) tA kb tb w.heap.size (w.heap.size + 1) (w.heap.size + 2) l W1 := ⟨(hT3 (fun _ => False)).heap HT.out (fun h => h), x0, x2, HI.out.keep fun b hb => (hT3 (fun _ => False)).block b (by omega) (fun h => h), HKN.out.keep (hT3 (fun _ => False)) (fun h => h)⟩
  have hM : MadeAt (w.heap.size + 1) m 0 [] W1 := ⟨List.replicate m 0, by rw [chV_zero]; exact x1, by simp, rfl⟩
  refine wpIn_region_heldN (S := (fun W : World => W.cell? ⟨w.heap.size + 1 + 1, 0, none⟩ = some (.func (.func 51) #[] #[.pointer (some ⟨tb, 0, none⟩), .pointer (some ⟨w.heap.size, 0, none⟩), .pointer (some ⟨w.heap.size + 1, 0, none⟩), .pointer (some ⟨w.heap.size + 1 + 1, 0, none⟩)]) ∧ W.heap[tb]? = some (.cells (tourC P v1 v2 v3 (.int .u8 s0) v5 v6 v7 v8 v9 v10 tA m tc kb) 61 (0, 0)))) hmo ?_
  have hSk : ∀ (T : Nat → Prop) (A A' : World), (fun W : World => W.cell? ⟨w.heap.size + 1 + 1, 0, none⟩ = some (.func (.func 51) #[] #[.pointer (some ⟨tb, 0, none⟩), .pointer (some ⟨w.heap.size, 0, none⟩), .pointer (some ⟨w.heap.size + 1, 0, none⟩), .pointer (some ⟨w.heap.size + 1 + 1, 0, none⟩)]) ∧ W.heap[tb]? = some (.cells (tourC P v1 v2 v3 (.int .u8 s0) v5 v6 v7 v8 v9 v10 tA m tc kb) 61 (0, 0))) A → Turn T A A' → ¬ T (w.heap.size + 2) → ¬ T tb → w.heap.size + 2 < A.heap.size → (fun W : World => W.cell? ⟨w.heap.size + 1 + 1, 0, none⟩ = some (.func (.func 51) #[] #[.pointer (some ⟨tb, 0, none⟩), .pointer (some ⟨w.heap.size, 0, none⟩), .pointer (some ⟨w.heap.size + 1, 0, none⟩), .pointer (some ⟨w.heap.size + 1 + 1, 0, none⟩)]) ∧ W.heap[tb]? = some (.cells (tourC P v1 v2 v3 (.int .u8 s0) v5 v6 v7 v8 v9 v10 tA m tc kb) 61 (0, 0))) A' := fun T A A' h hT n1 n2 n3 =>
    ⟨(hT.cell (p := ⟨w.heap.size + 1 + 1, 0, none⟩) n3 n1).trans h.1, hT.heap h.2 n2⟩
  have HS0 : (fun W : World => W.cell? ⟨w.heap.size + 1 + 1, 0, none⟩ = some (.func (.func 51) #[] #[.pointer (some ⟨tb, 0, none⟩), .pointer (some ⟨w.heap.size, 0, none⟩), .pointer (some ⟨w.heap.size + 1, 0, none⟩), .pointer (some ⟨w.heap.size + 1 + 1, 0, none⟩)]) ∧ W.heap[tb]? = some (.cells (tourC P v1 v2 v3 (.int .u8 s0) v5 v6 v7 v8 v9 v10 tA m tc kb) 61 (0, 0))) W1.drew := ⟨cellH x2 0, hE.tour⟩
  refine wpAnyI_take (i := 0) (v := ?_) wide_fn (by kernel_rfl) rfl (by kernel_rfl) (by kernel_rfl) (by kernel_rfl) (fun _ _ _ h => h) HS0 (.inl ⟨by rfl, ?hy⟩) ?_
  case hy => rintro w ⟨e1, e2⟩; first | (go_simp; done) | (go_simp; rfl)
  refine wpAnyI_take (i := 1) (v := .agg (tourC P v1 v2 v3 (.int .u8 s0) v5 v6 v7 v8 v9 v10 tA m tc kb)) wide_fn (by kernel_rfl) rfl (by kernel_rfl) (by kernel_rfl) (by kernel_rfl) (fun _ _ _ h => h) HS0 ?hy ?_
  case hy => exact yieldsIf_load_whole (by rfl) 61 (.tmp 1) rfl tb rfl (fun w h => h.2) Tryz.underlying61 rfl (by kernel_rfl)
  refine wpAnyI_take (i := 3) (v := .agg (tourC P v1 v2 v3 (.int .u8 s0) v5 v6 v7 v8 v9 v10 tA m tc kb)) wide_fn (by kernel_rfl) rfl (by kernel_rfl) (by kernel_rfl) (by kernel_rfl) (fun _ _ _ h => h) HS0 ?hy ?_
  case hy => exact yieldsIf_load_whole (by rfl) 61 (.tmp 1) rfl tb rfl (fun w h => h.2) Tryz.underlying61 rfl (by kernel_rfl)
  refine wpAnyI_take (i := 4) (v := .agg (tourC P v1 v2 v3 (.int .u8 s0) v5 v6 v7 v8 v9 v10 tA m tc kb)) wide_fn (by kernel_rfl) rfl (by kernel_rfl) (by kernel_rfl) (by kernel_rfl) (fun _ _ _ h => h) HS0 ?hy ?_
  case hy => exact yieldsIf_load_whole (by rfl) 61 (.tmp 1) rfl tb rfl (fun w h => h.2) Tryz.underlying61 rfl (by kernel_rfl)
  refine wpAnyI_one (i := 2) (by kernel_rfl) rfl (fun KK hKK => ?_)
  go_simp
  refine ⟨trivial, (callsIn_wide.2 (vbegin_any P s0 v1 v2 v3 v5 v6 v7 v8 v9 v10 tA m tc kb _ o1 o2 o3 o5 o6 o7 o8 o9 o10)).mono ?_⟩
  rintro e w1 ⟨rfl, hB1⟩
  have hT1 : ∀ T, Turn T W1 w1 := fun T => (Turn.refl T W1).drew.trans (Turn.of_below' hB1 T)
  have HS1 : (fun W : World => W.cell? ⟨w.heap.size + 1 + 1, 0, none⟩ = some (.func (.func 51) #[] #[.pointer (some ⟨tb, 0, none⟩), .pointer (some ⟨w.heap.size, 0, none⟩), .pointer (some ⟨w.heap.size + 1, 0, none⟩), .pointer (some ⟨w.heap.size + 1 + 1, 0, none⟩)]) ∧ W.heap[tb]? = some (.cells (tourC P v1 v2 v3 (.int .u8 s0) v5 v6 v7 v8 v9 v10 tA m tc kb) 61 (0, 0))) w1 := hSk _ _ _ HS0 (Turn.of_below' hB1 (fun _ => False)) (fun h => h) (fun h => h) (by simp; omega)
  refine hKK _ _ HS1 ?_
  clear hKK KK
  refine wpAnyI_one (i := 5) (by kernel_rfl) rfl (fun KK hKK => ?_)
  go_simp
  refine ⟨trivial, (callsIn_wide.2 (vbegin_any P s0 v1 v2 v3 v5 v6 v7 v8 v9 v10 tA m tc kb _ o1 o2 o3 o5 o6 o7 o8 o9 o10)).mono ?_⟩
  rintro e w2 ⟨rfl, hB2⟩
  have hT2 : ∀ T, Turn T W1 w2 := fun T => (hT1 T).trans (Turn.of_below' hB2 T)
  have hz2 := (hT2 (fun _ => False)).size
  have HS2 : (fun W : World => W.cell? ⟨w.heap.size + 1 + 1, 0, none⟩ = some (.func (.func 51) #[] #[.pointer (some ⟨tb, 0, none⟩), .pointer (some ⟨w.heap.size, 0, none⟩), .pointer (some ⟨w.heap.size + 1, 0, none⟩), .pointer (some ⟨w.heap.size + 1 + 1, 0, none⟩)]) ∧ W.heap[tb]? = some (.cells (tourC P v1 v2 v3 (.int .u8 s0) v5 v6 v7 v8 v9 v10 tA m tc kb) 61 (0, 0))) w2 := hSk _ _ _ HS1 (Turn.of_below' hB2 (fun _ => False)) (fun h => h) (fun h => h) (by have := (hT1 (fun _ => False)).size; omega)
  refine hKK _ _ HS2 ?_
  clear hKK KK
  refine wpAnyI_one (i := 6) (by kernel_rfl) rfl (fun KK hKK => ?_)
  go_simp
  have hE2 : ExtE P B t m (tourC P v1 v2 v3 (.int .u8 s0) v5 v6 v7 v8 v9 v10 tA m tc kb) tA kb tb w.heap.size (w.heap.size + 1) (w.heap.size + 2) l w2 := hE.keep (hT2 (fun _ => False)) (fun h => h) (fun h => h) (fun h => h) (fun _ _ h => h) (by omega) (hE.known.keep (hT2 (fun _ => False)) (fun h => h))
  refine ⟨trivial, (callsIn_wide.2 (vfewest_any P B t m v1 v2 v3 (.int .u8 s0) v5 v6 v7 v8 v9 v10 tA tc kb hP ht6 hm hm8 hkB o1 o2 o3 rfl o5 o6 o7 o8 o9 o10 m 0 s0 w2 (by omega) (by omega) hs hc hE2.ints hE2.known)).mono ?_⟩
  rintro e w3 ⟨rfl, hT3k, hK3⟩
  have HS3 : (fun W : World => W.cell? ⟨w.heap.size + 1 + 1, 0, none⟩ = some (.func (.func 51) #[] #[.pointer (some ⟨tb, 0, none⟩), .pointer (some ⟨w.heap.size, 0, none⟩), .pointer (some ⟨w.heap.size + 1, 0, none⟩), .pointer (some ⟨w.heap.size + 1 + 1, 0, none⟩)]) ∧ W.heap[tb]? = some (.cells (tourC P v1 v2 v3 (.int .u8 s0) v5 v6 v7 v8 v9 v10 tA m tc kb) 61 (0, 0))) w3 := hSk _ _ _ HS2 hT3k (by omega) htk (by omega)
  refine hKK _ _ HS3 ?_
  clear hKK KK
  have hE3 := hE2.keep hT3k htk (by omega) (by omega) (fun b hb => by omega) (by omega) hK3
  have hM3 := (hM.keep (hT2 (fun _ => False)) (fun h => h)).keep hT3k (by omega)
  have hJ3 := HJ.out _ _ _ h0 (((hT3 _).trans (hT2 _)).trans (hT3k.mono fun b _ hb => .inr hb))
  have ht0 : t.drop 0 = t := rfl
  rw [ht0]
  have he : extL P t s0 (fewN P t s0) = bestsL P t s0 := by rw [extL, if_pos rfl]
  refine wpAnyI_one (i := 7) (by kernel_rfl) rfl (fun KK hKK => ?_)
  go_simp
  refine ⟨trivial, (callsIn_wide.2 (vextend_any P B t m v1 v2 v3 (.int .u8 s0) v5 v6 v7 v8 v9 v10 tA tc kb hP ht6 hm hm8 hkB o1 o2 o3 rfl o5 o6 o7 o8 o9 o10 tb w.heap.size (w.heap.size + 1) (w.heap.size + 2) l w.heap.size (bestsL P t s0).length K (fun i => #[.agg (chV ((bestsL P t s0).getD i []))]) J Jx
    (by omega) hKB hKt hKk htw hkw (by omega) (by omega) (by omega) (by omega) (by omega) htk HJ.out HJX.out HY.out m 0 s0 w3 0 (fewN P t s0) [] (by omega) (by omega) hs hc rfl hE3 hM3 (Nat.le_refl _)
    (by rw [ht0, he]; intro j hj; rw [Nat.zero_add]; exact ⟨hj, rfl⟩) hJ3)).mono ?_⟩
  rintro e w4 ⟨hr, hE4, _, hT4⟩
  have HS4 : (fun W : World => W.cell? ⟨w.heap.size + 1 + 1, 0, none⟩ = some (.func (.func 51) #[] #[.pointer (some ⟨tb, 0, none⟩), .pointer (some ⟨w.heap.size, 0, none⟩), .pointer (some ⟨w.heap.size + 1, 0, none⟩), .pointer (some ⟨w.heap.size + 1 + 1, 0, none⟩)]) ∧ W.heap[tb]? = some (.cells (tourC P v1 v2 v3 (.int .u8 s0) v5 v6 v7 v8 v9 v10 tA m tc kb) 61 (0, 0))) w4 := ⟨cellH hE4.ext 0, hE4.tour⟩
  rw [ht0, he, Nat.zero_add] at hr
  rcases hr with ⟨rfl, hr⟩ | ⟨rfl, hr⟩
  · refine hKK _ _ HS4 ?_
    clear hKK KK
    refine wpAnyI_done (by kernel_rfl) (NoPanic.normal ?_) _
    gi_wp2
    exact ⟨_, results_none rfl _ _ _, ⟨_, rfl⟩, hE4.known, .inl hr⟩
  · refine hKK _ _ HS4 ?_
    clear hKK KK
    refine wpAnyI_done (by kernel_rfl) (NoPanic.normal ?_) _
    gi_wp2
    exact ⟨_, results_none rfl _ _ _, ⟨_, rfl⟩, hE4.known, .inr hr⟩

end Go.Proofs.YtoobopohohoidaaGreatDoor

namespace Go.Proofs.YtoobopohohoidaaGreatDoor
open Go.RowKit Go.Maps Go.Shelf

attribute [local go_sem] Oper.semAt_some
@[local go_sem] theorem run_store_func2 {P : Program} {w : World} {a : Addr} {m : Mode} (fn : Fn) (first captured : Array Value) : (store a (.func fn first captured) m).run P w = stored P w a (.func fn first captured) m := run_store P w a _ m rfl

theorem wpListIn_store_whole {F : Fence} {n : Nat} {P : Program} {ops : Array Oper} {rest : List Oper} {o : Oper} {a : Act} {w : World} {Q : Exit → Act → World → Prop} (hgd : o.guard = none) (ty : TypeId) (x y : Operand) (ho : o.op = .store ty x y)
    (g : Nat) (vs : Array Value) (hx : a.eval x = .pointer (some ⟨g, 0, none⟩)) (hy : a.eval y = .agg vs) {t : TypeId} {cs : Array Value} (hg : w.heap[g]? = some (.cells cs t (0, 0)))
    (hi : (P.info? ty).map (·.size) = some vs.size) (hs : cs.size = vs.size) (h1 : vs.all (·.oneCell') = true)
    (h : ∀ w', w'.heap[g]? = some (.cells vs t (0, 0)) → But g w w' → wpListIn F n P ops Q rest (a.put o.dst undef) w') : wpListIn F n P ops Q (o :: rest) a w := by
  obtain ⟨w', hrun, h2, h3⟩ := storeAt_row (P := P) w g t ty cs vs hg hi hs h1
  refine wpListIn_plain hgd fun K hK => ?_
  refine ⟨fun f hf => ?_, ?_⟩
  · unfold Oper.about at hf
    rw [ho] at hf
    cases hf
  · rw [Oper.semAt_eq _ _ _ (fun c => by rw [ho]; simp)]
    have hr : (execOp a.eval o).run P w = .ok .skip w' := by
      unfold execOp
      simp only [ho, hx, hy, Sem.run_bind, Sem.run_pure, Result.andThen_ok, hrun]
    rw [hr, Oper.uponIn_skip]
    exact hK _ _ (h _ h2 h3)
theorem chV_one (q : List Int) : (chV q).all (·.oneCell') = true := by simp [chV, Value.oneCell']

/-- What first's loop holds. -/
structure FstJ (P : Nat) (t : List Nat) (TV : Array Value) (kb z : Nat) (c : List Int) (w W : World) : Prop where
  box : W.heap[z + 2]? = some (.cells TV 61 (0, 0))
  res : W.heap[z + 1]? = some (.cells (chV c) 65 (0, 0))
  turn : Turn (fun b => b = kb ∨ z ≤ b) w W
theorem FstJ.keep {P : Nat} {t : List Nat} {TV : Array Value} {kb z : Nat} {c : List Int} {w W W' : World} {T : Nat → Prop} (h : FstJ P t TV kb z c w W) (hT : Turn T W W') (hn : ∀ b, T b → b = kb ∨ z + 3 ≤ b) (hk : kb < z) : FstJ P t TV kb z c w W' :=
  ⟨hT.heap h.box (fun h => by have := hn _ h; omega), hT.heap h.res (fun h => by have := hn _ h; omega), h.turn.trans (hT.mono fun b _ hb => by have := hn _ hb; omega)⟩

theorem vchoices_any (T : Array Value) (w : World) (hT : (Tryz.prog.info? 61).map (·.size) = some T.size) :
    Calls Tryz.prog 32 #[.agg T] w fun e w' => e = .returned (.func (.func 50) #[] #[.pointer (some ⟨w.heap.size, 0, none⟩)]) ∧ w' = w.alloc (.cells T 61) := by
  go_enter Tryz.func32, Tryz.ntmps32
  go_wp2
  go_ret
  exact ⟨rfl, rfl⟩

set_option maxRecDepth 100000 in
set_option maxHeartbeats 4000000 in
theorem vfirst_any (P B : Nat) (t : List Nat) (m : Nat) (v1 v2 v3 v5 v6 v7 v8 v9 v10 : Value) (tA : Option Addr) (tc kb s0 : Nat) (w : World) (hP : 1 ≤ P) (ht6 : ∀ p ∈ t, p < 6) (hm : t.length = m) (hm8 : m ≤ 8) (hkB : B ≤ kb)
    (o1 : v1.oneCell' = true) (o2 : v2.oneCell' = true) (o3 : v3.oneCell' = true) (o5 : v5.oneCell' = true) (o6 : v6.oneCell' = true) (o7 : v7.oneCell' = true) (o8 : v8.oneCell' = true) (o9 : v9.oneCell' = true) (o10 : v10.oneCell' = true)
    (hs : s0 < 64) (hc : cnt s0 ≤ P) (hI : Ints w B tA m (ofL t)) (hKn : Known P t kb w) :
    Calls Tryz.prog 16 #[.agg (tourC P v1 v2 v3 (.int .u8 s0) v5 v6 v7 v8 v9 v10 tA m tc kb)] w fun e w' => e = .returned (.agg (chV ((bestsL P t s0).getD 0 []))) ∧ Turn (fun b => b = kb) w w' ∧ Known P t kb w' := by
  have hkw := hKn.lt
  refine (callsIn_wide (n := 20)).1 ?_
  refine callsIn_of_wp_marks Tryz.func16 rfl trivial ?_ rfl
  simp only [Tryz.ntmps16, List.size_toArray, List.length_cons, List.length_nil, Nat.reduceAdd, Nat.reduceSub, Array.replicate_succ, Array.replicate_zero, List.push_toArray, List.append_toArray, List.nil_append, List.cons_append]
  have hmo : Tryz.prog.follows .mixedOrders = true := by kernel_rfl
  gi_wp2_with (first
    | (refine ⟨trivial, (callsIn_wide.2 (vchoices_any _ _ (by kernel_rfl))).mono ?_⟩; rintro e w' ⟨rfl, rfl⟩))
  obtain ⟨x0, x1, x2, xz⟩ := heaps3 w (tourC P v1 v2 v3 (.int .u8 s0) v5 v6 v7 v8 v9 v10 tA m tc kb) (chV []) (tourC P v1 v2 v3 (.int .u8 s0) v5 v6 v7 v8 v9 v10 tA m tc kb) 61 65 61
  have hT3 : ∀ T, Turn T w (((w.alloc (.cells (tourC P v1 v2 v3 (.int .u8 s0) v5 v6 v7 v8 v9 v10 tA m tc kb) 61)).alloc (.cells (chV []) 65)).alloc (.cells (tourC P v1 v2 v3 (.int .u8 s0) v5 v6 v7 v8 v9 v10 tA m tc kb) 61)) := fun T => (((Turn.refl T w).alloc _).alloc _).alloc _
  change Code.wpIn _ _ _ _ _ _ (((w.alloc (.cells (tourC P v1 v2 v3 (.int .u8 s0) v5 v6 v7 v8 v9 v10 tA m tc kb) 61)).alloc (.cells (chV []) 65)).alloc (.cells (tourC P v1 v2 v3 (.int .u8 s0) v5 v6 v7 v8 v9 v10 tA m tc kb) 61))
  obtain ⟨W1, hW1⟩ : ∃ W1, (((w.alloc (.cells (tourC P v1 v2 v3 (.int .u8 s0) v5 v6 v7 v8 v9 v10 tA m tc kb) 61)).alloc (.cells (chV []) 65)).alloc (.cells (tourC P v1 v2 v3 (.int .u8 s0) v5 v6 v7 v8 v9 v10 tA m tc kb) 61)) = W1 := ⟨_, rfl⟩
  rw [hW1] at x0 x1 x2 xz hT3 ⊢
  clear hW1
  have HI := Go.Lib.hid hI
  have HKN := Go.Lib.hid hKn
  have hK1 := hKn.keep (hT3 (fun _ => False)) (fun h => h)
  have hit : ∀ W, Turn (fun _ => False) W1 W → W.heap.size = W1.heap.size + 2 → IterZ Tryz.prog 50 #[.pointer (some ⟨w.heap.size + 1 + 1, 0, none⟩)] (bestsL P t s0).length (fun i => #[.agg (chV ((bestsL P t s0).getD i []))]) (fun b => b = kb) (fun b => b < B ∨ b = kb ∨ b = w.heap.size + 2) (Known P t kb) W := fun W hT hz =>
    vchoices1_iter P B t m v1 v2 v3 v5 v6 v7 v8 v9 v10 tA tc kb s0 (w.heap.size + 2) _ W hP ht6 hm hm8 hkB o1 o2 o3 o5 o6 o7 o8 o9 o10 hs hc (fun b hb => .inl hb) (.inr (.inr rfl)) (.inr (.inl rfl)) (by omega) (hT.heap x2 (fun h => h))
      ((HI.out.keep fun b hb => (hT3 (fun _ => False)).block b (by omega) (fun h => h)).keep fun b hb => hT.block b (by omega) (fun h => h)) (hK1.keep hT (fun h => h))
  clear hI hKn hK1
  refine range_iterZ (P := Tryz.prog) (f := 50) (lb := #[.pointer (some ⟨w.heap.size + 1 + 1, 0, none⟩)]) (m := (bestsL P t s0).length) (val := fun i => #[.agg (chV ((bestsL P t s0).getD i []))]) (T := fun b => b = kb) (K := fun b => b < B ∨ b = kb ∨ b = w.heap.size + 2) (Z := Known P t kb)
    (fun l W => by simp only [resolve]; simp [go_sem]) (fun l W => by simp [invoke, go_sem, enters_of Tryz.func50 (by kernel_rfl) rfl])
    (fun _ _ => rfl) (fun b h => by omega) (fun b h => by rcases h with h | h | h <;> omega) hit
    (fun i W => i = 0 ∧ FstJ P t (tourC P v1 v2 v3 (.int .u8 s0) v5 v6 v7 v8 v9 v10 tA m tc kb) kb w.heap.size [] w W) (fun c W => c = .ret ∧ FstJ P t (tourC P v1 v2 v3 (.int .u8 s0) v5 v6 v7 v8 v9 v10 tA m tc kb) kb w.heap.size ((bestsL P t s0).getD 0 []) w W)
    (fun l1 i a1 W => (i = 0 ∧ FstJ P t (tourC P v1 v2 v3 (.int .u8 s0) v5 v6 v7 v8 v9 v10 tA m tc kb) kb w.heap.size [] w W) ∧ w.heap.size + 3 ≤ l1 ∧ ∃ z, z ≠ l1 ∧ w.heap.size + 3 ≤ z ∧ W.heap[z]? = some (.cells (chV ((bestsL P t s0).getD 0 [])) 65 (0, 0)) ∧ a1 = { tmps := #[.agg (tourC P v1 v2 v3 (.int .u8 s0) v5 v6 v7 v8 v9 v10 tA m tc kb), .pointer (some ⟨w.heap.size, 0, none⟩), .pointer (some ⟨w.heap.size + 1, 0, none⟩), .pointer (some ⟨z, 0, none⟩), .agg (tourC P v1 v2 v3 (.int .u8 s0) v5 v6 v7 v8 v9 v10 tA m tc kb), .func (.func 50) #[] #[.pointer (some ⟨w.heap.size + 1 + 1, 0, none⟩)], .agg (chV ((bestsL P t s0).getD 0 [])), undef, undef], defers := [] })
    (fun i W W' h ht => ⟨h.1, h.2.keep ht (fun b hb => by rcases hb with hb | hb <;> omega) hkw⟩)
    (fun c W W' h ht => ⟨h.1, h.2.keep ht (fun b hb => by rcases hb with hb | hb <;> omega) hkw⟩)
    (fun l1 i a1 W W' h ht => ⟨⟨h.1.1, h.1.2.keep ht (fun b hb => by have := h.2.1; omega) hkw⟩, h.2.1, let ⟨z, z1, z2, z3, z4⟩ := h.2.2; ⟨z, z1, z2, ht.heap z3 z1, z4⟩⟩)
    (fun W W' h ht => h.keep ht (by omega))
    ⟨rfl, x2, x1, hT3 _⟩ ?asg ?bdy ?dne ?stp
  case asg =>
    rintro l1 i W C hi ⟨rfl, hJW⟩ hl1 hlW hC
    obtain ⟨c, hc⟩ : ∃ c, (bestsL P t s0).getD 0 [] = c := ⟨_, rfl⟩
    simp only [hc] at hC ⊢
    have hnew : (W.alloc (.cells #[.int .i64 0, .int .i64 0, .int .i64 0, .int .i64 0, .int .i64 0, .int .i64 0, .int .i64 0, .int .i64 0] 65)).heap[W.heap.size]? = some (.cells #[.int .i64 0, .int .i64 0, .int .i64 0, .int .i64 0, .int .i64 0, .int .i64 0, .int .i64 0, .int .i64 0] 65 (0, 0)) := heap_alloc_new W _
    have HN := Go.Lib.hid hnew
    have HJW := Go.Lib.hid hJW
    clear hnew hJW hit
    gi_wp2_with (first
      | (with_reducible refine wpListIn_store_whole rfl 65 (.tmp 3) (.tmp 6) rfl W.heap.size (chV c) rfl rfl HN.out (by kernel_rfl) rfl (chV_one c) ?_; intro W2 g1 g2))
    have hT0 : ∀ T, Turn T W (W.alloc (.cells #[.int .i64 0, .int .i64 0, .int .i64 0, .int .i64 0, .int .i64 0, .int .i64 0, .int .i64 0, .int .i64 0] 65)) := fun T => (Turn.refl T W).alloc _
    have hT2 : Turn (fun b => b = W.heap.size) W W2 := (hT0 _).trans (Turn.of_but g2)
    have hTn : ∀ T, Turn T W W2 := fun T => hT2.mono fun b hb h => by omega
    exact hC _ _ ⟨⟨trivial, HJW.out.keep (hTn (fun _ => False)) (fun _ h => h.elim) hkw⟩, by omega, W.heap.size, by omega, by omega, g1, rfl⟩ (hTn _)
  case bdy =>
    rintro l1 i a1 W hi hl1 hlW ⟨⟨rfl, hJW⟩, hl5, z, z1, z2, z3, rfl⟩
    obtain ⟨c, hc⟩ : ∃ c, (bestsL P t s0).getD 0 [] = c := ⟨_, rfl⟩
    simp only [hc] at z3 ⊢
    have HJW := Go.Lib.hid hJW
    have HZ := Go.Lib.hid z3
    clear hJW z3 hit
    gi_wp2_with (first
      | (with_reducible refine wpListIn_load_whole rfl 65 (.tmp 3) rfl z rfl HZ.out Tryz.underlying65 rfl (by kernel_rfl) ?_)
      | (with_reducible refine wpListIn_store_whole rfl 65 (.tmp 2) (.tmp 7) rfl (w.heap.size + 1) (chV c) rfl rfl HJW.out.res (by kernel_rfl) rfl (chV_one c) ?_; intro W2 g1 g2))
    have hb2 := Turn.of_but g2
    have hw1 : W1.heap.size = w.heap.size + 3 := xz
    exact ⟨⟨rfl, hb2.heap HJW.out.box (by omega), g1, HJW.out.turn.trans (hb2.mono fun b _ hb => .inr (by omega))⟩, hb2.mono fun b _ hb => ⟨by omega, by omega⟩⟩
  case dne =>
    rintro D W hD ⟨h0, hJm⟩ hKD hdd
    have e0 : (bestsL P t s0).getD 0 [] = [] := by
      have : bestsL P t s0 = [] := List.length_eq_zero_iff.1 h0
      rw [this]; rfl
    have E0 := Go.Lib.hid e0
    have HJM := Go.Lib.hid hJm
    have HKD := Go.Lib.hid hKD
    have HDD := Go.Lib.hid hdd
    clear hJm hKD hdd hit h0 e0
    gi_wp2_with (first
      | (with_reducible refine wpListIn_store_whole rfl 65 (.tmp 2) (.tmp 8) rfl (w.heap.size + 1) #[.int .i64 0, .int .i64 0, .int .i64 0, .int .i64 0, .int .i64 0, .int .i64 0, .int .i64 0, .int .i64 0] rfl rfl HJM.out.res (by kernel_rfl) rfl (by simp [Value.oneCell']) ?_; intro W2 g1 g2))
    have hb2 := Turn.of_but g2
    have hD2 : W2.heap[D]? = some (.deferred (some [])) := hb2.heap HDD.out (by omega)
    have hput : Turn (fun b => b = D) W2 (W2.putObj D (.deferred none)) := (Turn.refl (fun b => b = D) _).putObj (show D = D from rfl) _
    refine ⟨by simp, .inl ⟨_, _, rfl, run_takeDeferred hD2, ?_⟩⟩
    rw [E0.out]
    refine ⟨_, results_cell_whole rfl rfl (hput.heap g1 (by omega)) Tryz.underlying65 rfl (by kernel_rfl), rfl, ?_, (HKD.out.keep hb2 (by omega)).keep hput (by omega)⟩
    exact ((HJM.out.turn.trans (hb2.mono fun b _ hb => .inr (by omega))).trans (hput.mono fun b _ hb => .inr (by omega))).mono fun b hb h => by omega
  case stp =>
    rintro c D W hD ⟨rfl, hJm⟩ hKD hdd
    gi_wp2
    have hput : Turn (fun b => b = D) W (W.putObj D (.deferred none)) := (Turn.refl (fun b => b = D) _).putObj (show D = D from rfl) _
    refine ⟨by simp, .inl ⟨_, _, rfl, run_takeDeferred hdd, ?_⟩⟩
    refine ⟨_, results_cell_whole rfl rfl (hput.heap hJm.res (by omega)) Tryz.underlying65 rfl (by kernel_rfl), rfl, ?_, hKD.keep hput (by omega)⟩
    exact (hJm.turn.trans (hput.mono fun b _ hb => .inr (by omega))).mono fun b hb h => by omega

end Go.Proofs.YtoobopohohoidaaGreatDoor

namespace Go.Proofs.YtoobopohohoidaaGreatDoor
open Go.RowKit Go.Maps Go.Shelf

set_option maxRecDepth 100000 in
set_option maxHeartbeats 4000000 in
theorem vclone_any (m cap : Nat) (ad : Addr) (f : Nat → Int) (w : World) (hm : m ≤ 8) (hb : ad.block < w.heap.size) (hc : ∀ j, j < m → w.cell? (ad.add j) = some (.int .i64 (f j))) :
    Calls Tryz.prog 33 #[.slice (some ad) m cap] w fun e w' => ∃ (A : Option Addr) (c : Nat), e = .returned (.slice A m c) ∧ Below w.heap.size w w' ∧ Ints w' w'.heap.size A m f ∧ (∀ ad, A = some ad → w.heap.size ≤ ad.block) := by
  have hn : ∀ w, (binOp .eql 22 (.slice (some ad) m cap) (.slice none 0 0)).run Tryz.prog w = .ok (.bool false) w := fun _ => by kernel_rfl
  go_enter Tryz.func33, Tryz.ntmps33
  obtain ⟨i0, hi, hz0, hz1, hz2⟩ := info_parts info_int'
  have hown : (w.alloc (.cells #[] 3)).ownsRow w.heap.size 3 1 (.slice (some ⟨w.heap.size, 0, none⟩) 0 0) 0 [] := ⟨rfl, .inr ⟨w.heap.size, 0, #[], rfl, Nat.le_refl _, heap_alloc_new w _, by omega, by unfold maxLen; omega, rfl, rfl⟩⟩
  have HOWN := Go.Lib.hid hown
  have HC := Go.Lib.hid (show ∀ j u, ((List.range m).map fun j => Value.int .i64 (f j))[j]? = some u → (w.alloc (.cells #[] 3)).cell? (ad.add j) = some u from fun j u h => by
    rw [List.getElem?_map] at h
    obtain ⟨x, hx, rfl⟩ := Option.map_eq_some_iff.1 h
    obtain ⟨h1, h2⟩ := List.getElem?_eq_some_iff.1 hx
    simp at h1 h2
    subst h2
    exact cell_alloc_l _ (hc _ h1))
  clear hc hown
  go_wp2_with (first | (at_builtin; refine wpList_append_own _ rfl _ _ 22 rfl w.heap.size 3 i0 (.int .i64 0) 1 8 Tryz.underlying22 hi hz0 hz1 hz2 rfl (by decide) _ _ _ rfl HOWN.out ad m cap ((List.range m).map fun j => Value.int .i64 (f j)) rfl (by simp) HC.out (by intro u hu; obtain ⟨j, _, rfl⟩ := List.mem_map.1 hu; rfl) (by unfold maxLen; omega) (by omega) (by simp) ?_; intro v' w1 hown' hgrow hnil; obtain ⟨hlen, hor⟩ := id hown'))
  have hBl : Below w.heap.size w w1 := ((Below.refl w.heap.size w).alloc (Nat.le_refl _) (.cells #[] 3)).grown hgrow (by simp) fun j ej => by
    have ej' : some w.heap.size = some j := ej
    cases ej'
    exact Nat.le_refl _
  rw [Nat.zero_add] at hor
  rcases hor with ⟨rfl, h0⟩ | ⟨g, cap', cur, rfl, hg1, hg2, hg3, hg4, hg5, hg6⟩
  · exact ⟨rfl, _, results_tmp rfl _ _ _, none, 0, by subst h0; rfl, hBl, (fun h => by omega), fun _ h => by cases h⟩
  · refine ⟨rfl, _, results_tmp rfl _ _ _, some ⟨g, 0, none⟩, cap', rfl, hBl, fun _ => ⟨⟨g, 0, none⟩, rfl, (Array.getElem?_eq_some_iff.1 hg2).1, fun j hj => ?_⟩, fun ad h => by cases h; exact hg1⟩
    have e1 : (⟨g, 0, none⟩ : Addr).add j = ⟨g, j, none⟩ := by simp [Addr.add]; omega
    rw [e1, cellH hg2]
    have e2 : (List.take (m * 1) cur.toList)[j]? = some (.int .i64 (f j)) := by
      rw [hg6]; simp [hj]
    rw [List.getElem?_take_of_lt (by omega)] at e2
    simpa using e2

set_option maxRecDepth 100000 in
set_option maxHeartbeats 4000000 in
theorem vlist_any (c : List Int) (m : Nat) (w : World) (hm : m ≤ 8) :
    Calls Tryz.prog 17 #[.agg (chV c), .int .i64 m] w fun e w' => ∃ (A : Option Addr) (cc : Nat), e = .returned (.slice A m cc) ∧ Below w.heap.size w w' ∧ Ints w' w'.heap.size A m (fun j => c.getD j 0) ∧ (∀ ad, A = some ad → w.heap.size ≤ ad.block) := by
  have hx : (w.alloc (.cells (chV c) 65)).heap[w.heap.size]? = some (.cells (chV c) 65 (0, 0)) := heap_alloc_new w _
  have HCL := Go.Lib.hid (vclone_any m m ⟨w.heap.size, 0, none⟩ (fun j => c.getD j 0) (w.alloc (.cells (chV c) 65)) hm (by simp) (fun j hj => by
    have e1 : (⟨w.heap.size, 0, none⟩ : Addr).add j = ⟨w.heap.size, j, none⟩ := by simp [Addr.add]; omega
    rw [e1, cellH hx, chV_get c (by omega)]))
  have hm8 : (m : Int) ≤ 8 := by omega
  clear hx
  go_enter Tryz.func17, Tryz.ntmps17
  go_wp2_with (first | (go_at_call 33; refine HCL.out.mono ?_; rintro e w' ⟨A, cc, rfl, hB1, hI1, hA1⟩))
  go_ret
  have hB2 : Below w.heap.size (w.alloc (.cells (chV c) 65)) w' := ⟨hB1.os, hB1.tape, hB1.output, hB1.size, fun b hb => hB1.block b (by simp; omega)⟩
  exact ⟨A, cc, rfl, ((Below.refl _ w).alloc (Nat.le_refl _) _).trans hB2, hI1, fun ad h => by have := hA1 ad h; simp at this; omega⟩

end Go.Proofs.YtoobopohohoidaaGreatDoor
