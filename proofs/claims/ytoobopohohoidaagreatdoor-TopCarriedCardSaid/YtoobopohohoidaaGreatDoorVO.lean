/- VAULT: fewest. -/
import Derived.Test.YtoobopohohoidaaGreatDoorVM
set_option linter.unusedSimpArgs false
set_option linter.unusedVariables false
namespace Go.Proofs.YtoobopohohoidaaGreatDoor
open Go.RowKit Go.Maps Go.Shelf

attribute [local go_sem] Oper.semAt_some

/-- A tour, the desk whatever. -/
abbrev tourC (P : Nat) (v1 v2 v3 v4 v5 v6 v7 v8 v9 v10 : Value) (tA : Option Addr) (tn tc kb : Nat) : Array Value := #[.int .i64 P, v1, v2, v3, v4, v5, v6, v7, v8, v9, v10, .slice tA tn tc, .map (some kb)]
/-- What fewest gives. -/
def FewOk (P : Nat) (t : List Nat) (kb k s : Nat) (w : World) (e : Ending) (w' : World) : Prop :=
  e = .returned (.int .i64 (fewN P (t.drop k) s)) ∧ Turn (fun b => b = kb) w w' ∧ Known P t kb w'
theorem turn_boxes2 (w : World) (A C : Array Value) (tA tC : TypeId) (T : Nat → Prop) : Turn T w ((w.alloc (.cells A tA)).alloc (.cells C tC)) := ((Turn.refl T w).alloc _).alloc _
theorem heap_old {w : World} {b : Nat} {x : Obj} (o : Obj) (h : w.heap[b]? = some x) : (w.alloc o).heap[b]? = some x := (Below.heap_alloc _ _ _ (Array.getElem?_eq_some_iff.1 h).1).trans h
theorem heaps5 (w : World) (A B C D E : Array Value) (tA tB tC tD tE : TypeId) {W : World} (hW : W = ((((w.alloc (.cells A tA)).alloc (.cells B tB)).alloc (.cells C tC)).alloc (.cells D tD)).alloc (.cells E tE)) :
    W.heap[w.heap.size]? = some (.cells A tA (0, 0)) ∧ W.heap[w.heap.size + 1]? = some (.cells B tB (0, 0)) ∧ W.heap[w.heap.size + 2]? = some (.cells C tC (0, 0)) ∧ W.heap[w.heap.size + 3]? = some (.cells D tD (0, 0)) ∧ W.heap[w.heap.size + 4]? = some (.cells E tE (0, 0)) ∧
      (∀ T, Turn T w W) ∧ W.heap.size = w.heap.size + 5 := by
  subst hW
  have h1 := heap_alloc_new w (.cells A tA)
  have h2 := heap_alloc_new (w.alloc (.cells A tA)) (.cells B tB)
  have h3 := heap_alloc_new ((w.alloc (.cells A tA)).alloc (.cells B tB)) (.cells C tC)
  have h4 := heap_alloc_new (((w.alloc (.cells A tA)).alloc (.cells B tB)).alloc (.cells C tC)) (.cells D tD)
  have h5 := heap_alloc_new ((((w.alloc (.cells A tA)).alloc (.cells B tB)).alloc (.cells C tC)).alloc (.cells D tD)) (.cells E tE)
  simp only [World.size_alloc] at h2 h3 h4 h5
  exact ⟨heap_old _ (heap_old _ (heap_old _ (heap_old _ h1))), heap_old _ (heap_old _ (heap_old _ h2)), heap_old _ (heap_old _ h3), heap_old _ h4, h5, fun T => (((((Turn.refl T w).alloc _).alloc _).alloc _).alloc _).alloc _, by simp⟩
theorem Turn.heap {T : Nat → Prop} {w w' : World} {b : Nat} {x : Obj} (h : Turn T w w') (hb : w.heap[b]? = some x) (hn : ¬ T b) : w'.heap[b]? = some x := (h.block b (Array.getElem?_eq_some_iff.1 hb).1 hn).trans hb

theorem vadd_any (b i c x : Nat) (l : List Nat) (w : World) (h : l[i]? = some x) (hx : x ≤ 99) (hb : w.heap[b]? = some (.cells (bV (mnV l i) c (decide (0 < i))) 99 (0, 0))) :
    Calls Tryz.prog 35 #[.pointer (some ⟨b, 0, none⟩), .int .i64 x] w fun e w' => e = .returned (.tuple #[]) ∧ (∃ c', w'.heap[b]? = some (.cells (bV (mnV l (i + 1)) c' true) 99 (0, 0))) ∧ But b w w' := by
  by_cases h0 : i = 0
  · subst h0
    rw [mnV_first h]
    exact (vadd_first b x _ _ w hx hb).mono fun e w' ⟨h1, h2, h3⟩ => ⟨h1, ⟨_, h2⟩, h3⟩
  · have hd : decide (0 < i) = true := by simp; omega
    rw [hd] at hb
    rw [mnV_next (by omega) h]
    exact (vadd_more b x _ _ w hx hb).mono fun e w' ⟨h1, h2, h3⟩ => ⟨h1, ⟨_, h2⟩, h3⟩

/-- What fewest's loop holds. -/
structure FewJ (P k s p m : Nat) (t : List Nat) (TV : Array Value) (B kb N : Nat) (w : World) (i : Nat) (W : World) : Prop where
  tour : W.heap[N]? = some (.cells TV 61 (0, 0))
  place : W.heap[N + 1]? = some (.cells (plV k s) 70 (0, 0))
  bounds : ∃ c, W.heap[N + 2]? = some (.cells (bV (mnV (valsL P p (t.drop (k + 1)) s) i) c (decide (0 < i))) 99 (0, 0))
  known : Known P t kb W
  turn : Turn (fun b => b = kb ∨ N ≤ b) w W
theorem FewJ.keep {P k s p m : Nat} {t : List Nat} {TV : Array Value} {B kb N : Nat} {w : World} {i : Nat} {W W' : World} {T : Nat → Prop} (h : FewJ P k s p m t TV B kb N w i W) (hT : Turn T W W') (hn : ∀ b, T b → N + 3 ≤ b) (hk : kb < N) : FewJ P k s p m t TV B kb N w i W' :=
  ⟨hT.heap h.tour (fun h => by have := hn _ h; omega), hT.heap h.place (fun h => by have := hn _ h; omega), let ⟨c, hc⟩ := h.bounds; ⟨c, hT.heap hc (fun h => by have := hn _ h; omega)⟩, h.known.keep hT (fun h => by have := hn _ h; omega),
   h.turn.trans (hT.mono fun b _ hb => .inr (by have := hn _ hb; omega))⟩

set_option maxRecDepth 100000 in
set_option maxHeartbeats 8000000 in
theorem vfewest_any (P B : Nat) (t : List Nat) (m : Nat) (v1 v2 v3 v4 v5 v6 v7 v8 v9 v10 : Value) (tA : Option Addr) (tc kb : Nat) (hP : 1 ≤ P) (ht6 : ∀ p ∈ t, p < 6) (hm : t.length = m) (hm8 : m ≤ 8) (hkB : B ≤ kb)
    (o1 : v1.oneCell' = true) (o2 : v2.oneCell' = true) (o3 : v3.oneCell' = true) (o4 : v4.oneCell' = true) (o5 : v5.oneCell' = true) (o6 : v6.oneCell' = true) (o7 : v7.oneCell' = true) (o8 : v8.oneCell' = true) (o9 : v9.oneCell' = true) (o10 : v10.oneCell' = true) :
    ∀ (d k s : Nat) (w : World), m - k = d → k ≤ m → s < 64 → cnt s ≤ P → Ints w B tA m (ofL t) → Known P t kb w →
    Calls Tryz.prog 18 #[.agg (tourC P v1 v2 v3 v4 v5 v6 v7 v8 v9 v10 tA m tc kb), .agg (plV k s)] w (FewOk P t kb k s w) := by
  intro d
  induction d with
  | zero =>
    intro k s w hd hk hs hc hI hK
    obtain rfl : k = m := by omega
    have e0 : fewN P (t.drop k) s = 0 := by rw [← hm, List.drop_length]; rfl
    unfold FewOk
    rw [e0]
    clear hI
    go_enter Tryz.func18, Tryz.ntmps18
    go_wp2
    go_ret
    exact ⟨rfl, turn_boxes2 _ _ _ _ _ _, hK.keep (turn_boxes2 _ _ _ _ _ (fun _ => False)) (fun h => h)⟩
  | succ d ih =>
    intro k s w hd hk hs hc hI hK
    have hkm : k < m := by omega
    have hkm' : ((k : Int) == (m : Int)) = false := by simp; omega
    have HI := Go.Lib.hid hI
    obtain ⟨tad, rfl, htb, htc⟩ := hI (by omega)
    obtain ⟨D, ps, hown, hsz, hnd, hps, hval⟩ := id hK
    have hown2 := (hown.alloc (.cells (tourC P v1 v2 v3 v4 v5 v6 v7 v8 v9 v10 (some tad) m tc kb) 61)).alloc (.cells (plV k s) 70)
    have HOWN := Go.Lib.hid hown2
    have hkey := kl_key (show k ≤ 8 by omega) hs
    have HKEY := Go.Lib.hid hkey
    have HK := Go.Lib.hid hK
    cases hh : Maps.has D (klOf k s) with
    | true =>
      have hv := hval k s (by omega) hs hh
      have HV := Go.Lib.hid hv
      clear hval hps hnd hsz hown2 hown hkey hv htc htb ih hK HI
      unfold FewOk
      go_enter Tryz.func18, Tryz.ntmps18
      go_wp2_with (first | (at_lookup; refine wpList_lookup_own_ok_int _ rfl _ _ 59 rfl 70 3 .i64 pkeyed Tryz.underlying59 Tryz.underlying3 (zeroInt _) kb (Maps.size D) D rfl HOWN.out _ _ rfl HKEY.out ?_; intro c hat hwc))
      go_ret
      refine ⟨?_, turn_boxes2 _ _ _ _ _ _, HK.out.keep (turn_boxes2 _ _ _ _ _ (fun _ => False)) (fun h => h)⟩
      have := HV.out
      rw [hat] at this
      simp only [DataW.lit.injEq, Lit.int.injEq, true_and] at this
      rw [← this]
      rfl
    | false =>
      clear hval hps hnd hsz hown2 hown hkey
      have hkb : kb < w.heap.size := HK.out.lt
      refine (callsIn_wide (n := 20)).1 ?_
      refine callsIn_of_wp_marks Tryz.func18 rfl trivial ?_ rfl
      simp only [Tryz.ntmps18, List.size_toArray, List.length_cons, List.length_nil, Nat.reduceAdd, Nat.reduceSub, Array.replicate_succ, Array.replicate_zero, List.push_toArray, List.append_toArray, List.nil_append, List.cons_append]
      have hmo : Tryz.prog.follows .mixedOrders = true := by kernel_rfl
      refine (wpIn_wide (n := 20)).2 ?_
      go_wp2_with (first
        | (at_lookup; refine wpList_lookup_own_ok_int _ rfl _ _ 59 rfl 70 3 .i64 pkeyed Tryz.underlying59 Tryz.underlying3 (zeroInt _) kb (Maps.size D) D rfl HOWN.out _ _ rfl HKEY.out ?_; intro c hat hwc)
        | (go_at_call 34; refine (vsteps_any _ _ _ (by kernel_rfl) (by kernel_rfl)).mono ?_; rintro e w' ⟨rfl, rfl⟩))
      refine (wpIn_wide (n := 20)).1 ?_
      clear hat hwc HOWN HKEY hh
      obtain ⟨W0, hW0⟩ : ∃ W0, ((((w.alloc (.cells (tourC P v1 v2 v3 v4 v5 v6 v7 v8 v9 v10 (some tad) m tc kb) 61)).alloc (.cells (plV k s) 70)).alloc (.cells (bV 0 0 false) 99)).alloc (.cells (tourC P v1 v2 v3 v4 v5 v6 v7 v8 v9 v10 (some tad) m tc kb) 61)).alloc (.cells (plV k s) 70) = W0 := ⟨_, rfl⟩
      obtain ⟨x0, x1, x2, x3, x4, xT, xz⟩ := heaps5 w _ _ _ _ _ _ _ _ _ _ hW0.symm
      change Code.wpIn _ _ _ _ _ _ (((((w.alloc (.cells (tourC P v1 v2 v3 v4 v5 v6 v7 v8 v9 v10 (some tad) m tc kb) 61)).alloc (.cells (plV k s) 70)).alloc (.cells (bV 0 0 false) 99)).alloc (.cells (tourC P v1 v2 v3 v4 v5 v6 v7 v8 v9 v10 (some tad) m tc kb) 61)).alloc (.cells (plV k s) 70))
      rw [hW0]
      clear hW0
      have hl8 : t.length ≤ 8 := by omega
      have hkl : k < t.length := by omega
      obtain ⟨p, hp1, hp2, hp3⟩ := ofL_mem (l := t) (j := k) hkl
      have hp6 : p < 6 := ht6 p hp1
      have hdrop : t.drop k = p :: t.drop (k + 1) := by
        obtain ⟨h1, h2⟩ := List.getElem?_eq_some_iff.1 hp3
        rw [List.drop_eq_getElem_cons h1, h2]
      have htcell : w.cell? (tad.add k) = some (.int .i64 p) := by rw [htc k hkm, hp2]
      have hBw : B ≤ w.heap.size := by omega
      have hit : ∀ W, Turn (fun _ => False) W0 W → W.heap.size = W0.heap.size + 2 → Iter Tryz.prog 54 #[.pointer (some ⟨w.heap.size + 1 + 1 + 1, 0, none⟩), .pointer (some ⟨w.heap.size + 1 + 1 + 1 + 1, 0, none⟩)] (stepL P p s).length (stV P p s k) (fun _ => False) (fun b => b < B ∨ b = w.heap.size + 3 ∨ b = w.heap.size + 4) W := fun W hT hzW =>
        vsteps_iter (w.heap.size + 3) (w.heap.size + 4) B k s p P m tc tad W hs hp6 (by omega) hkm (by omega) (by omega) (by omega) (cellH (hT.heap x3 (fun h => h)) 0) (cellH (hT.heap x3 (fun h => h)) 11) (hT.heap x4 (fun h => h))
          ((hT.cell (p := tad.add k) (by rw [block_add]; omega) (fun h => h)).trans (((xT (fun _ => False)).cell (p := tad.add k) (by rw [block_add]; omega) (fun h => h)).trans htcell)) htb
      refine range_iter (P := Tryz.prog) (f := 54) (lb := #[.pointer (some ⟨w.heap.size + 1 + 1 + 1, 0, none⟩), .pointer (some ⟨w.heap.size + 1 + 1 + 1 + 1, 0, none⟩)]) (m := (stepL P p s).length) (val := stV P p s k) (T := fun _ => False) (K := fun b => b < B ∨ b = w.heap.size + 3 ∨ b = w.heap.size + 4)
        (fun l W => by simp only [resolve]; simp [go_sem]) (fun l W => by simp [invoke, go_sem, enters_of Tryz.func54 (by kernel_rfl) rfl])
        (fun _ _ => rfl) (fun _ h => h.elim) (fun b h => by rcases h with h | h | h <;> omega) hit
        (fun i W => FewJ P k s p m t (tourC P v1 v2 v3 v4 v5 v6 v7 v8 v9 v10 (some tad) m tc kb) B kb w.heap.size w i W) (fun _ _ => False)
        (fun l1 i a1 W => FewJ P k s p m t (tourC P v1 v2 v3 v4 v5 v6 v7 v8 v9 v10 (some tad) m tc kb) B kb w.heap.size w i W ∧ w.heap.size + 5 ≤ l1 ∧ ∃ z, z ≠ l1 ∧ w.heap.size + 5 ≤ z ∧ W.heap[z]? = some (.cells (plV (k + 1) ((stepL P p s).getD i (0, 0)).2) 70 (0, 0)) ∧ a1 = { tmps := #[.agg (tourC P v1 v2 v3 v4 v5 v6 v7 v8 v9 v10 (some tad) m tc kb), .agg (plV k s), .pointer (some ⟨w.heap.size, 0, none⟩), .pointer (some ⟨w.heap.size + 1, 0, none⟩), .int .i64 0, .int .i64 c, .bool false, .pointer (some ⟨w.heap.size + 1 + 1, 0, none⟩), undef, .pointer (some ⟨z, 0, none⟩), .pointer (some ⟨w.heap.size + 1, 0, none⟩), .int .i64 k, .pointer (some ⟨w.heap.size, 11, none⟩), .slice (some tad) m tc, .int .i64 m, .bool false, .tuple #[.int .i64 c, .bool false], .pointer (some ⟨w.heap.size, 12, none⟩), .map (some kb), .agg #[.int .i64 k, .int .u8 s], .tuple #[.int .i64 c, .bool false], .int .i64 c, .bool false, .bool false, undef, .agg (tourC P v1 v2 v3 v4 v5 v6 v7 v8 v9 v10 (some tad) m tc kb), .agg #[.int .i64 k, .int .u8 s], .func (.func 54) #[] #[.pointer (some ⟨w.heap.size + 1 + 1 + 1, 0, none⟩), .pointer (some ⟨w.heap.size + 1 + 1 + 1 + 1, 0, none⟩)], .int .i64 ((stepL P p s).getD i (0, 0)).1, .agg (plV (k + 1) ((stepL P p s).getD i (0, 0)).2), undef, undef, undef, undef, undef, undef, undef, undef, undef, undef, undef, undef, undef, undef, undef], defers := [] })
        (fun i W W' h ht => h.keep ht (fun b hb => by rcases hb with hb | hb <;> first | omega | exact hb.elim) hkb) (fun _ _ _ h _ => h)
        (fun l1 i a1 W W' h ht => ⟨h.1.keep ht (fun b hb => by have := h.2.1; omega) hkb, h.2.1, let ⟨z, z1, z2, z3, z4⟩ := h.2.2; ⟨z, z1, z2, ht.heap z3 z1, z4⟩⟩)
        ⟨x0, x1, ⟨0, x2⟩, HK.out.keep (xT (fun _ => False)) (fun h => h), xT _⟩ ?assign ?body ?done ?stop
      case assign =>
        intro l1 i W C hi hJW hl1 hlW hC
        obtain ⟨⟨y1, y2⟩, hy⟩ : ∃ y, (stepL P p s).getD i (0, 0) = y := ⟨_, rfl⟩
        simp only [stV, hy]
        gi_wp2
        exact hC _ _ ⟨hJW.keep ((Turn.refl (fun _ => False) W).alloc _) (fun _ h => h.elim) hkb, by omega, W.heap.size, by omega, by omega, by rw [hy]; exact heap_alloc_new W _, by rw [hy]⟩ ((Turn.refl _ W).alloc _)
      case body =>
        rintro l1 i a1 W hi hl1 hlW ⟨hJW, hl5, z, z1, z2, z3, rfl⟩
        have hym := getD_mem (d := (0, 0)) hi
        obtain ⟨⟨y1, y2⟩, hy⟩ : ∃ y, (stepL P p s).getD i (0, 0) = y := ⟨_, rfl⟩
        rw [hy] at hym z3
        simp only [hy]
        obtain ⟨hy64, hyc⟩ := step_ok hs hp6 hc _ hym
        dsimp only at hy64 hyc
        have hvi : (valsL P p (t.drop (k + 1)) s)[i]? = some (fetN s y2 + fewN P (t.drop (k + 1)) y2) := by
          rw [valsL, List.getElem?_map]
          rw [List.getD_eq_getElem?_getD, List.getElem?_eq_getElem hi] at hy
          rw [List.getElem?_eq_getElem hi]
          simp only [Option.map_some]
          have : (stepL P p s)[i] = (y1, y2) := by simpa using hy
          rw [this]
        have hfe : fetN s y2 ≤ 1 := by unfold fetN; split <;> omega
        have hfl : fewN P (t.drop (k + 1)) y2 ≤ 8 := Nat.le_trans (few_len hP _ _ (fun x hx => ht6 x (List.mem_of_mem_drop hx)) hy64) (by rw [List.length_drop]; omega)
        have HJW := Go.Lib.hid hJW
        have HV := Go.Lib.hid hvi
        clear hvi hym hJW hit
        gi_wp2
        refine wpIn_region_heldN (S := fun W => W.heap[w.heap.size]? = some (.cells (tourC P v1 v2 v3 v4 v5 v6 v7 v8 v9 v10 (some tad) m tc kb) 61 (0, 0)) ∧ W.heap[w.heap.size + 1]? = some (.cells (plV k s) 70 (0, 0)) ∧ W.heap[z]? = some (.cells (plV (k + 1) y2) 70 (0, 0))) hmo ?_
        have HS : (fun W : World => W.heap[w.heap.size]? = some (.cells (tourC P v1 v2 v3 v4 v5 v6 v7 v8 v9 v10 (some tad) m tc kb) 61 (0, 0)) ∧ W.heap[w.heap.size + 1]? = some (.cells (plV k s) 70 (0, 0)) ∧ W.heap[z]? = some (.cells (plV (k + 1) y2) 70 (0, 0))) W.drew := ⟨HJW.out.tour, HJW.out.place, z3⟩
        refine wpAnyI_take (i := 0) (v := .agg (plV k s)) (wideR_fn l1) (by kernel_rfl) rfl (by kernel_rfl) (by kernel_rfl) (by kernel_rfl) (fun _ _ _ h => h) HS ?hy ?_
        case hy => exact yieldsIf_load_whole (by rfl) 70 (.tmp 3) rfl (w.heap.size + 1) rfl (fun w h => h.2.1) Tryz.underlying70 rfl (by kernel_rfl)
        refine wpAnyI_take (i := 1) (v := .agg (plV (k + 1) y2)) (wideR_fn l1) (by kernel_rfl) rfl (by kernel_rfl) (by kernel_rfl) (by kernel_rfl) (fun _ _ _ h => h) HS ?hy ?_
        case hy => exact yieldsIf_load_whole (by rfl) 70 (.tmp 9) rfl z rfl (fun w h => h.2.2) Tryz.underlying70 rfl (by kernel_rfl)
        refine wpAnyI_take (i := 3) (v := .agg (tourC P v1 v2 v3 v4 v5 v6 v7 v8 v9 v10 (some tad) m tc kb)) (wideR_fn l1) (by kernel_rfl) rfl (by kernel_rfl) (by kernel_rfl) (by kernel_rfl) (fun _ _ _ h => h) HS ?hy ?_
        case hy => exact yieldsIf_load_whole (by rfl) 61 (.tmp 2) rfl w.heap.size rfl (fun w h => h.1) Tryz.underlying61 rfl (by kernel_rfl)
        refine wpAnyI_take (i := 4) (v := .agg (plV (k + 1) y2)) (wideR_fn l1) (by kernel_rfl) rfl (by kernel_rfl) (by kernel_rfl) (by kernel_rfl) (fun _ _ _ h => h) HS ?hy ?_
        case hy => exact yieldsIf_load_whole (by rfl) 70 (.tmp 9) rfl z rfl (fun w h => h.2.2) Tryz.underlying70 rfl (by kernel_rfl)
        refine wpAnyI_one (i := 2) (by kernel_rfl) rfl (fun K hK => ?_)
        go_simp
        refine ⟨trivial, (CallsIn.inRound l1 (callsIn_wide.2 (vfetched_any k s y2 _ (by omega)))).mono ?_⟩
        rintro e w1 ⟨rfl, hB1⟩
        have hJ1 : FewJ P k s p m t (tourC P v1 v2 v3 v4 v5 v6 v7 v8 v9 v10 (some tad) m tc kb) B kb w.heap.size w i w1 := (HJW.out.keep (Turn.refl (fun _ => False) W).drew (fun _ h => h.elim) hkb).keep (Turn.of_below' hB1 (fun _ => False)) (fun _ h => h.elim) hkb
        have hz1 : w1.heap[z]? = some (.cells (plV (k + 1) y2) 70 (0, 0)) := (Turn.of_below' hB1 (fun _ => False)).heap z3 (fun h => h)
        refine hK _ _ ⟨hJ1.tour, hJ1.place, hz1⟩ ?_
        clear hK K
        refine wpAnyI_one (i := 5) (by kernel_rfl) rfl (fun K hK => ?_)
        go_simp
        have hI1 : Ints w1 B (some tad) m (ofL t) := HI.out.keep fun b hb => hJ1.turn.block b (by omega) (by omega)
        refine ⟨trivial, (CallsIn.inRound l1 (callsIn_wide.2 (ih (k + 1) y2 w1 (by omega) (by omega) hy64 hyc hI1 hJ1.known))).mono ?_⟩
        rintro e w2 ⟨rfl, hT2, hK2⟩
        have hz2 : w2.heap[z]? = some (.cells (plV (k + 1) y2) 70 (0, 0)) := hT2.heap hz1 (by omega)
        obtain ⟨c2, hb2⟩ := hJ1.bounds
        have hJ2 : FewJ P k s p m t (tourC P v1 v2 v3 v4 v5 v6 v7 v8 v9 v10 (some tad) m tc kb) B kb w.heap.size w i w2 := ⟨hT2.heap hJ1.tour (by omega), hT2.heap hJ1.place (by omega), ⟨c2, hT2.heap hb2 (by omega)⟩, hK2, hJ1.turn.trans (hT2.mono fun b _ hb => .inl hb)⟩
        refine hK _ _ ⟨hJ2.tour, hJ2.place, hz2⟩ ?_
        clear hK K
        have HS2 : (fun W : World => W.heap[w.heap.size]? = some (.cells (tourC P v1 v2 v3 v4 v5 v6 v7 v8 v9 v10 (some tad) m tc kb) 61 (0, 0)) ∧ W.heap[w.heap.size + 1]? = some (.cells (plV k s) 70 (0, 0)) ∧ W.heap[z]? = some (.cells (plV (k + 1) y2) 70 (0, 0))) w2 := ⟨hJ2.tour, hJ2.place, hz2⟩
        have hsum : IntKind.i64.wrap ((fetN s y2 : Int) + (fewN P (t.drop (k + 1)) y2 : Int)) = ((fetN s y2 + fewN P (t.drop (k + 1)) y2 : Nat) : Int) := by rw [IntWalk.i64_in _ (by omega)]; omega
        refine wpAnyI_take (i := 6) (v := .int .i64 ((fetN s y2 + fewN P (t.drop (k + 1)) y2 : Nat) : Int)) (wideR_fn l1) (by kernel_rfl) rfl (by kernel_rfl) (by kernel_rfl) (by kernel_rfl) (fun _ _ _ h => h) HS2 (.inl ⟨by rfl, ?hy⟩) ?_
        case hy => intro w _; rw [← hsum]; rfl
        obtain ⟨c3, hb3⟩ := hJ2.bounds
        refine wpAnyI_one (i := 7) (by kernel_rfl) rfl (fun K hK => ?_)
        go_simp
        refine ⟨trivial, (CallsIn.inRound l1 (callsIn_wide.2 (vadd_any (w.heap.size + 2) i c3 _ (valsL P p (t.drop (k + 1)) s) w2 HV.out (by omega) hb3))).mono ?_⟩
        rintro e w3 ⟨rfl, ⟨c4, hb4⟩, hB3⟩
        have hT3 := Turn.of_but hB3
        have hJ3 : FewJ P k s p m t (tourC P v1 v2 v3 v4 v5 v6 v7 v8 v9 v10 (some tad) m tc kb) B kb w.heap.size w (i + 1) w3 := ⟨hT3.heap hJ2.tour (by omega), hT3.heap hJ2.place (by omega), ⟨c4, by rw [hb4]; simp⟩, hK2.keep hT3 (by omega), hJ2.turn.trans (hT3.mono fun b _ hb => .inr (by omega))⟩
        refine hK _ _ ⟨hJ3.tour, hJ3.place, hT3.heap hz2 (by omega)⟩ ?_
        clear hK K
        refine wpAnyI_done (by kernel_rfl) (NoPanic.normal ?_) _
        gi_wp2
        refine ⟨hJ3, ?_⟩
        refine ((Turn.refl _ W).drew.trans (Turn.of_below' hB1 _)).trans ((hT2.mono fun b _ hb => ?_).trans (hT3.mono fun b _ hb => ?_))
        · exact ⟨by omega, fun h => by omega⟩
        · exact ⟨by omega, fun h => by omega⟩
      case done =>
        rintro D W hD hJm hKD
        obtain ⟨c5, hb5⟩ := hJm.bounds
        have hlen : (stepL P p s).length = (valsL P p (t.drop (k + 1)) s).length := by rw [valsL, List.length_map]
        have hne : valsL P p (t.drop (k + 1)) s ≠ [] := by rw [valsL]; simpa using step_ne hP hs
        have hval : mnV (valsL P p (t.drop (k + 1)) s) (stepL P p s).length = fewN P (t.drop k) s := by rw [hlen, mnV_all hne, hdrop, few_vals hs hp6]
        rw [hval] at hb5
        obtain ⟨D', ps, hown, hsz, hnd, hps, hvals⟩ := hJm.known
        have htidy := hown.tidy pkeyed
        have HT := Go.Lib.hid htidy
        have HOWN := Go.Lib.hid hown
        have HVALS := Go.Lib.hid hvals
        have HPS := Go.Lib.hid hps
        have HSZ := Go.Lib.hid hsz
        have HND := Go.Lib.hid hnd
        have hroom : Maps.size D' < maxLen := by
          have := places_le hnd (fun x hx => ⟨(hps x hx).1, (hps x hx).2.1⟩)
          unfold maxLen; omega
        have HKEY := Go.Lib.hid (kl_key (show k ≤ 8 by omega) hs)
        have t12 : W.cell? ⟨w.heap.size, 12, none⟩ = some (.map (some kb)) := cellH hJm.tour 12
        have p0 : W.cell? ⟨w.heap.size + 1, 0, none⟩ = some (.int .i64 k) := cellH hJm.place 0
        have p1 : W.cell? ⟨w.heap.size + 1, 1, none⟩ = some (.int .u8 s) := cellH hJm.place 1
        have b0 : W.cell? ⟨w.heap.size + 2, 0, none⟩ = some (.int .i64 (fewN P (t.drop k) s)) := cellH hb5 0
        have hf8 : fewN P (t.drop k) s ≤ 8 := Nat.le_trans (few_len hP _ _ (fun x hx => ht6 x (List.mem_of_mem_drop hx)) hs) (by rw [List.length_drop]; omega)
        obtain ⟨F, hF⟩ : ∃ F, fewN P (t.drop k) s = F := ⟨_, rfl⟩
        rw [hF] at b0 hf8 hb5
        have HF := Go.Lib.hid hF
        have HJM := Go.Lib.hid hJm
        have HB5 := Go.Lib.hid hb5
        have HKD := Go.Lib.hid hKD
        clear hval hlen hne hown htidy hvals hps hsz hnd hF hJm hb5 hit hKD
        gi_wp2
        go_wp2_with (first
          | (at_mapUpdate; refine wpList_mapUpdate_own _ rfl _ _ _ 59 rfl 70 3 pkeyed Tryz.underlying59 _ kb (Maps.size D') D' rfl HOWN.out hroom _ _ _ rfl rfl HKEY.out (.lit (.int .i64 F)) [] (plainElem_int Tryz.underlying3 (WalkArith.wf_i64 (by omega))) ?_
             intro w7 hown7 hgrow7
             have b7 : w7.cell? ⟨w.heap.size + 2, 0, none⟩ = some (.int .i64 F) := by
               rw [← b0]; unfold World.cell?; rw [hgrow7.block _ (Array.getElem?_eq_some_iff.1 HB5.out).1 (by simp; omega)]
             have HO7 := Go.Lib.hid hown7
             have HG7 := Go.Lib.hid hgrow7
             clear hown7 hgrow7))
        refine ⟨by simp, .inl ⟨_, _, rfl, run_takeDeferred (show w7.heap[D]? = some (.deferred (some [])) from (HG7.out.block D (Array.getElem?_eq_some_iff.1 HKD.out).1 (by simp; omega)).trans HKD.out), ?_⟩⟩
        have hT7 : Turn (fun b => b = kb) W w7 := ⟨HG7.out.size, HG7.out.os, HG7.out.tape, HG7.out.output, fun b hb hn => HG7.out.block b hb (by simp; exact hn)⟩
        have hown8 := HO7.out
        rw [← HF.out] at hown8
        have hK7 : Known P t kb w7 := Known.put hl8 (by omega) hs HT.out HSZ.out HND.out HPS.out HVALS.out hown8
        have hput : Turn (fun b => w.heap.size ≤ b) w7 (w7.putObj D (.deferred none)) := (Turn.refl _ _).putObj (show w.heap.size ≤ D by omega) _
        refine ⟨_, results_tmp rfl _ _ _, ?_, ?_, hK7.keep hput (by omega)⟩
        · show Ending.returned (.int .i64 (F : Int)) = Ending.returned (.int .i64 ((fewN P (t.drop k) s : Nat) : Int))
          rw [HF.out]
        have h1 := (HJM.out.turn.trans (hT7.mono fun b _ hb => .inl hb)).trans (hput.mono fun b _ hb => .inr hb)
        exact ⟨h1.size, h1.os, h1.tape, h1.output, fun b hb hn => h1.block b hb (by rintro (h | h); exact hn h; omega)⟩
      case stop => exact fun _ _ _ _ h => h.elim

end Go.Proofs.YtoobopohohoidaaGreatDoor
