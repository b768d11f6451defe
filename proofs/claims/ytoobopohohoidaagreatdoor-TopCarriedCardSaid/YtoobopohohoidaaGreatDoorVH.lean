/- VAULT: the iterator over the office. -/
/- VAULT: openTruth, begin, steps, fetched, bounds. -/
/- VAULT: openTruth; what is known of places. -/
import Derived.Test.YtoobopohohoidaaGreatDoorVG
import Derived.Test.YtoobopohohoidaaGreatDoorRng
import Derived.Maps.OwnSet
import Derived.DeepKeys4
set_option linter.unusedSimpArgs false
set_option linter.unusedVariables false
namespace Go.Proofs.YtoobopohohoidaaGreatDoor
open Go.RowKit Go.Shelf

attribute [local go_sem] Oper.semAt_some

/-- The i-th member. -/
abbrev elV (s i : Nat) : Array Value := #[.int .i64 (((els s).getD i 0 : Nat) : Int)]

set_option maxRecDepth 100000 in
set_option maxHeartbeats 1000000 in
theorem vall_iter (Bn s : Nat) (hs : s < 64) (W0 : World) (hBn : Bn < W0.heap.size) (hc0 : W0.cell? ⟨Bn, 0, none⟩ = some (.int .u8 s)) :
    Iter Tryz.prog 84 #[.pointer (some ⟨Bn, 0, none⟩)] (els s).length (elV s) (fun _ => False) (fun b => b = Bn) W0 := by
  intro l J Jx hJ hJx hl hKl _ hY h0
  show Calls Tryz.prog 84 #[.func (.yield l) #[] #[], .pointer (some ⟨Bn, 0, none⟩)] W0 _
  refine (callsIn_wide (n := 12)).1 ?_
  refine callsIn_of_wp Tryz.func84 rfl trivial ?_ rfl
  simp only [Tryz.ntmps84, List.size_toArray, List.length_cons, List.length_nil, Nat.reduceAdd, Nat.reduceSub, Array.replicate_succ, Array.replicate_zero, List.push_toArray, List.append_toArray, List.nil_append, List.cons_append]
  have HJ := Go.Lib.hid hJ; clear hJ
  have HY := Go.Lib.hid hY; clear hY
  have HX := Go.Lib.hid hJx; clear hJx
  gi_wp2
  gi_loopw [3] (fun p wr => ∃ (i q : Nat), q < 64 ∧ p = .int .u8 (q : Int) ∧ Hid (i ≤ (els s).length ∧ (els s).drop i = els q) ∧ Hid (J i wr))
    (fun p _ => (intOf p).toNat)
  case atStart =>
    exact ⟨0, s, hs, rfl, Go.Lib.hid ⟨Nat.zero_le _, rfl⟩, Go.Lib.hid h0⟩
  case round =>
    obtain ⟨i, q, hq, rfl, HD, HI⟩ := hrel
    by_cases hz : q = 0
    · subst hz
      gi_wp2
      go_end0
      refine ⟨⟨_, rfl⟩, .inl ?_⟩
      have hd := HD.out.2
      rw [els_zero] at hd
      have : i = (els s).length := by
        have h1 := HD.out.1
        have h2 := congrArg List.length hd
        simp at h2
        omega
      subst this
      exact HI.out
    · have hst := els_step ⟨q, hq⟩ hz
      dsimp only at hst
      obtain ⟨e1, e2, e3⟩ := hst
      have hlt : i < (els s).length := by
        have h2 := congrArg List.length (HD.out.2.trans e1)
        simp at h2
        omega
      have hget : (els s).getD i 0 = tz q := by
        have h2 := HD.out.2.trans e1
        rw [List.drop_eq_getElem_cons hlt] at h2
        rw [List.getD_eq_getElem?_getD, List.getElem?_eq_getElem hlt]
        exact (List.cons.inj h2).1
      have hdrop : (els s).drop (i + 1) = els (q &&& (q - 1)) := by
        have h2 := HD.out.2.trans e1
        rw [List.drop_eq_getElem_cons hlt] at h2
        exact (List.cons.inj h2).2
      have H1 := Go.Lib.hid e1; clear e1
      have H2 := Go.Lib.hid e2; clear e2
      have H3 := Go.Lib.hid e3; clear e3
      have H4 := Go.Lib.hid hdrop; clear hdrop
      have h1q : 1 ≤ q := by omega
      obtain ⟨fn, tmps, assign, body, hy, hR⟩ := HY.out i wr 11 hlt HI.out
      simp only [elV, hget] at hy
      clear hget
      gi_wp2_with (refine ⟨trivial, ?_⟩; gi_at_call 85; refine (callsIn_wide.2 (vleast_any q _ hq)).mono ?_; rintro e w' ⟨rfl, rfl⟩)
      refine hR.mono ?_
      rintro e W3 (⟨rfl, hJ3, hk3⟩ | ⟨rfl, hJx3, hk3⟩)
      · have hand : bits .and .u8 (q : Int) ((q : Int) - 1) = ((q &&& (q - 1) : Nat) : Int) := H3.out
        gi_wp2
        go_roundw
        case rel => exact ⟨i + 1, q &&& (q - 1), Nat.lt_trans H2.out hq, rfl, Go.Lib.hid ⟨hlt, H4.out⟩, Go.Lib.hid hJ3⟩
        case measure => have := H2.out; simp [intOf]; omega
      · gi_wp2
        refine bodyPost_ret (results_none rfl _ _ _) rfl ?_
        exact ⟨⟨_, rfl⟩, .inr hJx3⟩

end Go.Proofs.YtoobopohohoidaaGreatDoor

namespace Go.Proofs.YtoobopohohoidaaGreatDoor
open Go.RowKit Go.Maps

/-- A vault at work in a truth. -/
abbrev tVal (P N : Nat) (sA : Option Addr) (sn sc : Nat) (cA : Option Addr) (cn cc : Nat) (L : List Nat) (tA : Option Addr) (tn tc kb : Nat) : Array Value :=
  #[.int .i64 P, .int .i64 N, .slice sA sn sc, .slice cA cn cc, .int .u8 (maskOf L), pI (L.getD 0 0), pI (L.getD 1 0), pI (L.getD 2 0), pI (L.getD 3 0), pI L.length, .slice none 0 0, .slice tA tn tc, .map (some kb)]
abbrev tZero : Array Value := #[.int .i64 0, .int .i64 0, .slice none 0 0, .slice none 0 0, .int .u8 0, .int .i64 0, .int .i64 0, .int .i64 0, .int .i64 0, .int .i64 0, .slice none 0 0, .slice none 0 0, .map none]
/-- A place. -/
abbrev plV (k s : Nat) : Array Value := #[.int .i64 k, .int .u8 s]

theorem laidOut : laidOutB Tryz.prog = true := by kernel_rfl
theorem plaw : WideMaps.KeyLaw Tryz.prog 70 := deep_law_laid laidOut (m := 2) (by omega) (of_decide_eq_true (by kernel_rfl)) (by kernel_rfl) (by kernel_rfl)
theorem pkeyed : Keyed Tryz.prog 70 := Keyed.of_law plaw
theorem zeroInt (w : World) : (zeroValue 3).run Tryz.prog w = .ok (.int .i64 0) w := by kernel_rfl
noncomputable def klOf (k s : Nat) : Lit := (keyOf Tryz.prog 70 (.agg (plV k s))).getD .nil
theorem kl_some : ∀ k : Fin 9, ∀ s : Fin 64, (keyOf Tryz.prog 70 (.agg (plV k.1 s.1))).isSome = true := by decide +kernel
theorem kl_key {k s : Nat} (hk : k ≤ 8) (hs : s < 64) : keyOf Tryz.prog 70 (.agg (plV k s)) = some (klOf k s) := by
  have := kl_some ⟨k, by omega⟩ ⟨s, hs⟩
  dsimp only at this
  obtain ⟨l, hl⟩ := Option.isSome_iff_exists.1 this
  rw [klOf, hl]; rfl
theorem kl_inj {k s k' s' : Nat} (hk : k ≤ 8) (hs : s < 64) (hk' : k' ≤ 8) (hs' : s' < 64) (h : klOf k s = klOf k' s') : k = k' ∧ s = s' := by
  have h1 := kl_key hk hs
  have h2 := kl_key hk' hs'
  rw [h] at h1
  have := pkeyed.inj h1 h2
  simp only [Value.agg.injEq, Array.mk.injEq, List.cons.injEq, Value.int.injEq] at this
  omega

end Go.Proofs.YtoobopohohoidaaGreatDoor

namespace Go.Proofs.YtoobopohohoidaaGreatDoor
open Go.RowKit Go.Maps

theorem Below.two {w a b : World} (h : Below w.heap.size w a) (k : Below a.heap.size a b) : Below w.heap.size w b := h.trans (k.mono h.size)

set_option maxRecDepth 100000 in
set_option maxHeartbeats 4000000 in
theorem vopenTruth_any (P N sc B : Nat) (L : List Nat) (C : List (List Nat)) (t : List Nat) (n m : Nat) (sA cA tA : Option Addr) (cc tc : Nat) (w : World) (hV : VaultOk P N L C) (ht : TruthOk C t) (hn : L.length = n) (hm : C.length = m) (hB : B ≤ w.heap.size)
    (h : Ints w B sA n (ofL L)) (hR : Rows w B cA C) (hT : Ints w B tA m (ofL t)) :
    Calls Tryz.prog 15 #[.agg (vVal P N sA n sc cA m cc), .slice tA m tc] w fun e w' => ∃ kb, w.heap.size ≤ kb ∧ e = .returned (.tuple #[.agg (tVal P N sA n sc cA m cc L tA m tc kb), .int .i64 0]) ∧ Below w.heap.size w w' ∧
      w'.ownsMap (H := Unit) Tryz.prog 70 (plainElem Tryz.prog 3) kb 0 (.map []) := by
  have hlen : ∀ l ∈ C, l.length ≤ 6 := fun l hl => (hV.call l hl).len hV.n6
  have hm8 : m ≤ 8 := by rw [← hm]; exact hV.calls
  have HO := Go.Lib.hid (fun (W : World) (hW : Below w.heap.size w W) => vopen_any P N sc B L C n m sA cA cc W hV hn hm (Nat.le_trans hB hW.size) (h.below hW hB) (hR.below hW hB))
  have HC := Go.Lib.hid (fun (W : World) (hW : Below w.heap.size w W) => vcheckTruth_yes P N B (.int .u8 (maskOf L)) (pI (L.getD 0 0)) (pI (L.getD 1 0)) (pI (L.getD 2 0)) (pI (L.getD 3 0)) (pI L.length) (.slice none 0 0) C t m sA cA tA n sc cc tc W hlen ht hm hm8 (Nat.le_trans hB hW.size) (hT.below hW hB) (hR.below hW hB))
  have hB2 : Below w.heap.size w ((w.alloc (.cells (vVal P N sA n sc cA m cc) 25)).alloc (.cells tZero 61)) := ((Below.refl w.heap.size w).alloc (Nat.le_refl _) _).alloc (by simp) _
  have HB := Go.Lib.hid hB2
  have hmm := @run_makeMap Tryz.prog
  clear hV ht hn hm hB h hR hT hB2 hlen
  go_enter Tryz.func15, Tryz.ntmps15
  go_wp2_with (first
    | (go_at_call 29; refine (HO.out _ HB.out).mono ?_; rintro e w1 ⟨rfl, hB1⟩
       have k1 : w1.heap[w.heap.size + 1]? = some (.cells tZero 61 (0, 0)) := by
         rw [hB1.block _ (by simp)]
         have := heap_alloc_new (w.alloc (.cells (vVal P N sA n sc cA m cc) 25)) (.cells tZero 61)
         rwa [World.size_alloc] at this
       have hz1 : w.heap.size + 2 ≤ w1.heap.size := by have := hB1.size; simp at this; omega
       have hBw : Below w.heap.size w w1 := HB.out.trans (hB1.mono (by simp; omega))
       have hz := heap_alloc_new w1 (.cells (wVal P N sA n sc cA m cc L) 58)
       have k2 : (w1.alloc (.cells (wVal P N sA n sc cA m cc L) 58)).heap[w.heap.size + 1]? = some (.cells tZero 61 (0, 0)) := by rw [Below.heap_alloc _ _ _ (by omega)]; exact k1
       have HZ := Go.Lib.hid hz
       have HK2 := Go.Lib.hid k2
       have HBW := Go.Lib.hid (hBw.alloc (by omega) (.cells (wVal P N sA n sc cA m cc L) 58))
       clear hB1 hz k1 k2 hBw)
    | (go_at_call 30; refine (HC.out _ HBW.out).mono ?_; rintro e w2 ⟨rfl, hB2⟩
       have HZ2 := Go.Lib.hid ((hB2.block w1.heap.size (by simp)).trans HZ.out)
       have HK3 := Go.Lib.hid ((hB2.block (w.heap.size + 1) (by simp; omega)).trans HK2.out)
       have HB2 := Go.Lib.hid (HBW.out.trans (hB2.mono (by simp; omega)))
       have hz2 : w1.heap.size + 1 ≤ w2.heap.size := by have := hB2.size; simp at this; omega
       have HK4 := Go.Lib.hid (show (w2.alloc (.map #[] 0)).heap[w.heap.size + 1]? = _ from (Below.heap_alloc _ _ _ (by omega)).trans HK3.out)
       have HOM := Go.Lib.hid (World.ownsMap_made (H := Unit) w2 Tryz.prog 70 (plainElem Tryz.prog 3))
       clear hB2)
    | (with_reducible refine wpList_load_whole rfl 58 (.tmp 6) rfl w1.heap.size rfl HZ.out Tryz.underlying58 rfl (by kernel_rfl) ?_)
    | (with_reducible refine wpList_load_whole rfl 58 (.tmp 6) rfl w1.heap.size rfl HZ2.out Tryz.underlying58 rfl (by kernel_rfl) ?_)
    | (with_reducible refine wpList_store_whole rfl 61 (.tmp 4) (.tmp 29) rfl (w.heap.size + 1) (tVal P N sA n sc cA m cc L tA m tc w2.heap.size) rfl rfl HK4.out (by kernel_rfl) rfl (by simp [Value.oneCell']) ?_
       intro W9 d1 d2))
  refine bodyPost_ret (v := .tuple #[.agg (tVal P N sA n sc cA m cc L tA m tc w2.heap.size), .int .i64 0])
    (results_cell_slot rfl (by rfl) d1 Tryz.underlying61 rfl (by kernel_rfl) (by rfl)) rfl ⟨w2.heap.size, by omega, rfl, ?_, ?_⟩
  · exact (HB2.out.alloc (by omega) _).trans (d2.below (by omega) (by simp; omega))
  · exact HOM.out.kept (row := some (w.heap.size + 1)) ⟨d2.os, d2.tape, d2.output, d2.size, fun b hb hne => d2.block b hb (fun e => hne (by rw [e]))⟩ (by simp; omega)

end Go.Proofs.YtoobopohohoidaaGreatDoor
