/- VAULT: extend. -/
import Derived.Test.YtoobopohohoidaaGreatDoorVP
set_option linter.unusedSimpArgs false
set_option linter.unusedVariables false
namespace Go.Proofs.YtoobopohohoidaaGreatDoor
open Go.RowKit Go.Maps Go.Shelf

attribute [local go_sem] Oper.semAt_some

/-- How extend ends. -/
def ExtPost (P B : Nat) (t : List Nat) (m : Nat) (TV : Array Value) (tA : Option Addr) (kb tb yb mb eb l N : Nat) (K : Nat → Prop) (J : Nat → World → Prop) (Jx : World → Prop) (k : Nat) (pre : List Int) (i1 : Nat) (W : World) (e : Ending) (W' : World) : Prop :=
  ((e = .returned (.bool true) ∧ J i1 W') ∨ (e = .returned (.bool false) ∧ Jx W')) ∧ ExtE P B t m TV tA kb tb yb mb eb l W' ∧ MadeAt mb m k pre W' ∧ Turn (ExtX mb kb N K) W W'

theorem heaps3 (w : World) (A B C : Array Value) (tA tB tC : TypeId) :
    (((w.alloc (.cells A tA)).alloc (.cells B tB)).alloc (.cells C tC)).heap[w.heap.size]? = some (.cells A tA (0, 0)) ∧ (((w.alloc (.cells A tA)).alloc (.cells B tB)).alloc (.cells C tC)).heap[w.heap.size + 1]? = some (.cells B tB (0, 0)) ∧
      (((w.alloc (.cells A tA)).alloc (.cells B tB)).alloc (.cells C tC)).heap[w.heap.size + 2]? = some (.cells C tC (0, 0)) ∧ (((w.alloc (.cells A tA)).alloc (.cells B tB)).alloc (.cells C tC)).heap.size = w.heap.size + 3 := by
  have h1 := heap_alloc_new w (.cells A tA)
  have h2 := heap_alloc_new (w.alloc (.cells A tA)) (.cells B tB)
  have h3 := heap_alloc_new ((w.alloc (.cells A tA)).alloc (.cells B tB)) (.cells C tC)
  simp only [World.size_alloc] at h2 h3
  exact ⟨heap_old _ (heap_old _ h1), heap_old _ h2, h3, by simp⟩
theorem ext_end {P B : Nat} {t : List Nat} {m : Nat} {TV : Array Value} {tA : Option Addr} {kb tb yb mb eb l N : Nat} {K : Nat → Prop} {J : Nat → World → Prop} {Jx : World → Prop} {k s left z i1 : Nat} {pre : List Int} {w W W' : World} {e : Ending}
    (h : ExtJ P B t m TV tA kb tb yb mb eb l N K k s left w.heap.size pre w W) (he : (e = .returned (.bool true) ∧ J i1 W') ∨ (e = .returned (.bool false) ∧ Jx W')) (hT : Turn (fun b => b = z) W W') (hz : w.heap.size ≤ z)
    (h1 : tb < w.heap.size) (h2 : yb < w.heap.size) (h3 : eb < w.heap.size) (h5 : kb < w.heap.size) (h6 : mb < w.heap.size ∧ B ≤ w.heap.size) : ExtPost P B t m TV tA kb tb yb mb eb l N K J Jx k pre i1 w e W' := by
  have hs := (Array.getElem?_eq_some_iff.1 h.place).1
  refine ⟨he, h.env.keep hT (by omega) (by omega) (by omega) (fun b hb => by omega) (by omega) (h.env.known.keep hT (by omega)), h.made.keep hT (by omega), ?_⟩
  refine (h.turn.trans (hT.mono fun b _ hb => .inr (show w.heap.size ≤ b by omega))).mono fun b hb h => h.resolve_right (by omega)

theorem ext_end' {P B : Nat} {t : List Nat} {m : Nat} {TV : Array Value} {tA : Option Addr} {kb tb yb mb eb l N : Nat} {K : Nat → Prop} {J : Nat → World → Prop} {Jx : World → Prop} {k s left i1 : Nat} {pre : List Int} {w W W' : World} {e : Ending}
    (h : ExtJ P B t m TV tA kb tb yb mb eb l N K k s left w.heap.size pre w W) (he : (e = .returned (.bool true) ∧ J i1 W') ∨ (e = .returned (.bool false) ∧ Jx W')) (hT : Turn (fun b => w.heap.size + 2 ≤ b) W W')
    (h1 : tb < w.heap.size) (h2 : yb < w.heap.size) (h3 : eb < w.heap.size) (h5 : kb < w.heap.size) (h6 : mb < w.heap.size ∧ B ≤ w.heap.size) : ExtPost P B t m TV tA kb tb yb mb eb l N K J Jx k pre i1 w e W' := by
  have hs := (Array.getElem?_eq_some_iff.1 h.place).1
  refine ⟨he, h.env.keep hT (by omega) (by omega) (by omega) (fun b hb => by omega) (by omega) (h.env.known.keep hT (by omega)), h.made.keep hT (by omega), ?_⟩
  refine (h.turn.trans (hT.mono fun b _ hb => .inr (show w.heap.size ≤ b by omega))).mono fun b hb h => h.resolve_right (by omega)

theorem ExtJ.yield {P B : Nat} {t : List Nat} {m : Nat} {TV : Array Value} {tA : Option Addr} {kb tb yb mb eb l N : Nat} {K : Nat → Prop} {k s left z : Nat} {pre : List Int} {w W W' : World}
    (h : ExtJ P B t m TV tA kb tb yb mb eb l N K k s left z pre w W) (hT : Turn (fun b => b < N ∧ ¬ K b) W W') (hKB : ∀ b, b < B → K b) (hKt : K tb) (hKk : K kb) (hyN : N ≤ yb) (hmN : N ≤ mb) (heN : N ≤ eb) (hz : N ≤ z) (hB : B ≤ z) :
    ExtJ P B t m TV tA kb tb yb mb eb l N K k s left z pre w W' := by
  have hs := (Array.getElem?_eq_some_iff.1 h.place).1
  exact ⟨h.env.keep hT (fun h => h.2 hKt) (by omega) (by omega) (fun b hb h => h.2 (hKB b hb)) (by omega) (h.env.known.keep hT (fun h => h.2 hKk)), hT.heap h.place (by omega), hT.heap h.left (by omega), hT.heap h.res (by omega), h.made.keep hT (by omega),
    h.turn.trans (hT.mono fun b _ hb => .inl (.inr (.inr hb)))⟩

set_option maxRecDepth 100000 in
set_option maxHeartbeats 8000000 in
theorem vextend_any (P B : Nat) (t : List Nat) (m : Nat) (v1 v2 v3 v4 v5 v6 v7 v8 v9 v10 : Value) (tA : Option Addr) (tc kb : Nat) (hP : 1 ≤ P) (ht6 : ∀ p ∈ t, p < 6) (hm : t.length = m) (hm8 : m ≤ 8) (hkB : B ≤ kb)
    (o1 : v1.oneCell' = true) (o2 : v2.oneCell' = true) (o3 : v3.oneCell' = true) (o4 : v4.oneCell' = true) (o5 : v5.oneCell' = true) (o6 : v6.oneCell' = true) (o7 : v7.oneCell' = true) (o8 : v8.oneCell' = true) (o9 : v9.oneCell' = true) (o10 : v10.oneCell' = true)
    (tb yb mb eb l N M : Nat) (K : Nat → Prop) (val : Nat → Array Value) (J : Nat → World → Prop) (Jx : World → Prop)
    (hBN : B ≤ N) (hKB : ∀ b, b < B → K b) (hKt : K tb) (hKk : K kb) (htN : tb < N) (hkN : kb < N) (hyN : N ≤ yb) (hmN : N ≤ mb) (heN : N ≤ eb) (hym : yb ≠ mb) (hem : eb ≠ mb) (htk : tb ≠ kb)
    (hJ : ∀ i W W', J i W → Turn (fun b => N ≤ b ∨ b = kb) W W' → J i W') (hJx : ∀ W W', Jx W → Turn (fun b => N ≤ b ∨ b = kb) W W' → Jx W')
    (hY : ∀ i W mm, i < M → J i W → YieldAt .wide mm Tryz.prog l (val i) W fun e W' => (e = .returned (.bool true) ∧ J (i + 1) W' ∧ Turn (fun b => b < N ∧ ¬ K b) W W') ∨ (e = .returned (.bool false) ∧ Jx W' ∧ Turn (fun b => b < N ∧ ¬ K b) W W')) :
    ∀ (d k s : Nat) (w : World) (i0 left : Nat) (pre : List Int), m - k = d → k ≤ m → s < 64 → cnt s ≤ P → pre.length = k →
    ExtE P B t m (tourC P v1 v2 v3 v4 v5 v6 v7 v8 v9 v10 tA m tc kb) tA kb tb yb mb eb l w → MadeAt mb m k pre w → left ≤ fewN P (t.drop k) s →
    (∀ j, j < (extL P (t.drop k) s left).length → i0 + j < M ∧ val (i0 + j) = #[.agg (chV (pre ++ (extL P (t.drop k) s left).getD j []))]) → J i0 w →
    Calls Tryz.prog 51 #[.agg (plV k s), .int .i64 left, .pointer (some ⟨tb, 0, none⟩), .pointer (some ⟨yb, 0, none⟩), .pointer (some ⟨mb, 0, none⟩), .pointer (some ⟨eb, 0, none⟩)] w
      (ExtPost P B t m (tourC P v1 v2 v3 v4 v5 v6 v7 v8 v9 v10 tA m tc kb) tA kb tb yb mb eb l N K J Jx k pre (i0 + (extL P (t.drop k) s left).length) w) := by
  have HAFF := Go.Lib.hid (vafford_any P B t m v1 v2 v3 v4 v5 v6 v7 v8 v9 v10 tA tc kb)
  intro d
  induction d using Nat.strongRecOn with
  | ind d ih =>
    intro k s w i0 left pre hd hk hs hc hpre hE hM hle hval hJ0
    have hB : B ≤ w.heap.size := by have := hE.known.lt; omega
    have hkw : kb < w.heap.size := hE.known.lt
    have htw : tb < w.heap.size := (Array.getElem?_eq_some_iff.1 hE.tour).1
    have hyw : yb < w.heap.size := (Array.getElem?_eq_some_iff.1 hE.yld).1
    have hew : eb < w.heap.size := (Array.getElem?_eq_some_iff.1 hE.ext).1
    have hmw : mb < w.heap.size := let ⟨_, h, _⟩ := hM; (Array.getElem?_eq_some_iff.1 h).1
    have HT3 : ∀ T, Turn T w (((w.alloc (.cells (plV k s) 70)).alloc (.cells #[.int .i64 left] 3)).alloc (.cells #[.bool false] 4)) := fun T => (((Turn.refl T w).alloc _).alloc _).alloc _
    have HTB := Go.Lib.hid ((HT3 (fun _ => False)).heap hE.tour (fun h => h))
    have HI := Go.Lib.hid (hE.ints.keep fun b hb => (HT3 (fun _ => False)).block b (by omega) (fun h => h))
    have HK := Go.Lib.hid (hE.known.keep (HT3 (fun _ => False)) (fun h => h))
    obtain ⟨Fw, hFw⟩ : ∃ Fw, fewN P (t.drop k) s = Fw := ⟨_, rfl⟩
    have HA := Go.Lib.hid (HAFF.out k s left _ hP ht6 hm hm8 hkB o1 o2 o3 o4 o5 o6 o7 o8 o9 o10 hk hs hc HI.out HK.out)
    rw [hFw] at HA
    have hle' : left ≤ Fw := by omega
    have hmN' : N ≤ w.heap.size := by omega
    obtain ⟨x0, x1, x2, xz⟩ := heaps3 w (plV k s) #[.int .i64 left] #[.bool false] 70 3 4
    obtain ⟨w3, hw3⟩ : ∃ w3, (((w.alloc (.cells (plV k s) 70)).alloc (.cells #[.int .i64 left] 3)).alloc (.cells #[.bool false] 4)) = w3 := ⟨_, rfl⟩
    have HX := Go.Lib.hid (show ∀ w4, Turn (fun b => b = kb) (((w.alloc (.cells (plV k s) 70)).alloc (.cells #[.int .i64 left] 3)).alloc (.cells #[.bool false] 4)) w4 → Known P t kb w4 →
        ExtJ P B t m (tourC P v1 v2 v3 v4 v5 v6 v7 v8 v9 v10 tA m tc kb) tA kb tb yb mb eb l N K k s left w.heap.size pre w w4 ∧ J i0 w4 by
      intro w4 h4 hk4
      have h5 := (HT3 (fun b => b = kb)).trans h4
      exact ⟨⟨hE.keep h5 (by omega) (by omega) (by omega) (fun b hb => by omega) hB hk4, h4.heap x0 (by omega), h4.heap x1 (by omega), h4.heap x2 (by omega), hM.keep h5 (by omega), h5.mono fun b _ hb => .inl (.inr (.inl hb))⟩, hJ _ _ _ hJ0 (h5.mono fun b _ hb => .inr hb)⟩)
    clear x0 x1 x2 xz hw3
    have HE := Go.Lib.hid hE
    have HM := Go.Lib.hid hM
    have HVAL := Go.Lib.hid hval
    have HT := Go.Lib.hid HT3
    clear hE hM hval HT3
    refine (callsIn_wide (n := 20)).1 ?_
    refine callsIn_of_wp_marks Tryz.func51 rfl trivial ?_ rfl
    simp only [Tryz.ntmps51, List.size_toArray, List.length_cons, List.length_nil, Nat.reduceAdd, Nat.reduceSub, Array.replicate_succ, Array.replicate_zero, List.push_toArray, List.append_toArray, List.nil_append, List.cons_append]
    have hmo : Tryz.prog.follows .mixedOrders = true := by kernel_rfl
    by_cases hlt : left < Fw
    · rw [if_pos hlt] at HA
      gi_wp2_with (first
        | (with_reducible refine wpListIn_load_whole rfl 61 (.tmp 2) rfl tb rfl HTB.out Tryz.underlying61 rfl (by kernel_rfl) ?_)
        | (refine ⟨trivial, (callsIn_wide.2 HA.out).mono ?_⟩; rintro e w' ⟨rfl, hT1, hK1⟩))
      obtain ⟨hX, hJ4⟩ := HX.out _ hT1 hK1
      have e0 : i0 + (extL P (t.drop k) s left).length = i0 := by rw [extL, if_neg (by omega)]; rfl
      rw [e0]
      refine ext_panic rfl hX.res fun W' hTW => ?_
      exact ext_end hX (.inl ⟨rfl, hJ _ _ _ hJ4 (hTW.mono fun b _ hb => .inl (by omega))⟩) hTW (by omega) (by omega) (by omega) (by omega) (by omega) (by omega)
    · rw [if_neg hlt] at HA
      obtain rfl : left = Fw := by omega
      by_cases hkm : k = m
      · obtain rfl := hkm
        have hb1 : ((k : Int) == (k : Int)) = true := by simp
        gi_wp2_with (first
          | (with_reducible refine wpListIn_load_whole rfl 61 (.tmp 2) rfl tb rfl HTB.out Tryz.underlying61 rfl (by kernel_rfl) ?_)
          | (refine ⟨trivial, (callsIn_wide.2 HA.out).mono ?_⟩; rintro e w4 ⟨rfl, hT1, hK1⟩
             obtain ⟨hX, hJ4⟩ := HX.out _ hT1 hK1
             have c0 : w4.cell? ⟨w.heap.size, 0, none⟩ = some (.int .i64 k) := cellH hX.place 0
             have c11 : w4.cell? ⟨tb, 11, none⟩ = some (.slice tA k tc) := cellH hX.env.tour 11
             have cy : w4.cell? ⟨yb, 0, none⟩ = some (.func (.yield l) #[] #[]) := cellH hX.env.yld 0
             obtain ⟨q, hq1, hq2, hq3⟩ := id hX.made
             have HQ := Go.Lib.hid hq1
             have HX4 := Go.Lib.hid hX
             clear hX)
          | (with_reducible refine wpListIn_load_whole rfl 65 (.tmp 4) rfl mb rfl HQ.out Tryz.underlying65 rfl (by kernel_rfl) ?_))
        have e1 : extL P (t.drop k) s left = [[]] := by
          have hd0 : t.drop k = [] := by rw [← hm, List.drop_length]
          rw [hd0] at hFw ⊢
          rw [extL, if_pos hFw.symm]; rfl
        have hv0 := HVAL.out 0 (by rw [e1]; simp)
        rw [e1] at hv0 ⊢
        have eq1 : pre ++ ([[]] : List (List Int)).getD 0 [] = q := by
          rw [← hq3, ← hq2, List.take_length]; simp
        rw [eq1] at hv0
        obtain ⟨hM0, hv1⟩ := hv0
        obtain ⟨fn, tmps, assign, body, hy, hR⟩ := hY (i0 + 0) w4 19 hM0 hJ4
        rw [hv1] at hy
        rw [hy, Oper.uponIn_round]
        refine ⟨fun h => (by cases h), RoundIn.mono hR ?_⟩
        have hX := HX4.out
        rintro e W3 (⟨rfl, hJ3, hk3⟩ | ⟨rfl, hJx3, hk3⟩)
        · have hr3 : W3.heap[w.heap.size + 1 + 1]? = some (.cells #[.bool false] 4 (0, 0)) := hk3.heap hX.res (by omega)
          have cr : W3.cell? ⟨w.heap.size + 1 + 1, 0, none⟩ = some (.bool false) := cellH hr3 0
          have fr : W3.frozen? ⟨w.heap.size + 1 + 1, 0, none⟩ = false := freeH hr3 0
          have e2 : i0 + (extL P (t.drop k) s left).length = i0 + 0 + 1 := by rw [e1]; rfl
          have hX3 := hX.yield hk3 hKB hKt hKk hyN hmN heN hmN' hB
          gi_wp2
          rw [e2]
          have hS := Turn.of_but ((But.refl (w.heap.size + 1 + 1) W3).set 0 (.bool true))
          exact ext_out rfl (setH hr3 0 (.bool true)) (ext_end hX3 (.inl ⟨rfl, hJ _ _ _ hJ3 (hS.mono fun b _ hb => .inl (by omega))⟩) hS (by omega) htw hyw hew hkw ⟨hmw, hB⟩)
        · have hr3 : W3.heap[w.heap.size + 1 + 1]? = some (.cells #[.bool false] 4 (0, 0)) := hk3.heap hX.res (by omega)
          have cr : W3.cell? ⟨w.heap.size + 1 + 1, 0, none⟩ = some (.bool false) := cellH hr3 0
          have fr : W3.frozen? ⟨w.heap.size + 1 + 1, 0, none⟩ = false := freeH hr3 0
          have hX3 := hX.yield hk3 hKB hKt hKk hyN hmN heN hmN' hB
          gi_wp2
          have hS := Turn.of_but ((But.refl (w.heap.size + 1 + 1) W3).set 0 (.bool false))
          exact ext_out rfl (setH hr3 0 (.bool false)) (ext_end hX3 (.inr ⟨rfl, hJx _ _ hJx3 (hS.mono fun b _ hb => .inl (by omega))⟩) hS (by omega) htw hyw hew hkw ⟨hmw, hB⟩)
      · have hkm2 : k < m := by omega
        have hkm' : ((k : Int) == (m : Int)) = false := by simp; omega
        clear hkm
        have HMM := Go.Lib.hid hm
        clear hm
        gi_wp2_with (first
          | (with_reducible refine wpListIn_load_whole rfl 61 (.tmp 2) rfl tb rfl HTB.out Tryz.underlying61 rfl (by kernel_rfl) ?_)
          | (refine ⟨trivial, (callsIn_wide.2 HA.out).mono ?_⟩; rintro e w4 ⟨rfl, hT1, hK1⟩
             obtain ⟨hX, hJ4⟩ := HX.out _ hT1 hK1
             have c0 : w4.cell? ⟨w.heap.size, 0, none⟩ = some (.int .i64 k) := cellH hX.place 0
             have c11 : w4.cell? ⟨tb, 11, none⟩ = some (.slice tA m tc) := cellH hX.env.tour 11
             have HX4 := Go.Lib.hid hX
             clear hX)
          | (with_reducible refine wpListIn_load_whole rfl 61 (.tmp 2) rfl tb rfl HX4.out.env.tour Tryz.underlying61 rfl (by kernel_rfl) ?_)
          | (with_reducible refine wpListIn_load_whole rfl 70 (.tmp 6) rfl w.heap.size rfl HX4.out.place Tryz.underlying70 rfl (by kernel_rfl) ?_)
          | (refine ⟨trivial, (callsIn_wide.2 (vsteps_any _ _ _ (by kernel_rfl) (by kernel_rfl))).mono ?_⟩; rintro e w' ⟨rfl, rfl⟩))
        have hX := HX4.out
        obtain ⟨tad, rfl, htb, htc⟩ := hX.env.ints (by omega)
        have hm : t.length = m := HMM.out
        have hz4 : w.heap.size + 3 ≤ w4.heap.size := (Array.getElem?_eq_some_iff.1 hX.res).1
        have hTW : ∀ T, Turn T w4 ((w4.alloc (.cells (tourC P v1 v2 v3 v4 v5 v6 v7 v8 v9 v10 (some tad) m tc kb) 61)).alloc (.cells (plV k s) 70)) := fun T => ((Turn.refl T w4).alloc _).alloc _
        have y0 : ((w4.alloc (.cells (tourC P v1 v2 v3 v4 v5 v6 v7 v8 v9 v10 (some tad) m tc kb) 61)).alloc (.cells (plV k s) 70)).heap[w4.heap.size]? = some (.cells (tourC P v1 v2 v3 v4 v5 v6 v7 v8 v9 v10 (some tad) m tc kb) 61 (0, 0)) := heap_old _ (heap_alloc_new w4 _)
        have y1 : ((w4.alloc (.cells (tourC P v1 v2 v3 v4 v5 v6 v7 v8 v9 v10 (some tad) m tc kb) 61)).alloc (.cells (plV k s) 70)).heap[w4.heap.size + 1]? = some (.cells (plV k s) 70 (0, 0)) := by
          have := heap_alloc_new (w4.alloc (.cells (tourC P v1 v2 v3 v4 v5 v6 v7 v8 v9 v10 (some tad) m tc kb) 61)) (.cells (plV k s) 70)
          rwa [World.size_alloc] at this
        have hz5 : ((w4.alloc (.cells (tourC P v1 v2 v3 v4 v5 v6 v7 v8 v9 v10 (some tad) m tc kb) 61)).alloc (.cells (plV k s) 70)).heap.size = w4.heap.size + 2 := by simp
        obtain ⟨W0, hW0⟩ : ∃ W0, (w4.alloc (.cells (tourC P v1 v2 v3 v4 v5 v6 v7 v8 v9 v10 (some tad) m tc kb) 61)).alloc (.cells (plV k s) 70) = W0 := ⟨_, rfl⟩
        rw [hW0] at hTW y0 y1 hz5
        change Code.wpIn _ _ _ _ _ _ ((w4.alloc (.cells (tourC P v1 v2 v3 v4 v5 v6 v7 v8 v9 v10 (some tad) m tc kb) 61)).alloc (.cells (plV k s) 70))
        rw [hW0]
        clear hW0
        obtain ⟨p, hp1, hp2, hp3⟩ := ofL_mem (l := t) (j := k) (by omega)
        have hp6 : p < 6 := ht6 p hp1
        have hdrop : t.drop k = p :: t.drop (k + 1) := by
          obtain ⟨h1, h2⟩ := List.getElem?_eq_some_iff.1 hp3
          rw [List.drop_eq_getElem_cons h1, h2]
        have htcell : w4.cell? (tad.add k) = some (.int .i64 p) := by rw [htc k hkm2, hp2]
        have hit : ∀ W, Turn (fun _ => False) W0 W → W.heap.size = W0.heap.size + 2 → Iter Tryz.prog 54 #[.pointer (some ⟨w4.heap.size, 0, none⟩), .pointer (some ⟨w4.heap.size + 1, 0, none⟩)] (stepL P p s).length (stV P p s k) (fun _ => False) (fun b => b < B ∨ b = w4.heap.size ∨ b = w4.heap.size + 1) W := fun W hT hzW =>
          vsteps_iter w4.heap.size (w4.heap.size + 1) B k s p P m tc tad W hs hp6 (by omega) hkm2 (by omega) (by omega) (by omega) (cellH (hT.heap y0 (fun h => h)) 0) (cellH (hT.heap y0 (fun h => h)) 11) (hT.heap y1 (fun h => h))
            ((hT.cell (p := tad.add k) (by rw [block_add]; omega) (fun h => h)).trans (((hTW (fun _ => False)).cell (p := tad.add k) (by rw [block_add]; omega) (fun h => h)).trans htcell)) htb
        have hX0 := hX.keep (hTW (fun _ => False)) (fun _ h => h.elim) htw hyw hew hB hkw hmw
        have hJ0' := hJ _ _ _ hJ4 (hTW _)
        have HJ := Go.Lib.hid hJ
        have HJX := Go.Lib.hid hJx
        have HYY := Go.Lib.hid hY
        clear hX hJ hJx hY HI HK HT HX HA HAFF HE HM hJ0
        refine range_iter (P := Tryz.prog) (f := 54) (lb := #[.pointer (some ⟨w4.heap.size, 0, none⟩), .pointer (some ⟨w4.heap.size + 1, 0, none⟩)]) (m := (stepL P p s).length) (val := stV P p s k) (T := fun _ => False) (K := fun b => b < B ∨ b = w4.heap.size ∨ b = w4.heap.size + 1)
          (fun l W => by simp only [resolve]; simp [go_sem]) (fun l W => by simp [invoke, go_sem, enters_of Tryz.func54 (by kernel_rfl) rfl])
          (fun _ _ => rfl) (fun _ h => h.elim) (fun b h => by rcases h with h | h | h <;> omega) hit
          (fun i W => ExtJ P B t m (tourC P v1 v2 v3 v4 v5 v6 v7 v8 v9 v10 (some tad) m tc kb) (some tad) kb tb yb mb eb l N K k s left w.heap.size pre w W ∧ J (i0 + offs P p (t.drop (k + 1)) s i) W) (fun c W => c = .ret ∧ ExtJ P B t m (tourC P v1 v2 v3 v4 v5 v6 v7 v8 v9 v10 (some tad) m tc kb) (some tad) kb tb yb mb eb l N K k s left w.heap.size pre w W ∧ Jx W)
          (fun l1 i a1 W => (ExtJ P B t m (tourC P v1 v2 v3 v4 v5 v6 v7 v8 v9 v10 (some tad) m tc kb) (some tad) kb tb yb mb eb l N K k s left w.heap.size pre w W ∧ J (i0 + offs P p (t.drop (k + 1)) s i) W) ∧ w4.heap.size + 2 ≤ l1 ∧ ∃ z, z ≠ l1 ∧ w4.heap.size + 2 ≤ z ∧ W.heap[z]? = some (.cells (plV (k + 1) ((stepL P p s).getD i (0, 0)).2) 70 (0, 0)) ∧ a1 = { tmps := #[.agg (plV k s), .int .i64 left, .pointer (some ⟨tb, 0, none⟩), .pointer (some ⟨yb, 0, none⟩), .pointer (some ⟨mb, 0, none⟩), .pointer (some ⟨eb, 0, none⟩), .pointer (some ⟨w.heap.size, 0, none⟩), .pointer (some ⟨w.heap.size + 1, 0, none⟩), .pointer (some ⟨w.heap.size + 1 + 1, 0, none⟩), .int .i64 ((stepL P p s).getD i (0, 0)).1, .pointer (some ⟨z, 0, none⟩), .func (.func 52) #[] #[.pointer (some ⟨w.heap.size + 1 + 1, 0, none⟩)], .agg (tourC P v1 v2 v3 v4 v5 v6 v7 v8 v9 v10 (some tad) m tc kb), .agg #[.int .i64 k, .int .u8 s], .int .i64 left, .tuple #[], .pointer (some ⟨w.heap.size, 0, none⟩), .int .i64 k, .pointer (some ⟨tb, 11, none⟩), .slice (some tad) m tc, .int .i64 m, .bool false, undef, undef, undef, .agg (tourC P v1 v2 v3 v4 v5 v6 v7 v8 v9 v10 (some tad) m tc kb), .agg (plV k s), .func (.func 54) #[] #[.pointer (some ⟨w4.heap.size, 0, none⟩), .pointer (some ⟨w4.heap.size + 1, 0, none⟩)], .int .i64 ((stepL P p s).getD i (0, 0)).1, .agg (plV (k + 1) ((stepL P p s).getD i (0, 0)).2), undef, undef, undef, undef, undef, undef, undef, undef, undef, undef, undef, undef, undef], defers := [] })
          (fun i W W' h ht => ⟨h.1.keep ht (fun b hb => by rcases hb with hb | hb <;> first | omega | exact hb.elim) htw hyw hew hB hkw hmw, HJ.out _ _ _ h.2 (ht.mono fun b _ hb => by rcases hb with hb | hb; exact .inl (by omega); exact hb.elim)⟩)
          (fun c W W' h ht => ⟨h.1, h.2.1.keep ht (fun b hb => by rcases hb with hb | hb <;> first | omega | exact hb.elim) htw hyw hew hB hkw hmw, HJX.out _ _ h.2.2 (ht.mono fun b _ hb => by rcases hb with hb | hb; exact .inl (by omega); exact hb.elim)⟩)
          (fun l1 i a1 W W' h ht => ⟨⟨h.1.1.keep ht (fun b hb => by have := h.2.1; omega) htw hyw hew hB hkw hmw, HJ.out _ _ _ h.1.2 (ht.mono fun b _ hb => .inl (by have := h.2.1; omega))⟩, h.2.1, let ⟨z, z1, z2, z3, z4⟩ := h.2.2; ⟨z, z1, z2, ht.heap z3 z1, z4⟩⟩)
          ⟨hX0, by rw [offs_zero]; exact hJ0'⟩ ?asg ?bdy ?dne ?stp
        case asg =>
          intro l1 i W C hi hJW hl1 hlW hC
          obtain ⟨⟨y1, y2⟩, hy⟩ : ∃ y, (stepL P p s).getD i (0, 0) = y := ⟨_, rfl⟩
          simp only [stV, hy]
          gi_wp2
          refine hC _ _ ⟨⟨hJW.1.keep ((Turn.refl (fun _ => False) W).alloc _) (fun _ h => h.elim) htw hyw hew hB hkw hmw, HJ.out _ _ _ hJW.2 ((Turn.refl _ W).alloc _)⟩, by omega, W.heap.size, by omega, by omega, by rw [hy]; exact heap_alloc_new W _, by rw [hy]⟩ ((Turn.refl _ W).alloc _)
        case bdy =>
          rintro l1 i a1 W hi hl1 hlW ⟨⟨hJW, hJi⟩, hl5, z, z1, z2, z3, rfl⟩
          have hyst := getD_mem (d := (0, 0)) hi
          obtain ⟨⟨y1, y2⟩, hy⟩ : ∃ y, (stepL P p s).getD i (0, 0) = y := ⟨_, rfl⟩
          rw [hy] at hyst z3
          simp only [hy]
          obtain ⟨q, hq1, hq2, hq3⟩ := id hJW.made
          have cm : W.cell? ⟨mb, k, none⟩ = some (.int .i64 (q.getD k 0)) := (cellH hq1 k).trans (chV_get q (by omega))
          have fm : W.frozen? ⟨mb, k, none⟩ = false := freeH hq1 k
          have cp : W.cell? ⟨w.heap.size, 0, none⟩ = some (.int .i64 k) := cellH hJW.place 0
          have HJW := Go.Lib.hid hJW
          have hk8 : (k : Int) < 8 := by omega
          have HQ1 := Go.Lib.hid hq1
          have hmd : MadeAt mb m (k + 1) (pre ++ [y1]) (W.setCell ⟨mb, k, none⟩ (.int .i64 y1)) :=
            ⟨q.set k y1, by rw [← chV_set (by omega) (by omega)]; exact setH HQ1.out k (.int .i64 y1), by simp [hq2], take_set' (by omega) hq3 y1⟩
          have hTS : Turn (fun b => b = mb) W (W.setCell ⟨mb, k, none⟩ (.int .i64 y1)) := Turn.of_but ((But.refl mb W).set k _)
          have HMD := Go.Lib.hid hmd
          have HTS := Go.Lib.hid hTS
          have hi0 : (stepL P p s)[i]? = some (y1, y2) := by
            rw [List.getD_eq_getElem?_getD, List.getElem?_eq_getElem hi] at hy
            rw [List.getElem?_eq_getElem hi]
            exact congrArg some (by simpa using hy)
          rw [hdrop] at hFw HVAL
          obtain ⟨hv1, hv2⟩ := ext_vals (t := t.drop (k + 1)) hs hp6 hi0 hFw HVAL.out
          obtain ⟨hy64, hyc⟩ := step_ok hs hp6 hc _ hyst
          have hfe := fet_pos (P := P) (t := t.drop (k + 1)) hs hp6 hyst
          have hfl := fet_le (P := P) (t := t.drop (k + 1)) hs hp6 hyst
          rw [hFw] at hfe hfl
          dsimp only at hv1 hv2 hy64 hyc hfe hfl
          have HV1 := Go.Lib.hid hv1
          have HV2 := Go.Lib.hid hv2
          have hleft : left ≤ 8 := by rw [← hFw, ← hdrop]; exact Nat.le_trans (few_len hP _ _ (fun x hx => ht6 x (List.mem_of_mem_drop hx)) hs) (by rw [List.length_drop]; omega)
          clear hJW hit hq1 hmd hTS hv1 hv2
          gi_wp2
          have HSa : (fun W : World => W.cell? ⟨eb, 0, none⟩ = some (.func (.func 51) #[] #[.pointer (some ⟨tb, 0, none⟩), .pointer (some ⟨yb, 0, none⟩), .pointer (some ⟨mb, 0, none⟩), .pointer (some ⟨eb, 0, none⟩)]) ∧ W.heap[z]? = some (.cells (plV (k + 1) y2) 70 (0, 0)) ∧ W.cell? ⟨w.heap.size + 1, 0, none⟩ = some (.int .i64 left) ∧ W.heap[w.heap.size]? = some (.cells (plV k s) 70 (0, 0))) W := ⟨cellH HJW.out.env.ext 0, z3, cellH HJW.out.left 0, HJW.out.place⟩
          have hSk : ∀ (T : Nat → Prop) (A A' : World), (fun W : World => W.cell? ⟨eb, 0, none⟩ = some (.func (.func 51) #[] #[.pointer (some ⟨tb, 0, none⟩), .pointer (some ⟨yb, 0, none⟩), .pointer (some ⟨mb, 0, none⟩), .pointer (some ⟨eb, 0, none⟩)]) ∧ W.heap[z]? = some (.cells (plV (k + 1) y2) 70 (0, 0)) ∧ W.cell? ⟨w.heap.size + 1, 0, none⟩ = some (.int .i64 left) ∧ W.heap[w.heap.size]? = some (.cells (plV k s) 70 (0, 0))) A → Turn T A A' → ¬ T eb → ¬ T z → ¬ T (w.heap.size + 1) → ¬ T w.heap.size → w.heap.size + 1 < A.heap.size → eb < A.heap.size → (fun W : World => W.cell? ⟨eb, 0, none⟩ = some (.func (.func 51) #[] #[.pointer (some ⟨tb, 0, none⟩), .pointer (some ⟨yb, 0, none⟩), .pointer (some ⟨mb, 0, none⟩), .pointer (some ⟨eb, 0, none⟩)]) ∧ W.heap[z]? = some (.cells (plV (k + 1) y2) 70 (0, 0)) ∧ W.cell? ⟨w.heap.size + 1, 0, none⟩ = some (.int .i64 left) ∧ W.heap[w.heap.size]? = some (.cells (plV k s) 70 (0, 0))) A' := fun T A A' h hT n1 n2 n3 n4 n5 n6 =>
            ⟨(hT.cell (p := ⟨eb, 0, none⟩) n6 n1).trans h.1, hT.heap h.2.1 n2, (hT.cell (p := ⟨w.heap.size + 1, 0, none⟩) n5 n3).trans h.2.2.1, hT.heap h.2.2.2 n4⟩
          have hszW : w.heap.size + 2 < W.heap.size := (Array.getElem?_eq_some_iff.1 HJW.out.res).1
          have HSb : (fun W : World => W.cell? ⟨eb, 0, none⟩ = some (.func (.func 51) #[] #[.pointer (some ⟨tb, 0, none⟩), .pointer (some ⟨yb, 0, none⟩), .pointer (some ⟨mb, 0, none⟩), .pointer (some ⟨eb, 0, none⟩)]) ∧ W.heap[z]? = some (.cells (plV (k + 1) y2) 70 (0, 0)) ∧ W.cell? ⟨w.heap.size + 1, 0, none⟩ = some (.int .i64 left) ∧ W.heap[w.heap.size]? = some (.cells (plV k s) 70 (0, 0))) (W.setCell ⟨mb, k, none⟩ (.int .i64 y1)).drew := hSk _ _ _ HSa (HTS.out.trans (Turn.refl _ _).drew) (by omega) (by omega) (by omega) (by omega) (by omega) (by omega)
          refine wpIn_region_heldN (S := (fun W : World => W.cell? ⟨eb, 0, none⟩ = some (.func (.func 51) #[] #[.pointer (some ⟨tb, 0, none⟩), .pointer (some ⟨yb, 0, none⟩), .pointer (some ⟨mb, 0, none⟩), .pointer (some ⟨eb, 0, none⟩)]) ∧ W.heap[z]? = some (.cells (plV (k + 1) y2) 70 (0, 0)) ∧ W.cell? ⟨w.heap.size + 1, 0, none⟩ = some (.int .i64 left) ∧ W.heap[w.heap.size]? = some (.cells (plV k s) 70 (0, 0)))) hmo ?_
          refine wpAnyI_take (i := 0) (v := ?_) (wideR_fn l1) (by kernel_rfl) rfl (by kernel_rfl) (by kernel_rfl) (by kernel_rfl) (fun _ _ _ h => h) HSb (.inl ⟨by rfl, ?hy⟩) ?_
          case hy => rintro w ⟨e1, e2, e3, e4⟩; first | (go_simp; done) | (go_simp; rfl)
          refine wpAnyI_take (i := 1) (v := .agg (plV (k + 1) y2)) (wideR_fn l1) (by kernel_rfl) rfl (by kernel_rfl) (by kernel_rfl) (by kernel_rfl) (fun _ _ _ h => h) HSb ?hy ?_
          case hy => exact yieldsIf_load_whole (by rfl) 70 (.tmp 10) rfl z rfl (fun w h => h.2.1) Tryz.underlying70 rfl (by kernel_rfl)
          refine wpAnyI_take (i := 2) (v := ?_) (wideR_fn l1) (by kernel_rfl) rfl (by kernel_rfl) (by kernel_rfl) (by kernel_rfl) (fun _ _ _ h => h) HSb (.inl ⟨by rfl, ?hy⟩) ?_
          case hy => rintro w ⟨e1, e2, e3, e4⟩; first | (go_simp; done) | (go_simp; rfl)
          refine wpAnyI_take (i := 3) (v := .agg (plV k s)) (wideR_fn l1) (by kernel_rfl) rfl (by kernel_rfl) (by kernel_rfl) (by kernel_rfl) (fun _ _ _ h => h) HSb ?hy ?_
          case hy => exact yieldsIf_load_whole (by rfl) 70 (.tmp 6) rfl w.heap.size rfl (fun w h => h.2.2.2) Tryz.underlying70 rfl (by kernel_rfl)
          refine wpAnyI_take (i := 4) (v := .agg (plV (k + 1) y2)) (wideR_fn l1) (by kernel_rfl) rfl (by kernel_rfl) (by kernel_rfl) (by kernel_rfl) (fun _ _ _ h => h) HSb ?hy ?_
          case hy => exact yieldsIf_load_whole (by rfl) 70 (.tmp 10) rfl z rfl (fun w h => h.2.1) Tryz.underlying70 rfl (by kernel_rfl)
          refine wpAnyI_one (i := 5) (by kernel_rfl) rfl (fun KK hKK => ?_)
          go_simp
          refine ⟨trivial, (CallsIn.inRound l1 (callsIn_wide.2 (vfetched_any k s y2 _ (by omega)))).mono ?_⟩
          rintro e w1 ⟨rfl, hB1⟩
          have hT1a : Turn (fun _ => False) (W.setCell ⟨mb, k, none⟩ (.int .i64 y1)) w1 := (Turn.refl _ _).drew.trans (Turn.of_below' hB1 _)
          have HS1 : (fun W : World => W.cell? ⟨eb, 0, none⟩ = some (.func (.func 51) #[] #[.pointer (some ⟨tb, 0, none⟩), .pointer (some ⟨yb, 0, none⟩), .pointer (some ⟨mb, 0, none⟩), .pointer (some ⟨eb, 0, none⟩)]) ∧ W.heap[z]? = some (.cells (plV (k + 1) y2) 70 (0, 0)) ∧ W.cell? ⟨w.heap.size + 1, 0, none⟩ = some (.int .i64 left) ∧ W.heap[w.heap.size]? = some (.cells (plV k s) 70 (0, 0))) w1 := hSk _ _ _ HSb (Turn.of_below' hB1 (fun _ => False)) (fun h => h) (fun h => h) (fun h => h) (fun h => h) (by simp; omega) (by simp; omega)
          refine hKK _ _ HS1 ?_
          clear hKK KK
          have hsub : IntKind.i64.wrap ((left : Int) - (fetN s y2 : Int)) = ((left - fetN s y2 : Nat) : Int) := by rw [IntWalk.i64_in _ (by omega)]; omega
          refine wpAnyI_take (i := 6) (v := .int .i64 ((left - fetN s y2 : Nat) : Int)) (wideR_fn l1) (by kernel_rfl) rfl (by kernel_rfl) (by kernel_rfl) (by kernel_rfl) (fun _ _ _ h => h) HS1 (.inl ⟨by rfl, ?hy⟩) ?_
          case hy => intro w _; rw [← hsub]; rfl
          refine wpAnyI_one (i := 7) (by kernel_rfl) rfl (fun KK hKK => ?_)
          go_simp
          have hTw1 : Turn (fun b => b = mb) W w1 := HTS.out.trans (hT1a.mono fun _ _ h => h.elim)
          have hE1 := HJW.out.env.keep hTw1 (by omega) hym (by omega) (fun b hb => by omega) (by omega) (HJW.out.env.known.keep hTw1 (by omega))
          have hM1 := HMD.out.keep hT1a (fun h => h)
          have hJ1 := HJ.out _ _ _ hJi (hTw1.mono fun b _ hb => .inl (by omega))
          refine ⟨trivial, (CallsIn.inRound l1 (callsIn_wide.2 (ih (m - (k + 1)) (by omega) (k + 1) y2 w1 (i0 + offs P p (t.drop (k + 1)) s i) (left - fetN s y2) (pre ++ [y1]) rfl (by omega) hy64 hyc (by simp [hpre]) hE1 hM1 (by omega) HV1.out hJ1))).mono ?_⟩
          rintro e w2 ⟨he, hE2, hM2, hT2⟩
          have hM3 : MadeAt mb m k pre w2 := let ⟨q', g1, g2, g3⟩ := hM2; ⟨q', g1, g2, take_less g3 hpre⟩
          have hz1 : w.heap.size + 2 < w1.heap.size := Nat.lt_of_lt_of_le hszW hTw1.size
          have HS2 : (fun W : World => W.cell? ⟨eb, 0, none⟩ = some (.func (.func 51) #[] #[.pointer (some ⟨tb, 0, none⟩), .pointer (some ⟨yb, 0, none⟩), .pointer (some ⟨mb, 0, none⟩), .pointer (some ⟨eb, 0, none⟩)]) ∧ W.heap[z]? = some (.cells (plV (k + 1) y2) 70 (0, 0)) ∧ W.cell? ⟨w.heap.size + 1, 0, none⟩ = some (.int .i64 left) ∧ W.heap[w.heap.size]? = some (.cells (plV k s) 70 (0, 0))) w2 := hSk _ _ _ HS1 hT2 (by omega) (by omega) (by omega) (by omega) (by omega) (by omega)
          have hX2 : ExtJ P B t m (tourC P v1 v2 v3 v4 v5 v6 v7 v8 v9 v10 (some tad) m tc kb) (some tad) kb tb yb mb eb l N K k s left w.heap.size pre w w2 := ⟨hE2, hT2.heap (hTw1.heap HJW.out.place (by omega)) (by omega), hT2.heap (hTw1.heap HJW.out.left (by omega)) (by omega), hT2.heap (hTw1.heap HJW.out.res (by omega)) (by omega), hM3,
            (HJW.out.turn.trans (hTw1.mono fun b _ hb => .inl (.inl hb))).trans (hT2.mono fun b _ hb => .inl hb)⟩
          have hU : ∀ b, ExtX mb kb N K b → ItU W0 (fun b => b < B ∨ b = w4.heap.size ∨ b = w4.heap.size + 1) b := fun b hb => by
            rcases hb with hb | hb | ⟨hb, hn⟩
            · exact ⟨by omega, by omega⟩
            · exact ⟨by omega, by omega⟩
            · exact ⟨by omega, fun h => by
                rcases h with h | h
                · exact hn (hKB b h)
                · omega⟩
          have hTU : Turn (ItU W0 (fun b => b < B ∨ b = w4.heap.size ∨ b = w4.heap.size + 1)) W w2 := (hTw1.mono fun b _ hb => hU b (.inl hb)).trans (hT2.mono fun b _ hb => hU b hb)
          rcases he with ⟨rfl, hJ2⟩ | ⟨rfl, hJx2⟩
          · refine hKK _ _ HS2 ?_
            clear hKK KK
            refine wpAnyI_take (i := 8) (v := ?_) (wideR_fn l1) (by kernel_rfl) rfl (by kernel_rfl) (by kernel_rfl) (by kernel_rfl) (fun _ _ _ h => h) HS2 (.inl ⟨by rfl, ?hy⟩) ?_
            case hy => rintro w ⟨e1, e2, e3, e4⟩; first | (go_simp; done) | (go_simp; rfl)
            refine wpAnyI_done (by kernel_rfl) (NoPanic.normal ?_) _
            gi_wp2
            exact ⟨⟨hX2, by rw [HV2.out, ← Nat.add_assoc]; exact hJ2⟩, hTU⟩
          · refine hKK _ _ HS2 ?_
            clear hKK KK
            refine wpAnyI_take (i := 8) (v := ?_) (wideR_fn l1) (by kernel_rfl) rfl (by kernel_rfl) (by kernel_rfl) (by kernel_rfl) (fun _ _ _ h => h) HS2 (.inl ⟨by rfl, ?hy⟩) ?_
            case hy => rintro w ⟨e1, e2, e3, e4⟩; first | (go_simp; done) | (go_simp; rfl)
            refine wpAnyI_done (by kernel_rfl) (NoPanic.normal ?_) _
            have cr : w2.cell? ⟨w.heap.size + 1 + 1, 0, none⟩ = some (.bool false) := cellH hX2.res 0
            have fr : w2.frozen? ⟨w.heap.size + 1 + 1, 0, none⟩ = false := freeH hX2.res 0
            have hSr := Turn.of_but ((But.refl (w.heap.size + 1 + 1) w2).set 0 (.bool false))
            have HX2 := Go.Lib.hid hX2
            clear hX2
            gi_wp2
            refine ⟨⟨rfl, ?_, HJX.out _ _ hJx2 (hSr.mono fun b _ hb => .inl (by omega))⟩, hTU.trans (hSr.mono fun b _ hb => ⟨by omega, by omega⟩)⟩
            have h2 := HX2.out
            have hkw2 := h2.env.known.lt
            exact ⟨h2.env.keep hSr (by omega) (by omega) (by omega) (fun b hb => by omega) (by omega) (h2.env.known.keep hSr (by omega)), hSr.heap h2.place (by omega), hSr.heap h2.left (by omega), setH h2.res 0 (.bool false), h2.made.keep hSr (by omega), h2.turn.trans (hSr.mono fun b _ hb => .inr (by omega))⟩
        case dne =>
          rintro D W hD ⟨hXm, hJm⟩ hKD
          have cr : W.cell? ⟨w.heap.size + 1 + 1, 0, none⟩ = some (.bool false) := cellH hXm.res 0
          have fr : W.frozen? ⟨w.heap.size + 1 + 1, 0, none⟩ = false := freeH hXm.res 0
          have HXM := Go.Lib.hid hXm
          have HDROP := Go.Lib.hid hdrop
          clear hXm hdrop
          gi_wp2
          have hXm := HXM.out
          have e3 : i0 + (extL P (t.drop k) s left).length = i0 + offs P p (t.drop (k + 1)) s (stepL P p s).length := by
            have hdrop := HDROP.out
            rw [hdrop] at hFw ⊢
            rw [extL, if_pos hFw.symm, offs_all]
          rw [e3]
          have hS := Turn.of_but ((But.refl (w.heap.size + 1 + 1) W).set 0 (.bool true))
          have hDW : D < W.heap.size := (Array.getElem?_eq_some_iff.1 hKD).1
          have hD' : (W.setCell ⟨w.heap.size + 1 + 1, 0, none⟩ (.bool true)).heap[D]? = some (.deferred (some [])) := hS.heap hKD (by omega)
          refine ⟨by simp, .inl ⟨_, _, rfl, run_takeDeferred hD', ?_⟩⟩
          have hput : Turn (fun b => b = D) (W.setCell ⟨w.heap.size + 1 + 1, 0, none⟩ (.bool true)) ((W.setCell ⟨w.heap.size + 1 + 1, 0, none⟩ (.bool true)).putObj D (.deferred none)) := (Turn.refl (fun b => b = D) _).putObj (show D = D from rfl) _
          refine ext_out rfl (hput.heap (setH hXm.res 0 (.bool true)) (by omega)) ?_
          have h2 : Turn (fun b => w.heap.size + 2 ≤ b) W ((W.setCell ⟨w.heap.size + 1 + 1, 0, none⟩ (.bool true)).putObj D (.deferred none)) := (hS.mono fun b _ hb => (by omega)).trans (hput.mono fun b _ hb => (by omega))
          exact ext_end' hXm (.inl ⟨rfl, HJ.out _ _ _ hJm (h2.mono fun b _ hb => .inl (by omega))⟩) h2 htw hyw hew hkw ⟨hmw, hB⟩
        case stp =>
          rintro c D W hD ⟨rfl, hXm, hJm⟩ hKD
          gi_wp2
          have hput : Turn (fun b => b = D) W (W.putObj D (.deferred none)) := (Turn.refl (fun b => b = D) _).putObj (show D = D from rfl) _
          refine ⟨by simp, .inl ⟨_, _, rfl, run_takeDeferred hKD, ?_⟩⟩
          refine ext_out rfl (hput.heap hXm.res (by omega)) ?_
          have h2 : Turn (fun b => w.heap.size + 2 ≤ b) W (W.putObj D (.deferred none)) := hput.mono fun b _ hb => (by omega)
          exact ext_end' hXm (.inr ⟨rfl, HJX.out _ _ hJm (h2.mono fun b _ hb => .inl (by omega))⟩) h2 htw hyw hew hkw ⟨hmw, hB⟩

end Go.Proofs.YtoobopohohoidaaGreatDoor
