/- VAULT: fetched, begin, steps, add. -/
/- VAULT: the iterator over the steps from a place. -/
import Derived.Test.YtoobopohohoidaaGreatDoorVH
import Derived.Test.YtoobopohohoidaaGreatDoorRng
set_option linter.unusedSimpArgs false
set_option linter.unusedVariables false
namespace Go.Proofs.YtoobopohohoidaaGreatDoor
open Go.RowKit Go.Maps

theorem vfetched_no (k s : Nat) (w : World) (hk : k ≤ 8) :
    Calls Tryz.prog 36 #[.agg (plV k s), .agg (plV (k + 1) s)] w fun e w' => e = .returned (.int .i64 0) ∧ Below w.heap.size w w' := by
  have e1 : ((k + 1 : Nat) : Int) = (k : Int) + 1 := by omega
  go_enter Tryz.func36, Tryz.ntmps36
  go_wp2
  go_ret
  exact ⟨rfl, ((Below.refl _ _).alloc (Nat.le_refl _) _).alloc (by simp) _⟩
theorem vfetched_yes (k s s' : Nat) (w : World) (hk : k ≤ 8) (hne : s' ≠ s) :
    Calls Tryz.prog 36 #[.agg (plV k s), .agg (plV (k + 1) s')] w fun e w' => e = .returned (.int .i64 1) ∧ Below w.heap.size w w' := by
  have e1 : ((k + 1 : Nat) : Int) = (k : Int) + 1 := by omega
  have hne' : ((s' : Int) == (s : Int)) = false := by simp; omega
  go_enter Tryz.func36, Tryz.ntmps36
  go_wp2
  go_ret
  exact ⟨rfl, ((Below.refl _ _).alloc (Nat.le_refl _) _).alloc (by simp) _⟩

theorem vsteps_any (T V : Array Value) (w : World) (hT : (Tryz.prog.info? 61).map (·.size) = some T.size) (hV : (Tryz.prog.info? 70).map (·.size) = some V.size) :
    Calls Tryz.prog 34 #[.agg T, .agg V] w fun e w' =>
      e = .returned (.func (.func 54) #[] #[.pointer (some ⟨w.heap.size, 0, none⟩), .pointer (some ⟨w.heap.size + 1, 0, none⟩)]) ∧ w' = (w.alloc (.cells T 61)).alloc (.cells V 70) := by
  go_enter Tryz.func34, Tryz.ntmps34
  go_wp2
  go_ret
  exact ⟨rfl, rfl⟩

/-- What bounds hold. -/
abbrev bV (a b : Nat) (f : Bool) : Array Value := #[.int .i64 a, .int .i64 b, .bool f]
set_option maxRecDepth 100000 in
set_option maxHeartbeats 2000000 in
theorem vadd_first (b x a c : Nat) (w : World) (hx : x ≤ 99) (hb : w.heap[b]? = some (.cells (bV a c false) 99 (0, 0))) :
    Calls Tryz.prog 35 #[.pointer (some ⟨b, 0, none⟩), .int .i64 x] w fun e w' => e = .returned (.tuple #[]) ∧ w'.heap[b]? = some (.cells (bV x x true) 99 (0, 0)) ∧ But b w w' := by
  have c0 : w.cell? ⟨b, 0, none⟩ = some (.int .i64 a) := cellH hb 0
  have c1 : w.cell? ⟨b, 1, none⟩ = some (.int .i64 c) := cellH hb 1
  have c2 : w.cell? ⟨b, 2, none⟩ = some (.bool false) := cellH hb 2
  have f0 : w.frozen? ⟨b, 0, none⟩ = false := freeH hb 0
  have f1 : w.frozen? ⟨b, 1, none⟩ = false := freeH hb 1
  have f2 : w.frozen? ⟨b, 2, none⟩ = false := freeH hb 2
  go_enter Tryz.func35, Tryz.ntmps35
  go_wp2
  go_region
  all_goals go_wp2
  all_goals go_end0
  exact ⟨rfl, setH (setH (setH (setH (setH hb 0 _) 1 _) 2 _) 0 _) 1 _, ((((((But.refl b w).set 0 _).set 1 _).set 2 _).set 0 _).set 1 _).drew⟩
theorem add_end {b a c x u v : Nat} {w : World} (hb : w.heap[b]? = some (.cells (bV a c true) 99 (0, 0))) (hu : u = min a x) (hv : v = max c x) :
    ((w.setCell ⟨b, 0, none⟩ (.int .i64 u)).setCell ⟨b, 1, none⟩ (.int .i64 v)).drew.heap[b]? = some (.cells (bV (min a x) (max c x) true) 99 (0, 0)) := by
  subst hu; subst hv
  exact setH (setH hb 0 _) 1 _
set_option maxRecDepth 100000 in
set_option maxHeartbeats 2000000 in
theorem vadd_more (b x a c : Nat) (w : World) (hx : x ≤ 99) (hb : w.heap[b]? = some (.cells (bV a c true) 99 (0, 0))) :
    Calls Tryz.prog 35 #[.pointer (some ⟨b, 0, none⟩), .int .i64 x] w fun e w' => e = .returned (.tuple #[]) ∧ w'.heap[b]? = some (.cells (bV (min a x) (max c x) true) 99 (0, 0)) ∧ But b w w' := by
  have c0 : w.cell? ⟨b, 0, none⟩ = some (.int .i64 a) := cellH hb 0
  have c1 : w.cell? ⟨b, 1, none⟩ = some (.int .i64 c) := cellH hb 1
  have c2 : w.cell? ⟨b, 2, none⟩ = some (.bool true) := cellH hb 2
  have f0 : w.frozen? ⟨b, 0, none⟩ = false := freeH hb 0
  have f1 : w.frozen? ⟨b, 1, none⟩ = false := freeH hb 1
  have f2 : w.frozen? ⟨b, 2, none⟩ = false := freeH hb 2
  go_enter Tryz.func35, Tryz.ntmps35
  go_wp2
  go_region
  all_goals go_wp2
  all_goals go_end0
  all_goals exact ⟨rfl, add_end hb (by omega) (by omega), (((But.refl b w).set 0 _).set 1 _).drew⟩

theorem own_tight {w : World} {P : Program} {k : TypeId} {R : Value → Option (DataW Unit × List MemPlace)} {b n : Nat} {D : DataW Unit} (h : w.ownsMap P k R b n D) : w.ownsMap P k R b (Maps.size D) D := by
  obtain ⟨es, clock, hb, F, _, hD⟩ := h
  refine ⟨es, clock, hb, F, ?_, hD⟩
  rw [hD, Maps.size_eq, length_sorted]
  simp
theorem nodup_le : ∀ (N : Nat) (l : List Nat), l.Nodup → (∀ x ∈ l, x < N) → l.length ≤ N
  | 0, l, _, h => by
    cases l with
    | nil => simp
    | cons a l => exact absurd (h a (by simp)) (by omega)
  | N + 1, l, hn, h => by
    by_cases hm : N ∈ l
    · have h1 := List.length_erase_of_mem hm
      have h2 := nodup_le N (l.erase N) (hn.erase N) (fun x hx => by
        have h3 := (hn.mem_erase_iff).1 hx
        have := h x h3.2
        omega)
      have := List.length_pos_of_mem hm
      omega
    · have := nodup_le N l hn (fun x hx => by
        have := h x hx
        have : x ≠ N := fun e => hm (e ▸ hx)
        omega)
      omega
set_option maxRecDepth 100000 in
theorem places_le {ps : List (Nat × Nat)} (hn : ps.Nodup) (h : ∀ x ∈ ps, x.1 ≤ 8 ∧ x.2 < 64) : ps.length ≤ 576 := by
  have := nodup_le 576 (ps.map fun x => 64 * x.1 + x.2) (by
    rw [List.nodup_iff_pairwise_ne, List.pairwise_map]
    refine List.Pairwise.imp_of_mem ?_ (List.nodup_iff_pairwise_ne.1 hn)
    intro a b ha hb hne e
    have h1 := h a ha
    have h2 := h b hb
    exact hne (Prod.ext (by omega) (by omega))) (fun y hy => by
    obtain ⟨x, hx, rfl⟩ := List.mem_map.1 hy
    have := h x hx
    omega)
  simpa using this

/-- WHAT IS KNOWN OF PLACES IS TRUE. -/
def Known (P : Nat) (t : List Nat) (kb : Nat) (w : World) : Prop := ∃ (D : DataW Unit) (ps : List (Nat × Nat)), w.ownsMap Tryz.prog 70 (plainElem Tryz.prog 3) kb (Maps.size D) D ∧ Maps.size D ≤ ps.length ∧ ps.Nodup ∧
  (∀ x ∈ ps, x.1 ≤ 8 ∧ x.2 < 64 ∧ Maps.has D (klOf x.1 x.2) = true) ∧
  (∀ k s, k ≤ t.length → s < 64 → Maps.has D (klOf k s) = true → D.atKey (klOf k s) (.lit (.int .i64 0)) = .lit (.int .i64 (fewN P (t.drop k) s)))
theorem known_made {P : Nat} {t : List Nat} {kb : Nat} {w : World} (h : w.ownsMap (H := Unit) Tryz.prog 70 (plainElem Tryz.prog 3) kb 0 (.map [])) : Known P t kb w :=
  ⟨.map [], [], own_tight h, by simp [Maps.size], List.nodup_nil, fun _ h => (by cases h), fun k s _ _ h => by simp [Maps.has] at h⟩
theorem Known.keep {P : Nat} {t : List Nat} {kb : Nat} {w w' : World} {T : Nat → Prop} (h : Known P t kb w) (hT : Turn T w w') (hk : ¬ T kb) : Known P t kb w' := by
  obtain ⟨D, ps, h1, h2⟩ := h
  obtain ⟨es, clock, hb, F, hs, hD⟩ := h1
  exact ⟨D, ps, ⟨es, clock, (hT.block kb (Array.getElem?_eq_some_iff.1 hb).1 hk).trans hb, F, hs, hD⟩, h2⟩
theorem Known.lt {P : Nat} {t : List Nat} {kb : Nat} {w : World} (h : Known P t kb w) : kb < w.heap.size := by
  obtain ⟨D, ps, h1, h2⟩ := h
  exact h1.lt
set_option maxRecDepth 100000 in
theorem Known.put {P : Nat} {t : List Nat} {kb : Nat} {w' : World} {D : DataW Unit} {ps : List (Nat × Nat)} {k s : Nat} (ht : t.length ≤ 8) (hk : k ≤ t.length) (hs : s < 64)
    (htidy : Maps.Tidy D) (h2 : Maps.size D ≤ ps.length) (h3 : ps.Nodup) (h4 : ∀ x ∈ ps, x.1 ≤ 8 ∧ x.2 < 64 ∧ Maps.has D (klOf x.1 x.2) = true)
    (h5 : ∀ k s, k ≤ t.length → s < 64 → Maps.has D (klOf k s) = true → D.atKey (klOf k s) (.lit (.int .i64 0)) = .lit (.int .i64 (fewN P (t.drop k) s)))
    (h : w'.ownsMap (H := Unit) Tryz.prog 70 (plainElem Tryz.prog 3) kb (Maps.size D + 1) (D.put (klOf k s) (.lit (.int .i64 (fewN P (t.drop k) s))))) : Known P t kb w' := by
  have hk8 : k ≤ 8 := by omega
  have hkl : WideAt.IsKeyLit (klOf k s) := pkeyed.key (kl_key hk8 hs)
  have hsz := Maps.size_put (k := klOf k s) htidy (.lit (.int .i64 (fewN P (t.drop k) s)))
  have hother : ∀ k' s', k' ≤ 8 → s' < 64 → Maps.has (D.put (klOf k s) (.lit (.int .i64 (fewN P (t.drop k) s)))) (klOf k' s') = (decide (k' = k ∧ s' = s) || Maps.has D (klOf k' s')) := fun k' s' hk' hs' => by
    by_cases he : k' = k ∧ s' = s
    · obtain ⟨rfl, rfl⟩ := he
      rw [Maps.has_put_same htidy.isMap hkl]; simp
    · rw [Maps.has_put_other (fun e => he (kl_inj hk' hs' (by omega) hs e))]; simp [he]
  by_cases hh : Maps.has D (klOf k s) = true
  · rw [if_pos hh] at hsz
    refine ⟨_, ps, own_tight h, by rw [hsz]; exact h2, h3, fun x hx => ⟨(h4 x hx).1, (h4 x hx).2.1, by rw [hother _ _ (h4 x hx).1 (h4 x hx).2.1, (h4 x hx).2.2]; simp⟩, fun k' s' hk' hs' hh' => ?_⟩
    by_cases he : k' = k ∧ s' = s
    · obtain ⟨rfl, rfl⟩ := he
      exact Maps.atKey_put_same htidy.isMap hkl _ _
    · rw [Maps.atKey_put_other (fun e => he (kl_inj (by omega) hs' (by omega) hs e))]
      rw [hother _ _ (by omega) hs'] at hh'
      exact h5 k' s' hk' hs' (by simpa [he] using hh')
  · rw [if_neg hh] at hsz
    refine ⟨_, (k, s) :: ps, own_tight h, by rw [hsz]; simp; exact h2, List.nodup_cons.2 ⟨fun hm => hh (h4 _ hm).2.2, h3⟩, fun x hx => ?_, fun k' s' hk' hs' hh' => ?_⟩
    · rcases List.mem_cons.1 hx with rfl | hx
      · exact ⟨by show k ≤ 8; omega, hs, by rw [hother _ _ (by show k ≤ 8; omega) hs]; simp⟩
      · exact ⟨(h4 x hx).1, (h4 x hx).2.1, by rw [hother _ _ (h4 x hx).1 (h4 x hx).2.1, (h4 x hx).2.2]; simp⟩
    · by_cases he : k' = k ∧ s' = s
      · obtain ⟨rfl, rfl⟩ := he
        exact Maps.atKey_put_same htidy.isMap hkl _ _
      · rw [Maps.atKey_put_other (fun e => he (kl_inj (by omega) hs' (by omega) hs e))]
        rw [hother _ _ (by omega) hs'] at hh'
        exact h5 k' s' hk' hs' (by simpa [he] using hh')

end Go.Proofs.YtoobopohohoidaaGreatDoor

namespace Go.Proofs.YtoobopohohoidaaGreatDoor
open Go.RowKit Go.Maps Go.Shelf

attribute [local go_sem] Oper.semAt_some

/-- What can be sent at a place, and the office behind it. -/
def stepL (P p s : Nat) : List (Int × Nat) := if s.testBit p = true ∨ cnt s < P then [(-1, withP s p)] else (els s).map fun q : Nat => ((q : Int), withP (lessP s q) p)
abbrev stV (P p s k i : Nat) : Array Value := #[.int .i64 ((stepL P p s).getD i (0, 0)).1, .agg (plV (k + 1) ((stepL P p s).getD i (0, 0)).2)]

theorem vhas_lit (s n : Nat) (b : Bool) (hb : s.testBit n = b) (w : World) (h1 : s < 64) (h2 : n < 6) :
    Calls Tryz.prog 55 #[.int .u8 s, .int .i64 n] w fun e w' => e = .returned (.bool b) ∧ w = w' := hb ▸ vhas_any s n w h1 h2
theorem wide_fn : ∀ f, Fence.wide.fn f := fun _ => trivial
theorem wideR_fn (l : Nat) : ∀ f, (Fence.wide.inRound l).fn f := fun _ => trivial

set_option maxRecDepth 100000 in
set_option maxHeartbeats 4000000 in
theorem vsteps_one (tb pb B k s p P tn tc : Nat) (T : Array Value) (tA : Option Addr) (tad : Addr) (v : Bool) (W0 : World) (l : Nat) (J : Nat → World → Prop) (Jx : World → Prop) (hs : s < 64) (hp : p < 6) (hk : k < 8) (hkn : k < tn) (hv : s.testBit p = v) (hP : v = false → cnt s < P)
    (htB : B ≤ W0.heap.size) (htb : tb < W0.heap.size) (hpb : pb < W0.heap.size)
    (hT0 : W0.cell? ⟨tb, 0, none⟩ = some (.int .i64 P)) (hT11 : W0.cell? ⟨tb, 11, none⟩ = some (.slice (some tad) tn tc))
    (hpl : W0.heap[pb]? = some (.cells (plV k s) 70 (0, 0))) (htk : W0.cell? (tad.add k) = some (.int .i64 p)) (htad : tad.block < B)
    (hJ : ∀ i W W', J i W → Turn (ItT W0 (fun _ => False)) W W' → J i W')
    (hY : ∀ i W mm, i < 1 → J i W → YieldAt .wide mm Tryz.prog l #[.int .i64 (-1), .agg (plV (k + 1) (withP s p))] W fun e W' => (e = .returned (.bool true) ∧ J (i + 1) W' ∧ Turn (ItU W0 (fun b => b < B ∨ b = tb ∨ b = pb)) W W') ∨ (e = .returned (.bool false) ∧ Jx W' ∧ Turn (ItU W0 (fun b => b < B ∨ b = tb ∨ b = pb)) W W'))
    (h0 : J 0 W0) :
    Calls Tryz.prog 54 #[.func (.yield l) #[] #[], .pointer (some ⟨tb, 0, none⟩), .pointer (some ⟨pb, 0, none⟩)] W0 fun e W' => (∃ v, e = .returned v) ∧ (J 1 W' ∨ Jx W') := by
  refine (callsIn_wide (n := 12)).1 ?_
  refine callsIn_of_wp_marks Tryz.func54 rfl trivial ?_ rfl
  simp only [Tryz.ntmps54, List.size_toArray, List.length_cons, List.length_nil, Nat.reduceAdd, Nat.reduceSub, Array.replicate_succ, Array.replicate_zero, List.push_toArray, List.append_toArray, List.nil_append, List.cons_append]
  have hmo : Tryz.prog.follows .mixedOrders = true := by kernel_rfl
  have hP0 : W0.cell? ⟨pb, 0, none⟩ = some (.int .i64 k) := cellH hpl 0
  have hP1 : W0.cell? ⟨pb, 1, none⟩ = some (.int .u8 s) := cellH hpl 1
  have g0 : ∀ o, (W0.alloc o).cell? ⟨tb, 0, none⟩ = some (.int .i64 P) := fun o => cell_alloc_l _ hT0
  have g11 : ∀ o, (W0.alloc o).cell? ⟨tb, 11, none⟩ = some (.slice (some tad) tn tc) := fun o => cell_alloc_l _ hT11
  have gp0 : ∀ o, (W0.alloc o).cell? ⟨pb, 0, none⟩ = some (.int .i64 k) := fun o => cell_alloc_l _ hP0
  have gp1 : ∀ o, (W0.alloc o).cell? ⟨pb, 1, none⟩ = some (.int .u8 s) := fun o => cell_alloc_l _ hP1
  have gt : ∀ o, (W0.alloc o).cell? (tad.add k) = some (.int .i64 p) := fun o => cell_alloc_l _ htk
  have gg0 : ∀ o o', ((W0.alloc o).alloc o').cell? ⟨tb, 0, none⟩ = some (.int .i64 P) := fun o o' => cell_alloc_l _ (g0 o)
  have ggp0 : ∀ o o', ((W0.alloc o).alloc o').cell? ⟨pb, 0, none⟩ = some (.int .i64 k) := fun o o' => cell_alloc_l _ (gp0 o)
  have ggp1 : ∀ o o', ((W0.alloc o).alloc o').cell? ⟨pb, 1, none⟩ = some (.int .u8 s) := fun o o' => cell_alloc_l _ (gp1 o)
  have cY : ((W0.alloc (.cells #[.func (.yield l) #[] #[]] 134)).alloc (.cells #[.int .i64 p] 3)).cell? ⟨W0.heap.size, 0, none⟩ = some (.func (.yield l) #[] #[]) := by simp
  have cP : ((W0.alloc (.cells #[.func (.yield l) #[] #[]] 134)).alloc (.cells #[.int .i64 p] 3)).cell? ⟨W0.heap.size + 1, 0, none⟩ = some (.int .i64 p) := by
    have := cell_new (W0.alloc (.cells #[.func (.yield l) #[] #[]] 134)) #[.int .i64 p] 3 0
    rwa [World.size_alloc] at this
  have hz : ((W0.alloc (.cells #[.func (.yield l) #[] #[]] 134)).alloc (.cells #[.int .i64 p] 3)).heap.size = W0.heap.size + 2 := by simp
  have hJ1 := hJ 0 _ _ h0 (((Turn.refl (ItT W0 (fun _ => False)) W0).alloc (.cells #[.func (.yield l) #[] #[]] 134)).alloc (.cells #[.int .i64 p] 3))
  have HJ := Go.Lib.hid hJ; clear hJ
  have HY := Go.Lib.hid hY; clear hY
  have HJ1 := Go.Lib.hid hJ1; clear hJ1
  gi_wp2
  clear gp0 gp1 gt g0 g11
  have q0 := gg0 (.cells #[.func (.yield l) #[] #[]] 134) (.cells #[.int .i64 p] 3)
  have q1 := ggp0 (.cells #[.func (.yield l) #[] #[]] 134) (.cells #[.int .i64 p] 3)
  have q2 := ggp1 (.cells #[.func (.yield l) #[] #[]] 134) (.cells #[.int .i64 p] 3)
  clear gg0 ggp0 ggp1
  obtain ⟨W1, hW1⟩ : ∃ W1, (W0.alloc (.cells #[.func (.yield l) #[] #[]] 134)).alloc (.cells #[.int .i64 p] 3) = W1 := ⟨_, rfl⟩
  rw [hW1] at cY cP HJ1 q0 q1 q2 hz ⊢
  clear hW1
  have hlss : v = false → decide ((cnt s : Int) < (P : Int)) = true := fun hv => by have := hP hv; simp; omega
  refine (wpIn_wide (n := 12)).2 ?_
  have hwr : IntKind.i64.wrap ((k : Int) + 1) = (k : Int) + 1 := IntWalk.i64_in _ (by omega)
  have ek : ((k + 1 : Nat) : Int) = (k : Int) + 1 := by omega
  cases v with
  | true =>
    go_quiet (first | (go_at_call 55; exact quietly (vhas_lit s p true hv _ hs hp)))
    gi_wp2
    refine wpIn_region_heldN (S := fun w => w.cell? ⟨W0.heap.size, 0, none⟩ = some (.func (.yield l) #[] #[]) ∧ w.cell? ⟨W0.heap.size + 1, 0, none⟩ = some (.int .i64 p) ∧ w.cell? ⟨pb, 0, none⟩ = some (.int .i64 k) ∧ w.cell? ⟨pb, 1, none⟩ = some (.int .u8 s)) hmo ?_
    have hS : ∀ d, (fun w : World => w.cell? ⟨W0.heap.size, 0, none⟩ = some (.func (.yield l) #[] #[]) ∧ w.cell? ⟨W0.heap.size + 1, 0, none⟩ = some (.int .i64 p) ∧ w.cell? ⟨pb, 0, none⟩ = some (.int .i64 k) ∧ w.cell? ⟨pb, 1, none⟩ = some (.int .u8 s)) (W1.drewN d).drew := fun d => ⟨cY, cP, q1, q2⟩
    have hS3 : ∀ W3, Turn (ItU W0 (fun b => b < B ∨ b = tb ∨ b = pb)) (W1.drewN (nq + 1)) W3 → (fun w : World => w.cell? ⟨W0.heap.size, 0, none⟩ = some (.func (.yield l) #[] #[]) ∧ w.cell? ⟨W0.heap.size + 1, 0, none⟩ = some (.int .i64 p) ∧ w.cell? ⟨pb, 0, none⟩ = some (.int .i64 k) ∧ w.cell? ⟨pb, 1, none⟩ = some (.int .u8 s)) W3 := fun W3 h3 =>
      ⟨(h3.cell (p := ⟨W0.heap.size, 0, none⟩) (by simp; omega) (fun h => by have := h.1; simp at this)).trans cY, (h3.cell (p := ⟨W0.heap.size + 1, 0, none⟩) (by simp; omega) (fun h => by have := h.1; simp at this; omega)).trans cP,
       (h3.cell (p := ⟨pb, 0, none⟩) (by simp; omega) (fun h => h.2 (.inr (.inr rfl)))).trans q1, (h3.cell (p := ⟨pb, 1, none⟩) (by simp; omega) (fun h => h.2 (.inr (.inr rfl)))).trans q2⟩
    refine wpAnyI_take (i := 0) (v := ?_) wide_fn (by kernel_rfl) rfl (by kernel_rfl) (by kernel_rfl) (by kernel_rfl) (fun _ _ _ h => h) (hS nq) (.inl ⟨by rfl, ?hy⟩) ?_
    case hy => rintro w ⟨e1, e2, e3, e4⟩; first | (go_simp; done) | (go_simp; rfl)
    refine wpAnyI_take (i := 1) (v := ?_) wide_fn (by kernel_rfl) rfl (by kernel_rfl) (by kernel_rfl) (by kernel_rfl) (fun _ _ _ h => h) (hS nq) (.inl ⟨by rfl, ?hy⟩) ?_
    case hy => rintro w ⟨e1, e2, e3, e4⟩; first | (go_simp; done) | (go_simp; rfl)
    refine wpAnyI_take (i := 2) (v := ?_) wide_fn (by kernel_rfl) rfl (by kernel_rfl) (by kernel_rfl) (by kernel_rfl) (fun _ _ _ h => h) (hS nq) (.inl ⟨by rfl, ?hy⟩) ?_
    case hy => rintro w ⟨e1, e2, e3, e4⟩; first | (go_simp; done) | (go_simp; rfl)
    refine wpAnyI_take (i := 3) (v := ?_) wide_fn (by kernel_rfl) rfl (by kernel_rfl) (by kernel_rfl) (by kernel_rfl) (fun _ _ _ h => h) (hS nq) (.inl ⟨by rfl, ?hy⟩) ?_
    case hy => rintro w ⟨e1, e2, e3, e4⟩; first | (go_simp; done) | (go_simp; rfl)
    refine wpAnyI_take (i := 4) (v := ?_) wide_fn (by kernel_rfl) rfl (by kernel_rfl) (by kernel_rfl) (by kernel_rfl) (fun _ _ _ h => h) (hS nq) (.inl ⟨by rfl, ?hy⟩) ?_
    case hy => rintro w ⟨e1, e2, e3, e4⟩; first | (go_simp; done) | (go_simp; rfl)
    refine wpAnyI_take (i := 5) (v := ?_) wide_fn (by kernel_rfl) rfl (by kernel_rfl) (by kernel_rfl) (by kernel_rfl) (fun _ _ _ h => h) (hS nq) (.inl ⟨by rfl, ?hy⟩) ?_
    case hy => rintro w ⟨e1, e2, e3, e4⟩; first | (go_simp; done) | (go_simp; rfl)
    refine wpAnyI_take (i := 6) (v := ?_) wide_fn (by kernel_rfl) rfl (by kernel_rfl) (by kernel_rfl) (by kernel_rfl) (fun _ _ _ h => h) (hS nq) (.inl ⟨by rfl, ?hy⟩) ?_
    case hy => rintro w ⟨e1, e2, e3, e4⟩; first | (go_simp; done) | (go_simp; rfl)
    refine wpAnyI_one (i := 7) (by kernel_rfl) rfl (fun K hK => ?_)
    go_simp
    refine ⟨trivial, (callsIn_wide.2 (vwith_any s p _ hs hp)).mono ?_⟩
    rintro e w' ⟨rfl, rfl⟩
    refine hK _ _ (hS _) ?_
    clear hK K
    refine wpAnyI_take (i := 8) (v := ?_) wide_fn (by kernel_rfl) rfl (by kernel_rfl) (by kernel_rfl) (by kernel_rfl) (fun _ _ _ h => h) (hS _) (.inl ⟨by rfl, ?hy⟩) ?_
    case hy => rintro w ⟨e1, e2, e3, e4⟩; first | (go_simp; done) | (go_simp; rfl)
    obtain ⟨fn, tmps, assign, body, hy, hR⟩ := HY.out 0 (W1.drewN (nq + 1)) 11 (by omega) (HJ.out _ _ _ HJ1.out ((Turn.refl _ _).drewN (nq + 1)))
    simp only [plV, ek] at hy
    refine wpAnyI_one (i := 9) (by kernel_rfl) rfl (fun K hK => ?_)
    go_simp
    refine RoundIn.mono hR ?_
    rintro e W3 (⟨rfl, hJ3, hk3⟩ | ⟨rfl, hJx3, hk3⟩)
    · refine hK _ _ (hS3 _ hk3) ?_
      clear hK K
      refine wpAnyI_done (by kernel_rfl) (NoPanic.normal ?_) _
      gi_wp2
      exact ⟨_, results_none rfl _ _ _, ⟨_, rfl⟩, .inl hJ3⟩
    · refine hK _ _ (hS3 _ hk3) ?_
      clear hK K
      refine wpAnyI_done (by kernel_rfl) (NoPanic.normal ?_) _
      gi_wp2
      exact ⟨_, results_none rfl _ _ _, ⟨_, rfl⟩, .inr hJx3⟩
  | false =>
    have hl1 := hlss rfl
    go_quiet (first | (go_at_call 55; exact quietly (vhas_lit s p false hv _ hs hp)) | (go_at_call 56; exact quietly (vsize_any s _ hs)))
    gi_wp2
    refine wpIn_region_heldN (S := fun w => w.cell? ⟨W0.heap.size, 0, none⟩ = some (.func (.yield l) #[] #[]) ∧ w.cell? ⟨W0.heap.size + 1, 0, none⟩ = some (.int .i64 p) ∧ w.cell? ⟨pb, 0, none⟩ = some (.int .i64 k) ∧ w.cell? ⟨pb, 1, none⟩ = some (.int .u8 s)) hmo ?_
    have hS : ∀ d, (fun w : World => w.cell? ⟨W0.heap.size, 0, none⟩ = some (.func (.yield l) #[] #[]) ∧ w.cell? ⟨W0.heap.size + 1, 0, none⟩ = some (.int .i64 p) ∧ w.cell? ⟨pb, 0, none⟩ = some (.int .i64 k) ∧ w.cell? ⟨pb, 1, none⟩ = some (.int .u8 s)) (W1.drewN d).drew := fun d => ⟨cY, cP, q1, q2⟩
    have hS3 : ∀ W3, Turn (ItU W0 (fun b => b < B ∨ b = tb ∨ b = pb)) (W1.drewN (nq + 1)) W3 → (fun w : World => w.cell? ⟨W0.heap.size, 0, none⟩ = some (.func (.yield l) #[] #[]) ∧ w.cell? ⟨W0.heap.size + 1, 0, none⟩ = some (.int .i64 p) ∧ w.cell? ⟨pb, 0, none⟩ = some (.int .i64 k) ∧ w.cell? ⟨pb, 1, none⟩ = some (.int .u8 s)) W3 := fun W3 h3 =>
      ⟨(h3.cell (p := ⟨W0.heap.size, 0, none⟩) (by simp; omega) (fun h => by have := h.1; simp at this)).trans cY, (h3.cell (p := ⟨W0.heap.size + 1, 0, none⟩) (by simp; omega) (fun h => by have := h.1; simp at this; omega)).trans cP,
       (h3.cell (p := ⟨pb, 0, none⟩) (by simp; omega) (fun h => h.2 (.inr (.inr rfl)))).trans q1, (h3.cell (p := ⟨pb, 1, none⟩) (by simp; omega) (fun h => h.2 (.inr (.inr rfl)))).trans q2⟩
    refine wpAnyI_take (i := 0) (v := ?_) wide_fn (by kernel_rfl) rfl (by kernel_rfl) (by kernel_rfl) (by kernel_rfl) (fun _ _ _ h => h) (hS nq) (.inl ⟨by rfl, ?hy⟩) ?_
    case hy => rintro w ⟨e1, e2, e3, e4⟩; first | (go_simp; done) | (go_simp; rfl)
    refine wpAnyI_take (i := 1) (v := ?_) wide_fn (by kernel_rfl) rfl (by kernel_rfl) (by kernel_rfl) (by kernel_rfl) (fun _ _ _ h => h) (hS nq) (.inl ⟨by rfl, ?hy⟩) ?_
    case hy => rintro w ⟨e1, e2, e3, e4⟩; first | (go_simp; done) | (go_simp; rfl)
    refine wpAnyI_take (i := 2) (v := ?_) wide_fn (by kernel_rfl) rfl (by kernel_rfl) (by kernel_rfl) (by kernel_rfl) (fun _ _ _ h => h) (hS nq) (.inl ⟨by rfl, ?hy⟩) ?_
    case hy => rintro w ⟨e1, e2, e3, e4⟩; first | (go_simp; done) | (go_simp; rfl)
    refine wpAnyI_take (i := 3) (v := ?_) wide_fn (by kernel_rfl) rfl (by kernel_rfl) (by kernel_rfl) (by kernel_rfl) (fun _ _ _ h => h) (hS nq) (.inl ⟨by rfl, ?hy⟩) ?_
    case hy => rintro w ⟨e1, e2, e3, e4⟩; first | (go_simp; done) | (go_simp; rfl)
    refine wpAnyI_take (i := 4) (v := ?_) wide_fn (by kernel_rfl) rfl (by kernel_rfl) (by kernel_rfl) (by kernel_rfl) (fun _ _ _ h => h) (hS nq) (.inl ⟨by rfl, ?hy⟩) ?_
    case hy => rintro w ⟨e1, e2, e3, e4⟩; first | (go_simp; done) | (go_simp; rfl)
    refine wpAnyI_take (i := 5) (v := ?_) wide_fn (by kernel_rfl) rfl (by kernel_rfl) (by kernel_rfl) (by kernel_rfl) (fun _ _ _ h => h) (hS nq) (.inl ⟨by rfl, ?hy⟩) ?_
    case hy => rintro w ⟨e1, e2, e3, e4⟩; first | (go_simp; done) | (go_simp; rfl)
    refine wpAnyI_take (i := 6) (v := ?_) wide_fn (by kernel_rfl) rfl (by kernel_rfl) (by kernel_rfl) (by kernel_rfl) (fun _ _ _ h => h) (hS nq) (.inl ⟨by rfl, ?hy⟩) ?_
    case hy => rintro w ⟨e1, e2, e3, e4⟩; first | (go_simp; done) | (go_simp; rfl)
    refine wpAnyI_one (i := 7) (by kernel_rfl) rfl (fun K hK => ?_)
    go_simp
    refine ⟨trivial, (callsIn_wide.2 (vwith_any s p _ hs hp)).mono ?_⟩
    rintro e w' ⟨rfl, rfl⟩
    refine hK _ _ (hS _) ?_
    clear hK K
    refine wpAnyI_take (i := 8) (v := ?_) wide_fn (by kernel_rfl) rfl (by kernel_rfl) (by kernel_rfl) (by kernel_rfl) (fun _ _ _ h => h) (hS _) (.inl ⟨by rfl, ?hy⟩) ?_
    case hy => rintro w ⟨e1, e2, e3, e4⟩; first | (go_simp; done) | (go_simp; rfl)
    obtain ⟨fn, tmps, assign, body, hy, hR⟩ := HY.out 0 (W1.drewN (nq + 1)) 11 (by omega) (HJ.out _ _ _ HJ1.out ((Turn.refl _ _).drewN (nq + 1)))
    simp only [plV, ek] at hy
    refine wpAnyI_one (i := 9) (by kernel_rfl) rfl (fun K hK => ?_)
    go_simp
    refine RoundIn.mono hR ?_
    rintro e W3 (⟨rfl, hJ3, hk3⟩ | ⟨rfl, hJx3, hk3⟩)
    · refine hK _ _ (hS3 _ hk3) ?_
      clear hK K
      refine wpAnyI_done (by kernel_rfl) (NoPanic.normal ?_) _
      gi_wp2
      exact ⟨_, results_none rfl _ _ _, ⟨_, rfl⟩, .inl hJ3⟩
    · refine hK _ _ (hS3 _ hk3) ?_
      clear hK K
      refine wpAnyI_done (by kernel_rfl) (NoPanic.normal ?_) _
      gi_wp2
      exact ⟨_, results_none rfl _ _ _, ⟨_, rfl⟩, .inr hJx3⟩

end Go.Proofs.YtoobopohohoidaaGreatDoor
