/- VAULT: Best. -/
/- VAULT: what the rules send. -/
import Derived.Test.YtoobopohohoidaaGreatDoorVT
set_option linter.unusedSimpArgs false
set_option linter.unusedVariables false
namespace Go.Proofs.YtoobopohohoidaaGreatDoor
open Go.RowKit Go.Maps Go.Shelf

attribute [local go_sem] Oper.semAt_some

/-- What Best gives. -/
def BestOk (P : Nat) (t L : List Nat) (m : Nat) (w : World) (e : Ending) (w' : World) : Prop :=
  ∃ (A : Option Addr) (c : Nat), e = .returned (.tuple #[.slice A m c, .int .i64 (fewN P t (maskOf L)), .int .i64 0]) ∧ Below w.heap.size w w' ∧ Ints w' w'.heap.size A m (fun j => ((bestsL P t (maskOf L)).getD 0 []).getD j 0)
theorem TruthOk.lt {P N : Nat} {L : List Nat} {C : List (List Nat)} {t : List Nat} (h : TruthOk C t) (hV : VaultOk P N L C) : ∀ p ∈ t, p < 6 := fun p hp => by
  obtain ⟨i, hi, rfl⟩ := List.getElem_of_mem hp
  have h1 := h.mem i (by rw [← h.len]; exact hi)
  rw [show t.getD i 0 = t[i] by simp [hi]] at h1
  have h2 := (hV.call _ (getD_mem (d := []) (by rw [← h.len]; exact hi))).lt _ h1
  have := hV.n6
  omega

set_option maxRecDepth 100000 in
set_option maxHeartbeats 4000000 in
theorem vBest_any (P N sc B : Nat) (L : List Nat) (C : List (List Nat)) (t : List Nat) (n m : Nat) (sA cA tA : Option Addr) (cc tc : Nat) (w : World) (hV : VaultOk P N L C) (ht : TruthOk C t) (hn : L.length = n) (hm : C.length = m) (hB : B ≤ w.heap.size)
    (h : Ints w B sA n (ofL L)) (hR : Rows w B cA C) (hT : Ints w B tA m (ofL t)) :
    Calls Tryz.prog 6 #[.agg (vVal P N sA n sc cA m cc), .slice tA m tc] w (BestOk P t L m w) := by
  subst hn
  have hB1 : Below w.heap.size w (w.alloc (.cells (vVal P N sA L.length sc cA m cc) 25)) := (Below.refl w.heap.size w).alloc (Nat.le_refl _) _
  have HO := Go.Lib.hid (vopenTruth_any P N sc B L C t L.length m sA cA tA cc tc (w.alloc (.cells (vVal P N sA L.length sc cA m cc) 25)) hV ht rfl hm (Nat.le_trans hB hB1.size) (h.below hB1 hB) (hR.below hB1 hB) (hT.below hB1 hB))
  have HI := Go.Lib.hid (hT.below hB1 hB)
  have htm : t.length = m := ht.len.trans hm
  have ht6 : ∀ p ∈ t, p < 6 := ht.lt hV
  have hm8 : m ≤ 8 := by rw [← hm]; exact hV.calls
  have hs := mask_lt hV.line.lt
  have hc : cnt (maskOf L) ≤ P := by rw [hV.line.cnt]; exact hV.line.le
  have hP := hV.p1
  have HF := Go.Lib.hid (And.intro htm (And.intro ht6 (And.intro hs hc)))
  clear h hR hT hB1 hV ht hm htm ht6 hs hc
  refine (callsIn_wide (n := 12)).1 ?_
  refine callsIn_of_wp Tryz.func6 rfl trivial ?_
  simp only [Tryz.ntmps6, List.size_toArray, List.length_cons, List.length_nil, Nat.reduceAdd, Nat.reduceSub, Array.replicate_succ, Array.replicate_zero, List.push_toArray, List.append_toArray, List.nil_append, List.cons_append]
  have hmo : Tryz.prog.follows .mixedOrders = true := by kernel_rfl
  gi_wp2_with (first | (refine ⟨trivial, (callsIn_wide.2 HO.out).mono ?_⟩; rintro e w1 ⟨kb, hkb, rfl, hB2, hown⟩))
  change Code.wpIn _ _ _ _ _ _ (w1.alloc (.cells (tVal P N sA L.length sc cA m cc L tA m tc kb) 61))
  obtain ⟨htm, ht6, hs, hc⟩ := HF.out
  have hkb' : w.heap.size < kb := by have := hkb; simp at this; omega
  have hz1 : w.heap.size < w1.heap.size := by have := hB2.size; simp at this; omega
  have hx : (w1.alloc (.cells (tVal P N sA L.length sc cA m cc L tA m tc kb) 61)).heap[w1.heap.size]? = some (.cells (tVal P N sA L.length sc cA m cc L tA m tc kb) 61 (0, 0)) := heap_alloc_new w1 _
  have hKn : Known P t kb (w1.alloc (.cells (tVal P N sA L.length sc cA m cc L tA m tc kb) 61)) := known_made (hown.alloc _)
  have hkw : kb < w1.heap.size := (known_made (P := P) (t := t) hown).lt
  have hIn : Ints (w1.alloc (.cells (tVal P N sA L.length sc cA m cc L tA m tc kb) 61)) B tA m (ofL t) := (HI.out.below hB2 (by simp; omega)).keep fun b hb => ((Turn.refl (fun _ => False) w1).alloc _).block b (by omega) (fun h => h)
  have hTw : Turn (fun b => w.heap.size ≤ b) w (w1.alloc (.cells (tVal P N sA L.length sc cA m cc L tA m tc kb) 61)) := ((((Turn.refl _ w).alloc _).trans ((Turn.of_below hB2).mono fun b _ hb => by simp at hb; omega))).alloc _
  obtain ⟨W1, hW1⟩ : ∃ W1, w1.alloc (.cells (tVal P N sA L.length sc cA m cc L tA m tc kb) 61) = W1 := ⟨_, rfl⟩
  rw [hW1] at hx hKn hIn hTw ⊢
  clear hW1 hown hkb hB2
  refine wpIn_region_heldN (S := (fun W : World => W.heap[w1.heap.size]? = some (.cells (tVal P N sA L.length sc cA m cc L tA m tc kb) 61 (0, 0)))) hmo ?_
  have HS0 : (fun W : World => W.heap[w1.heap.size]? = some (.cells (tVal P N sA L.length sc cA m cc L tA m tc kb) 61 (0, 0))) W1.drew := hx
  refine wpAnyI_take (i := 0) (v := .agg (tVal P N sA L.length sc cA m cc L tA m tc kb)) wide_fn (by kernel_rfl) rfl (by kernel_rfl) (by kernel_rfl) (by kernel_rfl) (fun _ _ _ h => h) HS0 ?hy ?_
  case hy => exact yieldsIf_load_whole (by rfl) 61 (.tmp 7) rfl w1.heap.size rfl (fun w h => h) Tryz.underlying61 rfl (by kernel_rfl)
  refine wpAnyI_take (i := 5) (v := .agg (tVal P N sA L.length sc cA m cc L tA m tc kb)) wide_fn (by kernel_rfl) rfl (by kernel_rfl) (by kernel_rfl) (by kernel_rfl) (fun _ _ _ h => h) HS0 ?hy ?_
  case hy => exact yieldsIf_load_whole (by rfl) 61 (.tmp 7) rfl w1.heap.size rfl (fun w h => h) Tryz.underlying61 rfl (by kernel_rfl)
  refine wpAnyI_take (i := 6) (v := .agg (tVal P N sA L.length sc cA m cc L tA m tc kb)) wide_fn (by kernel_rfl) rfl (by kernel_rfl) (by kernel_rfl) (by kernel_rfl) (fun _ _ _ h => h) HS0 ?hy ?_
  case hy => exact yieldsIf_load_whole (by rfl) 61 (.tmp 7) rfl w1.heap.size rfl (fun w h => h) Tryz.underlying61 rfl (by kernel_rfl)
  refine wpAnyI_take (i := 2) (v := ?_) wide_fn (by kernel_rfl) rfl (by kernel_rfl) (by kernel_rfl) (by kernel_rfl) (fun _ _ _ h => h) HS0 (.inl ⟨by rfl, ?hy⟩) ?_
  case hy => intro w _; first | (go_simp; done) | (go_simp; rfl)
  refine wpAnyI_take (i := 3) (v := ?_) wide_fn (by kernel_rfl) rfl (by kernel_rfl) (by kernel_rfl) (by kernel_rfl) (fun _ _ _ h => h) HS0 (.inl ⟨by rfl, ?hy⟩) ?_
  case hy => intro w _; first | (go_simp; done) | (go_simp; rfl)
  refine wpAnyI_one (i := 1) (by kernel_rfl) rfl (fun KK hKK => ?_)
  go_simp
  refine ⟨trivial, (callsIn_wide.2 (vfirst_any P B t m _ _ _ _ _ _ _ _ _ tA tc kb (maskOf L) W1.drew hP ht6 htm hm8 (by omega) rfl rfl rfl rfl rfl rfl rfl rfl rfl hs hc hIn hKn)).mono ?_⟩
  rintro e w2 ⟨rfl, hT2, hK2⟩
  have HS2 : (fun W : World => W.heap[w1.heap.size]? = some (.cells (tVal P N sA L.length sc cA m cc L tA m tc kb) 61 (0, 0))) w2 := hT2.heap HS0 (by omega)
  refine hKK _ _ HS2 ?_
  clear hKK KK
  refine wpAnyI_one (i := 4) (by kernel_rfl) rfl (fun KK hKK => ?_)
  go_simp
  refine ⟨trivial, (callsIn_wide.2 (vlist_any _ m w2 hm8)).mono ?_⟩
  rintro e w3 ⟨A, cc', rfl, hB3, hI3, hA3⟩
  have HS3 : (fun W : World => W.heap[w1.heap.size]? = some (.cells (tVal P N sA L.length sc cA m cc L tA m tc kb) 61 (0, 0))) w3 := (Turn.of_below' hB3 (fun _ => False)).heap HS2 (fun h => h)
  refine hKK _ _ HS3 ?_
  clear hKK KK
  refine wpAnyI_one (i := 7) (by kernel_rfl) rfl (fun KK hKK => ?_)
  go_simp
  refine ⟨trivial, (callsIn_wide.2 (vbegin_any P (maskOf L) _ _ _ _ _ _ _ _ _ tA m tc kb w3 rfl rfl rfl rfl rfl rfl rfl rfl rfl)).mono ?_⟩
  rintro e w4 ⟨rfl, hB4⟩
  have HS4 : (fun W : World => W.heap[w1.heap.size]? = some (.cells (tVal P N sA L.length sc cA m cc L tA m tc kb) 61 (0, 0))) w4 := (Turn.of_below' hB4 (fun _ => False)).heap HS3 (fun h => h)
  refine hKK _ _ HS4 ?_
  clear hKK KK
  have hT4 : Turn (fun b => b = kb) W1 w4 := ((((Turn.refl _ W1).drew).trans hT2).trans (Turn.of_below' hB3 _)).trans (Turn.of_below' hB4 _)
  have hK4 : Known P t kb w4 := (hK2.keep (Turn.of_below' hB3 (fun _ => False)) (fun h => h)).keep (Turn.of_below' hB4 (fun _ => False)) (fun h => h)
  have hI4 : Ints w4 B tA m (ofL t) := hIn.keep fun b hb => hT4.block b (by have := hKn.lt; omega) (by omega)
  refine wpAnyI_one (i := 8) (by kernel_rfl) rfl (fun KK hKK => ?_)
  go_simp
  refine ⟨trivial, (callsIn_wide.2 (vfewest_any P B t m _ _ _ _ _ _ _ _ _ _ tA tc kb hP ht6 htm hm8 (by omega) rfl rfl rfl rfl rfl rfl rfl rfl rfl rfl m 0 (maskOf L) w4 (by omega) (by omega) hs hc hI4 hK4)).mono ?_⟩
  rintro e w5 ⟨rfl, hT5, hK5⟩
  have HS5 : (fun W : World => W.heap[w1.heap.size]? = some (.cells (tVal P N sA L.length sc cA m cc L tA m tc kb) 61 (0, 0))) w5 := hT5.heap HS4 (by omega)
  refine hKK _ _ HS5 ?_
  clear hKK KK
  refine wpAnyI_take (i := 9) (v := ?_) wide_fn (by kernel_rfl) rfl (by kernel_rfl) (by kernel_rfl) (by kernel_rfl) (fun _ _ _ h => h) HS5 (.inl ⟨by rfl, ?hy⟩) ?_
  case hy => intro w _; first | (go_simp; done) | (go_simp; rfl)
  refine wpAnyI_take (i := 10) (v := ?_) wide_fn (by kernel_rfl) rfl (by kernel_rfl) (by kernel_rfl) (by kernel_rfl) (fun _ _ _ h => h) HS5 (.inl ⟨by rfl, ?hy⟩) ?_
  case hy => intro w _; first | (go_simp; done) | (go_simp; rfl)
  refine wpAnyI_take (i := 11) (v := ?_) wide_fn (by kernel_rfl) rfl (by kernel_rfl) (by kernel_rfl) (by kernel_rfl) (fun _ _ _ h => h) HS5 (.inl ⟨by rfl, ?hy⟩) ?_
  case hy => intro w _; first | (go_simp; done) | (go_simp; rfl)
  refine wpAnyI_done (by kernel_rfl) (NoPanic.normal ?_) _
  gi_wp2
  have hf0 : t.drop 0 = t := rfl
  have hs3 := hB3.size
  have hs4 := hB4.size
  have hs5 := hT5.size
  have hkn := hKn.lt
  have hw2 : W1.heap.size ≤ w2.heap.size := hT2.size
  refine ⟨rfl, _, results_tmp3 rfl _ _ _, A, cc', rfl, ?_, fun h0 => ?_⟩
  · exact ((hTw.trans (hT4.mono fun b _ hb => by omega)).trans (hT5.mono fun b _ hb => by omega)).below (fun b hb => by omega) (Nat.le_refl _)
  · obtain ⟨ad, ha, hb, hcs⟩ := hI3 h0
    have h1 := hA3 ad ha
    refine ⟨ad, ha, by omega, fun j hj => ?_⟩
    refine Eq.trans ?_ (hcs j hj)
    exact (hT5.cell (p := ad.add j) (by rw [block_add]; omega) (by rw [block_add]; omega)).trans ((Turn.of_below' hB4 (fun _ => False)).cell (p := ad.add j) (by rw [block_add]; omega) (fun h => h))

end Go.Proofs.YtoobopohohoidaaGreatDoor

namespace Go.Proofs.YtoobopohohoidaaGreatDoor
open Go.RowKit Go.Maps Go.Shelf

attribute [local go_sem] Oper.semAt_some

set_option maxRecDepth 100000 in
set_option maxHeartbeats 4000000 in
theorem vlow_any (L : List Nat) (R : Value) (w : World) (hL : Line 4 L) :
    Calls Tryz.prog 142 #[.agg #[], .agg (dC (maskOf L) L R)] w fun e w' => e = .returned (.int .i64 (tz (maskOf L))) ∧ Below w.heap.size w w' := by
  have hm := mask_lt hL.lt
  have hB : Below w.heap.size w ((w.alloc (.cells #[] 205)).alloc (.cells (dC (maskOf L) L R) 56)) := ((Below.refl w.heap.size w).alloc (Nat.le_refl _) _).alloc (by simp) _
  have HB := Go.Lib.hid hB
  clear hB
  go_enter Tryz.func142, Tryz.ntmps142
  go_wp2_with (first | (go_at_call 85; refine (vleast_any _ _ hm).mono ?_; rintro e w' ⟨rfl, rfl⟩))
  go_ret
  exact ⟨rfl, HB.out⟩

set_option maxRecDepth 100000 in
set_option maxHeartbeats 4000000 in
theorem vold_any (L : List Nat) (R : Value) (w : World) :
    Calls Tryz.prog 141 #[.agg #[], .agg (dC (maskOf L) L R)] w fun e w' => e = .returned (.int .i64 ((L.getD 0 0 : Nat) : Int)) ∧ Below w.heap.size w w' := by
  have hB : Below w.heap.size w ((w.alloc (.cells #[] 199)).alloc (.cells (dC (maskOf L) L R) 56)) := ((Below.refl w.heap.size w).alloc (Nat.le_refl _) _).alloc (by simp) _
  have HB := Go.Lib.hid hB
  clear hB
  obtain ⟨a, ha⟩ : ∃ a, L.getD 0 0 = a := ⟨_, rfl⟩
  rw [ha]
  go_enter Tryz.func141, Tryz.ntmps141
  go_wp2
  go_ret
  subst ha
  exact ⟨rfl, HB.out⟩

set_option maxRecDepth 100000 in
set_option maxHeartbeats 4000000 in
theorem vnext_any (S : Nat) (L u : List Nat) (A : Option Addr) (n cap B q : Nat) (w : World) (hu : u.length = n) (hn : n ≤ 8) (hI : Ints w B A n (ofL u)) (hB : B ≤ w.heap.size) :
    Calls Tryz.prog 119 #[.agg (dC S L (.slice A n cap)), .int .i64 q] w fun e w' => e = .returned (.int .i64 (nx u q)) ∧ Below w.heap.size w w' := by
  have hB1 : Below w.heap.size w (w.alloc (.cells (dC S L (.slice A n cap)) 56)) := (Below.refl w.heap.size w).alloc (Nat.le_refl _) _
  have HIDX := Go.Lib.hid (vindex_any A u n cap B q (w.alloc (.cells (dC S L (.slice A n cap)) 56)) hu (by omega) (hI.below hB1 hB))
  have HB := Go.Lib.hid hB1
  by_cases hq : q ∈ u
  · have e1 : idxI u q = (nx u q : Int) := by rw [idxI, if_pos hq]; rfl
    rw [e1] at HIDX
    obtain ⟨z, hz⟩ : ∃ z, nx u q = z := ⟨_, rfl⟩
    rw [hz] at HIDX ⊢
    have hd : decide ((z : Int) ≥ 0) = true := by simp
    clear hB1 hI e1 hz
    go_enter Tryz.func119, Tryz.ntmps119
    go_wp2_with (first | (go_at_call 78; refine HIDX.out.mono ?_; rintro e w' ⟨rfl, rfl⟩))
    go_ret
    exact ⟨rfl, HB.out⟩
  · have e1 : idxI u q = -1 := by rw [idxI, if_neg hq]
    rw [e1] at HIDX
    have e2 : nx u q = n := by rw [nx, List.idxOf_eq_length hq, hu]
    rw [e2]
    clear hB1 hI e1 e2
    go_enter Tryz.func119, Tryz.ntmps119
    go_wp2_with (first | (go_at_call 78; refine HIDX.out.mono ?_; rintro e w' ⟨rfl, rfl⟩))
    go_ret
    exact ⟨rfl, HB.out⟩

theorem lateGo_snoc (u : List Nat) : ∀ (l : List Nat) (q : Nat) (r : Int × Int), lateGo u (l ++ [q]) r = if (lateGo u l r).2 < (nx u q : Int) then ((q : Int), (nx u q : Int)) else lateGo u l r
  | [], q, r => rfl
  | x :: l, q, r => lateGo_snoc u l q _

/-- What late's loop holds. -/
structure LateJ (D : Array Value) (r : Int × Int) (z B : Nat) (w W : World) : Prop where
  desk : W.heap[z + 1]? = some (.cells D 56 (0, 0))
  sent : W.heap[z + 2]? = some (.cells #[.int .i64 r.1] 3 (0, 0))
  last : W.heap[z + 3]? = some (.cells #[.int .i64 r.2] 3 (0, 0))
  below : Below z w W
theorem LateJ.keep {D : Array Value} {r : Int × Int} {z B : Nat} {w W W' : World} {T : Nat → Prop} (h : LateJ D r z B w W) (hT : Turn T W W') (hn : ∀ b, T b → z + 4 ≤ b) (hz : z ≤ W.heap.size) : LateJ D r z B w W' :=
  ⟨hT.heap h.desk (fun h => by have := hn _ h; omega), hT.heap h.sent (fun h => by have := hn _ h; omega), hT.heap h.last (fun h => by have := hn _ h; omega), h.below.trans (hT.below (fun b hb h => by have := hn _ h; omega) hz)⟩

set_option maxRecDepth 100000 in
set_option maxHeartbeats 4000000 in
theorem vlate_any (L u : List Nat) (A : Option Addr) (n cap B : Nat) (w : World) (hL : Line 4 L) (hu : u.length = n) (hn : n ≤ 8) (hI : Ints w B A n (ofL u)) (hB : B ≤ w.heap.size) :
    Calls Tryz.prog 143 #[.agg #[], .agg (dC (maskOf L) L (.slice A n cap))] w fun e w' => e = .returned (.int .i64 (lateGo u (els (maskOf L)) (-1, -1)).1) ∧ Below w.heap.size w w' := by
  have hm := mask_lt hL.lt
  refine (callsIn_wide (n := 20)).1 ?_
  refine callsIn_of_wp_marks Tryz.func143 rfl trivial ?_ rfl
  simp only [Tryz.ntmps143, List.size_toArray, List.length_cons, List.length_nil, Nat.reduceAdd, Nat.reduceSub, Array.replicate_succ, Array.replicate_zero, List.push_toArray, List.append_toArray, List.nil_append, List.cons_append]
  have HI := Go.Lib.hid hI
  clear hI
  gi_wp2_with (first | (refine ⟨trivial, (callsIn_wide.2 (vall_any _ _)).mono ?_⟩; rintro e w' ⟨rfl, rfl⟩))
  obtain ⟨W0, hW0⟩ : ∃ W0, (((((w.alloc (.cells #[] 206)).alloc (.cells (dC (maskOf L) L (.slice A n cap)) 56)).alloc (.cells #[.int .i64 (-1)] 3)).alloc (.cells #[.int .i64 (-1)] 3)).alloc (.cells #[.int .u8 (maskOf L)] 51)) = W0 := ⟨_, rfl⟩
  obtain ⟨x0, x1, x2, x3, x4, xT, xz⟩ := heaps5 w _ _ _ _ _ _ _ _ _ _ hW0.symm
  change Code.wpIn _ _ _ _ _ _ (((((w.alloc (.cells #[] 206)).alloc (.cells (dC (maskOf L) L (.slice A n cap)) 56)).alloc (.cells #[.int .i64 (-1)] 3)).alloc (.cells #[.int .i64 (-1)] 3)).alloc (.cells #[.int .u8 (maskOf L)] 51))
  rw [hW0]
  clear hW0
  have hit : ∀ W, Turn (fun _ => False) W0 W → W.heap.size = W0.heap.size + 2 → Iter Tryz.prog 84 #[.pointer (some ⟨w.heap.size + 1 + 1 + 1 + 1, 0, none⟩)] (els (maskOf L)).length (elV (maskOf L)) (fun _ => False) (fun b => b = w.heap.size + 1 + 1 + 1 + 1) W := fun W hT hz =>
    vall_iter (w.heap.size + 1 + 1 + 1 + 1) (maskOf L) hm W (by omega) (cellH (hT.heap x4 (fun h => h)) 0)
  have hI0 : ∀ W, Below w.heap.size w W → Ints W B A n (ofL u) := fun W h => HI.out.below h hB
  have HII := Go.Lib.hid hI0
  clear hI0
  refine range_iter (P := Tryz.prog) (f := 84) (lb := #[.pointer (some ⟨w.heap.size + 1 + 1 + 1 + 1, 0, none⟩)]) (m := (els (maskOf L)).length) (val := elV (maskOf L)) (T := fun _ => False) (K := fun b => b = w.heap.size + 1 + 1 + 1 + 1)
    (fun l W => by simp only [resolve]; simp [go_sem]) (fun l W => by simp [invoke, go_sem, enters_of Tryz.func84 (by kernel_rfl) rfl])
    (fun _ _ => rfl) (fun _ h => h.elim) (fun b h => by omega) hit
    (fun i W => LateJ (dC (maskOf L) L (.slice A n cap)) (lateGo u ((els (maskOf L)).take i) (-1, -1)) w.heap.size B w W) (fun _ _ => False)
    (fun l1 i a1 W => LateJ (dC (maskOf L) L (.slice A n cap)) (lateGo u ((els (maskOf L)).take i) (-1, -1)) w.heap.size B w W ∧ w.heap.size + 5 ≤ l1 ∧ a1 = { tmps := #[.agg #[], .agg (dC (maskOf L) L (.slice A n cap)), .pointer (some ⟨w.heap.size, 0, none⟩), .pointer (some ⟨w.heap.size + 1, 0, none⟩), .int .i64 0, .pointer (some ⟨w.heap.size + 1 + 1, 0, none⟩), .pointer (some ⟨w.heap.size + 1 + 1 + 1, 0, none⟩), .int .i64 (((els (maskOf L)).getD i 0 : Nat) : Int), undef, .pointer (some ⟨w.heap.size + 1, 0, none⟩), .int .u8 (maskOf L), .func (.func 84) #[] #[.pointer (some ⟨w.heap.size + 1 + 1 + 1 + 1, 0, none⟩)], .int .i64 (((els (maskOf L)).getD i 0 : Nat) : Int), undef, undef, undef, undef, undef, undef, undef, undef, undef], defers := [] })
    (fun i W W' h ht => h.keep ht (fun b hb => by rcases hb with hb | hb <;> first | omega | exact hb.elim) h.below.size) (fun _ _ _ h _ => h)
    (fun l1 i a1 W W' h ht => ⟨h.1.keep ht (fun b hb => by have := h.2.1; omega) h.1.below.size, h.2⟩)
    ⟨x1, x2, x3, (xT (fun _ => False)).below (fun _ _ h => h) (Nat.le_refl _)⟩ ?asg ?bdy ?dne ?stp
  case asg =>
    intro l1 i W C hi hJW hl1 hlW hC
    obtain ⟨q, hq⟩ : ∃ q, (els (maskOf L)).getD i 0 = q := ⟨_, rfl⟩
    simp only [elV, hq] at hC ⊢
    gi_wp2
    exact hC _ _ ⟨hJW, by omega, rfl⟩ (Turn.refl _ _)
  case bdy =>
    rintro l1 i a1 W hi hl1 hlW ⟨hJW, hl5, rfl⟩
    obtain ⟨q, hq⟩ : ∃ q, (els (maskOf L)).getD i 0 = q := ⟨_, rfl⟩
    obtain ⟨⟨r1, r2⟩, hr⟩ : ∃ r, lateGo u ((els (maskOf L)).take i) (-1, -1) = r := ⟨_, rfl⟩
    have hnx : lateGo u ((els (maskOf L)).take (i + 1)) (-1, -1) = if r2 < (nx u q : Int) then ((q : Int), (nx u q : Int)) else (r1, r2) := by
      have e : (els (maskOf L))[i] = q := by rw [← hq]; simp [hi]
      rw [List.take_succ_eq_append_getElem hi, e, lateGo_snoc, hr]
    rw [hnx]
    rw [hr] at hJW
    simp only [hq]
    clear hr hnx hq
    obtain ⟨z, hz⟩ : ∃ z, nx u q = z := ⟨_, rfl⟩
    have hN := vnext_any (maskOf L) L u A n cap B q W hu hn (HII.out W hJW.below) (Nat.le_trans hB hJW.below.size)
    rw [hz] at hN ⊢
    have HNX := Go.Lib.hid hN
    have HJW := Go.Lib.hid hJW
    clear hJW hit hz hN
    by_cases hlt : r2 < (z : Int)
    · rw [if_pos hlt]
      have hd : decide ((z : Int) > r2) = true := by simp; omega
      gi_wp2_with (first
        | (with_reducible refine wpListIn_load_whole rfl 56 (.tmp 3) rfl (w.heap.size + 1) rfl HJW.out.desk Tryz.underlying56 rfl (by kernel_rfl) ?_)
        | (refine ⟨trivial, (CallsIn.inRound l1 (callsIn_wide.2 HNX.out)).mono ?_⟩; rintro e w2 ⟨rfl, hB1⟩
           have hT2 : Turn (fun _ => False) W w2 := Turn.of_below' hB1 _
           have hJ2 := HJW.out.keep hT2 (fun _ h => h.elim) HJW.out.below.size
           have cs : w2.cell? ⟨w.heap.size + 1 + 1, 0, none⟩ = some (.int .i64 r1) := cellH hJ2.sent 0
           have fs : w2.frozen? ⟨w.heap.size + 1 + 1, 0, none⟩ = false := freeH hJ2.sent 0
           have cl : w2.cell? ⟨w.heap.size + 1 + 1 + 1, 0, none⟩ = some (.int .i64 r2) := cellH hJ2.last 0
           have fl : w2.frozen? ⟨w.heap.size + 1 + 1 + 1, 0, none⟩ = false := freeH hJ2.last 0
           have HJ2 := Go.Lib.hid hJ2
           clear hJ2))
      have h2 := HJ2.out
      have hA : Turn (fun b => b = w.heap.size + 2) w2 (w2.setCell ⟨w.heap.size + 1 + 1, 0, none⟩ (.int .i64 q)) := Turn.of_but ((But.refl (w.heap.size + 2) w2).set 0 _)
      have hA2 : Turn (fun b => b = w.heap.size + 3) (w2.setCell ⟨w.heap.size + 1 + 1, 0, none⟩ (.int .i64 q)) ((w2.setCell ⟨w.heap.size + 1 + 1, 0, none⟩ (.int .i64 q)).setCell ⟨w.heap.size + 1 + 1 + 1, 0, none⟩ (.int .i64 z)) := Turn.of_but ((But.refl (w.heap.size + 3) _).set 0 _)
      have hd1 := hA2.heap (hA.heap h2.desk (by omega)) (by omega)
      have hd2 := hA2.heap (setH h2.sent 0 (.int .i64 q)) (by omega)
      have hd3 := setH (hA.heap h2.last (by omega)) 0 (.int .i64 z)
      have hAA : Turn (fun b => b = w.heap.size + 2 ∨ b = w.heap.size + 3) w2 ((w2.setCell ⟨w.heap.size + 1 + 1, 0, none⟩ (.int .i64 q)).setCell ⟨w.heap.size + 1 + 1 + 1, 0, none⟩ (.int .i64 z)) := (hA.mono fun b _ hb => .inl hb).trans (hA2.mono fun b _ hb => .inr hb)
      refine ⟨⟨hd1, hd2, hd3, h2.below.trans (hAA.below (fun b hb h => by omega) h2.below.size)⟩, (hT2.mono fun _ _ h => h.elim).trans (hAA.mono fun b _ hb => ⟨by omega, by omega⟩)⟩
    · rw [if_neg hlt]
      have hd : decide ((z : Int) > r2) = false := by simp; omega
      gi_wp2_with (first
        | (with_reducible refine wpListIn_load_whole rfl 56 (.tmp 3) rfl (w.heap.size + 1) rfl HJW.out.desk Tryz.underlying56 rfl (by kernel_rfl) ?_)
        | (refine ⟨trivial, (CallsIn.inRound l1 (callsIn_wide.2 HNX.out)).mono ?_⟩; rintro e w2 ⟨rfl, hB1⟩
           have hT2 : Turn (fun _ => False) W w2 := Turn.of_below' hB1 _
           have hJ2 := HJW.out.keep hT2 (fun _ h => h.elim) HJW.out.below.size
           have cs : w2.cell? ⟨w.heap.size + 1 + 1, 0, none⟩ = some (.int .i64 r1) := cellH hJ2.sent 0
           have fs : w2.frozen? ⟨w.heap.size + 1 + 1, 0, none⟩ = false := freeH hJ2.sent 0
           have cl : w2.cell? ⟨w.heap.size + 1 + 1 + 1, 0, none⟩ = some (.int .i64 r2) := cellH hJ2.last 0
           have fl : w2.frozen? ⟨w.heap.size + 1 + 1 + 1, 0, none⟩ = false := freeH hJ2.last 0
           have HJ2 := Go.Lib.hid hJ2
           clear hJ2))
      exact ⟨HJ2.out, hT2.mono fun _ _ h => h.elim⟩
  case dne =>
    rintro D W hD hJm hKD
    rw [List.take_length] at hJm
    obtain ⟨⟨r1, r2⟩, hr⟩ : ∃ r, lateGo u (els (maskOf L)) (-1, -1) = r := ⟨_, rfl⟩
    rw [hr] at hJm
    have cs : W.cell? ⟨w.heap.size + 1 + 1, 0, none⟩ = some (.int .i64 r1) := cellH hJm.sent 0
    have HJM := Go.Lib.hid hJm
    have HKD := Go.Lib.hid hKD
    have HR := Go.Lib.hid hr
    clear hJm hKD hit hr
    gi_wp2
    have hput : Turn (fun b => w.heap.size ≤ b) W (W.putObj D (.deferred none)) := (Turn.refl (fun b => w.heap.size ≤ b) _).putObj (show w.heap.size ≤ D by omega) _
    refine ⟨by simp, .inl ⟨_, _, rfl, run_takeDeferred HKD.out, ?_⟩⟩
    rw [HR.out]
    exact ⟨_, results_tmp rfl _ _ _, rfl, HJM.out.below.trans (hput.below (fun b hb h => by omega) HJM.out.below.size)⟩
  case stp => exact fun _ _ _ _ h => h.elim

end Go.Proofs.YtoobopohohoidaaGreatDoor
