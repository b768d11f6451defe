/- BARROW: Count: the first plan is in time. -/
import Derived.Test.YtoobopohohoidaaGreatDoorBN
import Derived.Test.YtoobopohohoidaaGreatDoorBF
import Derived.Test.YtoobopohohoidaaGreatDoorBE1
set_option linter.unusedSimpArgs false
set_option linter.unusedVariables false
namespace Go.Proofs.YtoobopohohoidaaGreatDoor
open Go.RowKit Go.Maps Go.Shelf

attribute [local go_sem] Oper.semAt_some

/-- How many plans there are. -/
theorem plans_le (load : Nat) : ∀ left, (plansL load left).length ≤ 2 ^ left := by
  intro left
  induction left using Nat.strongRecOn with
  | ind left ih =>
    cases left with
    | zero => rw [plans_zero]; exact Nat.le_refl _
    | succ left =>
      rw [plans_succ]
      have key : ∀ k, k ≤ left + 1 → offF (fun i => (plansL load (left - i)).map ((i + 1) :: ·)) k + 2 ^ (left + 1 - k) ≤ 2 ^ (left + 1) := by
        intro k
        induction k with
        | zero => intro _; rw [offF_zero]; simp
        | succ k ihk =>
          intro hk
          have h1 := ihk (by omega)
          have h2 := ih (left - k) (by omega)
          rw [offF_succ, List.length_map]
          have e1 : left + 1 - k = (left - k) + 1 := by omega
          have e2 : left + 1 - (k + 1) = left - k := by omega
          rw [e1, Nat.pow_succ] at h1
          rw [e2]
          omega
      have h := key (min load (left + 1)) (by omega)
      exact Nat.le_trans (Nat.le_add_right _ _) h

/-- When jobs are due. -/
def dueL (d : HaulD) : List Int := (jobsD d).map fun c => ((d.τ.getD c 0 : Nat) : Int)
theorem due_get (d : HaulD) {j : Nat} (hj : j < (jobsD d).length) : (dueL d).getD j 0 = ((d.τ.getD ((jobsD d).getD j 0) 0 : Nat) : Int) := by
  unfold dueL
  rw [List.getD_eq_getElem?_getD, List.getElem?_map, List.getD_eq_getElem?_getD (l := jobsD d), List.getElem?_eq_getElem hj]
  rfl
theorem tau_le {τ : List Nat} (h : TimesOk τ) (c : Nat) : τ.getD c 0 ≤ 99 := by
  by_cases hc : c < τ.length
  · rw [List.getD_eq_getElem?_getD, List.getElem?_eq_getElem hc]
    exact h.le _ (List.getElem_mem hc)
  · rw [List.getD_eq_getElem?_getD, List.getElem?_eq_none (by omega)]; simp

/-- What Count answers. -/
def CountPost (w : World) (e : Ending) (w' : World) : Prop := ∃ v : Nat, e = .returned (.tuple #[.int .i64 v, .int .i64 0]) ∧ 1 ≤ v ∧ Below w.heap.size w w'

set_option maxRecDepth 100000 in
set_option maxHeartbeats 16000000 in
theorem bCount_any (d : HaulD) (mn B : Nat) (w : World) (hd : HaulOk d) (hbr : d.br = 4) (hm : 1 ≤ mn ∧ mn ≤ 20) (hmn : mn ≤ d.nt) (h4 : (jobsD d).length ≤ 4) (hB : B ≤ w.heap.size) (h : HaulAt d B w) :
    Calls Tryz.prog 8 #[.agg (hC d), .int .i64 mn] w (CountPost w) := by
  have h0 := heap_alloc_new w (.cells (hC d) 29)
  have hBl := (Below.refl w.heap.size w).alloc (Nat.le_refl _) (.cells (hC d) 29)
  obtain ⟨w0, hw0⟩ : ∃ w0, w.alloc (.cells (hC d) 29) = w0 := ⟨_, rfl⟩
  have hz0 : w0.heap.size = w.heap.size + 1 := by rw [← hw0]; simp
  rw [hw0] at h0 hBl
  have HOP := Go.Lib.hid (bopenTrips_any d mn B w0 hd hm (by omega) (h.below hBl hB))
  have HH0 := Go.Lib.hid h0
  have HB0 := Go.Lib.hid hBl
  obtain ⟨J, hJ⟩ : ∃ J, jobsD d = J := ⟨_, rfl⟩
  obtain ⟨n, hn⟩ : ∃ n, J.length = n := ⟨_, rfl⟩
  obtain ⟨D, hD⟩ : ∃ D, dueL d = D := ⟨_, rfl⟩
  have hdl : D.length = n := by rw [← hD, dueL, List.length_map, hJ, hn]
  have hdg : ∀ j, j < n → D.getD j 0 = ((d.τ.getD (J.getD j 0) 0 : Nat) : Int) := fun j hj => by
    rw [← hD, due_get d (by rw [hJ, hn]; exact hj), hJ]
  have hdb : ∀ j, j < n → 0 ≤ D.getD j 0 ∧ D.getD j 0 ≤ 99 := fun j hj => by
    rw [hdg j hj]
    have := tau_le hd.times (J.getD j 0)
    omega
  have HJ := Go.Lib.hid (And.intro hJ hn)
  have HD := Go.Lib.hid (And.intro hdl (And.intro hdg hdb))
  have HOK := Go.Lib.hid (And.intro hd.ld (And.intro hm (And.intro hmn hd.nt)))
  rw [hJ, hn] at h4
  obtain ⟨q, hq⟩ : ∃ q, CountPost w = q := ⟨_, rfl⟩
  rw [hq]
  have HQ := Go.Lib.hid hq
  have HBR := Go.Lib.hid hbr
  clear hq hd h h0 hBl hJ hn hdl hdg hdb hD hm hmn hbr
  refine (callsIn_wide (n := 12)).1 ?_
  refine callsIn_of_wp_marks Tryz.func8 rfl trivial ?_ rfl
  simp only [Tryz.ntmps8, List.size_toArray, List.length_cons, List.length_nil, Nat.reduceAdd, Nat.reduceSub, Array.replicate_succ, Array.replicate_zero, List.push_toArray, List.append_toArray, List.nil_append, List.cons_append]
  gi_wp2_with (first
    | (with_reducible refine wpListIn_load_whole rfl 29 (.tmp 2) rfl w.heap.size rfl HH0.out Tryz.underlying29 rfl (by kernel_rfl) ?_)
    | (refine ⟨trivial, (callsIn_wide.2 HOP.out).mono ?_⟩; rintro e w1 ⟨jA, jc, rfl, hown, hB1⟩
       rw [HJ.out.1, HJ.out.2] at hown ⊢
       have hzo := hB1.size
       have HK1 := Go.Lib.hid (heap_alloc_new w1 (.cells (hW d mn jA n jc) 74))
       have HB1 := Go.Lib.hid hB1
       have HO := Go.Lib.hid hown
       clear hB1 hown)
    | (refine ⟨trivial, (callsIn_wide.2 (binTime_any (hW d mn jA n jc) _ (by kernel_rfl))).mono ?_⟩; rintro e w3 ⟨rfl, rfl⟩))
  have y0 := heap_old (.cells (hW d mn jA n jc) 74) (heap_alloc_new (w1.alloc (.cells (hW d mn jA n jc) 74)) (.cells #[.int .i64 0] 3))
  have y1 := heap_alloc_new ((w1.alloc (.cells (hW d mn jA n jc) 74)).alloc (.cells #[.int .i64 0] 3)) (.cells (hW d mn jA n jc) 74)
  simp only [World.size_alloc] at y0 y1
  have hT3 : ∀ T, Turn T w1 (((w1.alloc (.cells (hW d mn jA n jc) 74)).alloc (.cells #[.int .i64 0] 3)).alloc (.cells (hW d mn jA n jc) 74)) := fun T => (((Turn.refl T w1).alloc _).alloc _).alloc _
  have hz3 : (((w1.alloc (.cells (hW d mn jA n jc) 74)).alloc (.cells #[.int .i64 0] 3)).alloc (.cells (hW d mn jA n jc) 74)).heap.size = w1.heap.size + 3 := by simp
  change Code.wpIn _ _ _ _ _ _ (((w1.alloc (.cells (hW d mn jA n jc) 74)).alloc (.cells #[.int .i64 0] 3)).alloc (.cells (hW d mn jA n jc) 74))
  obtain ⟨W0, hW0⟩ : ∃ W0, ((w1.alloc (.cells (hW d mn jA n jc) 74)).alloc (.cells #[.int .i64 0] 3)).alloc (.cells (hW d mn jA n jc) 74) = W0 := ⟨_, rfl⟩
  rw [hW0] at y0 y1 hT3 hz3 ⊢
  clear hW0
  obtain ⟨z, hz⟩ : ∃ z, w1.heap.size = z := ⟨_, rfl⟩
  simp only [World.size_alloc, hz] at y0 y1 hz3 ⊢
  obtain ⟨PL, hPL⟩ : ∃ PL, plansL d.ld n = PL := ⟨_, rfl⟩
  obtain ⟨c, hc⟩ : ∃ c, cntT mn d.nt D PL PL.length = c := ⟨_, rfl⟩
  have hc1 : 1 ≤ c ∧ c ≤ 100 := by
    have h1 := plans_first d.ld HOK.out.1.1 n
    have h2 := ones_early mn d.nt D ⟨by have := HOK.out.2.1.1; omega, by have := HOK.out.2.2.1; omega⟩ (by have := HOK.out.2.2.2; omega) (fun j hj => (HD.out.2.2 j (by rw [← HD.out.1]; exact hj)).1) (by rw [HD.out.1]; exact h4)
    rw [HD.out.1] at h2
    rw [hPL] at h1
    have h3 := cntT_le mn d.nt D (PL := PL) (i := 0) (List.getElem?_eq_some_iff.1 h1).1 (by rw [List.getD_eq_getElem?_getD, h1]; exact h2)
    have h5 : c ≤ PL.length := by
      rw [← hc]; unfold cntT
      exact Nat.le_trans (List.length_filter_le _ _) (by rw [List.take_length]; exact Nat.le_refl _)
    have h6 := plans_le d.ld n
    rw [hPL] at h6
    have h7 : 2 ^ n ≤ 2 ^ 4 := Nat.pow_le_pow_right (by omega) h4
    rw [hc] at h3
    exact ⟨by omega, by omega⟩
  have hS : Slc w1 w0.heap.size 3 jA n jc (jobsV d.nt d.τ J) := by
    obtain ⟨A', c', e', h'⟩ := own_slice HO.out
    simp only [Value.slice.injEq] at e'
    obtain ⟨rfl, _, rfl⟩ := e'
    exact h'
  have HIT := Go.Lib.hid (show ∀ W, Turn (fun _ => False) W0 W → W.heap.size = W0.heap.size + 2 → IterA Tryz.prog 40 #[.pointer (some ⟨z + 2, 0, none⟩)] c (fun _ v _ => ∃ x, v = #[x]) (fun b => z + 5 ≤ b) (fun b => b < z + 5 ∧ ¬ (b < z + 3 ∧ b ≠ z + 1)) (fun _ => True) W from fun W hT hs => by
    have hg : ∃ g, 0 < n → jA = some ⟨g, 0, none⟩ ∧ n ≤ jc ∧ g < W.heap.size ∧ (g < z + 3 ∧ g ≠ z + 1) ∧ ∀ j, j < n → W.cell? ⟨g, j * 3 + 1, none⟩ = some (.int .i64 (D.getD j 0)) ∧ W.cell? ⟨g, j * 3 + 2, none⟩ = some (.int .i64 (D.getD j 0 - d.nt)) := by
      by_cases h0 : 0 < n
      · obtain ⟨g, e1, e2, e3, e4, e5⟩ := hS h0
        refine ⟨g, fun _ => ⟨e1, e4, by omega, by omega, fun j hj => ?_⟩⟩
        have ec : ∀ k, k < 3 → W.cell? ⟨g, j * 3 + k, none⟩ = (jobV d.nt d.τ (J.getD j 0))[k]? := fun k hk => by
          rw [(((hT3 (fun _ => False)).trans hT).cell (p := ⟨g, j * 3 + k, none⟩) e3 (fun h => h)), e5 _ (by omega), jobs_get _ _ _ (by rw [HJ.out.2]; exact hj) hk]
        rw [ec 1 (by omega), ec 2 (by omega), HD.out.2.1 j hj]
        exact ⟨rfl, rfl⟩
      · exact ⟨0, fun h => absurd h h0⟩
    obtain ⟨g, hg⟩ := hg
    have h := binTime_iter (z + 2) g n jc mn d.nt d.ld D (hW d mn jA n jc) (fun b => b < z + 3 ∧ b ≠ z + 1) W (by kernel_rfl) rfl (by simp [HBR.out]) rfl jA rfl HOK.out.1 HOK.out.2.1 HOK.out.2.2.2 (by omega) HD.out.2.2 hg (by omega) (hT.heap y1 (fun h => h))
    rw [hPL, hc, hs, hz3] at h
    exact h)
  have HTW := Go.Lib.hid hT3
  clear hT3 y1 hPL hS hc
  refine range_iterA (P := Tryz.prog) (f := 40) (lb := #[.pointer (some ⟨z + 2, 0, none⟩)]) (m := c) (ok := fun _ v _ => ∃ x, v = #[x]) (A := fun b => z + 5 ≤ b) (U := fun b => b < z + 5 ∧ ¬ (b < z + 3 ∧ b ≠ z + 1)) (Z := fun _ => True)
    (fun l W => by simp only [resolve]; simp [go_sem]) (fun l W => by simp [invoke, go_sem, enters_of Tryz.func40 (by kernel_rfl) rfl])
    (fun i v W _ h => by obtain ⟨x, rfl⟩ := h; rfl) (by rw [hz3]; omega) (by rw [hz3]; omega) (by rw [hz3]; omega) HIT.out
    (fun i W => W.heap[z + 1]? = some (.cells #[.int .i64 i] 3 (0, 0)) ∧ Turn (fun b => z ≤ b) w1 W) (fun c W => False)
    (fun i a1 W => (W.heap[z + 1]? = some (.cells #[.int .i64 i] 3 (0, 0)) ∧ Turn (fun b => z ≤ b) w1 W) ∧ ∃ x : Value, a1 = { tmps := #[.agg (hC d), .int .i64 mn, .pointer (some ⟨w.heap.size, 0, none⟩), undef, .int .i64 0, .int .i64 0, .pointer (some ⟨z, 0, none⟩), .int .i64 0, .pointer (some ⟨z + 1, 0, none⟩), .tuple #[.agg (hW d mn jA n jc), .int .i64 0], .agg (hC d), .int .i64 mn, .tuple #[.agg (hW d mn jA n jc), .int .i64 0], .agg (hW d mn jA n jc), .int .i64 0, .int .i64 0, .bool false, undef, .agg (hW d mn jA n jc), .func (.func 40) #[] #[.pointer (some ⟨z + 1 + 1, 0, none⟩)], x, undef, undef, undef], defers := [] })
    (fun i W W' h ht => ⟨ht.heap h.1 (fun hb => by rcases hb with hb | hb | hb <;> omega), h.2.trans (ht.mono fun b _ hb => by rcases hb with hb | hb | hb <;> omega)⟩)
    (fun c W W' h ht => h)
    (fun i a1 W W' h ht => ⟨⟨ht.heap h.1.1 (by omega), h.1.2.trans (ht.mono fun b _ hb => by omega)⟩, h.2⟩)
    (fun _ _ _ _ => trivial)
    ⟨y0, HTW.out _⟩ ?asg ?bdy ?dne ?stp
  case asg =>
    rintro i v W C hi ⟨x, rfl⟩ hJW _ hC
    gi_wp2
    refine hC _ _ ⟨hJW, x, ?_⟩ (Turn.refl _ _)
    simp
  case bdy =>
    rintro i a1 W hi _ _ ⟨⟨hb1, hT1⟩, x, rfl⟩
    have cb : W.cell? ⟨z + 1, 0, none⟩ = some (.int .i64 i) := cellH hb1 0
    have fb : W.frozen? ⟨z + 1, 0, none⟩ = false := freeH hb1 0
    have HG := Go.Lib.hid (And.intro hb1 hT1)
    clear hb1 hT1
    gi_wp2
    have hS : Turn (fun b => b = z + 1) W (W.setCell ⟨z + 1, 0, none⟩ (.int .i64 ((i : Int) + 1))) := Turn.of_but ((But.refl (z + 1) W).set 0 _)
    have e1 : ((i + 1 : Nat) : Int) = (i : Int) + 1 := by omega
    trace_state
    exact ⟨⟨by rw [e1]; exact setH HG.out.1 0 _, HG.out.2.trans (hS.mono fun b _ h => by omega)⟩, hS.mono fun b _ h => ⟨⟨by omega, by omega⟩, by omega, by omega⟩⟩
  case dne =>
    rintro W ⟨hb1, hT1⟩ _ hdd
    have cb : W.cell? ⟨z + 1, 0, none⟩ = some (.int .i64 c) := cellH hb1 0
    gi_wp2
    simp only [bodyPostM]
    refine ⟨by simp, .inl ⟨_, _, rfl, run_takeDeferred hdd, ?_⟩⟩
    rw [← HQ.out]
    have hP : Turn (fun b => b = W0.heap.size) W (W.putObj W0.heap.size (.deferred none)) := (Turn.refl (fun b => b = W0.heap.size) _).putObj (show W0.heap.size = W0.heap.size from rfl) _
    refine ⟨_, results_tmp2 rfl _ _ _, c, rfl, hc1.1, ?_⟩
    exact HB0.out.trans ((HB1.out.mono (by omega)).trans ((hT1.trans (hP.mono fun b _ h => by omega)).below (fun b hb h => by omega) (by omega)))
  case stp =>
    rintro c W h
    exact h.elim

end Go.Proofs.YtoobopohohoidaaGreatDoor
