/- BARROW: Jobs. -/
import Derived.Test.YtoobopohohoidaaGreatDoorBE
set_option linter.unusedSimpArgs false
set_option linter.unusedVariables false
namespace Go.Proofs.YtoobopohohoidaaGreatDoor
open Go.RowKit Go.Maps Go.Shelf

theorem jobs_get (nt : Nat) (τ J : List Nat) {i k : Nat} (hi : i < J.length) (hk : k < 3) : (jobsV nt τ J)[i * 3 + k]? = (jobV nt τ (J.getD i 0))[k]? := by
  induction J generalizing i with
  | nil => simp at hi
  | cons c J ih =>
    have hl : (jobV nt τ c).length = 3 := rfl
    rw [jobsV, List.flatMap_cons, ← jobsV]
    cases i with
    | zero => rw [List.getElem?_append_left (by rw [hl]; omega)]; simp
    | succ i =>
      rw [List.getElem?_append_right (by rw [hl]; omega), hl]
      have e : (i + 1) * 3 + k - 3 = i * 3 + k := by omega
      rw [e, ih (by simpa using hi)]
      rfl

/-- What Jobs gives. -/
def JobsOk (d : HaulD) (w : World) (e : Ending) (w' : World) : Prop :=
  ∃ (A : Option Addr) (c : Nat), e = .returned (.tuple #[.slice A (jobsD d).length c, .int .i64 0]) ∧ Ints w' w'.heap.size A (jobsD d).length (ofL (jobsD d)) ∧ Below w.heap.size w w'

theorem info_int1 : (Tryz.prog.info? 3).map (fun i => (i.zero, i.size, i.bytes)) = some (some (.int .i64 0), 1, 8) := by kernel_rfl

set_option maxRecDepth 100000 in
set_option maxHeartbeats 8000000 in
theorem bJobs_any (d : HaulD) (B : Nat) (w : World) (hd : HaulOk d) (hB : B ≤ w.heap.size) (h : HaulAt d B w) :
    Calls Tryz.prog 7 #[.agg (hC d)] w (JobsOk d w) := by
  obtain ⟨i0, hi, hz0, hz1, hz2⟩ := info_parts info_int1
  have h0 := heap_alloc_new w (.cells (hC d) 29)
  have hBl := (Below.refl w.heap.size w).alloc (Nat.le_refl _) (.cells (hC d) 29)
  obtain ⟨w0, hw0⟩ : ∃ w0, w.alloc (.cells (hC d) 29) = w0 := ⟨_, rfl⟩
  have hzw0 : w0.heap.size = w.heap.size + 1 := by rw [← hw0]; simp
  rw [hw0] at h0 hBl
  obtain ⟨q, hq⟩ : ∃ q, JobsOk d w = q := ⟨_, rfl⟩
  rw [hq]
  have HQ := Go.Lib.hid hq
  have HOP := Go.Lib.hid (bopen_any d B w0 hd (by omega) (h.below hBl hB))
  have HH0 := Go.Lib.hid h0
  have HB0 := Go.Lib.hid hBl
  have hJ8 : (jobsD d).length ≤ 8 := by
    have h1 := jobs_le d.P (ruleS d.r) (ruleN d.r) d.t d.L 0
    have h2 := hd.truth.len
    have h3 := hd.vault.calls
    unfold jobsD; omega
  obtain ⟨J, hJ⟩ : ∃ J, jobsD d = J := ⟨_, rfl⟩
  obtain ⟨n, hn⟩ : ∃ n, J.length = n := ⟨_, rfl⟩
  have HJ := Go.Lib.hid (And.intro hJ hn)
  rw [hJ, hn] at hJ8
  clear hq hd h h0 hBl hJ hn
  go_enter Tryz.func7, Tryz.ntmps7
  go_wp2_with (first
    | (with_reducible refine wpList_load_whole rfl 29 (.tmp 1) rfl w.heap.size rfl HH0.out Tryz.underlying29 rfl (by kernel_rfl) ?_)
    | (go_at_call 20; refine HOP.out.mono ?_; rintro e w1 ⟨jA, jc, rfl, hown, hB1⟩
       rw [HJ.out.1, HJ.out.2] at hown ⊢
       have hzo := hB1.size
       have HK1 := Go.Lib.hid (heap_alloc_new w1 (.cells (hW d 0 jA n jc) 74))
       have HB1 := Go.Lib.hid ((HB0.out.trans (hB1.mono (by omega))).alloc (by omega) (.cells (hW d 0 jA n jc) 74))
       have HO := Go.Lib.hid hown
       clear hB1 hown))
  change Code.wp _ _ _ _ (w1.alloc (.cells (hW d 0 jA n jc) 74))
  obtain ⟨W0, hW0⟩ : ∃ W0, w1.alloc (.cells (hW d 0 jA n jc) 74) = W0 := ⟨_, rfl⟩
  have hS : Slc w1 w0.heap.size 3 jA n jc (jobsV d.nt d.τ J) := by
    obtain ⟨A', c', e', h'⟩ := own_slice HO.out
    simp only [Value.slice.injEq] at e'
    obtain ⟨rfl, _, rfl⟩ := e'
    exact h'
  have HS := Go.Lib.hid hS
  have hzW : W0.heap.size = w1.heap.size + 1 := by rw [← hW0]; simp
  have HZW := Go.Lib.hid (And.intro hzW (show Below w1.heap.size w1 W0 by rw [← hW0]; exact (Below.refl _ _).alloc (Nat.le_refl _) _))
  have HBW := Go.Lib.hid (show Below w.heap.size w W0 by rw [← hW0]; exact HB1.out)
  rw [hW0]
  clear hW0 hS hzW
  go_loopw [6, 20] (fun ov iv wr => ∃ i : Nat, i ≤ n ∧ iv = .int .i64 i ∧ Hid (wr.ownsRow W0.heap.size 3 1 ov i ((J.take i).map fun x : Nat => Value.int .i64 (x : Int))) ∧ Hid (Turn (fun b => W0.heap.size ≤ b) W0 wr)) (fun ov iv _ => n - (intOf iv).toNat)
  case atStart => exact ⟨0, Nat.zero_le _, rfl, Go.Lib.hid (World.ownsRow_nil _ _ _ _), Go.Lib.hid (Turn.refl _ _)⟩
  case round =>
    obtain ⟨i, hi9, rfl, HROW, HTU⟩ := hrel
    have hzr : W0.heap.size ≤ wr.heap.size := HTU.out.size
    by_cases hlt : i < n
    · obtain ⟨g, rfl, hg1, hg2, hg3, hgc⟩ := HS.out (by omega)
      have hcw : ∀ k, k < 3 → wr.cell? ⟨g, i * 3 + k, none⟩ = (jobV d.nt d.τ (J.getD i 0))[k]? := fun k hk => by
        have hz := HZW.out
        rw [← jobs_get d.nt d.τ J (by rw [HJ.out.2]; exact hlt) hk, ← hgc (i * 3 + k) (by omega)]
        exact (HTU.out.cell (p := ⟨g, i * 3 + k, none⟩) (by show g < _; omega) (by show ¬ W0.heap.size ≤ g; omega)).trans (hz.2.cell (p := ⟨g, i * 3 + k, none⟩) hg2)
      obtain ⟨c, hc⟩ : ∃ c, J.getD i 0 = c := ⟨_, rfl⟩
      rw [hc] at hcw
      have k0 : wr.cell? ⟨g, i * 3, none⟩ = some (.int .i64 c) := hcw 0 (by omega)
      have k1 : wr.cell? ⟨g, i * 3 + 1, none⟩ = some (.int .i64 ((d.τ.getD c 0 : Nat) : Int)) := hcw 1 (by omega)
      have k2 : wr.cell? ⟨g, i * 3 + 2, none⟩ = some (.int .i64 (((d.τ.getD c 0 : Nat) : Int) - d.nt)) := hcw 2 (by omega)
      have HC := Go.Lib.hid hc
      have hcn := cell_list_new (wr.alloc (.cells #[.int .i64 c, .int .i64 ((d.τ.getD c 0 : Nat) : Int), .int .i64 (((d.τ.getD c 0 : Nat) : Int) - d.nt)] 78)) [.int .i64 c] 3
      rw [World.size_alloc] at hcn
      have HCN := Go.Lib.hid hcn
      clear hcw hgc hc hcn
      go_wp2_with (first
        | (at_builtin; go_must (refine wpList_append_own _ rfl _ _ 22 rfl W0.heap.size 3 i0 (.int .i64 0) 1 8 Tryz.underlying22 hi hz0 hz1 hz2 (by decide) (by decide) _ _ _ rfl ((HROW.out.alloc _).alloc _) ⟨wr.heap.size + 1, 0, none⟩ 1 1 [.int .i64 c] rfl rfl HCN.out (by simp [Value.oneCell']) (by unfold maxLen; omega) (by omega) (by simp; omega) ?_; intro v' w9 hown' hgrow _)))
      have hB9 : Below W0.heap.size wr w9 := (((Below.refl W0.heap.size wr).alloc (by omega) _).alloc (by simp; omega) _).trans (grown_below ((HROW.out.alloc _).alloc _) hgrow (Nat.le_refl _) (by simp; omega))
      refine ⟨⟨i + 1, by omega, by go_num, Go.Lib.hid ?_, Go.Lib.hid (HTU.out.trans (Turn.of_below hB9))⟩, by simp [intOf]; omega⟩
      have hci : J[i]? = some c := by
        have hl : i < J.length := by rw [HJ.out.2]; exact hlt
        have := HC.out
        rw [List.getD_eq_getElem?_getD, List.getElem?_eq_getElem hl] at this
        rw [List.getElem?_eq_getElem hl]; simpa using this
      obtain ⟨h1, h2⟩ := List.getElem?_eq_some_iff.1 hci
      rw [List.take_succ_eq_append_getElem h1, h2, List.map_append]
      exact hown'
    · have e : n = i := by omega
      subst e
      go_wp2_with fail
      rw [← HQ.out]
      obtain ⟨A, cp, hE⟩ := own_form HROW.out
      refine ⟨A, cp, by rw [HJ.out.1, HJ.out.2, ← hE]; rfl, ?_, HBW.out.trans (HTU.out.below (fun b hb => by have := HBW.out.size; omega) HBW.out.size)⟩
      have hn := HJ.out.2
      rw [HJ.out.1, hn]
      have hR := HROW.out
      rw [hE, ← hn, List.take_length, hn] at hR
      exact ints_own hR hn

end Go.Proofs.YtoobopohohoidaaGreatDoor
