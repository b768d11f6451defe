/- PILE: on, On. -/
import Derived.Test.YtckchahangnfiaaGreatDoorPlO
namespace Go.Proofs.YtckchahangnfiaaGreatDoor
open Go.RowKit

theorem els_sub : ∀ n : Fin 6, ∀ i : Fin 5, ∀ j ∈ els (sub (low n.1) (2 ^ i.1)), j < n.1 ∧ j ≠ i.1 := by decide +kernel

/-- Two results: a slice that reads so, and OK. -/
def IntsOk (R : List Int) (w : World) (e : Ending) (w' : World) : Prop :=
  ∃ (A : Option Addr) (cap : Nat), e = .returned (.tuple #[.slice A R.length cap, .int .i64 0]) ∧ Below w.heap.size w w' ∧ Ints w' w'.heap.size A R.length (fun j => R.getD j 0)

theorem on_keep {N : Nat} {A B : Array Value} {w W W' W0 : World} (h0 : ∀ o, W.cell? ⟨N, o, none⟩ = A[o]?) (h1 : ∀ o, W.cell? ⟨N + 1, o, none⟩ = B[o]?) (hB : Below N w W) (hz : N + 1 < W.heap.size) (hB0 : Below W0.heap.size W0 W) (hB1 : Below W.heap.size W W') :
    (∀ o, W'.cell? ⟨N, o, none⟩ = A[o]?) ∧ (∀ o, W'.cell? ⟨N + 1, o, none⟩ = B[o]?) ∧ Below N w W' ∧ N + 1 < W'.heap.size ∧ Below W0.heap.size W0 W' := by
  obtain ⟨a, b, c, d⟩ := two_keep h0 h1 hB hz hB1
  exact ⟨a, b, c, d, hB0.trans (hB1.mono hB0.size)⟩

set_option maxRecDepth 100000 in
set_option maxHeartbeats 4000000 in
theorem pyon_any (P : Option Addr) (n qcap a : Nat) (L : Int) (x y z : Nat → Int) (keep : Int → Bool) (w : World) (hn : n ≤ 5) (ha : a < 32) (ha1 : pcnt a = 1)
    (hsu : ∀ W j, Below w.heap.size w W → j ∈ els (sub (low n) a) → Calls Tryz.prog 34 #[.agg (yCells (.slice P n qcap) L x y z), .agg (pCells a (2 ^ j))] W fun e w' => e = .returned (.bool (keep (j : Nat))) ∧ Below W.heap.size W w') :
    Calls Tryz.prog 14 #[.agg (yCells (.slice P n qcap) L x y z), .agg (pOne a)] w (IntsOf ((elsI (sub (low n) a)).filter keep) w) := by
  have HSU := Go.Lib.hid hsu; clear hsu
  have hlow := low_lt hn
  obtain ⟨s, hs⟩ : ∃ s, sub (low n) a = s := ⟨_, rfl⟩
  have hs32 : s < 32 := by rw [← hs]; exact sub_lt ⟨low n, hlow⟩ ⟨a, ha⟩
  rw [hs] at HSU ⊢
  have hle : ∀ W, Calls Tryz.prog 28 #[.int .u8 (low n), .int .u8 a] W fun e w' => e = .returned (.int .u8 s) ∧ W = w' := fun W => (pless_any (low n) a W hlow ha).mono fun e w' ⟨h1, h2⟩ => ⟨by rw [h1, hs], h2⟩
  have HLE := Go.Lib.hid hle; clear hle
  have hall := fun W => pyall_any P n qcap L x y z W hn
  have HALL := Go.Lib.hid hall; clear hall
  have hpi := fun W => ppieces1 a W ha
  have HPI := Go.Lib.hid hpi; clear hpi
  clear hs hlow
  go_enter Tryz.func14, Tryz.ntmps14
  go_wp2_with fail
  obtain ⟨b0, b1, hB0, hz0⟩ := boxes2 w (yCells (.slice P n qcap) L x y z) (pOne a) 55 58
  have hy0 : ((w.alloc (.cells (yCells (.slice P n qcap) L x y z) 55)).alloc (.cells (pOne a) 58)).heap[w.heap.size]? = some (.cells (yCells (.slice P n qcap) L x y z) 55 (0, 0)) := by
    rw [Below.heap_alloc _ _ _ (by simp)]; exact heap_alloc_new w _
  have hp0 : ((w.alloc (.cells (yCells (.slice P n qcap) L x y z) 55)).alloc (.cells (pOne a) 58)).heap[w.heap.size + 1]? = some (.cells (pOne a) 58 (0, 0)) := by
    have := heap_alloc_new (w.alloc (.cells (yCells (.slice P n qcap) L x y z) 55)) (.cells (pOne a) 58)
    rwa [World.size_alloc] at this
  obtain ⟨W0, hW0⟩ : ∃ W0, (w.alloc (.cells (yCells (.slice P n qcap) L x y z) 55)).alloc (.cells (pOne a) 58) = W0 := ⟨_, rfl⟩
  rw [hW0] at b0 b1 hB0 hz0 hy0 hp0 ⊢
  clear hW0
  have HSeen := Go.Lib.hid (Seen.mk (pb := w.heap.size + 1) (yb := w.heap.size) hp0 hy0)
  clear hy0 hp0
  go_region_held3 (fun w' => (∀ o, w'.cell? ⟨w.heap.size, o, none⟩ = (yCells (.slice P n qcap) L x y z)[o]?) ∧ (∀ o, w'.cell? ⟨w.heap.size + 1, o, none⟩ = (pOne a)[o]?) ∧ Below w.heap.size w w' ∧ w.heap.size + 1 < w'.heap.size ∧ Below W0.heap.size W0 w')
    (first | (exact ⟨b0, b1, hB0.drew, by show w.heap.size + 1 < W0.heap.size; omega, (Below.refl _ _).drew⟩) | (go_split_ands; exact on_keep (by assumption) (by assumption) (by assumption) (by assumption) (by assumption) (by assumption)) | go_keep)
    (first | (go_at_call 27; refine (HALL.out _).mono ?_; rintro e w1 ⟨rfl, hB1⟩) | (go_at_call 29; refine (HPI.out _).mono ?_; rintro e w1 ⟨rfl, hB1⟩) | (go_at_call 28; refine (HLE.out _).mono ?_; rintro e w1 ⟨rfl, rfl⟩))
  rename_i hS
  obtain ⟨_, _, hB2, hz2, hB3⟩ := hS
  have hseen := HSeen.out.below hB3 (by omega) (by omega)
  have HS2 := Go.Lib.hid hseen
  clear hseen
  have hmf : ∀ (fn : Fn) (first cap : Array Value) (w : World), (Instr.makeFunc fn first cap).run Tryz.prog w = .ok (.func fn first cap) w := fun _ _ _ _ => rfl
  have hl5 : (elsI s).length ≤ 9 := by have := els_length ⟨s, hs32⟩; dsimp only at this; rw [elsI, List.length_map]; omega
  have HL5 := Go.Lib.hid hl5; clear hl5
  go_wp2_with (first
    | (go_at_call 31; refine (plist_any s hs32 _).mono ?_; rintro e w2 ⟨A, cap, rfl, hB4, hI⟩
       have HI := Go.Lib.hid hI; clear hI
       have hseen := HS2.out.below hB4 (by omega) (by omega)
       have HS3 := Go.Lib.hid hseen
       clear hseen
       have hBw2 := hB2.trans (hB4.mono (by omega))
       have hz3 : w.heap.size + 1 < w2.heap.size := Nat.lt_of_lt_of_le hz2 hB4.size)
    | (go_at_call 30; refine (pfilter_any A cap (w.heap.size + 1) w.heap.size 0 (elsI s) keep _ HL5.out HI.out (fun W hB x hx => by
         obtain ⟨j, hj, rfl⟩ := List.mem_map.1 hx
         have hj5 : j < 5 := List.mem_range.1 (List.mem_filter.1 hj).1
         exact pon1_any (w.heap.size + 1) w.heap.size j a (2 ^ j) _ rfl (keep j) W hj5 ha ha1 (pow_lemma ⟨j, hj5⟩) (HS3.out.below hB hz3 (by omega)) (fun W' hB' => HSU.out W' j (hBw2.trans ((hB.trans (hB'.mono hB.size)).mono (by omega))) hj))).mono ?_; rintro e w3 ⟨A', cap', rfl, hB5, hI5⟩
       have HI5 := Go.Lib.hid hI5; clear hI5))
  go_ret
  exact ⟨A', cap', rfl, hBw2.trans (hB5.mono (by omega)), HI5.out⟩

set_option maxRecDepth 100000 in
set_option maxHeartbeats 4000000 in
theorem pOn_any (qb n qcap xcap xb i : Nat) (L : Int) (wt br tl : Nat → Int) (w : World) (hn : n ≤ 5) (hi5 : i < n) (hqb : qb < w.heap.size) (hxb : xb < w.heap.size) (h1 : 1 ≤ L) (h2 : L ≤ 12) (H : ParcelsAt w qb n wt wt br tl)
    (hx : w.cell? ⟨xb, 0, none⟩ = some (.int .i64 i)) (hs : ∀ k, k < n → tl i + tl k ≤ L) :
    Calls Tryz.prog 6 #[.agg #[.slice (some ⟨qb, 0, none⟩) n qcap, .int .i64 L], .slice (some ⟨xb, 0, none⟩) 1 xcap] w fun e w' =>
      ∃ (A : Option Addr) (cap : Nat) (R : List Int), R = (elsI (sub (low n) (2 ^ i))).filter (fun x => decide (wt x.toNat ≤ br i)) ∧ e = .returned (.tuple #[.slice A R.length cap, .int .i64 0]) ∧ Below w.heap.size w w' ∧ Ints w' w'.heap.size A R.length (fun j => R.getD j 0) := by
  have e1 := tz_pow ⟨i, by omega⟩
  have e3 := els_one ⟨i, by omega⟩
  dsimp only at e1 e3
  have hel : ∀ j ∈ els (sub (low n) (2 ^ i)), j < n ∧ j ≠ i := by
    intro j hj
    have := els_sub ⟨n, by omega⟩ ⟨i, by omega⟩ j hj
    exact this
  have hon : ∀ W, Below w.heap.size w W → Calls Tryz.prog 14 #[.agg (yCells (.slice (some ⟨qb, 0, none⟩) n qcap) L (upto n wt) (upto n wt) (upto n tl)), .agg (pOne (2 ^ i))] W (IntsOf ((elsI (sub (low n) (2 ^ i))).filter (fun x => decide (wt x.toNat ≤ br i))) W) := fun W hB =>
    pyon_any _ n qcap (2 ^ i) L _ _ _ (fun x => decide (wt x.toNat ≤ br i)) W hn (pow_lt32 (by omega)) (by unfold pcnt; rw [e3]; rfl) (fun W' j hB' hj => by
      obtain ⟨hjn, hji⟩ := hel j hj
      have hBB := hB.trans (hB'.mono hB.size)
      have H' := H.below hBB hqb
      have D := H'.duo hn (Nat.lt_of_lt_of_le hqb hBB.size) hi5 hjn (Ne.symm hji)
      have V := H'.weighs hn hjn
      refine psurely_any qb n qcap L _ _ _ br _ _ W' D V (fun k _ => by unfold upto; split <;> first | (have := H.tl1 k (by assumption); omega) | omega) (fun k _ => by unfold upto; split <;> first | (have := H.tl3 k (by assumption); omega) | omega)
        (by rw [sum_two _ _ _ (by omega) (by omega) (Ne.symm hji), upto_in hi5, upto_in hjn]; exact hs j hjn) _ ?_
      rw [sum_one _ _ (by omega), upto_in hjn, e1]
      by_cases hle : wt j ≤ br i
      · exact .inl ⟨by simp [hle], hle⟩
      · exact .inr ⟨by simp [hle], by omega⟩)
  have hop : ∀ W, Below w.heap.size w W → Calls Tryz.prog 13 #[.agg #[.slice (some ⟨qb, 0, none⟩) n qcap, .int .i64 L], .slice (some ⟨xb, 0, none⟩) 1 xcap] W fun e w' =>
      e = .returned (.tuple #[.agg (yCells (.slice (some ⟨qb, 0, none⟩) n qcap) L (upto n wt) (upto n wt) (upto n tl)), .agg (pOne (2 ^ i)), .int .i64 0]) ∧ Below W.heap.size W w' := fun W hB =>
    popenPile1 qb n qcap xcap xb i L wt wt br tl W hn hi5 (Nat.lt_of_lt_of_le hqb hB.size) (Nat.lt_of_lt_of_le hxb hB.size) h1 h2 (H.below hB hqb) ((hB.cell (p := ⟨xb, 0, none⟩) hxb).trans hx)
      (by rw [sum_one _ _ (by omega), upto_in hi5]; have := hs i hi5; have := H.tl1 i hi5; omega)
  obtain ⟨a, ha⟩ : ∃ a, 2 ^ i = a := ⟨_, rfl⟩
  rw [ha] at hon hop
  obtain ⟨R, hR⟩ : ∃ R, (elsI (sub (low n) (2 ^ i))).filter (fun x => decide (wt x.toNat ≤ br i)) = R := ⟨_, rfl⟩
  rw [ha] at hR
  rw [hR] at hon
  rw [ha, hR]
  have HON := Go.Lib.hid hon; clear hon
  have HOP := Go.Lib.hid hop; clear hop
  clear H hx hs e1 e3 hel ha hR
  refine Calls.mono (R := IntsOk R w) ?_ (fun e w' ⟨A, cap, h1, h2, h3⟩ => ⟨A, cap, R, rfl, h1, h2, h3⟩)
  go_enter Tryz.func6, Tryz.ntmps6
  go_wp2_with (first
    | (go_at_call 13; refine (HOP.out _ ((Below.refl _ w).alloc (Nat.le_refl _) _)).mono ?_; rintro e w1 ⟨rfl, hB1⟩
       have hBw1 : Below w.heap.size w w1 := ((Below.refl _ w).alloc (Nat.le_refl _) _).trans (hB1.mono (by simp))
       have hz1 := hBw1.size)
    | (go_at_call 14; refine (HON.out _ ((hBw1.alloc hz1 _).alloc (by simp; omega) _)).mono ?_; rintro e w2 ⟨A, cap, rfl, hB2, hI⟩
       have HI := Go.Lib.hid hI; clear hI))
  go_ret2
  exact ⟨A, cap, rfl, ((hBw1.alloc hz1 _).alloc (by simp; omega) _).trans (hB2.mono (by simp; omega)), HI.out⟩

end Go.Proofs.YtckchahangnfiaaGreatDoor
