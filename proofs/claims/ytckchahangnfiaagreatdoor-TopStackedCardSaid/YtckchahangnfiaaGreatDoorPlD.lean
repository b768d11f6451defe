/- PILE: the iterator over a set; sum. -/
import Derived.Test.YtckchahangnfiaaGreatDoorPlC
import Derived.Test.YtckchahangnfiaaGreatDoorTinB
import Derived.Test.YtckchahangnfiaaGreatDoorShD
namespace Go.Proofs.YtckchahangnfiaaGreatDoor
open Go.RowKit Go.Shelf

attribute [local go_sem] Oper.semAt_some

theorem psum_any (A : Option Addr) (n cap B : Nat) (f : Nat → Int) (w : World) (hn : n ≤ 9) (h : Ints w B A n f) (h0 : ∀ j, j < n → 0 ≤ f j) (h1 : ∀ j, j < n → f j ≤ 999) :
    Calls Tryz.prog 76 #[.slice A n cap] w fun e w' => e = .returned (.int .i64 (((List.range n).map f).sum)) ∧ w = w' := by
  have hs : ∀ k, k ≤ n → 0 ≤ ((List.range k).map f).sum ∧ ((List.range k).map f).sum ≤ 999 * k := by
    intro k hk
    induction k with
    | zero => simp
    | succ k ih =>
      have := ih (by omega)
      have g0 := h0 k (by omega)
      have g1 := h1 k (by omega)
      rw [List.range_succ, List.map_append, List.sum_append]
      simp
      omega
  have HS := Go.Lib.hid hs; clear hs
  have H0 := Go.Lib.hid h0; clear h0
  have H1 := Go.Lib.hid h1; clear h1
  have HI := Go.Lib.hid h; clear h
  go_enter Tryz.func76, Tryz.ntmps76
  go_wp2
  go_loop [3, 8] (fun s i => ∃ k : Nat, ∃ t : Int, k ≤ n ∧ i = .int .i64 k ∧ s = .int .i64 t ∧ Hid (t = ((List.range k).map f).sum)) (fun _ i => n - (intOf i).toNat)
  case atStart => exact ⟨0, 0, Nat.zero_le _, rfl, rfl, Go.Lib.hid rfl⟩
  case round =>
    obtain ⟨k, t, hk, rfl, rfl, HT⟩ := hrel
    have b0 : 0 ≤ t ∧ t ≤ 999 * k := by rw [HT.out]; exact HS.out k hk
    obtain ⟨b1, b2⟩ := b0
    have b3 : t ≤ 9999 := by omega
    clear b2
    by_cases hlt : k < n
    · obtain ⟨ad, rfl, hb, hc⟩ := HI.out (by omega)
      have hcell := hc k hlt
      have g0 := H0.out k hlt
      have g1 := H1.out k hlt
      clear hc hb
      go_wp2
      go_round
      case rel => exact ⟨k + 1, t + f k, by omega, by go_num, rfl, Go.Lib.hid (by rw [List.range_succ, List.map_append, List.sum_append, HT.out]; simp)⟩
      case measure => simp [intOf]; omega
    · have hkn : k = n := by omega
      have HK := Go.Lib.hid hkn; clear hkn
      go_wp2
      go_ret
      exact ⟨congrArg (fun x => Ending.returned (.int .i64 x)) (by have h1 := HK.out; have h2 := HT.out; rw [h2, h1]), rfl⟩

set_option maxRecDepth 100000 in
set_option maxHeartbeats 1000000 in
theorem pall1_in (n : Nat) (hn : 1 ≤ n) (l Bn n₀ : Nat) (s : Nat) (hs : s < 32) (J Jx : List (El s) → World → Prop)
    (hY : ∀ (pre : List (El s)) (x : El s) (W : World), J pre W → pre.length < (els s).length → YieldAt .wide (n - 1) Tryz.prog l #[.int .i64 (x.1 : Int)] W fun e W' =>
      (e = .returned (.bool true) ∧ J (pre ++ [x]) W' ∧ Below n₀ W W') ∨ (e = .returned (.bool false) ∧ Jx (pre ++ [x]) W'))
    (W : World) (hBn : W.cell? ⟨Bn, 0, none⟩ = some (.int .u8 s)) (h0 : J [] W) :
    CallsIn .wide n Tryz.prog 67 #[.func (.yield l) #[] #[], .pointer (some ⟨Bn, 0, none⟩)] W fun e W' => (∃ v, e = .returned v) ∧
      ((∃ ys : List (El s), ys.map (·.1) = els s ∧ J ys W') ∨ (∃ pre : List (El s), pre.map (·.1) <+: els s ∧ Jx pre W')) := by
  refine callsIn_of_wp Tryz.func67 rfl trivial ?_ rfl
  simp only [Tryz.ntmps67, List.size_toArray, List.length_cons, List.length_nil, Nat.reduceAdd, Nat.reduceSub, Array.replicate_succ, Array.replicate_zero, List.push_toArray, List.append_toArray, List.nil_append, List.cons_append]
  gi_wp2
  gi_loopw [3] (fun p wr => ∃ (pre : List (El s)) (q : Nat), q < 32 ∧ p = .int .u8 (q : Int) ∧ els s = pre.map (·.1) ++ els q ∧ J pre wr)
    (fun p _ => (intOf p).toNat)
  case atStart =>
    exact ⟨[], s, hs, rfl, rfl, h0⟩
  case round =>
    obtain ⟨pre, q, hq, rfl, hx, hJs⟩ := hrel
    by_cases hz : q = 0
    · subst hz
      gi_wp2
      go_end0
      exact ⟨⟨_, rfl⟩, .inl ⟨pre, (hx.trans (by rw [els_zero, List.append_nil])).symm, hJs⟩⟩
    · have hst := els_step ⟨q, hq⟩ hz
      dsimp only at hst
      obtain ⟨e1, e2, e3⟩ := hst
      have H1 := Go.Lib.hid e1; clear e1
      have H2 := Go.Lib.hid e2; clear e2
      have H3 := Go.Lib.hid e3; clear e3
      have HX := Go.Lib.hid hx; clear hx
      have h1q : 1 ≤ q := by omega
      have hmem : tz q ∈ els s := by rw [HX.out, H1.out]; simp
      obtain ⟨fn, tmps, assign, body, hy, hR⟩ := hY pre ⟨tz q, hmem⟩ wr hJs (by rw [HX.out, H1.out]; simp)
      dsimp only at hy
      gi_wp2_with (refine ⟨trivial, ?_⟩; gi_at_call 68; refine (callsIn_wide.2 (pleast_any q _ hq)).mono ?_; rintro e w' ⟨rfl, rfl⟩)
      refine hR.mono ?_
      rintro e W3 (⟨rfl, hJ3, hk3⟩ | ⟨rfl, hJx3⟩)
      · have hand : bits .and .u8 (q : Int) ((q : Int) - 1) = ((q &&& (q - 1) : Nat) : Int) := H3.out
        gi_wp2
        go_roundw
        case rel => exact ⟨pre ++ [⟨tz q, hmem⟩], q &&& (q - 1), Nat.lt_trans H2.out hq, rfl, els_next hmem HX.out H1.out, hJ3⟩
        case measure => have := H2.out; simp [intOf]; omega
      · gi_wp2
        refine bodyPost_ret (results_none rfl _ _ _) rfl ?_
        exact ⟨⟨_, rfl⟩, .inr ⟨pre ++ [⟨tz q, hmem⟩], ⟨els (q &&& (q - 1)), (els_next hmem HX.out H1.out).symm⟩, hJx3⟩⟩

/-- s.all() HANDS BACK A VALUE THAT 'SeqStopsK': the members of s, ascending. -/
theorem pall_stops (n : Nat) (hn : 1 ≤ n) (Bn n₀ : Nat) (s : Nat) (hs : s < 32) (w : World) (hBn : Bn < w.heap.size) (hc : w.cell? ⟨Bn, 0, none⟩ = some (.int .u8 s)) :
    SeqStopsK .wide n Tryz.prog 67 #[.pointer (some ⟨Bn, 0, none⟩)] (fun x : El s => #[Value.int .i64 (x.1 : Int)]) (Below n₀) (fun ys => ys.map (·.1) = els s) (fun pre => pre.map (·.1) <+: els s) (els s).length w := fun l J Jx W hW _ _ hY h0 =>
  pall1_in n hn l Bn n₀ s hs J Jx hY W ((hW.cell (p := ⟨Bn, 0, none⟩) hBn).trans hc) h0

end Go.Proofs.YtckchahangnfiaaGreatDoor
