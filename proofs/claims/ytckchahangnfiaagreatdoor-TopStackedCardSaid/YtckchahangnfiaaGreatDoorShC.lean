/- SHELF: the iterator over a set. -/
import Derived.Test.YtckchahangnfiaaGreatDoorShT
import Derived.RangeFuncNested
import Derived.RangeFuncBound
import Derived.RangeFuncCalls
import Derived.RangeFuncLeaves
import Derived.Shelf.Abstract
import Derived.Shelf.RegionOpen
import Derived.OwnWalkIn
import Derived.TacticsInMore
import Derived.LoopNIn
import Derived.LoopIn
namespace Go.Proofs.YtckchahangnfiaaGreatDoor
open Go.RowKit Go.Shelf

attribute [local go_sem] Oper.semAt_some

/-- The members of a set, ascending; the least one. -/
def els (s : Nat) : List Nat := (List.range 5).filter fun i => s.testBit i
theorem els_step : ∀ s : Fin 32, s.1 ≠ 0 → els s.1 = tz s.1 :: els (s.1 &&& (s.1 - 1)) ∧ (s.1 &&& (s.1 - 1)) < s.1 ∧ bits .and .u8 (s.1 : Int) ((s.1 : Int) - 1) = ((s.1 &&& (s.1 - 1) : Nat) : Int) := by decide +kernel
theorem els_zero : els 0 = [] := by decide
theorem els_low : ∀ c : Fin 6, els (low c.1) = List.range c.1 := by decide +kernel
theorem els_length : ∀ s : Fin 32, (els s.1).length ≤ 5 := by decide +kernel

/-- s.all(): the set is boxed; the function value captures the box. -/
theorem all_any (s : Nat) (w : World) :
    Calls Tryz.prog 44 #[.int .u8 s] w fun e w' => e = .returned (.func (.func 60) #[] #[.pointer (some ⟨w.heap.size, 0, none⟩)]) ∧ w' = w.alloc (.cells #[.int .u8 s] 69) := by
  go_enter Tryz.func44, Tryz.ntmps44
  go_wp2
  go_ret
  exact ⟨rfl, rfl⟩

/-- A member of a set. -/
abbrev El (s : Nat) := { x : Nat // x ∈ els s }

theorem els_next {s q q' t : Nat} {pre : List (El s)} (hm : t ∈ els s) (h1 : els s = pre.map (·.1) ++ els q) (h2 : els q = t :: els q') : els s = (pre ++ [(⟨t, hm⟩ : El s)]).map (fun x : El s => x.1) ++ els q' :=
  h1.trans (by rw [h2, List.map_append, List.append_assoc]; rfl)

set_option maxRecDepth 100000 in
set_option maxHeartbeats 1000000 in
theorem all1_in (n : Nat) (hn : 1 ≤ n) (l Bn n₀ : Nat) (s : Nat) (hs : s < 32) (J Jx : List (El s) → World → Prop)
    (hY : ∀ (pre : List (El s)) (x : El s) (W : World), J pre W → pre.length < (els s).length → YieldAt .wide (n - 1) Tryz.prog l #[.int .i64 (x.1 : Int)] W fun e W' =>
      (e = .returned (.bool true) ∧ J (pre ++ [x]) W' ∧ Below n₀ W W') ∨ (e = .returned (.bool false) ∧ Jx (pre ++ [x]) W'))
    (W : World) (hBn : W.cell? ⟨Bn, 0, none⟩ = some (.int .u8 s)) (h0 : J [] W) :
    CallsIn .wide n Tryz.prog 60 #[.func (.yield l) #[] #[], .pointer (some ⟨Bn, 0, none⟩)] W fun e W' => (∃ v, e = .returned v) ∧
      ((∃ ys : List (El s), ys.map (·.1) = els s ∧ J ys W') ∨ (∃ pre : List (El s), pre.map (·.1) <+: els s ∧ Jx pre W')) := by
  refine callsIn_of_wp Tryz.func60 rfl trivial ?_ rfl
  simp only [Tryz.ntmps60, List.size_toArray, List.length_cons, List.length_nil, Nat.reduceAdd, Nat.reduceSub, Array.replicate_succ, Array.replicate_zero, List.push_toArray, List.append_toArray, List.nil_append, List.cons_append]
  gi_wp2
  gi_loopw [3] (fun p wr => ∃ (pre : List (El s)) (q : Nat), q < 32 ∧ p = .int .u8 (q : Int) ∧ els s = pre.map (·.1) ++ els q ∧ J pre wr)
    (fun p _ => (intOf p).toNat)
  case atStart =>
    exact ⟨[], s, hs, rfl, rfl, h0⟩
  case round =>
    obtain ⟨pre, q, hq, rfl, hx, hJs⟩ := hrel
    by_cases hz : q = 0
    · subst hz
      gi_wp2
      go_end0
      exact ⟨⟨_, rfl⟩, .inl ⟨pre, (hx.trans (by rw [els_zero, List.append_nil])).symm, hJs⟩⟩
    · have hst := els_step ⟨q, hq⟩ hz
      dsimp only at hst
      obtain ⟨e1, e2, e3⟩ := hst
      have H1 := Go.Lib.hid e1; clear e1
      have H2 := Go.Lib.hid e2; clear e2
      have H3 := Go.Lib.hid e3; clear e3
      have HX := Go.Lib.hid hx; clear hx
      have h1q : 1 ≤ q := by omega
      have hmem : tz q ∈ els s := by rw [HX.out, H1.out]; simp
      obtain ⟨fn, tmps, assign, body, hy, hR⟩ := hY pre ⟨tz q, hmem⟩ wr hJs (by rw [HX.out, H1.out]; simp)
      dsimp only at hy
      gi_wp2_with (refine ⟨trivial, ?_⟩; gi_at_call 61; refine (callsIn_wide.2 (tz_any q hq _)).mono ?_; rintro e w' ⟨rfl, rfl⟩)
      refine hR.mono ?_
      rintro e W3 (⟨rfl, hJ3, hk3⟩ | ⟨rfl, hJx3⟩)
      · have hand : bits .and .u8 (q : Int) ((q : Int) - 1) = ((q &&& (q - 1) : Nat) : Int) := H3.out
        gi_wp2
        go_roundw
        case rel => exact ⟨pre ++ [⟨tz q, hmem⟩], q &&& (q - 1), Nat.lt_trans H2.out hq, rfl, els_next hmem HX.out H1.out, hJ3⟩
        case measure => have := H2.out; simp [intOf]; omega
      · gi_wp2
        refine bodyPost_ret (results_none rfl _ _ _) rfl ?_
        exact ⟨⟨_, rfl⟩, .inr ⟨pre ++ [⟨tz q, hmem⟩], ⟨els (q &&& (q - 1)), (els_next hmem HX.out H1.out).symm⟩, hJx3⟩⟩

/-- s.all() HANDS BACK A VALUE THAT 'SeqStopsK': the members of s, ascending. -/
theorem all_stops (n : Nat) (hn : 1 ≤ n) (Bn n₀ : Nat) (s : Nat) (hs : s < 32) (w : World) (hBn : Bn < w.heap.size) (hc : w.cell? ⟨Bn, 0, none⟩ = some (.int .u8 s)) :
    SeqStopsK .wide n Tryz.prog 60 #[.pointer (some ⟨Bn, 0, none⟩)] (fun x : El s => #[Value.int .i64 (x.1 : Int)]) (Below n₀) (fun ys => ys.map (·.1) = els s) (fun pre => pre.map (·.1) <+: els s) (els s).length w := fun l J Jx W hW _ _ hY h0 =>
  all1_in n hn l Bn n₀ s hs J Jx hY W ((hW.cell (p := ⟨Bn, 0, none⟩) hBn).trans hc) h0

end Go.Proofs.YtckchahangnfiaaGreatDoor
