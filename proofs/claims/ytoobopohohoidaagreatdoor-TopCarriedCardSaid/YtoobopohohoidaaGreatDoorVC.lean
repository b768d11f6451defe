/- VAULT: Index; a line is joined. -/
import Derived.Test.YtoobopohohoidaaGreatDoorVB
import Derived.Deep.RegionHeld3
import Derived.RegionTactic
import Derived.ChangeAlike
set_option linter.unusedSimpArgs false
set_option linter.unusedVariables false
namespace Go.Proofs.YtoobopohohoidaaGreatDoor
open Go.RowKit

/-- Numbers that lie in a row, below block B. -/
abbrev ofL (L : List Nat) (j : Nat) : Int := ((L.getD j 0 : Nat) : Int)

theorem idx_none {L : List Nat} {x k : Nat} (h : ∀ j, j < L.length → ofL L j ≠ (x : Int)) (hk : L.length = k) : L.idxOf x = k := by
  subst hk
  apply List.idxOf_eq_length
  intro hm
  obtain ⟨j, hj, e⟩ := List.getElem_of_mem hm
  exact h j hj (by simp [ofL, List.getD, List.getElem?_eq_getElem hj, e])
theorem idx_some : ∀ {L : List Nat} {x k : Nat}, k < L.length → ofL L k = (x : Int) → (∀ j, j < k → ofL L j ≠ (x : Int)) → L.idxOf x = k
  | [], _, _, h, _, _ => by simp at h
  | y :: L, x, k, hk, hx, hf => by
    rw [List.idxOf_cons]
    cases k with
    | zero =>
      have : y = x := by have h9 : (y : Int) = (x : Int) := by simpa [ofL] using hx
                         omega
      simp [this]
    | succ k =>
      have h0 : y ≠ x := fun e => hf 0 (by omega) (by simp [ofL, e])
      rw [beq_false_of_ne h0]
      have := idx_some (L := L) (x := x) (k := k) (by simpa using hk) (by simpa [ofL] using hx) (fun j hj => by have := hf (j + 1) (by omega); simpa [ofL] using this)
      simp [this]

/-- slices.Index. -/
def idxI (L : List Nat) (x : Nat) : Int := if x ∈ L then (L.idxOf x : Int) else -1
theorem vindex_any (A : Option Addr) (L : List Nat) (n cap B : Nat) (x : Nat) (w : World) (hL : L.length = n) (hn : n ≤ 99) (h : Ints w B A n (ofL L)) :
    Calls Tryz.prog 78 #[.slice A n cap, .int .i64 x] w fun e w' => e = .returned (.int .i64 (idxI L x)) ∧ w = w' := by
  have HL := Go.Lib.hid hL; clear hL
  go_enter Tryz.func78, Tryz.ntmps78
  go_wp2
  go_loop [8] (fun i => ∃ k : Nat, k ≤ n ∧ i = .int .i64 k ∧ ∀ j, j < k → ofL L j ≠ (x : Int)) (fun i => n - (intOf i).toNat)
  case atStart => exact ⟨0, Nat.zero_le _, rfl, fun j hj => absurd hj (Nat.not_lt_zero _)⟩
  case round =>
    obtain ⟨k, hk, rfl, hf⟩ := hrel
    by_cases hlt : k < n
    · obtain ⟨ad, rfl, hb, hc⟩ := h (by omega)
      have hcell := hc k hlt
      clear hc hb h
      have HF := Go.Lib.hid hf; clear hf
      obtain ⟨y, hy⟩ : ∃ y, ofL L k = y := ⟨_, rfl⟩
      rw [hy] at hcell
      have HY := Go.Lib.hid hy; clear hy
      by_cases hx : y = (x : Int)
      · subst hx
        go_wp2
        go_ret
        have e := idx_some (by rw [HL.out]; exact hlt) HY.out HF.out
        have hm : x ∈ L := by
          rw [← List.idxOf_lt_length_iff, e, HL.out]; exact hlt
        exact ⟨congrArg (fun z => Ending.returned (.int .i64 z)) (show (k : Int) = _ by rw [idxI, if_pos hm, e]), rfl⟩
      · have hb : ((x : Int) == y) = false := by simp; omega
        have HX := Go.Lib.hid hx; clear hx
        go_wp2
        go_round
        case rel => exact ⟨k + 1, by omega, by go_num, fun j hj => (by
          rcases Nat.lt_succ_iff_lt_or_eq.1 hj with h | rfl
          · exact HF.out j h
          · rw [HY.out]; exact HX.out)⟩
        case measure => simp [intOf]; omega
    · have HF := Go.Lib.hid hf; clear hf
      have hkn : k = n := by omega
      have HK := Go.Lib.hid hkn; clear hkn
      go_wp2
      go_ret
      have hm : x ∉ L := fun hm => by
        obtain ⟨j, hj, e⟩ := List.getElem_of_mem hm
        have hj' := hj
        rw [HL.out, ← HK.out] at hj
        exact HF.out j hj (by simp [ofL, List.getD, List.getElem?_eq_getElem hj', e])
      exact ⟨congrArg (fun z => Ending.returned (.int .i64 z)) (show (-1 : Int) = _ by rw [idxI, if_neg hm]), rfl⟩

set_option maxRecDepth 100000 in
set_option maxHeartbeats 1000000 in
/-- A piece is laid behind the others. -/
theorem vjoin_any (b o T n : Nat) (cs : Array Value) (p : Int) (v : Value) (w : World) (hn : n < 4) (hb : w.heap[b]? = some (.cells cs T (0, 0))) (hl : cs[o + 4]? = some (.int .i64 n)) (hv : cs[o + n]? = some v) :
    Calls Tryz.prog 77 #[.pointer (some ⟨b, o, none⟩), .int .i64 p] w fun e w' => e = .returned (.tuple #[]) ∧
      w'.heap[b]? = some (.cells ((cs.setIfInBounds (o + n) (.int .i64 p)).setIfInBounds (o + 4) (.int .i64 ((n : Int) + 1))) T (0, 0)) ∧ But b w w' := by
  have c4 : w.cell? ⟨b, o + 4, none⟩ = some (.int .i64 n) := (cellH hb _).trans hl
  have cn : w.cell? ⟨b, o + n, none⟩ = some v := (cellH hb _).trans hv
  have f4 : w.frozen? ⟨b, o + 4, none⟩ = false := freeH hb _
  have fn : w.frozen? ⟨b, o + n, none⟩ = false := freeH hb _
  have hend : ∀ w', (w' = ((w.setCell ⟨b, o + n, none⟩ (.int .i64 p)).drew).setCell ⟨b, o + 4, none⟩ (.int .i64 ((n : Int) + 1)) ∨ w' = ((w.setCell ⟨b, o + n, none⟩ (.int .i64 p)).setCell ⟨b, o + 4, none⟩ (.int .i64 ((n : Int) + 1))).drew) →
      w'.heap[b]? = some (.cells ((cs.setIfInBounds (o + n) (.int .i64 p)).setIfInBounds (o + 4) (.int .i64 ((n : Int) + 1))) T (0, 0)) ∧ But b w w' := by
    have h2 := setH (setH hb (o + n) (.int .i64 p)) (o + 4) (.int .i64 ((n : Int) + 1))
    rintro w' (rfl | rfl)
    · exact ⟨h2, (((But.refl b w).set _ _).drew).set _ _⟩
    · exact ⟨h2, (((But.refl b w).set _ _).set _ _).drew⟩
  have HE := Go.Lib.hid hend; clear hend
  have HB := Go.Lib.hid hb; clear hb
  have hne : o + n ≠ o + 4 := by omega
  have hn4 : (n : Int) < 4 := by omega
  go_enter Tryz.func77, Tryz.ntmps77
  go_wp2
  go_region
  all_goals go_wp2
  all_goals go_end0
  all_goals exact ⟨rfl, HE.out _ (by first | exact .inl rfl | exact .inr rfl)⟩

end Go.Proofs.YtoobopohohoidaaGreatDoor
