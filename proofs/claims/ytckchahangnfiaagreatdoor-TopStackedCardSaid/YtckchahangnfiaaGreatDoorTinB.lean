/- THE KIT's TIN: Upto, Within, Rarely, NewTin; At, LikeInts. -/
import Derived.Test.YtckchahangnfiaaGreatDoorTinA
import Derived.Lib.Hide
namespace Go.Proofs.YtckchahangnfiaaGreatDoor
open Go.RowKit

theorem upto_any (B tb g : Nat) (n : Int) (w : World) (hgm : g < 4611686018427387904) (hn : n ≤ 4611686018427387904) (hn0 : -9223372036854775808 ≤ n) (h : TinAt w B tb g) :
    Calls Tryz.prog 5 #[.pointer (some ⟨tb, 0, none⟩), .int .i64 n] w fun e w' => ∃ v : Nat, (v : Int) ≤ max n 0 ∧ e = .returned (.int .i64 v) ∧ Only tb w w' ∧ TinAt w' B tb (g + 1) := by
  by_cases hlt : n < 1
  · go_enter Tryz.func5, Tryz.ntmps5
    go_wp2_with (go_at_call 12; refine (next_any B tb g _ hgm h).mono ?_; rintro e w' ⟨x, hx, rfl, ho, ht⟩)
    go_ret
    exact ⟨0, by omega, rfl, ho, ht⟩
  · have h1 : 1 ≤ n := by omega
    clear hlt
    go_enter Tryz.func5, Tryz.ntmps5
    go_wp2_with (go_at_call 12; refine (next_any B tb g _ hgm h).mono ?_; rintro e w' ⟨x, hx, rfl, ho, ht⟩)
    go_ret
    refine ⟨(x % (n + 1)).toNat, ?_, ?_, ho, ht⟩
    · have h2 := Int.emod_lt_of_pos x (show 0 < n + 1 by omega)
      have h3 := Int.emod_nonneg x (show n + 1 ≠ 0 by omega)
      omega
    · have h2 := Int.emod_lt_of_pos x (show 0 < n + 1 by omega)
      have h3 := Int.emod_nonneg x (show n + 1 ≠ 0 by omega)
      show Ending.returned (.int .i64 (wrap64 (x % (n + 1)))) = _
      rw [IntWalk.wrap64_in _ ⟨by omega, by omega⟩, Int.toNat_of_nonneg h3]

/-- 'NewTin': a block more, which is a tin. -/
theorem newTin_any (A : Option Addr) (n cap : Nat) (f : Nat → Int) (w : World) (hn : n ≤ 140737488351232) (h : Ints w w.heap.size A n f) :
    Calls Tryz.prog 4 #[.slice A n cap] w fun e w' => e = .returned (.pointer (some ⟨w.heap.size, 0, none⟩)) ∧ Below w.heap.size w w' ∧ w'.heap.size = w.heap.size + 1 ∧ TinAt w' w.heap.size w.heap.size 0 := by
  go_enter Tryz.func4, Tryz.ntmps4
  go_wp2
  go_ret
  refine ⟨rfl, (Below.refl _ _).alloc (Nat.le_refl _) _, by simp, A, n, cap, 7640891576956012809, f, Nat.le_refl _, hn, h.keep fun b hb => Below.heap_alloc _ _ _ hb, ?_⟩
  exact heap_alloc_new w _

theorem at_any (A : Option Addr) (n cap B : Nat) (x : Int) (f : Nat → Int) (w : World) (hn : n ≤ 140737488351232) (h : Ints w B A n f) :
    Calls Tryz.prog 10 #[.slice A n cap, .int .i64 x] w fun e w' => ∃ v : Int, e = .returned (.int .i64 v) ∧ (∀ k : Nat, v = k → k < n ∧ f k = x) ∧ ((∀ k : Nat, v ≠ k) → v = -1 ∧ ∀ j, j < n → f j ≠ x) ∧ w = w' := by
  go_enter Tryz.func10, Tryz.ntmps10
  go_wp2
  go_loop [5] (fun i => ∃ k : Nat, k ≤ n ∧ i = .int .i64 k ∧ ∀ j, j < k → f j ≠ x) (fun i => n - (intOf i).toNat)
  case atStart => exact ⟨0, Nat.zero_le _, rfl, fun j hj => absurd hj (Nat.not_lt_zero _)⟩
  case round =>
    obtain ⟨k, hk, rfl, hf⟩ := hrel
    by_cases hlt : k < n
    · obtain ⟨ad, rfl, hb, hc⟩ := h (by omega)
      have hcell := hc k hlt
      clear hc hb h
      have HF := Go.Lib.hid hf; clear hf
      by_cases hx : f k = x
      · have hb : (f k == x) = true := by simp [hx]
        have HX := Go.Lib.hid hx; clear hx
        go_wp2
        go_ret
        exact ⟨k, rfl, fun m hm => (by have : m = k := by omega
                                       subst this; exact ⟨hlt, HX.out⟩), fun hm => absurd rfl (hm k), rfl⟩
      · have hb : (f k == x) = false := by simp [hx]
        have HX := Go.Lib.hid hx; clear hx
        go_wp2
        go_round
        case rel => exact ⟨k + 1, by omega, by go_num, fun j hj => (by
          rcases Nat.lt_succ_iff_lt_or_eq.1 hj with h | rfl
          · exact HF.out j h
          · exact HX.out)⟩
        case measure => simp [intOf]; omega
    · have HF := Go.Lib.hid hf; clear hf
      go_wp2
      go_ret
      exact ⟨-1, rfl, fun m hm => by omega, fun _ => ⟨rfl, fun j hj => HF.out j (by omega)⟩, rfl⟩

def SameInts (n m : Nat) (f f' : Nat → Int) : Prop := n = m ∧ ∀ j, j < n → f j = f' j
theorem likeInts_any (A A' : Option Addr) (n cap m cap' B B' : Nat) (f f' : Nat → Int) (w : World) (hn : n ≤ 140737488351232) (hm : m ≤ 140737488351232) (h : Ints w B A n f) (h' : Ints w B' A' m f') :
    Calls Tryz.prog 23 #[.slice A n cap, .slice A' m cap'] w fun e w' => ∃ b : Bool, e = .returned (.bool b) ∧ (b = true ↔ SameInts n m f f') ∧ ∃ d, w' = w.drewN d := by
  by_cases hnm : n = m
  · subst hnm
    go_enter Tryz.func23, Tryz.ntmps23
    go_wp2
    go_loopw [5] (fun i wr => ∃ k d : Nat, k ≤ n ∧ i = .int .i64 k ∧ wr = w.drewN d ∧ ∀ j, j < k → f j = f' j) (fun i _ => n - (intOf i).toNat)
    case atStart => exact ⟨0, 0, Nat.zero_le _, rfl, rfl, fun j hj => absurd hj (Nat.not_lt_zero _)⟩
    case round =>
      obtain ⟨k, d, hk, rfl, rfl, hf⟩ := hrel
      by_cases hlt : k < n
      · obtain ⟨ad, rfl, hb, hc⟩ := h (by omega)
        obtain ⟨ad', rfl, hb', hc'⟩ := h' (by omega)
        have hcell := hc k hlt
        have hcell' := hc' k hlt
        clear hc hb h hc' hb' h'
        have HF := Go.Lib.hid hf; clear hf
        by_cases hx : f k = f' k
        · have hb : (f k != f' k) = false := by simp [hx]
          have HX := Go.Lib.hid hx; clear hx
          go_wp2
          go_quiet (fail)
          go_wp2
          go_roundw
          case rel => exact ⟨k + 1, _, by omega, by go_num, rfl, fun j hj => (by
            rcases Nat.lt_succ_iff_lt_or_eq.1 hj with h | rfl
            · exact HF.out j h
            · exact HX.out)⟩
          case measure => simp [intOf]; omega
        · have hb : (f k != f' k) = true := by simp [hx]
          have HX := Go.Lib.hid hx; clear hx
          go_wp2
          go_quiet (fail)
          go_wp2
          go_ret
          exact ⟨false, rfl, ⟨fun e => (by cases e), fun e => absurd (e.2 k hlt) HX.out⟩, _, World.drewN_drewN _ _ _⟩
      · have HF := Go.Lib.hid hf; clear hf
        go_wp2
        go_ret
        exact ⟨true, rfl, ⟨fun _ => ⟨rfl, fun j hj => HF.out j (by omega)⟩, fun _ => rfl⟩, _, rfl⟩
  · have hb : ((n : Int) != (m : Int)) = true := by simp; omega
    have HX := Go.Lib.hid hnm; clear hnm
    go_enter Tryz.func23, Tryz.ntmps23
    go_wp2
    go_ret
    exact ⟨false, rfl, ⟨fun e => (by cases e), fun e => absurd e.1 HX.out⟩, 0, rfl⟩

end Go.Proofs.YtckchahangnfiaaGreatDoor
