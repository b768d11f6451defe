/- THE KIT's TIN: '(*Tin).next' returns some uint64, and turns the tin's own block alone. -/
/- THE KIT's TIN: Upto, Within, Rarely, NewTin; At, LikeInts. -/
/- THE KIT's TIN: Within, Rarely. -/
import Derived.Test.YtoobopohohoidaaGreatDoorGen
import Derived.Lib.Hide
set_option linter.unusedSimpArgs false
set_option linter.unusedVariables false
namespace Go.Proofs.YtoobopohohoidaaGreatDoor
open Go.RowKit

theorem setCell_twice (w : World) (b o : Nat) (u v : Value) : (w.setCell ⟨b, o, none⟩ u).setCell ⟨b, o, none⟩ v = w.setCell ⟨b, o, none⟩ v := by
  simp only [World.setCell]
  congr 1
  apply Array.ext_getElem?
  intro i
  rw [Array.getElem?_modify, Array.getElem?_modify, Array.getElem?_modify]
  by_cases h : b = i
  · simp only [if_pos h, Option.map_map]
    congr 1
    funext x
    cases x <;> simp
  · simp only [if_neg h]

theorem wrap_u64_ge (n : Int) : 0 ≤ IntKind.u64.wrap n ∧ IntKind.u64.wrap n < 18446744073709551616 := by rw [IntKind.wrap_u64]; omega
theorem bits_u64_ge (o : BinOp) (a b : Int) : 0 ≤ bits o .u64 a b ∧ bits o .u64 a b < 18446744073709551616 := by
  unfold bits
  exact wrap_u64_ge _

/-- Only block 'tb' has turned. -/
structure Only (tb : Nat) (w w' : World) : Prop where
  size : w'.heap.size = w.heap.size
  block : ∀ b, b ≠ tb → w'.heap[b]? = w.heap[b]?
  tape : w'.tape = w.tape
  os : w'.os = w.os
  output : w'.output = w.output

theorem Only.refl (tb : Nat) (w : World) : Only tb w w := ⟨rfl, fun _ _ => rfl, rfl, rfl, rfl⟩
theorem Only.trans {tb : Nat} {a b c : World} (h : Only tb a b) (k : Only tb b c) : Only tb a c :=
  ⟨k.size.trans h.size, fun i hi => (k.block i hi).trans (h.block i hi), k.tape.trans h.tape, k.os.trans h.os, k.output.trans h.output⟩
theorem Only.cell {tb : Nat} {w w' : World} (h : Only tb w w') {a : Addr} (ha : a.block ≠ tb) : w'.cell? a = w.cell? a := by
  unfold World.cell?; rw [h.block _ ha]
theorem Only.frozen {tb : Nat} {w w' : World} (h : Only tb w w') {a : Addr} (ha : a.block ≠ tb) : w'.frozen? a = w.frozen? a := by
  unfold World.frozen?; rw [h.block _ ha]

/-- A tin stands in block tb, with 'g' numbers given. -/
def TinAt (w : World) (B tb g : Nat) : Prop :=
  ∃ (A : Option Addr) (n cap : Nat) (s : Int) (f : Nat → Int), B ≤ tb ∧ n ≤ 140737488351232 ∧ Ints w B A n f ∧ w.heap[tb]? = some (.cells #[.slice A n cap, .int .i64 g, .int .u64 s] 50 (0, 0))

theorem TinAt.keep {w w' : World} {B tb g : Nat} (h : TinAt w B tb g) (hk : ∀ b, b < B ∨ b = tb → w'.heap[b]? = w.heap[b]?) : TinAt w' B tb g := by
  obtain ⟨A, n, cap, s, f, h1, h2, h3, h4⟩ := h
  exact ⟨A, n, cap, s, f, h1, h2, h3.keep (fun b hb => hk b (.inl hb)), (hk tb (.inr rfl)).trans h4⟩
theorem TinAt.lt {w : World} {B tb g : Nat} (h : TinAt w B tb g) : tb < w.heap.size := by
  obtain ⟨A, n, cap, s, f, h1, h2, h3, h4⟩ := h
  exact (Array.getElem?_eq_some_iff.1 h4).1

section
variable {w : World} {tb T : Nat} {c : Array Value}
theorem cell_of_heap (h : w.heap[tb]? = some (.cells c T (0, 0))) (i : Nat) : w.cell? ⟨tb, i, none⟩ = c[i]? := by simp [World.cell?, h]
theorem free_of_heap (h : w.heap[tb]? = some (.cells c T (0, 0))) (i : Nat) : w.frozen? ⟨tb, i, none⟩ = false := by simp [World.frozen?, h]
theorem heap_set (h : w.heap[tb]? = some (.cells c T (0, 0))) (i : Nat) (v : Value) : (w.setCell ⟨tb, i, none⟩ v).heap[tb]? = some (.cells (c.setIfInBounds i v) T (0, 0)) := by
  simp [World.setCell, Array.getElem?_modify, h]
end

/-- What 'next' leaves. -/
theorem tin_after {w w' : World} {tb T : Nat} {A : Option Addr} {n cap g : Nat} {s y : Int} (h : w.heap[tb]? = some (.cells #[.slice A n cap, .int .i64 g, .int .u64 s] T (0, 0)))
    (hh : w'.heap = ((w.setCell ⟨tb, 1, none⟩ (.int .i64 (↑g + 1))).setCell ⟨tb, 2, none⟩ (.int .u64 y)).heap) (ht : w'.tape = w.tape) (ho : w'.os = w.os) (hu : w'.output = w.output) :
    Only tb w w' ∧ w'.heap[tb]? = some (.cells #[.slice A n cap, .int .i64 ((g + 1 : Nat) : Int), .int .u64 y] T (0, 0)) := by
  refine ⟨⟨by rw [hh]; simp [World.setCell], fun b hb => ?_, ht, ho, hu⟩, ?_⟩
  · rw [hh]
    simp only [World.setCell, Array.getElem?_modify, if_neg (Ne.symm hb)]
  · rw [hh, heap_set (heap_set h 1 _) 2 _]
    rfl

attribute [local go_sem] setCell_twice

theorem next_read (tb : Nat) (A : Addr) (n cap g : Nat) (s z : Int) (w : World) (hg : g < n) (_hn : n ≤ 140737488351232)
    (h0 : w.cell? ⟨tb, 0, none⟩ = some (.slice (some A) n cap)) (h1 : w.cell? ⟨tb, 1, none⟩ = some (.int .i64 g)) (h2 : w.cell? ⟨tb, 2, none⟩ = some (.int .u64 s))
    (f1 : w.frozen? ⟨tb, 1, none⟩ = false) (f2 : w.frozen? ⟨tb, 2, none⟩ = false) (hz : w.cell? (A.add g) = some (.int .i64 z)) :
    Calls Tryz.prog 28 #[.pointer (some ⟨tb, 0, none⟩)] w fun e w' => ∃ x y : Int, 0 ≤ x ∧ e = .returned (.int .u64 x) ∧
      w'.heap = ((w.setCell ⟨tb, 1, none⟩ (.int .i64 (↑g + 1))).setCell ⟨tb, 2, none⟩ (.int .u64 y)).heap ∧ w'.tape = w.tape ∧ w'.os = w.os ∧ w'.output = w.output := by
  go_enter Tryz.func28, Tryz.ntmps28
  go_wp2_with fail
  go_quiet (fail)
  go_wp2_with fail
  go_quiet (fail)
  go_wp2_with fail
  go_region
  go_wp2
  go_ret
  exact ⟨_, _, Int.ediv_nonneg (bits_u64_ge _ _ _).1 (by omega), rfl, rfl, rfl, rfl, rfl⟩

theorem next_past (tb : Nat) (A : Option Addr) (n cap g : Nat) (s : Int) (w : World) (hg : ¬ g < n) (_hn : n ≤ 140737488351232) (hgm : g < 4611686018427387904)
    (h0 : w.cell? ⟨tb, 0, none⟩ = some (.slice A n cap)) (h1 : w.cell? ⟨tb, 1, none⟩ = some (.int .i64 g)) (h2 : w.cell? ⟨tb, 2, none⟩ = some (.int .u64 s))
    (f1 : w.frozen? ⟨tb, 1, none⟩ = false) (f2 : w.frozen? ⟨tb, 2, none⟩ = false) :
    Calls Tryz.prog 28 #[.pointer (some ⟨tb, 0, none⟩)] w fun e w' => ∃ x y : Int, 0 ≤ x ∧ e = .returned (.int .u64 x) ∧
      w'.heap = ((w.setCell ⟨tb, 1, none⟩ (.int .i64 (↑g + 1))).setCell ⟨tb, 2, none⟩ (.int .u64 y)).heap ∧ w'.tape = w.tape ∧ w'.os = w.os ∧ w'.output = w.output := by
  go_enter Tryz.func28, Tryz.ntmps28
  go_wp2_with fail
  go_quiet (fail)
  go_wp2_with fail
  go_region
  go_wp2
  go_ret
  exact ⟨_, _, Int.ediv_nonneg (bits_u64_ge _ _ _).1 (by omega), rfl, rfl, rfl, rfl, rfl⟩

theorem next_any (B tb g : Nat) (w : World) (hgm : g < 4611686018427387904) (h : TinAt w B tb g) :
    Calls Tryz.prog 28 #[.pointer (some ⟨tb, 0, none⟩)] w fun e w' => ∃ x : Int, 0 ≤ x ∧ e = .returned (.int .u64 x) ∧ Only tb w w' ∧ TinAt w' B tb (g + 1) := by
  obtain ⟨A, n, cap, s, f, h1, h2, h3, h4⟩ := h
  have post : ∀ e w', (∃ x y : Int, 0 ≤ x ∧ e = Ending.returned (.int .u64 x) ∧ w'.heap = ((w.setCell ⟨tb, 1, none⟩ (.int .i64 (↑g + 1))).setCell ⟨tb, 2, none⟩ (.int .u64 y)).heap ∧ w'.tape = w.tape ∧ w'.os = w.os ∧ w'.output = w.output) →
      ∃ x : Int, 0 ≤ x ∧ e = .returned (.int .u64 x) ∧ Only tb w w' ∧ TinAt w' B tb (g + 1) := by
    rintro e w' ⟨x, y, hx, he, a, b, c, d⟩
    obtain ⟨ho, ht⟩ := tin_after h4 a b c d
    exact ⟨x, hx, he, ho, A, n, cap, y, f, h1, h2, h3.keep (fun b hb => ho.block b (by omega)), ht⟩
  by_cases hg : g < n
  · obtain ⟨ad, rfl, hb, hc⟩ := h3 (by omega)
    exact (next_read tb ad n cap g s (f g) w hg h2 (cell_of_heap h4 0) (cell_of_heap h4 1) (cell_of_heap h4 2) (free_of_heap h4 1) (free_of_heap h4 2) (hc g hg)).mono post
  · exact (next_past tb A n cap g s w hg h2 hgm (cell_of_heap h4 0) (cell_of_heap h4 1) (cell_of_heap h4 2) (free_of_heap h4 1) (free_of_heap h4 2)).mono post

end Go.Proofs.YtoobopohohoidaaGreatDoor

namespace Go.Proofs.YtoobopohohoidaaGreatDoor
open Go.RowKit

theorem upto_any (B tb g : Nat) (n : Int) (w : World) (hgm : g < 4611686018427387904) (hn : n ≤ 4611686018427387904) (hn0 : -9223372036854775808 ≤ n) (h : TinAt w B tb g) :
    Calls Tryz.prog 11 #[.pointer (some ⟨tb, 0, none⟩), .int .i64 n] w fun e w' => ∃ v : Nat, (v : Int) ≤ max n 0 ∧ e = .returned (.int .i64 v) ∧ Only tb w w' ∧ TinAt w' B tb (g + 1) := by
  by_cases hlt : n < 1
  · go_enter Tryz.func11, Tryz.ntmps11
    go_wp2_with (go_at_call 28; refine (next_any B tb g _ hgm h).mono ?_; rintro e w' ⟨x, hx, rfl, ho, ht⟩)
    go_ret
    exact ⟨0, by omega, rfl, ho, ht⟩
  · have h1 : 1 ≤ n := by omega
    clear hlt
    go_enter Tryz.func11, Tryz.ntmps11
    go_wp2_with (go_at_call 28; refine (next_any B tb g _ hgm h).mono ?_; rintro e w' ⟨x, hx, rfl, ho, ht⟩)
    go_ret
    refine ⟨(x % (n + 1)).toNat, ?_, ?_, ho, ht⟩
    · have h2 := Int.emod_lt_of_pos x (show 0 < n + 1 by omega)
      have h3 := Int.emod_nonneg x (show n + 1 ≠ 0 by omega)
      omega
    · have h2 := Int.emod_lt_of_pos x (show 0 < n + 1 by omega)
      have h3 := Int.emod_nonneg x (show n + 1 ≠ 0 by omega)
      show Ending.returned (.int .i64 (wrap64 (x % (n + 1)))) = _
      rw [IntWalk.wrap64_in _ ⟨by omega, by omega⟩, Int.toNat_of_nonneg h3]

/-- 'NewTin': a block more, which is a tin. -/
theorem newTin_any (A : Option Addr) (n cap : Nat) (f : Nat → Int) (w : World) (hn : n ≤ 140737488351232) (h : Ints w w.heap.size A n f) :
    Calls Tryz.prog 5 #[.slice A n cap] w fun e w' => e = .returned (.pointer (some ⟨w.heap.size, 0, none⟩)) ∧ Below w.heap.size w w' ∧ w'.heap.size = w.heap.size + 1 ∧ TinAt w' w.heap.size w.heap.size 0 := by
  go_enter Tryz.func5, Tryz.ntmps5
  go_wp2
  go_ret
  refine ⟨rfl, (Below.refl _ _).alloc (Nat.le_refl _) _, by simp, A, n, cap, 7640891576956012809, f, Nat.le_refl _, hn, h.keep fun b hb => Below.heap_alloc _ _ _ hb, ?_⟩
  exact heap_alloc_new w _

theorem at_any (A : Option Addr) (n cap B : Nat) (x : Int) (f : Nat → Int) (w : World) (hn : n ≤ 140737488351232) (h : Ints w B A n f) :
    Calls Tryz.prog 44 #[.slice A n cap, .int .i64 x] w fun e w' => ∃ v : Int, e = .returned (.int .i64 v) ∧ (∀ k : Nat, v = k → k < n ∧ f k = x) ∧ ((∀ k : Nat, v ≠ k) → v = -1 ∧ ∀ j, j < n → f j ≠ x) ∧ w = w' := by
  go_enter Tryz.func44, Tryz.ntmps44
  go_wp2
  go_loop [5] (fun i => ∃ k : Nat, k ≤ n ∧ i = .int .i64 k ∧ ∀ j, j < k → f j ≠ x) (fun i => n - (intOf i).toNat)
  case atStart => exact ⟨0, Nat.zero_le _, rfl, fun j hj => absurd hj (Nat.not_lt_zero _)⟩
  case round =>
    obtain ⟨k, hk, rfl, hf⟩ := hrel
    by_cases hlt : k < n
    · obtain ⟨ad, rfl, hb, hc⟩ := h (by omega)
      have hcell := hc k hlt
      clear hc hb h
      have HF := Go.Lib.hid hf; clear hf
      by_cases hx : f k = x
      · have hb : (f k == x) = true := by simp [hx]
        have HX := Go.Lib.hid hx; clear hx
        go_wp2
        go_ret
        exact ⟨k, rfl, fun m hm => (by have : m = k := by omega
                                       subst this; exact ⟨hlt, HX.out⟩), fun hm => absurd rfl (hm k), rfl⟩
      · have hb : (f k == x) = false := by simp [hx]
        have HX := Go.Lib.hid hx; clear hx
        go_wp2
        go_round
        case rel => exact ⟨k + 1, by omega, by go_num, fun j hj => (by
          rcases Nat.lt_succ_iff_lt_or_eq.1 hj with h | rfl
          · exact HF.out j h
          · exact HX.out)⟩
        case measure => simp [intOf]; omega
    · have HF := Go.Lib.hid hf; clear hf
      go_wp2
      go_ret
      exact ⟨-1, rfl, fun m hm => by omega, fun _ => ⟨rfl, fun j hj => HF.out j (by omega)⟩, rfl⟩

def SameInts (n m : Nat) (f f' : Nat → Int) : Prop := n = m ∧ ∀ j, j < n → f j = f' j
theorem likeInts_any (A A' : Option Addr) (n cap m cap' B B' : Nat) (f f' : Nat → Int) (w : World) (hn : n ≤ 140737488351232) (hm : m ≤ 140737488351232) (h : Ints w B A n f) (h' : Ints w B' A' m f') :
    Calls Tryz.prog 23 #[.slice A n cap, .slice A' m cap'] w fun e w' => ∃ b : Bool, e = .returned (.bool b) ∧ (b = true ↔ SameInts n m f f') ∧ ∃ d, w' = w.drewN d := by
  by_cases hnm : n = m
  · subst hnm
    go_enter Tryz.func23, Tryz.ntmps23
    go_wp2
    go_loopw [5] (fun i wr => ∃ k d : Nat, k ≤ n ∧ i = .int .i64 k ∧ wr = w.drewN d ∧ ∀ j, j < k → f j = f' j) (fun i _ => n - (intOf i).toNat)
    case atStart => exact ⟨0, 0, Nat.zero_le _, rfl, rfl, fun j hj => absurd hj (Nat.not_lt_zero _)⟩
    case round =>
      obtain ⟨k, d, hk, rfl, rfl, hf⟩ := hrel
      by_cases hlt : k < n
      · obtain ⟨ad, rfl, hb, hc⟩ := h (by omega)
        obtain ⟨ad', rfl, hb', hc'⟩ := h' (by omega)
        have hcell := hc k hlt
        have hcell' := hc' k hlt
        clear hc hb h hc' hb' h'
        have HF := Go.Lib.hid hf; clear hf
        by_cases hx : f k = f' k
        · have hb : (f k != f' k) = false := by simp [hx]
          have HX := Go.Lib.hid hx; clear hx
          go_wp2
          go_quiet (fail)
          go_wp2
          go_roundw
          case rel => exact ⟨k + 1, _, by omega, by go_num, rfl, fun j hj => (by
            rcases Nat.lt_succ_iff_lt_or_eq.1 hj with h | rfl
            · exact HF.out j h
            · exact HX.out)⟩
          case measure => simp [intOf]; omega
        · have hb : (f k != f' k) = true := by simp [hx]
          have HX := Go.Lib.hid hx; clear hx
          go_wp2
          go_quiet (fail)
          go_wp2
          go_ret
          exact ⟨false, rfl, ⟨fun e => (by cases e), fun e => absurd (e.2 k hlt) HX.out⟩, _, World.drewN_drewN _ _ _⟩
      · have HF := Go.Lib.hid hf; clear hf
        go_wp2
        go_ret
        exact ⟨true, rfl, ⟨fun _ => ⟨rfl, fun j hj => HF.out j (by omega)⟩, fun _ => rfl⟩, _, rfl⟩
  · have hb : ((n : Int) != (m : Int)) = true := by simp; omega
    have HX := Go.Lib.hid hnm; clear hnm
    go_enter Tryz.func23, Tryz.ntmps23
    go_wp2
    go_ret
    exact ⟨false, rfl, ⟨fun e => (by cases e), fun e => absurd e.1 HX.out⟩, 0, rfl⟩

end Go.Proofs.YtoobopohohoidaaGreatDoor

namespace Go.Proofs.YtoobopohohoidaaGreatDoor
open Go.RowKit

theorem within_any (B tb g : Nat) (lo hi : Int) (w : World) (hgm : g < 4611686018427387904) (h1 : -1048576 ≤ lo) (h2 : lo ≤ 1048576) (h3 : -1048576 ≤ hi) (h4 : hi ≤ 1048576) (h : TinAt w B tb g) :
    Calls Tryz.prog 13 #[.pointer (some ⟨tb, 0, none⟩), .int .i64 lo, .int .i64 hi] w fun e w' => ∃ v : Int, lo ≤ v ∧ v ≤ max lo hi ∧ e = .returned (.int .i64 v) ∧ Only tb w w' ∧ TinAt w' B tb (g + 1) := by
  go_enter Tryz.func13, Tryz.ntmps13
  go_wp2_with (go_at_call 11; refine (upto_any B tb g _ _ hgm (by omega) (by omega) h).mono ?_; rintro e w' ⟨v, hv, rfl, ho, ht⟩)
  go_ret
  exact ⟨lo + v, by omega, by omega, rfl, ho, ht⟩

theorem rarely_any (B tb g : Nat) (n : Int) (w : World) (hgm : g < 4611686018427387904) (h1 : -1048576 ≤ n) (h2 : n ≤ 1048576) (h : TinAt w B tb g) :
    Calls Tryz.prog 43 #[.pointer (some ⟨tb, 0, none⟩), .int .i64 n] w fun e w' => ∃ b : Bool, e = .returned (.bool b) ∧ Only tb w w' ∧ TinAt w' B tb (g + 1) := by
  go_enter Tryz.func43, Tryz.ntmps43
  go_wp2_with (go_at_call 11; refine (upto_any B tb g _ _ hgm (by omega) (by omega) h).mono ?_; rintro e w' ⟨v, hv, rfl, ho, ht⟩)
  go_ret
  exact ⟨_, rfl, ho, ht⟩

end Go.Proofs.YtoobopohohoidaaGreatDoor
