/- THE KIT's TIN: '(*Tin).next' returns some uint64, and turns the tin's own block alone. -/
import Derived.Test.YtckchahangnfiaaGreatDoorProg
import Derived.WalkKit
import Derived.WalkSpells
import Derived.WalkLawsBesides
import Derived.BigQuiet
import Derived.Deep.QuietTactic
namespace Go.Proofs.YtckchahangnfiaaGreatDoor
open Go.RowKit

theorem setCell_twice (w : World) (b o : Nat) (u v : Value) : (w.setCell ⟨b, o, none⟩ u).setCell ⟨b, o, none⟩ v = w.setCell ⟨b, o, none⟩ v := by
  simp only [World.setCell]
  congr 1
  apply Array.ext_getElem?
  intro i
  rw [Array.getElem?_modify, Array.getElem?_modify, Array.getElem?_modify]
  by_cases h : b = i
  · simp only [if_pos h, Option.map_map]
    congr 1
    funext x
    cases x <;> simp
  · simp only [if_neg h]

theorem wrap_u64_ge (n : Int) : 0 ≤ IntKind.u64.wrap n ∧ IntKind.u64.wrap n < 18446744073709551616 := by rw [IntKind.wrap_u64]; omega
theorem bits_u64_ge (o : BinOp) (a b : Int) : 0 ≤ bits o .u64 a b ∧ bits o .u64 a b < 18446744073709551616 := by
  unfold bits
  exact wrap_u64_ge _

/-- Only block 'tb' has turned. -/
structure Only (tb : Nat) (w w' : World) : Prop where
  size : w'.heap.size = w.heap.size
  block : ∀ b, b ≠ tb → w'.heap[b]? = w.heap[b]?
  tape : w'.tape = w.tape
  os : w'.os = w.os
  output : w'.output = w.output

theorem Only.refl (tb : Nat) (w : World) : Only tb w w := ⟨rfl, fun _ _ => rfl, rfl, rfl, rfl⟩
theorem Only.trans {tb : Nat} {a b c : World} (h : Only tb a b) (k : Only tb b c) : Only tb a c :=
  ⟨k.size.trans h.size, fun i hi => (k.block i hi).trans (h.block i hi), k.tape.trans h.tape, k.os.trans h.os, k.output.trans h.output⟩
theorem Only.cell {tb : Nat} {w w' : World} (h : Only tb w w') {a : Addr} (ha : a.block ≠ tb) : w'.cell? a = w.cell? a := by
  unfold World.cell?; rw [h.block _ ha]
theorem Only.frozen {tb : Nat} {w w' : World} (h : Only tb w w') {a : Addr} (ha : a.block ≠ tb) : w'.frozen? a = w.frozen? a := by
  unfold World.frozen?; rw [h.block _ ha]

theorem block_add (a : Addr) (n : Nat) : (a.add n).block = a.block := by unfold Addr.add; split <;> rfl

/-- A slice of ints that reads, below block B. -/
def Ints (w : World) (B : Nat) (A : Option Addr) (n : Nat) (f : Nat → Int) : Prop :=
  0 < n → ∃ ad, A = some ad ∧ ad.block < B ∧ ∀ j, j < n → w.cell? (ad.add j) = some (.int .i64 (f j))
theorem Ints.keep {w w' : World} {B n : Nat} {A : Option Addr} {f : Nat → Int} (h : Ints w B A n f) (hk : ∀ b, b < B → w'.heap[b]? = w.heap[b]?) : Ints w' B A n f := fun h0 => by
  obtain ⟨ad, e, hb, hc⟩ := h h0
  exact ⟨ad, e, hb, fun j hj => by rw [← hc j hj]; unfold World.cell?; rw [block_add, hk _ hb]⟩

/-- A tin stands in block tb, with 'g' numbers given. -/
def TinAt (w : World) (B tb g : Nat) : Prop :=
  ∃ (A : Option Addr) (n cap : Nat) (s : Int) (f : Nat → Int), B ≤ tb ∧ n ≤ 140737488351232 ∧ Ints w B A n f ∧ w.heap[tb]? = some (.cells #[.slice A n cap, .int .i64 g, .int .u64 s] 50 (0, 0))

theorem TinAt.keep {w w' : World} {B tb g : Nat} (h : TinAt w B tb g) (hk : ∀ b, b < B ∨ b = tb → w'.heap[b]? = w.heap[b]?) : TinAt w' B tb g := by
  obtain ⟨A, n, cap, s, f, h1, h2, h3, h4⟩ := h
  exact ⟨A, n, cap, s, f, h1, h2, h3.keep (fun b hb => hk b (.inl hb)), (hk tb (.inr rfl)).trans h4⟩
theorem TinAt.lt {w : World} {B tb g : Nat} (h : TinAt w B tb g) : tb < w.heap.size := by
  obtain ⟨A, n, cap, s, f, h1, h2, h3, h4⟩ := h
  exact (Array.getElem?_eq_some_iff.1 h4).1

section
variable {w : World} {tb T : Nat} {c : Array Value}
theorem cell_of_heap (h : w.heap[tb]? = some (.cells c T (0, 0))) (i : Nat) : w.cell? ⟨tb, i, none⟩ = c[i]? := by simp [World.cell?, h]
theorem free_of_heap (h : w.heap[tb]? = some (.cells c T (0, 0))) (i : Nat) : w.frozen? ⟨tb, i, none⟩ = false := by simp [World.frozen?, h]
theorem heap_set (h : w.heap[tb]? = some (.cells c T (0, 0))) (i : Nat) (v : Value) : (w.setCell ⟨tb, i, none⟩ v).heap[tb]? = some (.cells (c.setIfInBounds i v) T (0, 0)) := by
  simp [World.setCell, Array.getElem?_modify, h]
end

/-- What 'next' leaves. -/
theorem tin_after {w w' : World} {tb T : Nat} {A : Option Addr} {n cap g : Nat} {s y : Int} (h : w.heap[tb]? = some (.cells #[.slice A n cap, .int .i64 g, .int .u64 s] T (0, 0)))
    (hh : w'.heap = ((w.setCell ⟨tb, 1, none⟩ (.int .i64 (↑g + 1))).setCell ⟨tb, 2, none⟩ (.int .u64 y)).heap) (ht : w'.tape = w.tape) (ho : w'.os = w.os) (hu : w'.output = w.output) :
    Only tb w w' ∧ w'.heap[tb]? = some (.cells #[.slice A n cap, .int .i64 ((g + 1 : Nat) : Int), .int .u64 y] T (0, 0)) := by
  refine ⟨⟨by rw [hh]; simp [World.setCell], fun b hb => ?_, ht, ho, hu⟩, ?_⟩
  · rw [hh]
    simp only [World.setCell, Array.getElem?_modify, if_neg (Ne.symm hb)]
  · rw [hh, heap_set (heap_set h 1 _) 2 _]
    rfl

attribute [local go_sem] setCell_twice

theorem next_read (tb : Nat) (A : Addr) (n cap g : Nat) (s z : Int) (w : World) (hg : g < n) (_hn : n ≤ 140737488351232)
    (h0 : w.cell? ⟨tb, 0, none⟩ = some (.slice (some A) n cap)) (h1 : w.cell? ⟨tb, 1, none⟩ = some (.int .i64 g)) (h2 : w.cell? ⟨tb, 2, none⟩ = some (.int .u64 s))
    (f1 : w.frozen? ⟨tb, 1, none⟩ = false) (f2 : w.frozen? ⟨tb, 2, none⟩ = false) (hz : w.cell? (A.add g) = some (.int .i64 z)) :
    Calls Tryz.prog 12 #[.pointer (some ⟨tb, 0, none⟩)] w fun e w' => ∃ x y : Int, 0 ≤ x ∧ e = .returned (.int .u64 x) ∧
      w'.heap = ((w.setCell ⟨tb, 1, none⟩ (.int .i64 (↑g + 1))).setCell ⟨tb, 2, none⟩ (.int .u64 y)).heap ∧ w'.tape = w.tape ∧ w'.os = w.os ∧ w'.output = w.output := by
  go_enter Tryz.func12, Tryz.ntmps12
  go_wp2_with fail
  go_quiet (fail)
  go_wp2_with fail
  go_quiet (fail)
  go_wp2_with fail
  go_region
  go_wp2
  go_ret
  exact ⟨_, _, Int.ediv_nonneg (bits_u64_ge _ _ _).1 (by omega), rfl, rfl, rfl, rfl, rfl⟩

theorem next_past (tb : Nat) (A : Option Addr) (n cap g : Nat) (s : Int) (w : World) (hg : ¬ g < n) (_hn : n ≤ 140737488351232) (hgm : g < 4611686018427387904)
    (h0 : w.cell? ⟨tb, 0, none⟩ = some (.slice A n cap)) (h1 : w.cell? ⟨tb, 1, none⟩ = some (.int .i64 g)) (h2 : w.cell? ⟨tb, 2, none⟩ = some (.int .u64 s))
    (f1 : w.frozen? ⟨tb, 1, none⟩ = false) (f2 : w.frozen? ⟨tb, 2, none⟩ = false) :
    Calls Tryz.prog 12 #[.pointer (some ⟨tb, 0, none⟩)] w fun e w' => ∃ x y : Int, 0 ≤ x ∧ e = .returned (.int .u64 x) ∧
      w'.heap = ((w.setCell ⟨tb, 1, none⟩ (.int .i64 (↑g + 1))).setCell ⟨tb, 2, none⟩ (.int .u64 y)).heap ∧ w'.tape = w.tape ∧ w'.os = w.os ∧ w'.output = w.output := by
  go_enter Tryz.func12, Tryz.ntmps12
  go_wp2_with fail
  go_quiet (fail)
  go_wp2_with fail
  go_region
  go_wp2
  go_ret
  exact ⟨_, _, Int.ediv_nonneg (bits_u64_ge _ _ _).1 (by omega), rfl, rfl, rfl, rfl, rfl⟩

theorem next_any (B tb g : Nat) (w : World) (hgm : g < 4611686018427387904) (h : TinAt w B tb g) :
    Calls Tryz.prog 12 #[.pointer (some ⟨tb, 0, none⟩)] w fun e w' => ∃ x : Int, 0 ≤ x ∧ e = .returned (.int .u64 x) ∧ Only tb w w' ∧ TinAt w' B tb (g + 1) := by
  obtain ⟨A, n, cap, s, f, h1, h2, h3, h4⟩ := h
  have post : ∀ e w', (∃ x y : Int, 0 ≤ x ∧ e = Ending.returned (.int .u64 x) ∧ w'.heap = ((w.setCell ⟨tb, 1, none⟩ (.int .i64 (↑g + 1))).setCell ⟨tb, 2, none⟩ (.int .u64 y)).heap ∧ w'.tape = w.tape ∧ w'.os = w.os ∧ w'.output = w.output) →
      ∃ x : Int, 0 ≤ x ∧ e = .returned (.int .u64 x) ∧ Only tb w w' ∧ TinAt w' B tb (g + 1) := by
    rintro e w' ⟨x, y, hx, he, a, b, c, d⟩
    obtain ⟨ho, ht⟩ := tin_after h4 a b c d
    exact ⟨x, hx, he, ho, A, n, cap, y, f, h1, h2, h3.keep (fun b hb => ho.block b (by omega)), ht⟩
  by_cases hg : g < n
  · obtain ⟨ad, rfl, hb, hc⟩ := h3 (by omega)
    exact (next_read tb ad n cap g s (f g) w hg h2 (cell_of_heap h4 0) (cell_of_heap h4 1) (cell_of_heap h4 2) (free_of_heap h4 1) (free_of_heap h4 2) (hc g hg)).mono post
  · exact (next_past tb A n cap g s w hg h2 hgm (cell_of_heap h4 0) (cell_of_heap h4 1) (cell_of_heap h4 2) (free_of_heap h4 1) (free_of_heap h4 2)).mono post

end Go.Proofs.YtckchahangnfiaaGreatDoor
