/- TopStacked: the calls of its loops. -/
import Derived.Test.YtckchahangnfiaaGreatDoorTsD
namespace Go.Proofs.YtckchahangnfiaaGreatDoor
open Go.RowKit

theorem made_on {w W : World} {hs : List Int} {n cb cp cq : Nat} {Ab Ap Aq : Option Addr} (h : Made w hs n Ab Ap Aq cb cp cq W) (i xb xcap : Nat) (hi : i < n) (hxb : xb < W.heap.size) (hx : W.cell? ⟨xb, 0, none⟩ = some (.int .i64 i)) :
    Calls Tryz.prog 6 #[.agg #[.slice Aq n cq, .int .i64 2], .slice (some ⟨xb, 0, none⟩) 1 xcap] W (IntsOk (onList hs n i) W) := by
  obtain ⟨gq, rfl, h1, hP⟩ := h.parcels (by omega)
  refine (pOn_any gq n cq xcap xb i 2 _ _ _ W h.n5 hi h1 hxb (by omega) (by omega) hP hx (fun _ _ => by decide)).mono ?_
  rintro e w' ⟨A, cap, R, hR, he, hB, hI⟩
  subst hR
  exact ⟨A, cap, he, hB, hI⟩

theorem made_must {w W : World} {hs : List Int} {n cb cp cq : Nat} {Ab Ap Aq : Option Addr} (h : Made w hs n Ab Ap Aq cb cp cq W) (i k : Nat) (hik : i < k) (hk : k < n) (r : Int) (hr : (r = 1 ∧ hs.getD i 0 < hs.getD k 0) ∨ (r = 2 ∧ hs.getD k 0 ≤ hs.getD i 0)) :
    Calls Tryz.prog 7 #[.agg #[.slice (some ⟨w.heap.size + 1, 0, none⟩) 1 1, .slice Ab n cb, .slice Ap n cp], .int .i64 i, .int .i64 k] W fun e w' => e = .returned (.tuple #[.int .i64 r, .int .i64 0]) ∧ Below W.heap.size W w' := by
  obtain ⟨gb, gp, rfl, rfl, hS⟩ := h.shelfMem (by omega)
  rcases hr with ⟨rfl, h1⟩ | ⟨rfl, h1⟩
  · exact must_low _ _ _ _ n _ _ i k _ W hS hik hk h1
  · exact must_ge _ _ _ _ n _ _ i k _ W hS hik hk h1

theorem made_stands {w W : World} {hs : List Int} {n cb cp cq : Nat} {Ab Ap Aq : Option Addr} (h : Made w hs n Ab Ap Aq cb cp cq W) (i k xb xcap : Nat) (hik : i < k) (hk : k < n) (hxb : xb < W.heap.size) (hx : W.cell? ⟨xb, 0, none⟩ = some (.int .i64 i)) (hy : W.cell? ⟨xb, 1, none⟩ = some (.int .i64 k))
    (r : Int) (hr : (r = 1 ∧ hs.getD k 0 ≤ hs.getD i 0) ∨ (r = 2 ∧ hs.getD i 0 < hs.getD k 0)) :
    Calls Tryz.prog 9 #[.agg #[.slice Aq n cq, .int .i64 2], .slice (some ⟨xb, 0, none⟩) 2 xcap] W fun e w' => e = .returned (.tuple #[.int .i64 r, .int .i64 0]) ∧ Below W.heap.size W w' := by
  obtain ⟨gq, rfl, h1, hP⟩ := h.parcels (by omega)
  refine pStands_any gq n cq xcap xb i k 2 _ _ _ r W h.n5 (by omega) hk (by omega) h1 hxb (by omega) (by omega) hP hx hy (by decide) ?_
  rcases hr with ⟨rfl, h2⟩ | ⟨rfl, h2⟩
  · exact .inl ⟨rfl, by omega⟩
  · exact .inr ⟨rfl, by omega⟩

/-- The shelf of two. -/
structure TwoAt (W : World) (lb bb pb sb : Nat) (x y : Int) : Prop where
  lane : W.cell? ⟨lb, 0, none⟩ = some (.int .i64 9)
  bags : ∀ o, W.cell? ⟨bb, o, none⟩ = #[Value.int .i64 1, .int .i64 x, .int .i64 x, .int .i64 1, .int .i64 y, .int .i64 y][o]?
  plan : ∀ o, W.cell? ⟨pb, o, none⟩ = #[Value.int .i64 0, .int .i64 0][o]?
  shelf : ∀ o, W.cell? ⟨sb, o, none⟩ = #[Value.slice (some ⟨lb, 0, none⟩) 1 1, .slice (some ⟨bb, 0, none⟩) 2 2, .slice (some ⟨pb, 0, none⟩) 2 2][o]?
  lt : lb < W.heap.size ∧ bb < W.heap.size ∧ pb < W.heap.size ∧ sb < W.heap.size
theorem two_quiet {W : World} {lb bb pb sb : Nat} {x y : Int} (h : TwoAt W lb bb pb sb x y) (hx : 0 ≤ x ∧ x ≤ 6) (hy : 0 ≤ y ∧ y ≤ 6) (r : Nat) (hr : (r = 1 ∧ y ≤ x) ∨ (r = 0 ∧ x < y)) :
    Calls Tryz.prog 8 #[.agg #[.slice (some ⟨lb, 0, none⟩) 1 1, .slice (some ⟨bb, 0, none⟩) 2 2, .slice (some ⟨pb, 0, none⟩) 2 2]] W (ListOk r W) := by
  have two : ∀ {p : Nat → Prop}, p 0 → p 1 → ∀ j, j < 2 → p j := fun a b j hj => by
    rcases (show j = 0 ∨ j = 1 by omega) with rfl | rfl <;> assumption
  have hS : ShelfMem W lb bb pb 2 2 (fun j => if j = 0 then x else y) :=
    ⟨by omega, by omega, by omega, h.lt.1, h.lt.2.1, h.lt.2.2.1, ⟨9, by omega, by omega, h.lane⟩, ⟨two (h.bags 0) (h.bags 3), two (h.bags 1) (h.bags 4), two (h.bags 2) (h.bags 5), fun j _ => by split <;> omega, fun j _ => by split <;> omega⟩, two (h.plan 0) (h.plan 1)⟩
  rcases hr with ⟨rfl, h1⟩ | ⟨rfl, h1⟩
  · exact Quiet_yes lb bb pb 1 2 2 _ W hS (by simpa using h1)
  · exact Quiet_no lb bb pb 1 2 2 _ W hS (by simpa using h1)

end Go.Proofs.YtckchahangnfiaaGreatDoor
