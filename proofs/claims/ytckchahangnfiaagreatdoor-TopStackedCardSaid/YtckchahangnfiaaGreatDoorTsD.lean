/- TopStacked: what the pieces that were made say to shelf and pile. -/
import Derived.Test.YtckchahangnfiaaGreatDoorTsC
namespace Go.Proofs.YtckchahangnfiaaGreatDoor
open Go.RowKit

theorem bagCells_at : ∀ (hs : List Int) (j : Nat), j < hs.length → (bagCells hs)[j * 3]? = some (.int .i64 1) ∧ (bagCells hs)[j * 3 + 1]? = some (.int .i64 (hs.getD j 0)) ∧ (bagCells hs)[j * 3 + 2]? = some (.int .i64 (hs.getD j 0))
  | h :: t, 0, _ => by simp [bagCells]
  | h :: t, j + 1, hj => by
    have ih := bagCells_at t j (by simpa using hj)
    have e : bagCells (h :: t) = .int .i64 1 :: .int .i64 h :: .int .i64 h :: bagCells t := by simp [bagCells]
    rw [e, show (j + 1) * 3 = j * 3 + 1 + 1 + 1 by omega]
    simpa using ih
theorem parCells_at : ∀ (hs : List Int) (j : Nat), j < hs.length → (parCells hs)[j * 4]? = some (.int .i64 (hs.getD j 0 + 1)) ∧ (parCells hs)[j * 4 + 1]? = some (.int .i64 (hs.getD j 0 + 1)) ∧ (parCells hs)[j * 4 + 2]? = some (.int .i64 (hs.getD j 0 + 1)) ∧ (parCells hs)[j * 4 + 3]? = some (.int .i64 1)
  | h :: t, 0, _ => by simp [parCells]
  | h :: t, j + 1, hj => by
    have ih := parCells_at t j (by simpa using hj)
    have e : parCells (h :: t) = .int .i64 (h + 1) :: .int .i64 (h + 1) :: .int .i64 (h + 1) :: .int .i64 1 :: parCells t := by simp [parCells]
    rw [e, show (j + 1) * 4 = j * 4 + 1 + 1 + 1 + 1 by omega]
    simpa using ih

/-- A slice of so many, as its owner sees it. -/
def Slc (W : World) (base size : Nat) (A : Option Addr) (n cap : Nat) (xs : List Value) : Prop :=
  0 < n → ∃ g, A = some ⟨g, 0, none⟩ ∧ base ≤ g ∧ g < W.heap.size ∧ n ≤ cap ∧ ∀ j, j < n * size → W.cell? ⟨g, j, none⟩ = xs[j]?
theorem own_slice {W : World} {base e size n : Nat} {v : Value} {xs : List Value} (h : W.ownsRow base e size v n xs) : ∃ A cap, v = .slice A n cap ∧ Slc W base size A n cap xs := by
  rcases h.2 with ⟨rfl, h0⟩ | ⟨g, cap, cur, rfl, hb, hg, hn, _, _, hx⟩
  · subst h0; exact ⟨none, 0, rfl, fun h => absurd h (by omega)⟩
  · refine ⟨_, cap, rfl, fun _ => ⟨g, rfl, hb, (Array.getElem?_eq_some_iff.1 hg).1, hn, fun j hj => ?_⟩⟩
    rw [cellH hg, ← hx, List.getElem?_take_of_lt hj]
    simp

/-- What the loops over pairs know. -/
structure Made (w : World) (hs : List Int) (n : Nat) (Ab Ap Aq : Option Addr) (cb cp cq : Nat) (W : World) : Prop where
  len : hs.length = n
  n5 : n ≤ 5
  rng : ∀ j, j < n → 0 ≤ hs.getD j 0 ∧ hs.getD j 0 ≤ 6
  shelf : ∀ o, W.cell? ⟨w.heap.size + 1 + 1, o, none⟩ = #[Value.slice (some ⟨w.heap.size + 1, 0, none⟩) 1 1, .slice Ab n cb, .slice Ap n cp][o]?
  yard : ∀ o, W.cell? ⟨w.heap.size + 1 + 1 + 1, o, none⟩ = #[Value.slice Aq n cq, .int .i64 2][o]?
  lane : W.cell? ⟨w.heap.size + 1, 0, none⟩ = some (.int .i64 9)
  bags : Slc W (w.heap.size + 4) 3 Ab n cb (bagCells hs)
  plan : Slc W (w.heap.size + 4) 1 Ap n cp (List.replicate n (.int .i64 0))
  parc : Slc W (w.heap.size + 4) 4 Aq n cq (parCells hs)
  below : Below w.heap.size w W
  size : w.heap.size + 4 ≤ W.heap.size

theorem Slc.keep {W W' : World} {base size n cap : Nat} {A : Option Addr} {xs : List Value} (h : Slc W base size A n cap xs) (hB : Below W.heap.size W W') : Slc W' base size A n cap xs := fun h0 => by
  obtain ⟨g, h1, h2, h3, h4, h5⟩ := h h0
  exact ⟨g, h1, h2, Nat.lt_of_lt_of_le h3 hB.size, h4, fun j hj => (hB.cell (p := ⟨g, j, none⟩) h3).trans (h5 j hj)⟩
theorem Made.keep {w W W' : World} {hs : List Int} {n cb cp cq : Nat} {Ab Ap Aq : Option Addr} (h : Made w hs n Ab Ap Aq cb cp cq W) (hB : Below W.heap.size W W') : Made w hs n Ab Ap Aq cb cp cq W' := by
  have hz := h.size
  exact ⟨h.len, h.n5, h.rng, fun o => (hB.cell (p := ⟨w.heap.size + 1 + 1, o, none⟩) (by show w.heap.size + 1 + 1 < _; omega)).trans (h.shelf o), fun o => (hB.cell (p := ⟨w.heap.size + 1 + 1 + 1, o, none⟩) (by show w.heap.size + 1 + 1 + 1 < _; omega)).trans (h.yard o),
    (hB.cell (p := ⟨w.heap.size + 1, 0, none⟩) (by show w.heap.size + 1 < _; omega)).trans h.lane, h.bags.keep hB, h.plan.keep hB, h.parc.keep hB, h.below.trans (hB.mono (by omega)), Nat.le_trans hz hB.size⟩
theorem Mem.made {w W : World} {g : Nat} {hs : List Int} {bv pv qv : Value} (h : Mem w g hs hs.length hs bv pv qv bv pv qv W) (h5 : hs.length ≤ 5) (hr : ∀ x ∈ hs, 0 ≤ x ∧ x ≤ 6) : ∃ Ab Ap Aq cb cp cq, Made w hs hs.length Ab Ap Aq cb cp cq W := by
  obtain ⟨Ab, cb, e1, b1⟩ := own_slice h.bags
  obtain ⟨Ap, cp, e2, b2⟩ := own_slice h.plan
  obtain ⟨Aq, cq, e3, b3⟩ := own_slice h.parc
  refine ⟨Ab, Ap, Aq, cb, cp, cq, rfl, h5, fun j hj => ?_, fun o => (cellH h.shelf o).trans (by rw [e1, e2]), fun o => (cellH h.yard o).trans (by rw [e3]), cellH h.lane 0, b1, b2, b3, h.below, h.size⟩
  have : hs.getD j 0 ∈ hs := by simp [List.getD, hj]
  exact hr _ this

theorem Made.shelfMem {w W : World} {hs : List Int} {n cb cp cq : Nat} {Ab Ap Aq : Option Addr} (h : Made w hs n Ab Ap Aq cb cp cq W) (h0 : 0 < n) :
    ∃ gb gp, Ab = some ⟨gb, 0, none⟩ ∧ Ap = some ⟨gp, 0, none⟩ ∧ ShelfMem W (w.heap.size + 1) gb gp n cp (fun j => hs.getD j 0) := by
  obtain ⟨gb, e1, _, b2, _, b4⟩ := h.bags h0
  obtain ⟨gp, e2, _, p2, p3, p4⟩ := h.plan h0
  have hz := h.size
  have hl := h.len
  refine ⟨gb, gp, e1, e2, h0, h.n5, p3, by omega, b2, p2, ⟨9, by have := h.n5; omega, by omega, h.lane⟩, ⟨fun j hj => ?_, fun j hj => ?_, fun j hj => ?_, fun j hj => (h.rng j hj).1, fun j hj => (h.rng j hj).2⟩, fun j hj => ?_⟩
  · rw [b4 _ (by omega)]; exact (bagCells_at hs j (by omega)).1
  · rw [b4 _ (by omega)]; exact (bagCells_at hs j (by omega)).2.1
  · rw [b4 _ (by omega)]; exact (bagCells_at hs j (by omega)).2.2
  · rw [p4 _ (by omega)]; simp [hj]
theorem Made.parcels {w W : World} {hs : List Int} {n cb cp cq : Nat} {Ab Ap Aq : Option Addr} (h : Made w hs n Ab Ap Aq cb cp cq W) (h0 : 0 < n) :
    ∃ gq, Aq = some ⟨gq, 0, none⟩ ∧ gq < W.heap.size ∧ ParcelsAt W gq n (fun j => hs.getD j 0 + 1) (fun j => hs.getD j 0 + 1) (fun j => hs.getD j 0 + 1) (fun _ => 1) := by
  obtain ⟨gq, e1, _, b2, _, b4⟩ := h.parc h0
  have hl := h.len
  have r := h.rng
  refine ⟨gq, e1, b2, ⟨fun j hj => ?_, fun j hj => ?_, fun j hj => ?_, fun j hj => ?_, fun j hj => by have := r j hj; omega, fun j hj => by omega, fun j hj => by have := r j hj; omega, fun j hj => by have := r j hj; omega, fun j hj => by have := r j hj; omega, fun _ _ => by omega, fun _ _ => by omega⟩⟩
  · rw [b4 _ (by omega)]; exact (parCells_at hs j (by omega)).1
  · rw [b4 _ (by omega)]; exact (parCells_at hs j (by omega)).2.1
  · rw [b4 _ (by omega)]; exact (parCells_at hs j (by omega)).2.2.1
  · rw [b4 _ (by omega)]; exact (parCells_at hs j (by omega)).2.2.2

/-- At: there, and not there. -/
theorem at_in (A : Option Addr) (n cap B : Nat) (x : Int) (f : Nat → Int) (w : World) (hn : n ≤ 140737488351232) (h : Ints w B A n f) (hx : ∃ j, j < n ∧ f j = x) :
    Calls Tryz.prog 10 #[.slice A n cap, .int .i64 x] w fun e w' => ∃ v : Int, 0 ≤ v ∧ e = .returned (.int .i64 v) ∧ w = w' := by
  refine (at_any A n cap B x f w hn h).mono ?_
  rintro e w' ⟨v, he, h1, h2, hw⟩
  refine ⟨v, ?_, he, hw⟩
  by_cases hv : 0 ≤ v
  · exact hv
  · obtain ⟨_, h4⟩ := h2 (fun k => by omega)
    obtain ⟨j, hj, hf⟩ := hx
    exact absurd hf (h4 j hj)
theorem at_out (A : Option Addr) (n cap B : Nat) (x : Int) (f : Nat → Int) (w : World) (hn : n ≤ 140737488351232) (h : Ints w B A n f) (hx : ∀ j, j < n → f j ≠ x) :
    Calls Tryz.prog 10 #[.slice A n cap, .int .i64 x] w fun e w' => ∃ v : Int, v < 0 ∧ e = .returned (.int .i64 v) ∧ w = w' := by
  refine (at_any A n cap B x f w hn h).mono ?_
  rintro e w' ⟨v, he, h1, h2, hw⟩
  refine ⟨v, ?_, he, hw⟩
  by_cases hv : 0 ≤ v
  · obtain ⟨h4, h5⟩ := h1 v.toNat (by omega)
    exact absurd h5 (hx _ h4)
  · omega

/-- Which pieces can lie on the piece i. -/
def onList (hs : List Int) (n i : Nat) : List Int := (elsI (sub (low n) (2 ^ i))).filter (fun x => decide (hs.getD x.toNat 0 + 1 ≤ hs.getD i 0 + 1))
theorem els_sub_mem : ∀ n : Fin 6, ∀ i k : Fin 5, k.1 < n.1 → k ≠ i → k.1 ∈ els (sub (low n.1) (2 ^ i.1)) := by decide +kernel
theorem on_in {hs : List Int} {n i k : Nat} (hn : n ≤ 5) (hi : i < n) (hk : k < n) (hne : i ≠ k) (h : hs.getD k 0 ≤ hs.getD i 0) : ∃ j, j < (onList hs n i).length ∧ (onList hs n i).getD j 0 = (k : Int) := by
  have h1 := els_sub_mem ⟨n, by omega⟩ ⟨i, by omega⟩ ⟨k, by omega⟩ hk (fun e => hne (by simpa using e.symm))
  have h2 : (k : Int) ∈ onList hs n i := by
    exact List.mem_filter.2 ⟨List.mem_map.2 ⟨k, h1, rfl⟩, decide_eq_true (by rw [Int.toNat_natCast]; omega)⟩
  obtain ⟨j, hj, e⟩ := List.getElem_of_mem h2
  exact ⟨j, hj, by simp [List.getD, hj, e]⟩
theorem on_out {hs : List Int} {n i k : Nat} (h : hs.getD i 0 < hs.getD k 0) : ∀ j, j < (onList hs n i).length → (onList hs n i).getD j 0 ≠ (k : Int) := by
  intro j hj e
  have h2 : (onList hs n i).getD j 0 ∈ onList hs n i := by simp [List.getD, hj]
  rw [e] at h2
  have := of_decide_eq_true (List.mem_filter.1 h2).2
  rw [Int.toNat_natCast] at this
  omega

end Go.Proofs.YtckchahangnfiaaGreatDoor
