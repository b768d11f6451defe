/- PILE: Stands. -/
import Derived.Test.YtckchahangnfiaaGreatDoorPlL
import Derived.Test.YtckchahangnfiaaGreatDoorPlJ
namespace Go.Proofs.YtckchahangnfiaaGreatDoor
open Go.RowKit

theorem els_one : ∀ k : Fin 5, els (2 ^ k.1) = [k.1] := by decide +kernel
theorem els_two : ∀ i k : Fin 5, i ≠ k → els (2 ^ i.1 ||| 2 ^ k.1) = if i.1 < k.1 then [i.1, k.1] else [k.1, i.1] := by decide +kernel
theorem tz_pow : ∀ k : Fin 5, tz (2 ^ k.1) = k.1 := by decide +kernel
theorem sum_one (v : Nat → Int) (k : Nat) (hk : k < 5) : sumOf v (2 ^ k) = v k := by
  have := els_one ⟨k, hk⟩
  dsimp only at this
  simp [sumOf, this]
theorem sum_two (v : Nat → Int) (i k : Nat) (hi : i < 5) (hk : k < 5) (hne : i ≠ k) : sumOf v (2 ^ i ||| 2 ^ k) = v i + v k := by
  have := els_two ⟨i, hi⟩ ⟨k, hk⟩ (fun e => hne (by simpa using e))
  dsimp only at this
  unfold sumOf
  rw [this]
  split
  · simp
  · simp; omega
theorem cnt_two (i k : Nat) (hi : i < 5) (hk : k < 5) (hne : i ≠ k) : pcnt (2 ^ i ||| 2 ^ k) = 2 := by
  have := els_two ⟨i, hi⟩ ⟨k, hk⟩ (fun e => hne (by simpa using e))
  dsimp only at this
  unfold pcnt
  rw [this]
  split <;> rfl
theorem pow_lt32 {i : Nat} (hi : i < 5) : 2 ^ i < 32 := (Nat.pow_lt_pow_right (by omega) hi : 2 ^ i < 2 ^ 5)
theorem upto_in {n j : Nat} {f : Nat → Int} (h : j < n) : upto n f j = f j := by simp [upto, h]

theorem ParcelsAt.duo {w : World} {qb n : Nat} {lo hi br tl : Nat → Int} (H : ParcelsAt w qb n lo hi br tl) (hn : n ≤ 5) (hqb : qb < w.heap.size) {i k : Nat} (hi5 : i < n) (hk5 : k < n) (hne : i ≠ k) : Duo w qb n br (2 ^ i) (2 ^ k) := by
  have e1 := tz_pow ⟨i, by omega⟩
  have e2 := tz_pow ⟨k, by omega⟩
  dsimp only at e1 e2
  exact ⟨pow_lt32 (by omega), pow_lt32 (by omega), cnt_two i k (by omega) (by omega) hne, by omega, by omega, hqb, H.br_, H.br0, fun j hj => by have := H.br30 j hj; omega⟩
theorem ParcelsAt.weighs {w : World} {qb n : Nat} {lo hi br tl : Nat → Int} (H : ParcelsAt w qb n lo hi br tl) (hn : n ≤ 5) {k : Nat} (hk5 : k < n) : Weighs (upto n hi) (2 ^ k) := by
  have hb : ∀ j, 0 ≤ upto n hi j ∧ upto n hi j ≤ 12 := by
    intro j
    unfold upto
    split
    · have := H.lo1 j (by assumption); have := H.lh j (by assumption); have := H.hi12 j (by assumption); omega
    · omega
  refine ⟨fun j _ => (hb j).1, fun j _ => by have := (hb j).2; omega, ?_, ?_⟩
  · rw [sum_one _ _ (by omega)]; exact (hb k).1
  · rw [sum_one _ _ (by omega)]; have := (hb k).2; omega

set_option maxRecDepth 100000 in
set_option maxHeartbeats 4000000 in
theorem pStands_any (qb n qcap xcap xb i k : Nat) (L : Int) (wt br tl : Nat → Int) (r : Int) (w : World) (hn : n ≤ 5) (hi5 : i < n) (hk5 : k < n) (hne : i ≠ k) (hqb : qb < w.heap.size) (hxb : xb < w.heap.size) (h1 : 1 ≤ L) (h2 : L ≤ 12) (H : ParcelsAt w qb n wt wt br tl)
    (hx : w.cell? ⟨xb, 0, none⟩ = some (.int .i64 i)) (hy : w.cell? ⟨xb, 1, none⟩ = some (.int .i64 k)) (hs : tl i + tl k ≤ L) (hr : (r = 1 ∧ wt k ≤ br i) ∨ (r = 2 ∧ br i < wt k)) :
    Calls Tryz.prog 9 #[.agg #[.slice (some ⟨qb, 0, none⟩) n qcap, .int .i64 L], .slice (some ⟨xb, 0, none⟩) 2 xcap] w fun e w' => e = .returned (.tuple #[.int .i64 r, .int .i64 0]) ∧ Below w.heap.size w w' := by
  have hst : ∀ W, Below w.heap.size w W → Calls Tryz.prog 22 #[.agg (yCells (.slice (some ⟨qb, 0, none⟩) n qcap) L (upto n wt) (upto n wt) (upto n tl)), .agg (pCells (2 ^ i) (2 ^ k))] W fun e w' => e = .returned (.int .i64 r) ∧ Below W.heap.size W w' := by
    intro W hB
    have H' := H.below hB hqb
    have D := H'.duo hn (Nat.lt_of_lt_of_le hqb hB.size) hi5 hk5 hne
    have V := H'.weighs hn hk5
    have e1 := tz_pow ⟨i, by omega⟩
    dsimp only at e1
    rcases hr with ⟨rfl, h⟩ | ⟨rfl, h⟩
    · exact pstanding_yes qb n qcap L _ _ br _ _ W D V (by rw [sum_one _ _ (by omega), upto_in hk5, e1]; exact h)
    · exact pstanding_no qb n qcap L _ _ br _ _ W D V (by rw [sum_one _ _ (by omega), upto_in hk5, e1]; exact h)
  have hop : ∀ W, Below w.heap.size w W → Calls Tryz.prog 13 #[.agg #[.slice (some ⟨qb, 0, none⟩) n qcap, .int .i64 L], .slice (some ⟨xb, 0, none⟩) 2 xcap] W fun e w' =>
      e = .returned (.tuple #[.agg (yCells (.slice (some ⟨qb, 0, none⟩) n qcap) L (upto n wt) (upto n wt) (upto n tl)), .agg (pCells (2 ^ i) (2 ^ k)), .int .i64 0]) ∧ Below W.heap.size W w' := fun W hB =>
    popenPile2 qb n qcap xcap xb i k L wt wt br tl W hn hi5 hk5 hne (Nat.lt_of_lt_of_le hqb hB.size) (Nat.lt_of_lt_of_le hxb hB.size) h1 h2 (H.below hB hqb) ((hB.cell (p := ⟨xb, 0, none⟩) hxb).trans hx) ((hB.cell (p := ⟨xb, 1, none⟩) hxb).trans hy)
      (by rw [sum_two _ _ _ (by omega) (by omega) hne, upto_in hi5, upto_in hk5]; exact hs)
  have HST := Go.Lib.hid hst; clear hst
  have HOP := Go.Lib.hid hop; clear hop
  clear H hx hy hs hr
  go_enter Tryz.func9, Tryz.ntmps9
  go_wp2_with (first
    | (go_at_call 13; refine (HOP.out _ ((Below.refl _ w).alloc (Nat.le_refl _) _)).mono ?_; rintro e w1 ⟨rfl, hB1⟩
       have hBw1 : Below w.heap.size w w1 := ((Below.refl _ w).alloc (Nat.le_refl _) _).trans (hB1.mono (by simp))
       have hz1 := hBw1.size)
    | (go_at_call 22; refine (HST.out _ ((hBw1.alloc hz1 _).alloc (by simp; omega) _)).mono ?_; rintro e w2 ⟨rfl, hB2⟩))
  go_ret2
  exact ⟨rfl, ((hBw1.alloc hz1 _).alloc (by simp; omega) _).trans (hB2.mono (by simp; omega))⟩

end Go.Proofs.YtckchahangnfiaaGreatDoor
