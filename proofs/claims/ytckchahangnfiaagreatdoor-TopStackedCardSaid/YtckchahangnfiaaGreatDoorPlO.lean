/- PILE: filter. -/
import Derived.Test.YtckchahangnfiaaGreatDoorPlN
namespace Go.Proofs.YtckchahangnfiaaGreatDoor
open Go.RowKit

theorem own_below {w w' : World} {base e size n : Nat} {v : Value} {xs : List Value} (h : w.ownsRow base e size v n xs) (hB : Below w.heap.size w w') : w'.ownsRow base e size v n xs :=
  h.kept (row := none) ⟨hB.os, hB.tape, hB.output, hB.size, fun b hb _ => hB.block b hb⟩ (by cases hv : v.ownBlock <;> simp)

/-- Behind an append. -/
theorem own_grown {N : Nat} {w W w1 : World} {v : Value} {e k : Nat} {xs : List Value} {o : Obj} (hB : Below N w W) (hN : N ≤ w.heap.size) (hrow : W.ownsRow N e 1 v k xs) (hg : (W.alloc o).grownBy w1 v.ownBlock) : Below N w w1 := by
  have hz := hB.size
  refine hB.trans (((Below.refl N W).alloc (by omega) o).grown hg (by simp; omega) fun j ej => ?_)
  rcases hrow.2 with ⟨rfl, _⟩ | ⟨g, cap, cur, rfl, hb, _, _⟩
  · simp [Value.ownBlock] at ej
  · obtain rfl : g = j := by simpa [Value.ownBlock] using ej
    exact hb

theorem take_filter_succ {α : Type} [Inhabited α] (p : α → Bool) (L : List α) (k : Nat) (hk : k < L.length) : (L.take (k + 1)).filter p = (L.take k).filter p ++ (if p (L[k]) then [L[k]] else []) := by
  rw [List.take_succ_eq_append_getElem hk, List.filter_append]
  congr 1
  by_cases h : p L[k] <;> simp [h]

set_option maxRecDepth 100000 in
set_option maxHeartbeats 4000000 in
theorem pfilter_any (A : Option Addr) (cap pb yb B : Nat) (L : List Int) (keep : Int → Bool) (w : World) (hL : L.length ≤ 9) (hI : Ints w w.heap.size A L.length (fun j => L.getD j 0))
    (hcl : ∀ W, Below w.heap.size w W → ∀ x ∈ L, Calls Tryz.prog 32 #[.int .i64 x, .pointer (some ⟨pb, 0, none⟩), .pointer (some ⟨yb, 0, none⟩)] W fun e w' => e = .returned (.bool (keep x)) ∧ Below W.heap.size W w') :
    Calls Tryz.prog 30 #[.slice A L.length cap, .func (.func 32) #[] #[.pointer (some ⟨pb, 0, none⟩), .pointer (some ⟨yb, 0, none⟩)]] w (IntsOf (L.filter keep) w) := by
  obtain ⟨i0, hi, hz0, hz1, hz2⟩ := info_parts info_int'
  have HCL := Go.Lib.hid hcl; clear hcl
  have HI := Go.Lib.hid hI; clear hI
  obtain ⟨m, hm⟩ : ∃ m, L.length = m := ⟨_, rfl⟩
  rw [hm] at hL HI ⊢
  have HM := Go.Lib.hid hm; clear hm
  go_enter Tryz.func30, Tryz.ntmps30
  go_wp2
  go_loopw [5, 10] (fun s i W => ∃ k : Nat, k ≤ m ∧ i = .int .i64 k ∧ Go.RowKit.Hid (W.ownsRow w.heap.size 3 1 s ((L.take k).filter keep).length (((L.take k).filter keep).map fun x => .int .i64 x) ∧ Below w.heap.size w W)) (fun _ i _ => m - (intOf i).toNat)
  case atStart => exact ⟨0, by omega, rfl, Go.Lib.hid ⟨World.ownsRow_nil _ _ _ _, Below.refl _ _⟩⟩
  case round =>
    obtain ⟨k, hk, rfl, HH⟩ := hrel
    by_cases hlt : k < m
    · obtain ⟨ad, rfl, hb, hc⟩ := HI.out (by omega)
      have hkl : k < L.length := by rw [HM.out]; exact hlt
      have e1 : L.getD k 0 = L[k] := by simp [List.getD, hkl]
      have hcell : wr.cell? (ad.add k) = some (.int .i64 (L[k])) := by
        have h1 := hc k hlt
        dsimp only at h1
        rw [e1] at h1
        have h2 := HH.out.2.block ad.block hb
        unfold World.cell? at h1 ⊢
        rw [block_add] at h1 ⊢
        rw [h2]; exact h1
      have hmem : L[k] ∈ L := List.getElem_mem hkl
      obtain ⟨x, hx⟩ : ∃ x, L[k] = x := ⟨_, rfl⟩
      have HX := Go.Lib.hid hx
      rw [hx] at hcell hmem
      have HMem := Go.Lib.hid hmem; clear hmem
      clear hx e1 hc hb
      cases hkeep : keep x with
      | false =>
        have HK := Go.Lib.hid hkeep
        have hcall := HCL.out wr HH.out.2 x HMem.out
        rw [hkeep] at hcall
        clear hkeep
        have HCall := Go.Lib.hid hcall; clear hcall
        go_wp2_with (go_at_call 32; refine HCall.out.mono ?_; rintro e w1 ⟨rfl, hB1⟩)
        go_roundw
        case rel => exact ⟨k + 1, by omega, by go_num, Go.Lib.hid ⟨by rw [take_filter_succ keep L k hkl, HX.out, HK.out]; simpa using own_below HH.out.1 hB1, HH.out.2.trans (hB1.mono HH.out.2.size)⟩⟩
        case measure => simp [intOf]; omega
      | true =>
        have HK := Go.Lib.hid hkeep
        have hcall := HCL.out wr HH.out.2 x HMem.out
        rw [hkeep] at hcall
        clear hkeep
        have HCall := Go.Lib.hid hcall; clear hcall
        have hfl : ((L.take k).filter keep).length ≤ 9 := Nat.le_trans (List.length_filter_le _ _) (by rw [List.length_take]; omega)
        go_wp2_with (first
          | (go_at_call 32; refine HCall.out.mono ?_; rintro e w1 ⟨rfl, hB1⟩
             have hrow1 := own_below HH.out.1 hB1
             have hBw1 := HH.out.2.trans (hB1.mono HH.out.2.size)
             have HR := Go.Lib.hid hrow1; clear hrow1)
          | (at_builtin; refine wpList_append_own _ rfl _ _ 22 rfl w.heap.size 3 i0 (.int .i64 0) 1 8 Tryz.underlying22 hi hz0 hz1 hz2 rfl (by decide) _ _ _ rfl (HR.out.kept (World.grownBy_alloc _ _ none) (by cases hv : u5.ownBlock <;> simp)) ⟨w1.heap.size, 0, none⟩ 1 1 [.int .i64 x] rfl rfl (cell_one_new _ _ _) (by simp [Value.oneCell']) (by unfold maxLen; omega) (by omega) (by have := hBw1.size; simp; omega) ?_; intro v' w2 hown' hgrow _; have HO := Go.Lib.hid hown'; clear hown'))
        go_roundw
        case rel => exact ⟨k + 1, by omega, by go_num, Go.Lib.hid ⟨by rw [take_filter_succ keep L k hkl, HX.out, HK.out]; simpa using HO.out, own_grown hBw1 (Nat.le_refl _) HR.out hgrow⟩⟩
        case measure => simp [intOf]; omega
    · have hkm : k = m := by omega
      have HKM := Go.Lib.hid hkm; clear hkm
      go_wp2
      go_ret
      have h1 := HH.out.1
      rw [HKM.out, ← HM.out, List.take_length] at h1
      obtain ⟨A', cap', rfl, hI'⟩ := ints_of_row h1
      exact ⟨A', cap', rfl, HH.out.2, hI'⟩

end Go.Proofs.YtckchahangnfiaaGreatDoor
