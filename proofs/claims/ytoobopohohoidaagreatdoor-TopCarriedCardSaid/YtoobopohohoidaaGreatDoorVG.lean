/- VAULT: open. -/
import Derived.Test.YtoobopohohoidaaGreatDoorVE
set_option linter.unusedSimpArgs false
set_option linter.unusedVariables false
namespace Go.Proofs.YtoobopohohoidaaGreatDoor
open Go.RowKit

theorem w_next (P N : Nat) (sA : Option Addr) (sn sc : Nat) (cA : Option Addr) (cn cc : Nat) (L : List Nat) (p : Nat) (hl : L.length < 4) :
    ((((wVal P N sA sn sc cA cn cc L).setIfInBounds 4 (.int .u8 (withP (maskOf L) p))).setIfInBounds (4 + 1 + L.length) (.int .i64 p)).setIfInBounds (4 + 1 + 4) (.int .i64 ((L.length : Int) + 1))) = wVal P N sA sn sc cA cn cc (L ++ [p]) := by
  match L, hl with
  | [], _ => simp [maskOf]
  | [a], _ => simp [maskOf]
  | [a, c], _ => simp [maskOf]
  | [a, c, d], _ => simp [maskOf]
  | _ :: _ :: _ :: _ :: _, h => exact absurd h (by simp)

set_option maxRecDepth 100000 in
set_option maxHeartbeats 2000000 in
theorem veach_put (wb P N sc B : Nat) (L : List Nat) (n : Nat) (sA : Option Addr) (cA : Option Addr) (cn cc : Nat) (w : World) (hL : Line 4 L) (hn : L.length = n) (hBw : B ≤ wb) (h : Ints w B sA n (ofL L))
    (hb : w.heap[wb]? = some (.cells (wVal P N sA n sc cA cn cc []) 58 (0, 0))) :
    Calls Tryz.prog 46 #[.func (.func 47) #[.pointer (some ⟨wb, 4, none⟩)] #[], .slice sA n sc] w fun e w' => e = .returned (.tuple #[]) ∧
      w'.heap[wb]? = some (.cells (wVal P N sA n sc cA cn cc L) 58 (0, 0)) ∧ But wb w w' := by
  have hn4 : n ≤ 4 := by rw [← hn]; exact hL.le
  have HL := Go.Lib.hid hL
  have HN := Go.Lib.hid hn
  have HI := Go.Lib.hid h
  have HB := Go.Lib.hid hb
  have hwb : wb < w.heap.size := (Array.getElem?_eq_some_iff.1 hb).1
  clear hL hn h hb
  go_enter Tryz.func46, Tryz.ntmps46
  go_wp2
  go_loopw [8] (fun i wr => ∃ k : Nat, k ≤ n ∧ i = .int .i64 k ∧ Hid (wr.heap[wb]? = some (.cells (wVal P N sA n sc cA cn cc (L.take k)) 58 (0, 0))) ∧ Hid (But wb w wr)) (fun i _ => n - (intOf i).toNat)
  case atStart => exact ⟨0, Nat.zero_le _, rfl, HB, Go.Lib.hid (But.refl _ _)⟩
  case round =>
    obtain ⟨k, hk, rfl, HC, HT⟩ := hrel
    by_cases hlt : k < n
    · obtain ⟨ad, rfl, hab, hac⟩ := HI.out (by omega)
      obtain ⟨p, hp1, hp2, hp3⟩ := ofL_mem (l := L) (j := k) (by rw [HN.out]; exact hlt)
      have hcell : wr.cell? (ad.add k) = some (.int .i64 p) := by
        rw [HT.out.cell (p := ad.add k) (by rw [block_add]; omega) (by rw [block_add]; omega), hac k hlt, hp2]
      have hp6 := HL.out.lt p hp1
      have hlen : (L.take k).length = k := by rw [List.length_take, HN.out]; omega
      have hm64 : maskOf (L.take k) < 64 := mask_lt fun x hx => HL.out.lt x (List.mem_of_mem_take hx)
      have hput := vput_at wb 4 58 (L.take k).length (maskOf (L.take k)) p (wVal P N (some ad) n sc cA cn cc (L.take k)) (pI 0) wr (by omega) hm64 hp6 HC.out rfl rfl (by
        obtain ⟨K, hK⟩ : ∃ K, L.take k = K := ⟨_, rfl⟩
        rw [hK] at hlen ⊢
        rw [hlen]
        match K, hlen with
        | [], h => subst h; rfl
        | [a], h => subst h; rfl
        | [a, c], h => subst h; rfl
        | [a, c, d], h => subst h; rfl
        | _ :: _ :: _ :: _ :: _, h => exact absurd h (by simp; omega))
      rw [w_next _ _ _ _ _ _ _ _ _ _ (by omega)] at hput
      have etake : L.take (k + 1) = L.take k ++ [p] := by
        obtain ⟨hkl, e⟩ := List.getElem?_eq_some_iff.1 hp3
        rw [List.take_succ_eq_append_getElem hkl, e]
      rw [← etake] at hput
      have HP := Go.Lib.hid hput
      clear hput hlen hm64 hp1 hp2 hp3 hac hab etake
      go_wp2_with (go_at_call 47; refine (HP.out).mono ?_; rintro e w' ⟨rfl, hb1, hB1⟩)
      go_roundw
      case rel => exact ⟨k + 1, by omega, by go_num, Go.Lib.hid hb1, Go.Lib.hid (HT.out.trans hB1)⟩
      case measure => simp [intOf]; omega
    · have hkn : k = n := by omega
      have HK := Go.Lib.hid hkn; clear hkn
      go_wp2
      go_end0
      refine ⟨rfl, ?_, HT.out⟩
      have := HC.out
      have e : L.take k = L := by rw [HK.out, ← HN.out, List.take_length]
      rw [e] at this
      exact this

set_option maxRecDepth 100000 in
set_option maxHeartbeats 4000000 in
theorem vopen_any (P N sc B : Nat) (L : List Nat) (C : List (List Nat)) (n m : Nat) (sA cA : Option Addr) (cc : Nat) (w : World) (hV : VaultOk P N L C) (hn : L.length = n) (hm : C.length = m) (hB : B ≤ w.heap.size) (h : Ints w B sA n (ofL L)) (hR : Rows w B cA C) :
    Calls Tryz.prog 29 #[.agg (vVal P N sA n sc cA m cc)] w fun e w' => e = .returned (.tuple #[.agg (wVal P N sA n sc cA m cc L), .int .i64 0]) ∧ Below w.heap.size w w' := by
  have HC := Go.Lib.hid (fun (W : World) (hW : Below w.heap.size w W) => vcheckVault_yes P N sc B L C n m sA cA cc W hV hn hm (Nat.le_trans hB hW.size) (h.below hW hB) (hR.below hW hB))
  have HE := Go.Lib.hid (fun (wb : Nat) (W : World) (hW : Below w.heap.size w W) (hwb : w.heap.size ≤ wb) hb => veach_put wb P N sc B L n sA cA m cc W ⟨hV.line.nodup, hV.line.lt, Nat.le_trans hV.line.le hV.p4⟩ hn (Nat.le_trans hB hwb) (h.below hW hB) hb)
  have hB2 : Below w.heap.size w ((w.alloc (.cells (vVal P N sA n sc cA m cc) 25)).alloc (.cells (wVal 0 0 none 0 0 none 0 0 []) 58)) := ((Below.refl w.heap.size w).alloc (Nat.le_refl _) _).alloc (by simp) _
  have HB := Go.Lib.hid hB2
  clear hV hn hm hB h hR hB2
  go_enter Tryz.func29, Tryz.ntmps29
  go_wp2_with (first
    | (go_at_call 45; refine (HC.out _ HB.out).mono ?_; rintro e w1 ⟨rfl, hB1⟩
       have k0 : w1.heap[w.heap.size]? = some (.cells (vVal P N sA n sc cA m cc) 25 (0, 0)) := by
         rw [hB1.block _ (by simp; omega), Below.heap_alloc _ _ _ (by simp)]; exact heap_alloc_new w _
       have k1 : w1.heap[w.heap.size + 1]? = some (.cells (wVal 0 0 none 0 0 none 0 0 []) 58 (0, 0)) := by
         rw [hB1.block _ (by simp)]
         have := heap_alloc_new (w.alloc (.cells (vVal P N sA n sc cA m cc) 25)) (.cells (wVal 0 0 none 0 0 none 0 0 []) 58)
         rwa [World.size_alloc] at this
       have c0 : w1.cell? ⟨w.heap.size, 0, none⟩ = some (.int .i64 P) := cellH k0 0
       have c1 : w1.cell? ⟨w.heap.size, 1, none⟩ = some (.int .i64 N) := cellH k0 1
       have c2 : w1.cell? ⟨w.heap.size, 2, none⟩ = some (.slice sA n sc) := cellH k0 2
       have c3 : w1.cell? ⟨w.heap.size, 3, none⟩ = some (.slice cA m cc) := cellH k0 3
       have c2' : ∀ o, (w1.alloc o).cell? ⟨w.heap.size, 2, none⟩ = some (.slice sA n sc) := fun o => cell_alloc_l _ c2
       have hz1 : w.heap.size + 2 ≤ w1.heap.size := by have := hB1.size; simp at this; omega
       have e1 := HE.out w1.heap.size (w1.alloc (.cells (wVal P N sA n sc cA m cc []) 58)) ((HB.out.trans (hB1.mono (by simp; omega))).alloc (by omega) _) (by omega) (heap_alloc_new w1 _)
       have k2 : (w1.alloc (.cells (wVal P N sA n sc cA m cc []) 58)).heap[w.heap.size + 1]? = some (.cells (wVal 0 0 none 0 0 none 0 0 []) 58 (0, 0)) := by rw [Below.heap_alloc _ _ _ (by omega)]; exact k1
       have HE1 := Go.Lib.hid e1
       have HK2 := Go.Lib.hid k2
       have HBB := Go.Lib.hid (HB.out.trans (hB1.mono (by simp; omega)))
       clear e1 k0 k1 k2 hB1)
    | (go_at_call 46; refine (HE1.out).mono ?_; rintro e w2 ⟨rfl, hb2, hB2⟩
       have k3 : w2.heap[w.heap.size + 1]? = some (.cells (wVal 0 0 none 0 0 none 0 0 []) 58 (0, 0)) := by rw [hB2.block _ (by simp; omega) (by omega)]; exact HK2.out
       have HB2 := Go.Lib.hid hb2
       have HK3 := Go.Lib.hid k3
       have HX2 := Go.Lib.hid hB2
       clear hb2 k3 hB2)
    | (with_reducible refine wpList_load_whole rfl 58 (.tmp 5) rfl w1.heap.size rfl HB2.out Tryz.underlying58 rfl (by kernel_rfl) ?_)
    | (with_reducible refine wpList_store_whole rfl 58 (.tmp 2) (.tmp 19) rfl (w.heap.size + 1) (wVal P N sA n sc cA m cc L) rfl rfl HK3.out (by kernel_rfl) rfl (by simp [Value.oneCell']) ?_
       intro W9 d1 d2))
  refine bodyPost_ret (v := .tuple #[.agg (wVal P N sA n sc cA m cc L), .int .i64 0])
    (results_cell_slot rfl (by rfl) d1 Tryz.underlying58 rfl (by kernel_rfl) (by rfl)) rfl ⟨rfl, ?_⟩
  have hx : But w1.heap.size w1 w2 := ⟨by have := HX2.out.size; simp at this; omega, fun b hb hne => (HX2.out.block b (by simp; omega) hne).trans (Below.heap_alloc _ _ _ hb), HX2.out.os, HX2.out.tape, HX2.out.output⟩
  exact (HBB.out.trans (hx.below (by omega) (by omega))).trans (d2.below (by omega) (by have := HX2.out.size; simp at this; omega))

end Go.Proofs.YtoobopohohoidaaGreatDoor
