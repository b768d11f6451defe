/- VAULT: the desk: put, send, renew. -/
/- VAULT: a valid vault, and a truth of it, are found valid. -/
import Derived.Test.YtoobopohohoidaaGreatDoorVD10
import Derived.Test.YtoobopohohoidaaGreatDoorVD30
import Derived.Test.YtoobopohohoidaaGreatDoorVD40
import Derived.Test.YtoobopohohoidaaGreatDoorVD42
set_option linter.unusedSimpArgs false
set_option linter.unusedVariables false
namespace Go.Proofs.YtoobopohohoidaaGreatDoor
open Go.RowKit

/-- A desk whose line is L. -/
abbrev dC (S : Nat) (L : List Nat) (R : Value) : Array Value := dCells S (L.getD 0 0) (L.getD 1 0) (L.getD 2 0) (L.getD 3 0) L.length R

theorem vleave_any (b T S q : Nat) (L : List Nat) (R : Value) (w : World) (hL : Line 4 L) (hq : q ∈ L) (hb : w.heap[b]? = some (.cells (dC S L R) T (0, 0))) :
    Calls Tryz.prog 100 #[.pointer (some ⟨b, 1, none⟩), .int .i64 q] w fun e w' => e = .returned (.tuple #[]) ∧ w'.heap[b]? = some (.cells (dC S (L.erase q) R) T (0, 0)) ∧ But b w w' := by
  have hn := hL.nodup
  have hl := hL.le
  match L, hl with
  | [a], _ =>
    simp at hq
    subst hq
    simpa [dC] using vleave_1_0 b T S _ R w (by simpa [dC] using hb)
  | [a, c], _ =>
    simp at hn
    rcases (by simpa using hq : q = a ∨ q = c) with rfl | rfl
    · simpa [dC] using vleave_2_0 b T S _ _ R w (by simpa [dC] using hb)
    · simpa [dC, List.erase_cons, hn] using vleave_2_1 b T S _ _ R w hn (by simpa [dC] using hb)
  | [a, c, d], _ =>
    simp at hn
    obtain ⟨⟨h1, h2⟩, h3⟩ := hn
    rcases (by simpa using hq : q = a ∨ q = c ∨ q = d) with rfl | rfl | rfl
    · simpa [dC] using vleave_3_0 b T S _ _ _ R w (by simpa [dC] using hb)
    · simpa [dC, List.erase_cons, h1] using vleave_3_1 b T S _ _ _ R w h1 (by simpa [dC] using hb)
    · simpa [dC, List.erase_cons, h2, h3] using vleave_3_2 b T S _ _ _ R w h2 h3 (by simpa [dC] using hb)
  | [a, c, d, x], _ =>
    simp at hn
    obtain ⟨⟨h1, h2, h3⟩, ⟨h4, h5⟩, h6⟩ := hn
    rcases (by simpa using hq : q = a ∨ q = c ∨ q = d ∨ q = x) with rfl | rfl | rfl | rfl
    · simpa [dC] using vleave_4_0 b T S _ _ _ _ R w (by simpa [dC] using hb)
    · simpa [dC, List.erase_cons, h1] using vleave_4_1 b T S _ _ _ _ R w h1 (by simpa [dC] using hb)
    · simpa [dC, List.erase_cons, h2, h4] using vleave_4_2 b T S _ _ _ _ R w h2 h4 (by simpa [dC] using hb)
    · simpa [dC, List.erase_cons, h3, h5, h6] using vleave_4_3 b T S _ _ _ _ R w h3 h5 h6 (by simpa [dC] using hb)
  | [], _ => simp at hq
  | _ :: _ :: _ :: _ :: _ :: _, h => simp at h

set_option maxRecDepth 100000 in
set_option maxHeartbeats 1000000 in
/-- put, wherever the desk lies in its block. -/
theorem vput_at (b o T n s p : Nat) (cs : Array Value) (v : Value) (w : World) (hn : n < 4) (hs : s < 64) (hp : p < 6) (hb : w.heap[b]? = some (.cells cs T (0, 0)))
    (h0 : cs[o]? = some (.int .u8 s)) (hl : cs[o + 1 + 4]? = some (.int .i64 n)) (hv : cs[o + 1 + n]? = some v) :
    Calls Tryz.prog 47 #[.pointer (some ⟨b, o, none⟩), .int .i64 p] w fun e w' => e = .returned (.tuple #[]) ∧
      w'.heap[b]? = some (.cells (((cs.setIfInBounds o (.int .u8 (withP s p))).setIfInBounds (o + 1 + n) (.int .i64 p)).setIfInBounds (o + 1 + 4) (.int .i64 ((n : Int) + 1))) T (0, 0)) ∧ But b w w' := by
  have c0 : w.cell? ⟨b, o, none⟩ = some (.int .u8 s) := (cellH hb _).trans h0
  have f0 : w.frozen? ⟨b, o, none⟩ = false := freeH hb _
  have h2 := setH hb o (.int .u8 (withP s p))
  have e1 : (cs.setIfInBounds o (.int .u8 (withP s p)))[o + 1 + 4]? = some (.int .i64 n) := by rw [Array.getElem?_setIfInBounds_ne (by omega)]; exact hl
  have e2 : (cs.setIfInBounds o (.int .u8 (withP s p)))[o + 1 + n]? = some v := by rw [Array.getElem?_setIfInBounds_ne (by omega)]; exact hv
  have hj := fun (W : World) (hW : W.heap[b]? = some (.cells (cs.setIfInBounds o (.int .u8 (withP s p))) T (0, 0))) => vjoin_any b (o + 1) T n _ p v W hn hW e1 e2
  have hB : But b w (w.setCell ⟨b, o, none⟩ (.int .u8 (withP s p))) := (But.refl b w).set _ _
  have HJ := Go.Lib.hid hj; clear hj
  have HB := Go.Lib.hid hB; clear hB
  have H2 := Go.Lib.hid h2; clear h2
  clear hb h0 hl hv e1 e2
  go_enter Tryz.func47, Tryz.ntmps47
  go_wp2_with (first
    | (go_at_call 57; refine (vwith_any s p _ hs hp).mono ?_; rintro e w' ⟨rfl, rfl⟩)
    | (go_at_call 77; refine (HJ.out _ H2.out).mono ?_; rintro e w' ⟨rfl, hb1, hB1⟩))
  go_end0
  exact ⟨rfl, hb1, HB.out.trans hB1⟩

theorem vput_any (b T p : Nat) (L : List Nat) (R : Value) (w : World) (hL : Line 4 L) (hl : L.length < 4) (hp : p < 6) (hb : w.heap[b]? = some (.cells (dC (maskOf L) L R) T (0, 0))) :
    Calls Tryz.prog 47 #[.pointer (some ⟨b, 0, none⟩), .int .i64 p] w fun e w' => e = .returned (.tuple #[]) ∧ w'.heap[b]? = some (.cells (dC (maskOf (L ++ [p])) (L ++ [p]) R) T (0, 0)) ∧ But b w w' := by
  have hm := mask_lt hL.lt
  have hv : ∃ v, (dC (maskOf L) L R)[0 + 1 + L.length]? = some v := by
    rcases (show L.length = 0 ∨ L.length = 1 ∨ L.length = 2 ∨ L.length = 3 by omega) with h | h | h | h <;> rw [h] <;> exact ⟨_, rfl⟩
  obtain ⟨v, hv⟩ := hv
  refine (vput_at b 0 T L.length (maskOf L) p (dC (maskOf L) L R) v w hl hm hp hb rfl rfl hv).mono ?_
  rintro e w' ⟨he, h1, h2⟩
  refine ⟨he, ?_, h2⟩
  rw [h1, mask_snoc]
  congr 2
  match L, hl with
  | [], _ => simp [dC]
  | [a], _ => simp [dC]
  | [a, c], _ => simp [dC]
  | [a, c, d], _ => simp [dC]
  | _ :: _ :: _ :: _ :: _, h => exact absurd h (by simp)

set_option maxRecDepth 100000 in
set_option maxHeartbeats 1000000 in
theorem vsend_any (b T q : Nat) (L : List Nat) (R : Value) (w : World) (hL : Line 4 L) (hq : q ∈ L) (hb : w.heap[b]? = some (.cells (dC (maskOf L) L R) T (0, 0))) :
    Calls Tryz.prog 97 #[.pointer (some ⟨b, 0, none⟩), .int .i64 q] w fun e w' => e = .returned (.tuple #[]) ∧ w'.heap[b]? = some (.cells (dC (maskOf (L.erase q)) (L.erase q) R) T (0, 0)) ∧ But b w w' := by
  have hm := mask_lt hL.lt
  have hq6 := hL.lt q hq
  rw [hL.mask_erase hq6]
  have c0 : w.cell? ⟨b, 0, none⟩ = some (.int .u8 (maskOf L)) := cellH hb 0
  have f0 : w.frozen? ⟨b, 0, none⟩ = false := freeH hb 0
  have h2 := setH hb 0 (.int .u8 (lessP (maskOf L) q))
  have h3 : (w.setCell ⟨b, 0, none⟩ (.int .u8 (lessP (maskOf L) q))).heap[b]? = some (.cells (dC (lessP (maskOf L) q) L R) T (0, 0)) := h2
  have hj := fun (W : World) (hW : W.heap[b]? = some (.cells (dC (lessP (maskOf L) q) L R) T (0, 0))) => vleave_any b T (lessP (maskOf L) q) q L R W hL hq hW
  have hB : But b w (w.setCell ⟨b, 0, none⟩ (.int .u8 (lessP (maskOf L) q))) := (But.refl b w).set _ _
  have HJ := Go.Lib.hid hj; clear hj
  have HB := Go.Lib.hid hB; clear hB
  have H2 := Go.Lib.hid h3; clear h3
  clear hb h2
  go_enter Tryz.func97, Tryz.ntmps97
  go_wp2_with (first
    | (go_at_call 59; refine (vwithout_any _ q _ hm hq6).mono ?_; rintro e w' ⟨rfl, rfl⟩)
    | (go_at_call 100; refine (HJ.out _ H2.out).mono ?_; rintro e w' ⟨rfl, hb1, hB1⟩))
  go_end0
  exact ⟨rfl, hb1, HB.out.trans hB1⟩

set_option maxRecDepth 100000 in
set_option maxHeartbeats 1000000 in
theorem vrenew_any (b T q : Nat) (L : List Nat) (R : Value) (w : World) (hL : Line 4 L) (hq : q ∈ L) (hb : w.heap[b]? = some (.cells (dC (maskOf L) L R) T (0, 0))) :
    Calls Tryz.prog 96 #[.pointer (some ⟨b, 0, none⟩), .int .i64 q] w fun e w' => e = .returned (.tuple #[]) ∧ w'.heap[b]? = some (.cells (dC (maskOf (L.erase q ++ [q])) (L.erase q ++ [q]) R) T (0, 0)) ∧ But b w w' := by
  have hm := mask_lt hL.lt
  have hq6 := hL.lt q hq
  have hem : maskOf (L.erase q ++ [q]) = maskOf L := by
    rw [mask_snoc, hL.mask_erase hq6]
    refine bit_ext (with_lt' (less_lt' hm hq6) hq6) hm (fun x _ => ?_)
    rw [with_bit, less_bit]
    by_cases h : q = x
    · subst h; rw [mask_bit]; simp [hq]
    · simp [h]
  rw [hem]
  have hl3 : (L.erase q).length < 4 := by rw [List.length_erase_of_mem hq]; have := hL.le; have := List.length_pos_of_mem hq; omega
  have hv : ∃ v, (dC (maskOf L) (L.erase q) R)[1 + (L.erase q).length]? = some v := by
    rcases (show (L.erase q).length = 0 ∨ (L.erase q).length = 1 ∨ (L.erase q).length = 2 ∨ (L.erase q).length = 3 by omega) with h | h | h | h <;> rw [h] <;> exact ⟨_, rfl⟩
  obtain ⟨v, hv⟩ := hv
  have hj := fun (W : World) (hW : W.heap[b]? = some (.cells (dC (maskOf L) (L.erase q) R) T (0, 0))) => vjoin_any b 1 T (L.erase q).length _ q v W hl3 hW rfl hv
  have hend : ∀ (K : List Nat), K.length < 4 → (((dC (maskOf L) K R).setIfInBounds (1 + K.length) (.int .i64 q)).setIfInBounds (1 + 4) (.int .i64 ((K.length : Int) + 1))) = dC (maskOf L) (K ++ [q]) R := fun K hK => by
    match K, hK with
    | [], _ => simp [dC]
    | [a], _ => simp [dC]
    | [a, c], _ => simp [dC]
    | [a, c, d], _ => simp [dC]
    | _ :: _ :: _ :: _ :: _, h => exact absurd h (by simp)
  have HE := Go.Lib.hid (hend (L.erase q) hl3); clear hend
  have HJ := Go.Lib.hid hj; clear hj
  have HB := Go.Lib.hid hb; clear hb
  clear hv hl3 hem
  go_enter Tryz.func96, Tryz.ntmps96
  go_wp2_with (first
    | (go_at_call 100; refine (vleave_any b T (maskOf L) q L R _ hL hq HB.out).mono ?_; rintro e w1 ⟨rfl, hb1, hB1⟩; have HB1 := Go.Lib.hid hb1; clear hb1)
    | (go_at_call 77; refine (HJ.out _ HB1.out).mono ?_; rintro e w' ⟨rfl, hb2, hB2⟩))
  go_end0
  exact ⟨rfl, by rw [hb2, HE.out], hB1.trans hB2⟩

end Go.Proofs.YtoobopohohoidaaGreatDoor

namespace Go.Proofs.YtoobopohohoidaaGreatDoor
open Go.RowKit

/-- Rows of numbers, below block B. -/
def Rows (w : World) (B : Nat) (A : Option Addr) (C : List (List Nat)) : Prop :=
  0 < C.length → ∃ ad, A = some ad ∧ ad.block < B ∧ ∀ i, i < C.length → ∃ Ai ci, w.cell? (ad.add i) = some (.slice Ai (C.getD i []).length ci) ∧ Ints w B Ai (C.getD i []).length (ofL (C.getD i []))
theorem Rows.keep {w w' : World} {B : Nat} {A : Option Addr} {C : List (List Nat)} (h : Rows w B A C) (hk : ∀ b, b < B → w'.heap[b]? = w.heap[b]?) : Rows w' B A C := fun h0 => by
  obtain ⟨ad, e, hb, hc⟩ := h h0
  refine ⟨ad, e, hb, fun i hi => ?_⟩
  obtain ⟨Ai, ci, h1, h2⟩ := hc i hi
  exact ⟨Ai, ci, by rw [← h1]; unfold World.cell?; rw [block_add, hk _ hb], h2.keep hk⟩
theorem Rows.below {w w' : World} {B N : Nat} {A : Option Addr} {C : List (List Nat)} (h : Rows w B A C) (hB : Below N w w') (hN : B ≤ N) : Rows w' B A C := h.keep fun b hb => hB.block b (by omega)
theorem Ints.below {w w' : World} {B N n : Nat} {A : Option Addr} {f : Nat → Int} (h : Ints w B A n f) (hB : Below N w w') (hN : B ≤ N) : Ints w' B A n f := h.keep fun b hb => hB.block b (by omega)

/-- A call of N pieces that is valid. -/
structure CallOk (N : Nat) (l : List Nat) : Prop where
  ne : l ≠ []
  sorted : l.Pairwise (· < ·)
  lt : ∀ p ∈ l, p < N
theorem sorted_len : ∀ (l : List Nat) (N lo : Nat), l.Pairwise (· < ·) → (∀ p ∈ l, lo ≤ p ∧ p < N) → l.length + lo ≤ max N lo
  | [], N, lo, _, _ => by simp; omega
  | x :: l, N, lo, hs, hb => by
    have h1 := List.pairwise_cons.1 hs
    have := sorted_len l N (x + 1) h1.2 (fun p hp => ⟨h1.1 p hp, (hb p (by simp [hp])).2⟩)
    have := hb x (by simp)
    simp only [List.length_cons]
    omega
theorem CallOk.len {N : Nat} {l : List Nat} (h : CallOk N l) (hN : N ≤ 6) : l.length ≤ 6 := by
  have := sorted_len l N 0 h.sorted (fun p hp => ⟨Nat.zero_le _, h.lt p hp⟩)
  omega
theorem ofL_mem {l : List Nat} {j : Nat} (hj : j < l.length) : ∃ p, p ∈ l ∧ ofL l j = (p : Int) ∧ l[j]? = some p := ⟨l[j], List.getElem_mem hj, by simp [ofL, List.getD, List.getElem?_eq_getElem hj], List.getElem?_eq_getElem hj⟩

set_option maxHeartbeats 1000000 in
theorem vcheckCall_yes (A : Option Addr) (l : List Nat) (n N cap B : Nat) (w : World) (hN : N ≤ 6) (hl : CallOk N l) (hn : l.length = n) (h : Ints w B A n (ofL l)) :
    Calls Tryz.prog 76 #[.slice A n cap, .int .i64 N] w fun e w' => e = .returned (.int .i64 0) ∧ w = w' := by
  have hlen := hl.len hN
  have hpos : 0 < n := by rw [← hn]; exact List.length_pos_iff.2 hl.ne
  have hn6 : n ≤ 6 := by omega
  have hn0 : ((n : Int) == 0) = false := by simp; omega
  have HL := Go.Lib.hid hl; clear hl
  have HN := Go.Lib.hid hn; clear hn
  clear hlen
  go_enter Tryz.func76, Tryz.ntmps76
  go_wp2
  go_loop [5, 13] (fun least i => ∃ k m : Nat, k ≤ n ∧ i = .int .i64 k ∧ least = .int .i64 m ∧ m ≤ 6 ∧ Hid (∀ p ∈ l.drop k, m ≤ p)) (fun _ i => n - (intOf i).toNat)
  case atStart => exact ⟨0, 0, Nat.zero_le _, rfl, rfl, by omega, Go.Lib.hid fun _ _ => Nat.zero_le _⟩
  case round =>
    obtain ⟨k, m, hk, rfl, rfl, hm, HM⟩ := hrel
    by_cases hlt : k < n
    · obtain ⟨ad, rfl, hb, hc⟩ := h (by omega)
      have hcell := hc k hlt
      clear hc hb h
      obtain ⟨p, hp1, hp2, hp3⟩ := ofL_mem (l := l) (j := k) (by rw [HN.out]; exact hlt)
      rw [hp2] at hcell
      have hpN : p < N := HL.out.lt p hp1
      have hmp : m ≤ p := HM.out p (by
        obtain ⟨hkl, e⟩ := List.getElem?_eq_some_iff.1 hp3
        rw [List.drop_eq_getElem_cons hkl, e]; simp)
      have hnext : ∀ x ∈ l.drop (k + 1), p + 1 ≤ x := fun x hx => by
        obtain ⟨hkl, e⟩ := List.getElem?_eq_some_iff.1 hp3
        have hs := List.Pairwise.drop (i := k) HL.out.sorted
        rw [List.drop_eq_getElem_cons hkl, e] at hs
        exact (List.pairwise_cons.1 hs).1 x hx
      have HX := Go.Lib.hid hnext; clear hnext
      have HP := Go.Lib.hid (And.intro hp1 (And.intro hp2 hp3)); clear hp1 hp2 hp3
      go_wp2_with (go_at_call 74; refine (vwithin_yes _ _ _ _ (by omega) (by omega)).mono ?_; rintro e w' ⟨rfl, rfl⟩)
      go_round
      case rel => exact ⟨k + 1, p + 1, by omega, by go_num, by go_num, by omega, HX⟩
      case measure => simp [intOf]; omega
    · go_wp2
      go_ret
      exact ⟨rfl, rfl⟩

/-- A vault's cells. -/
abbrev vVal (P N : Nat) (sA : Option Addr) (sn sc : Nat) (cA : Option Addr) (cn cc : Nat) : Array Value := #[.int .i64 P, .int .i64 N, .slice sA sn sc, .slice cA cn cc]

theorem take_mask {L : List Nat} {k p : Nat} (h : L[k]? = some p) : maskOf (L.take (k + 1)) = withP (maskOf (L.take k)) p := by
  obtain ⟨hk, e⟩ := List.getElem?_eq_some_iff.1 h
  rw [List.take_succ_eq_append_getElem hk, e, mask_snoc]

set_option maxHeartbeats 1000000 in
theorem vcheckStart_yes (P N sc B : Nat) (L : List Nat) (n : Nat) (sA cA : Option Addr) (cn cc : Nat) (w : World) (hP : P ≤ 4) (hN : N ≤ 6) (hL : Line P L) (hLN : ∀ p ∈ L, p < N) (hn : L.length = n) (hB : B ≤ w.heap.size) (h : Ints w B sA n (ofL L)) :
    Calls Tryz.prog 75 #[.agg (vVal P N sA n sc cA cn cc)] w fun e w' => e = .returned (.int .i64 0) ∧ Below w.heap.size w w' := by
  have hle : n ≤ P := by rw [← hn]; exact hL.le
  have hd : decide (P < n) = false := by simp; omega
  have hd' : ¬ P < n := by omega
  have h1 := h.below ((Below.refl _ w).alloc (Nat.le_refl _) (.cells (vVal P N sA n sc cA cn cc) 25)) hB
  have HL := Go.Lib.hid hL; clear hL
  have HN := Go.Lib.hid hn; clear hn
  have HLN := Go.Lib.hid hLN; clear hLN
  have HI := Go.Lib.hid h1; clear h1 h
  go_enter Tryz.func75, Tryz.ntmps75
  go_wp2
  go_loop [3, 15] (fun s i => ∃ k : Nat, k ≤ n ∧ i = .int .i64 k ∧ s = .int .u8 (maskOf (L.take k))) (fun _ i => n - (intOf i).toNat)
  case atStart => exact ⟨0, Nat.zero_le _, rfl, rfl⟩
  case round =>
    obtain ⟨k, hk, rfl, rfl⟩ := hrel
    by_cases hlt : k < n
    · obtain ⟨ad, rfl, hb, hc⟩ := HI.out (by omega)
      have hcell := hc k hlt
      obtain ⟨p, hp1, hp2, hp3⟩ := ofL_mem (l := L) (j := k) (by rw [HN.out]; exact hlt)
      rw [hp2] at hcell
      have hpN : p < N := HLN.out p hp1
      have hpN2 : (p : Int) ≤ (N : Int) - 1 := by omega
      have hm64 : maskOf (L.take k) < 64 := mask_lt fun x hx => HL.out.lt x (List.mem_of_mem_take hx)
      have hnot : (maskOf (L.take k)).testBit p = false := by
        rw [mask_bit]
        simp only [decide_eq_false_iff_not]
        intro hm
        obtain ⟨hkl, e⟩ := List.getElem?_eq_some_iff.1 hp3
        have hd := HL.out.nodup
        rw [← List.take_append_drop k L, List.drop_eq_getElem_cons hkl, e, List.nodup_append] at hd
        exact hd.2.2 p hm p (by simp) rfl
      have HT := Go.Lib.hid (take_mask hp3)
      have HP := Go.Lib.hid (And.intro hp1 (And.intro hp2 hp3)); clear hp1 hp2 hp3 hc hb
      obtain ⟨s, hs⟩ : ∃ s, maskOf (L.take k) = s := ⟨_, rfl⟩
      rw [hs] at hm64 hnot HT ⊢
      clear hs
      go_wp2_with (first
        | (go_at_call 74; refine (vwithin_yes _ _ _ _ (by omega) (by omega)).mono ?_; rintro e w' ⟨rfl, rfl⟩)
        | (go_at_call 55; refine (vhas_any s p _ hm64 (by omega)).mono ?_; rintro e w' ⟨rfl, rfl⟩)
        | (go_at_call 57; refine (vwith_any s p _ hm64 (by omega)).mono ?_; rintro e w' ⟨rfl, rfl⟩))
      go_round
      case rel =>
        exact ⟨k + 1, by omega, by go_num, by rw [HT.out]⟩
      case measure => simp [intOf]; omega
    · go_wp2
      go_ret
      exact ⟨rfl, (Below.refl _ _).alloc (Nat.le_refl _) _⟩

theorem vcontains_yes (A : Option Addr) (L : List Nat) (n cap B : Nat) (x : Nat) (w : World) (hL : L.length = n) (hn : n ≤ 99) (h : Ints w B A n (ofL L)) (hx : x ∈ L) :
    Calls Tryz.prog 48 #[.slice A n cap, .int .i64 x] w fun e w' => e = .returned (.bool true) ∧ w = w' := by
  have hi : ∃ k : Nat, idxI L x = k := ⟨L.idxOf x, by rw [idxI, if_pos hx]⟩
  obtain ⟨k, hk⟩ := hi
  have hc := fun W (hW : Ints W B A n (ofL L)) => vindex_any A L n cap B x W hL hn hW
  rw [hk] at hc
  have HC := Go.Lib.hid hc; clear hc hk hL
  go_enter Tryz.func48, Tryz.ntmps48
  go_wp2_with (go_at_call 78; refine (HC.out _ h).mono ?_; rintro e w' ⟨rfl, rfl⟩)
  go_ret
  exact ⟨rfl, rfl⟩

/-- A valid vault. -/
structure VaultOk (P N : Nat) (L : List Nat) (C : List (List Nat)) : Prop where
  p1 : 1 ≤ P
  p4 : P ≤ 4
  n1 : 1 ≤ N
  n6 : N ≤ 6
  line : Line P L
  lt : ∀ p ∈ L, p < N
  calls : C.length ≤ 8
  call : ∀ l ∈ C, CallOk N l
theorem getD_mem {α : Type} {C : List α} {i : Nat} {d : α} (hi : i < C.length) : C.getD i d ∈ C := by
  rw [List.getD_eq_getElem?_getD, List.getElem?_eq_getElem hi]; exact List.getElem_mem hi

set_option maxRecDepth 100000 in
set_option maxHeartbeats 2000000 in
theorem vcheckVault_yes (P N sc B : Nat) (L : List Nat) (C : List (List Nat)) (n m : Nat) (sA cA : Option Addr) (cc : Nat) (w : World) (hV : VaultOk P N L C) (hn : L.length = n) (hm : C.length = m) (hB : B ≤ w.heap.size) (h : Ints w B sA n (ofL L)) (hR : Rows w B cA C) :
    Calls Tryz.prog 45 #[.agg (vVal P N sA n sc cA m cc)] w fun e w' => e = .returned (.int .i64 0) ∧ Below w.heap.size w w' := by
  obtain ⟨p1, p4, n1, n6, hL, hLN, hC8, hC⟩ := hV
  rw [hm] at hC8
  have hd : decide (8 < m) = false := by simp; omega
  have HS := Go.Lib.hid (fun (W : World) (hW : Below w.heap.size w W) => vcheckStart_yes P N sc B L n sA cA m cc W p4 n6 hL hLN hn (Nat.le_trans hB hW.size) (h.below hW hB))
  have HR := Go.Lib.hid (fun (W : World) (hW : Below w.heap.size w W) => hR.below hW hB)
  have HC := Go.Lib.hid hC
  have HM := Go.Lib.hid hm
  have hB0 := (Below.refl w.heap.size w).alloc (Nat.le_refl _) (.cells (vVal P N sA n sc cA m cc) 25)
  have HB := Go.Lib.hid hB0
  clear h hR hL hLN hn hm hC hB0
  go_enter Tryz.func45, Tryz.ntmps45
  go_wp2_with (first
    | (go_at_call 74; refine (vwithin_yes _ _ _ _ (by omega) (by omega)).mono ?_; rintro e w' ⟨rfl, rfl⟩)
    | (go_at_call 75; refine (HS.out _ HB.out).mono ?_; rintro e w1 ⟨rfl, hB1⟩
       have k0 : w1.heap[w.heap.size]? = some (.cells (vVal P N sA n sc cA m cc) 25 (0, 0)) := (hB1.block _ (by simp)).trans (heap_alloc_new w _)
       have c1 : w1.cell? ⟨w.heap.size, 1, none⟩ = some (.int .i64 N) := cellH k0 1
       have c3 : w1.cell? ⟨w.heap.size, 3, none⟩ = some (.slice cA m cc) := cellH k0 3
       clear k0))
  have hBw : Below w.heap.size w w1 := HB.out.trans (hB1.mono (by simp))
  have hrow := HR.out w1 hBw
  have HRW := Go.Lib.hid hrow
  have HBW := Go.Lib.hid hBw
  clear hrow hBw hB1
  go_loop [29] (fun i => ∃ k : Nat, k ≤ m ∧ i = .int .i64 k) (fun i => m - (intOf i).toNat)
  case atStart => exact ⟨0, Nat.zero_le _, rfl⟩
  case round =>
    obtain ⟨k, hk, rfl⟩ := hrel
    by_cases hlt : k < m
    · obtain ⟨ad, rfl, hb, hc⟩ := HRW.out (by rw [HM.out]; omega)
      obtain ⟨Ai, ci, hcell, hints⟩ := hc k (by rw [HM.out]; exact hlt)
      have hok := HC.out (C.getD k []) (getD_mem (by rw [HM.out]; exact hlt))
      obtain ⟨l, hl⟩ : ∃ l, C.getD k [] = l := ⟨_, rfl⟩
      rw [hl] at hcell hints hok
      obtain ⟨ln, hln⟩ : ∃ ln, l.length = ln := ⟨_, rfl⟩
      rw [hln] at hcell hints
      have HX := Go.Lib.hid (vcheckCall_yes Ai l ln N ci B w1 n6 hok hln hints)
      clear hok hints hc hb hl
      go_wp2_with (go_at_call 76; refine (HX.out).mono ?_; rintro e w' ⟨rfl, rfl⟩)
      go_round
      case rel => exact ⟨k + 1, by omega, by go_num⟩
      case measure => simp [intOf]; omega
    · go_wp2
      go_ret
      exact ⟨rfl, HBW.out⟩

/-- A vault at work. -/
abbrev wVal (P N : Nat) (sA : Option Addr) (sn sc : Nat) (cA : Option Addr) (cn cc : Nat) (L : List Nat) : Array Value :=
  #[.int .i64 P, .int .i64 N, .slice sA sn sc, .slice cA cn cc, .int .u8 (maskOf L), pI (L.getD 0 0), pI (L.getD 1 0), pI (L.getD 2 0), pI (L.getD 3 0), pI L.length, .slice none 0 0]
/-- A truth of calls. -/
structure TruthOk (C : List (List Nat)) (t : List Nat) : Prop where
  len : t.length = C.length
  mem : ∀ i, i < C.length → t.getD i 0 ∈ C.getD i []

set_option maxRecDepth 100000 in
set_option maxHeartbeats 2000000 in
theorem vcheckTruth_yes (P N B : Nat) (d0 d1 d2 d3 d4 d5 d6 : Value) (C : List (List Nat)) (t : List Nat) (m : Nat) (sA cA tA : Option Addr) (sn sc cc tc : Nat) (w : World) (hC : ∀ l ∈ C, l.length ≤ 6) (ht : TruthOk C t) (hm : C.length = m) (hm8 : m ≤ 8) (hB : B ≤ w.heap.size) (hT : Ints w B tA m (ofL t)) (hR : Rows w B cA C) :
    Calls Tryz.prog 30 #[.agg #[.int .i64 P, .int .i64 N, .slice sA sn sc, .slice cA m cc, d0, d1, d2, d3, d4, d5, d6], .slice tA m tc] w fun e w' => e = .returned .nilIface ∧ Below w.heap.size w w' := by
  have hB0 := (Below.refl w.heap.size w).alloc (Nat.le_refl _) (.cells #[.int .i64 P, .int .i64 N, .slice sA sn sc, .slice cA m cc, d0, d1, d2, d3, d4, d5, d6] 58)
  have HR := Go.Lib.hid (hR.below hB0 hB)
  have HT := Go.Lib.hid (hT.below hB0 hB)
  have HB := Go.Lib.hid hB0
  have HM := Go.Lib.hid hm
  have HC := Go.Lib.hid hC
  have HTO := Go.Lib.hid ht
  clear hB0 hm hC ht hT hR
  go_enter Tryz.func30, Tryz.ntmps30
  go_wp2
  go_loop [27] (fun i => ∃ k : Nat, k ≤ m ∧ i = .int .i64 k) (fun i => m - (intOf i).toNat)
  case atStart => exact ⟨0, Nat.zero_le _, rfl⟩
  case round =>
    obtain ⟨k, hk, rfl⟩ := hrel
    by_cases hlt : k < m
    · obtain ⟨ad, rfl, hb, hc⟩ := HR.out (by rw [HM.out]; omega)
      obtain ⟨Ai, ci, hcell, hints⟩ := hc k (by rw [HM.out]; exact hlt)
      obtain ⟨tad, rfl, htb, htc⟩ := HT.out (by omega)
      have htcell := htc k hlt
      have hmem := HTO.out.mem k (by rw [HM.out]; exact hlt)
      have hlen := HC.out (C.getD k []) (getD_mem (by rw [HM.out]; exact hlt))
      obtain ⟨l, hl⟩ : ∃ l, C.getD k [] = l := ⟨_, rfl⟩
      rw [hl] at hcell hints hmem hlen
      obtain ⟨ln, hln⟩ : ∃ ln, l.length = ln := ⟨_, rfl⟩
      rw [hln] at hcell hints hlen
      obtain ⟨p, hp⟩ : ∃ p, t.getD k 0 = p := ⟨_, rfl⟩
      rw [hp] at hmem
      have e : ofL t k = (p : Int) := by simp only [ofL]; rw [hp]
      rw [e] at htcell
      have HX := Go.Lib.hid (vcontains_yes Ai l ln ci B p _ hln (by omega) hints hmem)
      clear hints hc hb hl htc htb hmem e hp hln hlen
      go_wp2_with (go_at_call 48; refine (HX.out).mono ?_; rintro e w' ⟨rfl, rfl⟩)
      go_round
      case rel => exact ⟨k + 1, by omega, by go_num⟩
      case measure => simp [intOf]; omega
    · go_wp2
      go_ret
      exact ⟨rfl, HB.out⟩

end Go.Proofs.YtoobopohohoidaaGreatDoor
