/- THE KIT: TruthOf. -/
/- THE KIT: VaultOf. -/
import Derived.Test.YtoobopohohoidaaGreatDoorKitA
import Derived.Test.YtoobopohohoidaaGreatDoorRng
import Derived.Test.YtoobopohohoidaaGreatDoorVZ0
set_option linter.unusedSimpArgs false
set_option linter.unusedVariables false
namespace Go.Proofs.YtoobopohohoidaaGreatDoor
open Go.RowKit

/-- What TruthOf gives. -/
def TruthPost (B tb g m : Nat) (C : List (List Nat)) (w : World) (e : Ending) (w' : World) : Prop :=
  ∃ (v : Value) (t : List Nat), e = .returned v ∧ TruthOk C t ∧ w'.ownsRow w.heap.size 3 1 v m (t.map fun x : Nat => Value.int .i64 (x : Int)) ∧ Turn (fun b => b = tb) w w' ∧ TinAt w' B tb (g + m)
/-- The truth so far. -/
def TruthAt (C : List (List Nat)) (t : List Nat) : Prop := ∀ i, i < t.length → t.getD i 0 ∈ C.getD i []
theorem row_cells {W : World} {base e n : Nat} {v : Value} {xs : List Value} (h : W.ownsRow base e 1 v n xs) (h1 : 1 ≤ n) : ∃ ad cap, v = .slice (some ad) n cap ∧ base ≤ ad.block ∧ ∀ j, j < n → W.cell? (ad.add j) = xs[j]? := by
  rcases h.2 with ⟨_, h0⟩ | ⟨g, cap, cur, rfl, hb, hg, _, _, _, hx⟩
  · omega
  · refine ⟨⟨g, 0, none⟩, cap, rfl, hb, fun j hj => ?_⟩
    have e1 : (⟨g, 0, none⟩ : Addr).add j = ⟨g, j, none⟩ := by simp [Addr.add]; omega
    rw [e1, cellH hg, ← hx, List.getElem?_take_of_lt (by omega)]
    simp

set_option maxRecDepth 100000 in
set_option maxHeartbeats 4000000 in
theorem truthOf_any (B tb g P N n sn sc m cc NB : Nat) (sA cA : Option Addr) (C : List (List Nat)) (w : World) (hgm : g < 4611686018427300000) (hm : C.length = m) (hm9 : m ≤ 99) (hl : ∀ l ∈ C, l.length ≤ 99) (hNB : tb < NB) (hw : NB ≤ w.heap.size) (hC : CallsAt NB n (.slice cA m cc) C w) (h : TinAt w B tb g) :
    Calls Tryz.prog 27 #[.pointer (some ⟨tb, 0, none⟩), .agg (vVal P N sA sn sc cA m cc)] w (TruthPost B tb g m C w) := by
  obtain ⟨i0, hi, hz0, hz1, hz2⟩ := info_parts info_intK
  have hBt : B ≤ tb := let ⟨_, _, _, _, _, h, _⟩ := h; h
  have hb0 := heap_alloc_new w (.cells (vVal P N sA sn sc cA m cc) 25)
  have HB0 := Go.Lib.hid hb0
  have hTw : Turn (fun _ => False) w (w.alloc (.cells (vVal P N sA sn sc cA m cc) 25)) := (Turn.refl _ w).alloc _
  have HT0 := Go.Lib.hid (h.keep fun b hb => hTw.block b (by have := h.lt; omega) (fun h => h))
  have HTW := Go.Lib.hid hTw
  have HC := Go.Lib.hid hC
  have HM := Go.Lib.hid hm
  have HL := Go.Lib.hid hl
  clear hb0 hTw h hC hm hl
  go_enter Tryz.func27, Tryz.ntmps27
  go_wp2
  go_loopw [5, 6] (fun ov iv wr => ∃ (i : Nat) (t : List Nat), i ≤ m ∧ iv = .int .i64 i ∧ Hid (t.length = i) ∧ Hid (TruthAt C t) ∧ Hid (wr.ownsRow (w.heap.size + 1) 3 1 ov i (t.map fun x : Nat => Value.int .i64 (x : Int))) ∧ Hid (Turn (fun b => b = tb) (w.alloc (.cells (vVal P N sA sn sc cA m cc) 25)) wr) ∧ Hid (TinAt wr B tb (g + i))) (fun ov iv _ => m - (intOf iv).toNat)
  case atStart => exact ⟨0, [], Nat.zero_le _, rfl, Go.Lib.hid rfl, Go.Lib.hid (fun i hi => by simp at hi), Go.Lib.hid (World.ownsRow_nil _ _ _ _), Go.Lib.hid (Turn.refl _ _), HT0⟩
  case round =>
    obtain ⟨i, t, hi9, rfl, HLEN, HTA, HROW, HTU, HTI⟩ := hrel
    have hbx : wr.heap[w.heap.size]? = some (.cells (vVal P N sA sn sc cA m cc) 25 (0, 0)) := HTU.out.heap' HB0.out (by omega)
    have c3 : wr.cell? ⟨w.heap.size, 3, none⟩ = some (.slice cA m cc) := cellH hbx 3
    have HBX := Go.Lib.hid hbx
    clear hbx
    have hszr : w.heap.size + 1 ≤ wr.heap.size := by have := HTU.out.size; simp at this; omega
    by_cases hlt : i < m
    · have him : (i : Int) < m := by omega
      have hCr : CallsAt NB n (.slice cA m cc) C wr := (HC.out.keep HTW.out (fun _ _ h => h)).keep HTU.out (fun b hb h => by omega)
      obtain ⟨xs, hx1, hx2, hx3⟩ := hCr
      obtain ⟨r, hr1, hr2⟩ := hx3 i (by rw [HM.out]; exact hlt)
      obtain ⟨ad, cpx, hcA, hab, hac⟩ := row_cells hx1 (by rw [HM.out]; omega)
      simp only [Value.slice.injEq] at hcA
      obtain ⟨rfl, h77, h78⟩ := hcA
      clear h77 h78
      have hcr := (hac i (by rw [HM.out]; exact hlt)).trans hr1
      have hmem := getD_mem (d := []) (show i < C.length by rw [HM.out]; exact hlt)
      have hok := hx2 _ hmem
      obtain ⟨l, hlE⟩ : ∃ l, C.getD i [] = l := ⟨_, rfl⟩
      rw [hlE] at hr2 hok hmem
      have hl1 : 1 ≤ l.length := List.length_pos_iff.2 hok.ne
      have hl9 := HL.out l hmem
      obtain ⟨ar, cr, rfl, hrb, hrc⟩ := row_cells hr2 hl1
      have hrc2 : ∀ j, j < l.length → wr.cell? (ar.add j) = some (.int .i64 ((l.getD j 0 : Nat) : Int)) := fun j hj => by
        rw [hrc j hj, List.getElem?_map, List.getElem?_eq_getElem hj]
        simp [hj]
      have HRC := Go.Lib.hid hrc2
      have HLE := Go.Lib.hid hlE
      obtain ⟨nl, hnl⟩ : ∃ nl, l.length = nl := ⟨_, rfl⟩
      have HNL := Go.Lib.hid hnl
      rw [hnl] at hcr hl1 hl9 HRC
      clear hx1 hx2 hx3 hr1 hr2 hac hrc hrc2 hlE hmem hok hnl
      go_wp2_with (first
        | (go_at_call 12; refine (either_any B tb (g + i) nl cr ar (fun j => ((l.getD j 0 : Nat) : Int)) _ (by omega) hl1 (by omega) (by omega) HRC.out HTI.out).mono ?_; rintro e w1 ⟨j, hj, rfl, ho1, ht1⟩
           have HR1 := Go.Lib.hid (own_turn HROW.out (Only.turn ho1) (fun b hb h => by omega)))
        | (at_builtin; go_must (refine wpList_append_own _ rfl _ _ 22 rfl (w.heap.size + 1) 3 i0 (.int .i64 0) 1 8 Tryz.underlying22 hi hz0 hz1 hz2 rfl (by decide) _ _ _ rfl (HR1.out.alloc _) ⟨w1.heap.size, 0, none⟩ 1 1 [.int .i64 ((l.getD j 0 : Nat) : Int)] rfl rfl (cell_one_new _ _ _) (by simp [Value.oneCell']) (by unfold maxLen; omega) (by omega) (by have := ho1.size; simp; omega) ?_; intro v' w4 hown' hgrow _)))
      have hB4 : Below (w.heap.size + 1) w1 w4 := own_grown (Below.refl _ _) (by have := ho1.size; omega) HR1.out hgrow
      have hlen := HLEN.out
      have hta : TruthAt C (t ++ [l.getD j 0]) := fun q hq => by
        by_cases hq2 : q < t.length
        · have e1 : (t ++ [l.getD j 0]).getD q 0 = t.getD q 0 := by rw [List.getD_eq_getElem?_getD, List.getElem?_append_left hq2, ← List.getD_eq_getElem?_getD]
          rw [e1]; exact HTA.out q hq2
        · have e0 : q = t.length := by simp at hq; omega
          subst e0
          have e1 : (t ++ [l.getD j 0]).getD t.length 0 = l.getD j 0 := by simp
          rw [e1, hlen, HLE.out]
          exact getD_mem (by rw [HNL.out]; exact hj)
      have hT4 : Turn (fun b => b = tb) (w.alloc (.cells (vVal P N sA sn sc (some ad) m cc) 25)) w4 := ((HTU.out.trans (Only.turn ho1)).mono (T' := fun b => b = tb ∨ w.heap.size + 1 ≤ b) fun b _ h => .inl h).trans ((Turn.of_below hB4).mono fun b _ h => .inr h) |>.mono fun b hb h => by simp at hb; omega
      exact ⟨⟨i + 1, t ++ [l.getD j 0], by omega, by go_num, Go.Lib.hid (by simp [hlen]), Go.Lib.hid hta, Go.Lib.hid (by simpa using hown'), Go.Lib.hid hT4, Go.Lib.hid (ht1.keep fun b hb => hB4.block b (by have := ht1.lt; omega))⟩, by simp [intOf]; omega⟩
    · have HI0 := Go.Lib.hid (show i = m by omega)
      go_wp2_with fail
      go_ret
      obtain rfl := HI0.out
      refine ⟨_, t, rfl, ⟨HLEN.out.trans HM.out.symm, fun q hq => HTA.out q (by rw [HLEN.out, ← HM.out]; exact hq)⟩, own_base HROW.out (by omega), ?_, HTI.out⟩
      exact (HTW.out.mono fun _ _ h => h.elim).trans HTU.out

end Go.Proofs.YtoobopohohoidaaGreatDoor

namespace Go.Proofs.YtoobopohohoidaaGreatDoor
open Go.RowKit Go.Maps Go.Shelf

attribute [local go_sem] Oper.semAt_some

/-- What VaultOf gives. -/
def VaultPost (B tb g calls : Nat) (w : World) (e : Ending) (w' : World) : Prop :=
  ∃ (P N : Nat) (L : List Nat) (C : List (List Nat)) (t : List Nat) (sA cA tA : Option Addr) (sc cc tc g' : Nat), e = .returned (.tuple #[.agg (vVal P N sA L.length sc cA C.length cc), .slice tA C.length tc]) ∧ VaultOk P N L C ∧ TruthOk C t ∧ C.length ≤ calls ∧ C.length ≤ tc ∧
    (∀ W', (∀ b, w.heap.size ≤ b → b < w'.heap.size → W'.heap[b]? = w'.heap[b]?) → Ints W' w'.heap.size sA L.length (ofL L) ∧ Rows W' w'.heap.size cA C ∧ Ints W' w'.heap.size tA C.length (ofL t)) ∧ Turn (fun b => b = tb) w w' ∧ TinAt w' B tb g' ∧ g' ≤ g + 3000
def eitherP (j : Nat) : Nat := [1, 2, 2, 3, 3, 4].getD j 0
theorem eitherP_in {j : Nat} (h : j < 6) : 1 ≤ eitherP j ∧ eitherP j ≤ 4 := by
  match j, h with
  | 0, _ => decide
  | 1, _ => decide
  | 2, _ => decide
  | 3, _ => decide
  | 4, _ => decide
  | 5, _ => decide
abbrev sixV : Array Value := #[.int .i64 1, .int .i64 2, .int .i64 2, .int .i64 3, .int .i64 3, .int .i64 4]
theorem six_at {W : World} {b T : Nat} (h : W.heap[b]? = some (.cells sixV T (0, 0))) : ∀ j, j < 6 → W.cell? ((⟨b, 0, none⟩ : Addr).add j) = some (.int .i64 ((eitherP j : Nat) : Int)) := fun j hj => by
  have e1 : (⟨b, 0, none⟩ : Addr).add j = ⟨b, j, none⟩ := by simp [Addr.add]; omega
  rw [e1, cellH h]
  match j, hj with
  | 0, _ => rfl
  | 1, _ => rfl
  | 2, _ => rfl
  | 3, _ => rfl
  | 4, _ => rfl
  | 5, _ => rfl

theorem own_cap {W : World} {base e n cap : Nat} {A : Option Addr} {xs : List Value} (h : W.ownsRow base e 1 (.slice A n cap) n xs) : n ≤ cap := by
  rcases h.2 with ⟨_, h0⟩ | ⟨g, cap', cur, hE, _, _, h1, _⟩
  · omega
  · simp only [Value.slice.injEq] at hE
    omega
theorem ints_own {W : World} {base n cap : Nat} {A : Option Addr} {t : List Nat} (h : W.ownsRow base 3 1 (.slice A n cap) n (t.map fun x : Nat => Value.int .i64 (x : Int))) (hn : t.length = n) : Ints W W.heap.size A n (ofL t) := by
  intro h0
  obtain ⟨ad, cp, hE, _, hc⟩ := row_cells h (by omega)
  simp only [Value.slice.injEq] at hE
  obtain ⟨rfl, _, _⟩ := hE
  have hlt : ∀ j, j < n → W.cell? (ad.add j) = some (.int .i64 (ofL t j)) := fun j hj => by
    rw [hc j hj, List.getElem?_map, List.getElem?_eq_getElem (by omega)]
    simp [ofL, show j < t.length by omega]
  refine ⟨ad, rfl, ?_, hlt⟩
  have := hlt 0 h0
  rcases h.2 with ⟨_, h9⟩ | ⟨g, cap', cur, hE2, _, hg, _⟩
  · omega
  · simp only [Value.slice.injEq, Option.some.injEq] at hE2
    obtain ⟨rfl, _, _⟩ := hE2
    exact (Array.getElem?_eq_some_iff.1 hg).1
theorem rows_of {W : World} {NB n cc : Nat} {cA : Option Addr} {C : List (List Nat)} (h : CallsAt NB n (.slice cA C.length cc) C W) : Rows W W.heap.size cA C := by
  intro h0
  obtain ⟨xs, h1, h2, h3⟩ := h
  obtain ⟨ad, cp, hE, _, hc⟩ := row_cells h1 (by omega)
  simp only [Value.slice.injEq] at hE
  obtain ⟨rfl, _, _⟩ := hE
  refine ⟨ad, rfl, ?_, fun i hi => ?_⟩
  · rcases h1.2 with ⟨_, h9⟩ | ⟨g, cap', cur, hE2, _, hg, _⟩
    · omega
    · simp only [Value.slice.injEq, Option.some.injEq] at hE2
      obtain ⟨rfl, _, _⟩ := hE2
      exact (Array.getElem?_eq_some_iff.1 hg).1
  · obtain ⟨r, h4, h5⟩ := h3 i hi
    obtain ⟨A, cap, rfl⟩ := own_form h5
    exact ⟨A, cap, (hc i hi).trans h4, ints_own h5 rfl⟩

theorem cell_eq {W W' : World} {ad : Addr} (h : W'.heap[ad.block]? = W.heap[ad.block]?) (j : Nat) : W'.cell? (ad.add j) = W.cell? (ad.add j) := by
  unfold World.cell?; rw [block_add, h]
theorem own_at {W : World} {base e size n cap : Nat} {ad : Addr} {xs : List Value} (h : W.ownsRow base e size (.slice (some ad) n cap) n xs) : base ≤ ad.block ∧ ad.block < W.heap.size := by
  rcases h.2 with ⟨hE, _⟩ | ⟨g, cap', cur, hE, hb, hg, _⟩
  · simp at hE
  · simp only [Value.slice.injEq, Option.some.injEq] at hE
    obtain ⟨rfl, _, _⟩ := hE
    exact ⟨hb, (Array.getElem?_eq_some_iff.1 hg).1⟩
theorem ints_own_kept {W W' : World} {base n cap : Nat} {A : Option Addr} {t : List Nat} (h : W.ownsRow base 3 1 (.slice A n cap) n (t.map fun x : Nat => Value.int .i64 (x : Int))) (hn : t.length = n) (hk : ∀ b, base ≤ b → b < W.heap.size → W'.heap[b]? = W.heap[b]?) : Ints W' W.heap.size A n (ofL t) := fun h0 => by
  obtain ⟨ad, e, hb, hc⟩ := ints_own h hn h0
  subst e
  obtain ⟨h1, h2⟩ := own_at h
  exact ⟨ad, rfl, hb, fun j hj => (cell_eq (hk _ h1 h2) j).trans (hc j hj)⟩
theorem rows_of_kept {W W' : World} {NB n cc : Nat} {cA : Option Addr} {C : List (List Nat)} (h : CallsAt NB n (.slice cA C.length cc) C W) (hk : ∀ b, NB ≤ b → b < W.heap.size → W'.heap[b]? = W.heap[b]?) : Rows W' W.heap.size cA C := by
  intro h0
  obtain ⟨ad, e, hb, hc⟩ := rows_of h h0
  subst e
  obtain ⟨xs, h1, h2, h3⟩ := h
  obtain ⟨k1, k2⟩ := own_at h1
  refine ⟨ad, rfl, hb, fun i hi => ?_⟩
  obtain ⟨r, h4, h5⟩ := h3 i hi
  obtain ⟨A, cap, rfl⟩ := own_form h5
  obtain ⟨ad', cp, hE, _, hc'⟩ := row_cells h1 (by omega)
  simp only [Value.slice.injEq, Option.some.injEq] at hE
  obtain ⟨rfl, _, _⟩ := hE
  exact ⟨A, cap, (cell_eq (hk _ k1 k2) i).trans ((hc' i hi).trans h4), ints_own_kept h5 rfl hk⟩

set_option maxRecDepth 100000 in
set_option maxHeartbeats 8000000 in
theorem vaultOf_any (B tb g calls each : Nat) (w : World) (hgm : g < 4611686018427200000) (hc : calls ≤ 8) (he : 1 ≤ each) (he9 : each ≤ 99) (h : TinAt w B tb g) :
    Calls Tryz.prog 10 #[.pointer (some ⟨tb, 0, none⟩), .int .i64 calls, .int .i64 each] w (VaultPost B tb g calls w) := by
  have hBt : B ≤ tb := let ⟨_, _, _, _, _, h, _⟩ := h; h
  have htb := h.lt
  have hTw : Turn (fun _ => False) w ((w.alloc (.cells #[.int .i64 0, .int .i64 0, .slice none 0 0, .slice none 0 0] 25)).alloc (.cells sixV 3)) := ((Turn.refl _ w).alloc _).alloc _
  have HT0 := Go.Lib.hid (h.keep fun b hb => hTw.block b (by omega) (fun h => h))
  have H6S := Go.Lib.hid (six_at (heap_alloc_new (w.alloc (.cells #[.int .i64 0, .int .i64 0, .slice none 0 0, .slice none 0 0] 25)) (.cells sixV 3)))
  have HTW := Go.Lib.hid hTw
  clear h hTw
  have hmo : Tryz.prog.follows .mixedOrders = true := by kernel_rfl
  have h6 := H6S.out
  simp only [World.size_alloc] at h6
  have HE := Go.Lib.hid (either_any B tb g 6 6 ⟨w.heap.size + 1, 0, none⟩ (fun j => ((eitherP j : Nat) : Int)) _ (by omega) (by omega) (by omega) (by show w.heap.size + 1 ≠ tb; omega) h6 HT0.out)
  clear h6
  go_enter Tryz.func10, Tryz.ntmps10
  go_wp2_with (first
    | (go_at_call 12; go_must (refine HE.out.mono ?_; rintro e w1 ⟨jP, hjP, rfl, ho1, ht1⟩)
       obtain ⟨P, hPe⟩ : ∃ P, eitherP jP = P := ⟨_, rfl⟩
       have hP1 : 1 ≤ P ∧ P ≤ 4 := hPe ▸ eitherP_in hjP
       dsimp only
       rw [hPe])
    | (go_at_call 13; refine (within_any B tb (g + 1) 1 6 _ (by omega) (by omega) (by omega) (by omega) (by omega) ht1).mono ?_; rintro e w2 ⟨Ni, hN1, hN2, rfl, ho2, ht2⟩
       obtain ⟨N, rfl⟩ : ∃ N : Nat, Ni = N := ⟨Ni.toNat, by omega⟩))
  refine (mixed_any B tb (g + 1 + 1) N (w2.alloc (.cells #[.int .i64 P, .int .i64 N, .slice none 0 0, .slice none 0 0] 25)) (by omega) (by omega) (ht2.keep fun b hb => (Turn.refl (fun _ => False) w2 |>.alloc _).block b (by have := ht2.lt; omega) (fun h => h))).mono ?_
  rintro e w4 ⟨f, hmix, rfl, hrow, hT4, ht4⟩
  have hsz2 : w.heap.size + 2 ≤ w2.heap.size := by have := ho1.size; have := ho2.size; simp at *; omega
  have hvb : w4.heap[w2.heap.size]? = some (.cells #[.int .i64 P, .int .i64 N, .slice none 0 0, .slice none 0 0] 25 (0, 0)) := hT4.heap' (heap_alloc_new w2 _) (by omega)
  have hrow' : w4.heap[w2.heap.size + 1]? = some (.cells (fxV N f) 3 (0, 0)) := by
    have := hrow
    rwa [World.size_alloc] at this
  have HMX := Go.Lib.hid hmix
  clear hrow hmix
  go_wp2_with fail
  refine (wpIn_wide (n := 20)).1 ?_
  refine wpIn_region_heldN (S := (fun W : World => ∃ x : Value, W.heap[w2.heap.size]? = some (.cells #[.int .i64 P, .int .i64 N, x, .slice none 0 0] 25 (0, 0)))) hmo ?_
  have HV0 : (fun W : World => W.heap[w2.heap.size]? = some (.cells #[.int .i64 P, .int .i64 N, .slice none 0 0, .slice none 0 0] 25 (0, 0))) w4.drew := hvb
  have HS0 : (fun W : World => ∃ x : Value, W.heap[w2.heap.size]? = some (.cells #[.int .i64 P, .int .i64 N, x, .slice none 0 0] 25 (0, 0))) w4.drew := ⟨_, HV0⟩
  refine wpAnyI_take (i := 0) (v := ?_) wide_fn (by kernel_rfl) rfl (by kernel_rfl) (by kernel_rfl) (by kernel_rfl) (fun _ _ _ h => h) HS0 (.inl ⟨by rfl, ?hy⟩) ?_
  case hy => intro w hS; first | (go_simp; done) | (go_simp; rfl)
  refine wpAnyI_take (i := 1) (v := ?_) wide_fn (by kernel_rfl) rfl (by kernel_rfl) (by kernel_rfl) (by kernel_rfl) (fun _ _ _ h => h) HS0 (.inl ⟨by rfl, ?hy⟩) ?_
  case hy => intro w hS; first | (go_simp; done) | (go_simp; rfl)
  refine wpAnyI_take (i := 2) (v := .int .i64 N) wide_fn (by kernel_rfl) rfl (by kernel_rfl) (by kernel_rfl) (by kernel_rfl) (fun _ _ _ h => h) HS0 (.inl ⟨by rfl, ?hy⟩) ?_
  case hy => rintro w ⟨xS, hS⟩; have e0 : w.cell? ⟨w2.heap.size, 0, none⟩ = some (.int .i64 P) := cellH hS 0; have e1 : w.cell? ⟨w2.heap.size, 1, none⟩ = some (.int .i64 N) := cellH hS 1; clear hS; first | (go_simp; done) | (go_simp; rfl)
  refine wpAnyI_take (i := 3) (v := ?_) wide_fn (by kernel_rfl) rfl (by kernel_rfl) (by kernel_rfl) (by kernel_rfl) (fun _ _ _ h => h) HS0 (.inl ⟨by rfl, ?hy⟩) ?_
  case hy => intro w hS; first | (go_simp; done) | (go_simp; rfl)
  refine wpAnyI_take (i := 4) (v := ?_) wide_fn (by kernel_rfl) rfl (by kernel_rfl) (by kernel_rfl) (by kernel_rfl) (fun _ _ _ h => h) HS0 (.inl ⟨by rfl, ?hy⟩) ?_
  case hy => intro w hS; first | (go_simp; done) | (go_simp; rfl)
  refine wpAnyI_take (i := 5) (v := .int .i64 P) wide_fn (by kernel_rfl) rfl (by kernel_rfl) (by kernel_rfl) (by kernel_rfl) (fun _ _ _ h => h) HS0 (.inl ⟨by rfl, ?hy⟩) ?_
  case hy => rintro w ⟨xS, hS⟩; have e0 : w.cell? ⟨w2.heap.size, 0, none⟩ = some (.int .i64 P) := cellH hS 0; have e1 : w.cell? ⟨w2.heap.size, 1, none⟩ = some (.int .i64 N) := cellH hS 1; clear hS; first | (go_simp; done) | (go_simp; rfl)
  refine wpAnyI_take (i := 6) (v := ?_) wide_fn (by kernel_rfl) rfl (by kernel_rfl) (by kernel_rfl) (by kernel_rfl) (fun _ _ _ h => h) HS0 (.inl ⟨by rfl, ?hy⟩) ?_
  case hy => intro w hS; first | (go_simp; done) | (go_simp; rfl)
  refine wpAnyI_take (i := 7) (v := .int .i64 P) wide_fn (by kernel_rfl) rfl (by kernel_rfl) (by kernel_rfl) (by kernel_rfl) (fun _ _ _ h => h) HS0 (.inl ⟨by rfl, ?hy⟩) ?_
  case hy => rintro w ⟨xS, hS⟩; have e0 : w.cell? ⟨w2.heap.size, 0, none⟩ = some (.int .i64 P) := cellH hS 0; have e1 : w.cell? ⟨w2.heap.size, 1, none⟩ = some (.int .i64 N) := cellH hS 1; clear hS; first | (go_simp; done) | (go_simp; rfl)
  refine wpAnyI_take (i := 8) (v := ?_) wide_fn (by kernel_rfl) rfl (by kernel_rfl) (by kernel_rfl) (by kernel_rfl) (fun _ _ _ h => h) HS0 (.inl ⟨by rfl, ?hy⟩) ?_
  case hy => intro w hS; first | (go_simp; done) | (go_simp; rfl)
  refine wpAnyI_take (i := 9) (v := ?_) wide_fn (by kernel_rfl) rfl (by kernel_rfl) (by kernel_rfl) (by kernel_rfl) (fun _ _ _ h => h) HS0 (.inl ⟨by rfl, ?hy⟩) ?_
  case hy => intro w hS; first | (go_simp; done) | (go_simp; rfl)
  refine wpAnyI_take (i := 10) (v := .int .i64 P) wide_fn (by kernel_rfl) rfl (by kernel_rfl) (by kernel_rfl) (by kernel_rfl) (fun _ _ _ h => h) HS0 (.inl ⟨by rfl, ?hy⟩) ?_
  case hy => rintro w ⟨xS, hS⟩; have e0 : w.cell? ⟨w2.heap.size, 0, none⟩ = some (.int .i64 P) := cellH hS 0; have e1 : w.cell? ⟨w2.heap.size, 1, none⟩ = some (.int .i64 N) := cellH hS 1; clear hS; first | (go_simp; done) | (go_simp; rfl)
  refine wpAnyI_one (i := 11) (by kernel_rfl) rfl (fun KK hKK => ?_)
  go_simp
  refine ⟨trivial, (callsIn_wide.2 (upto_any B tb (g + 1 + 1 + N) P w4.drew (by omega) (by omega) (by omega) ht4)).mono ?_⟩
  rintro e w5 ⟨q, hq, rfl, ho5, ht5⟩
  have HV5 : (fun W : World => W.heap[w2.heap.size]? = some (.cells #[.int .i64 P, .int .i64 N, .slice none 0 0, .slice none 0 0] 25 (0, 0))) w5 := (Only.turn ho5).heap' HV0 (by omega)
  have HS5 : (fun W : World => ∃ x : Value, W.heap[w2.heap.size]? = some (.cells #[.int .i64 P, .int .i64 N, x, .slice none 0 0] 25 (0, 0))) w5 := ⟨_, HV5⟩
  refine hKK _ _ HS5 ?_
  clear hKK KK
  have hw45 : w4.drew.heap.size = w5.heap.size := ho5.size.symm
  have hz4 : w2.heap.size + 1 < w4.heap.size := (Array.getElem?_eq_some_iff.1 hrow').1
  have hz45 : w4.heap.size = w5.heap.size := hw45
  have hrow5 : w5.heap[w2.heap.size + 1]? = some (.cells (fxV N f) 3 (0, 0)) := (Only.turn ho5).heap' hrow' (by omega)
  refine wpAnyI_one (i := 12) (by kernel_rfl) rfl (fun KK hKK => ?_)
  go_simp
  have h4b := heap_alloc_new w5 (.cells #[.int .i64 0, .int .i64 P, .int .i64 P, .int .i64 q] 3)
  have hTA : ∀ T, Turn T w5 (w5.alloc (.cells #[.int .i64 0, .int .i64 P, .int .i64 P, .int .i64 q] 3)) := fun T => (Turn.refl T w5).alloc _
  obtain ⟨w6, hw6⟩ : ∃ w6, w5.alloc (.cells #[.int .i64 0, .int .i64 P, .int .i64 P, .int .i64 q] 3) = w6 := ⟨_, rfl⟩
  rw [hw6] at h4b hTA ⊢
  have hz6 : w6.heap.size = w5.heap.size + 1 := by rw [← hw6]; simp
  clear hw6
  have HV6 : (fun W : World => W.heap[w2.heap.size]? = some (.cells #[.int .i64 P, .int .i64 N, .slice none 0 0, .slice none 0 0] 25 (0, 0))) w6 := (hTA (fun _ => False)).heap' HV5 (fun h => h)
  have HS6 : (fun W : World => ∃ x : Value, W.heap[w2.heap.size]? = some (.cells #[.int .i64 P, .int .i64 N, x, .slice none 0 0] 25 (0, 0))) w6 := ⟨_, HV6⟩
  have ht6 : TinAt w6 B tb (g + 1 + 1 + N + 1) := ht5.keep fun b hb => (hTA (fun _ => False)).block b (by have := ht5.lt; omega) (fun h => h)
  have hrow6 := (hTA (fun _ => False)).heap' hrow5 (fun h => h)
  refine hKK _ _ HS6 ?_
  clear hKK KK
  have hc4 : ∀ j, j < 4 → w6.cell? ((⟨w5.heap.size, 0, none⟩ : Addr).add j) = some (.int .i64 (([0, P, P, q].getD j 0 : Nat) : Int)) := fun j hj => by
    have e1 : (⟨w5.heap.size, 0, none⟩ : Addr).add j = ⟨w5.heap.size, j, none⟩ := by simp [Addr.add]; omega
    rw [e1, cellH h4b]
    match j, hj with
    | 0, _ => rfl
    | 1, _ => rfl
    | 2, _ => rfl
    | 3, _ => rfl
  refine wpAnyI_one (i := 13) (by kernel_rfl) rfl (fun KK hKK => ?_)
  go_simp
  refine ⟨trivial, (callsIn_wide.2 (either_any B tb (g + 1 + 1 + N + 1) 4 4 ⟨w5.heap.size, 0, none⟩ (fun j => (([0, P, P, q].getD j 0 : Nat) : Int)) w6 (by omega) (by omega) (by omega) (by show w5.heap.size ≠ tb; omega) hc4 ht6)).mono ?_⟩
  rintro e w7 ⟨jq, hjq, rfl, ho7, ht7⟩
  obtain ⟨s0, hs0⟩ : ∃ s0, [0, P, P, q].getD jq 0 = s0 := ⟨_, rfl⟩
  have hs0P : s0 ≤ P := by
    rw [← hs0]
    match jq, hjq with
    | 0, _ => exact Nat.zero_le _
    | 1, _ => exact Nat.le_refl _
    | 2, _ => exact Nat.le_refl _
    | 3, _ => show q ≤ P; omega
  have HV7 : (fun W : World => W.heap[w2.heap.size]? = some (.cells #[.int .i64 P, .int .i64 N, .slice none 0 0, .slice none 0 0] 25 (0, 0))) w7 := (Only.turn ho7).heap' HV6 (by omega)
  have HS7 : (fun W : World => ∃ x : Value, W.heap[w2.heap.size]? = some (.cells #[.int .i64 P, .int .i64 N, x, .slice none 0 0] 25 (0, 0))) w7 := ⟨_, HV7⟩
  have hrow7 := (Only.turn ho7).heap' hrow6 (by omega)
  dsimp only
  rw [hs0]
  refine hKK _ _ HS7 ?_
  clear hKK KK
  refine wpAnyI_one (i := 14) (by kernel_rfl) rfl (fun KK hKK => ?_)
  go_simp
  obtain ⟨s, hsE, hsN, hsP⟩ : ∃ s : Nat, (if s0 < N then (s0 : Int) else (N : Int)) = s ∧ s ≤ N ∧ s ≤ P := by
    by_cases h9 : s0 < N
    · exact ⟨s0, by rw [if_pos h9], by omega, hs0P⟩
    · exact ⟨N, by rw [if_neg h9], Nat.le_refl _, by omega⟩
  rw [hsE]
  refine hKK _ _ HS7 ?_
  clear hKK KK
  have hsN' : (s : Int) ≤ N := by omega
  refine wpAnyI_one (i := 15) (by kernel_rfl) rfl (fun KK hKK => ?_)
  go_simp
  have e0 : (⟨w2.heap.size + 1, 0, none⟩ : Addr).add 0 = ⟨w2.heap.size + 1, 0, none⟩ := rfl
  refine hKK _ _ HS7 ?_
  clear hKK KK
  have hcr : ∀ j, j < s → w7.cell? ((⟨w2.heap.size + 1, 0, none⟩ : Addr).add j) = some (.int .i64 ((f j : Nat) : Int)) := fun j hj => by
    have e1 : (⟨w2.heap.size + 1, 0, none⟩ : Addr).add j = ⟨w2.heap.size + 1, j, none⟩ := by simp [Addr.add]; omega
    rw [e1, cellH hrow7, fxV_get f (by omega)]
  refine wpAnyI_one (i := 16) (by kernel_rfl) rfl (fun KK hKK => ?_)
  go_simp
  refine ⟨trivial, (callsIn_wide.2 (keepInts_any s _ ⟨w2.heap.size + 1, 0, none⟩ (fun j => ((f j : Nat) : Int)) w7 (by omega) hcr)).mono ?_⟩
  rintro e w8 ⟨sA, sc, _, rfl, hB8, hI8, hA8⟩
  have HV8 : (fun W : World => W.heap[w2.heap.size]? = some (.cells #[.int .i64 P, .int .i64 N, .slice none 0 0, .slice none 0 0] 25 (0, 0))) w8 := (Turn.of_below' hB8 (fun _ => False)).heap' HV7 (fun h => h)
  have HS8 : (fun W : World => ∃ x : Value, W.heap[w2.heap.size]? = some (.cells #[.int .i64 P, .int .i64 N, x, .slice none 0 0] 25 (0, 0))) w8 := ⟨_, HV8⟩
  refine hKK _ _ HS8 ?_
  clear hKK KK
  refine wpAnyI_take (i := 17) (v := ?_) wide_fn (by kernel_rfl) rfl (by kernel_rfl) (by kernel_rfl) (by kernel_rfl) (fun _ _ _ h => h) HS8 (.inl ⟨by rfl, ?hy⟩) ?_
  case hy => intro w hS; first | (go_simp; done) | (go_simp; rfl)
  refine wpAnyI_one (i := 18) (by kernel_rfl) rfl (fun KK hKK => ?_)
  have c2 : w8.cell? ⟨w2.heap.size, 2, none⟩ = some (.slice none 0 0) := cellH HV8 2
  have f2 : w8.frozen? ⟨w2.heap.size, 2, none⟩ = false := freeH HV8 2
  go_simp
  have hTv : Turn (fun b => b = w2.heap.size) w8 (w8.setCell ⟨w2.heap.size, 2, none⟩ (.slice sA s sc)) := Turn.of_but ((But.refl _ w8).set 2 _)
  have HV9 := setH HV8 2 (.slice sA s sc)
  obtain ⟨w9, hw9⟩ : ∃ w9, w8.setCell ⟨w2.heap.size, 2, none⟩ (.slice sA s sc) = w9 := ⟨_, rfl⟩
  rw [hw9] at hTv HV9 ⊢
  clear hw9
  refine hKK _ _ ⟨_, HV9⟩ ?_
  clear hKK KK
  refine wpAnyI_done (by kernel_rfl) (NoPanic.normal ?_) _
  have hz7 : w7.heap.size = w6.heap.size := ho7.size
  have hz8 := hB8.size
  have ht9 : TinAt w9 B tb (g + 1 + 1 + N + 1 + 1) := ht7.keep fun b hb => (hTv.block b (by omega) (by omega)).trans (hB8.block b (by omega))
  have HT9 := Go.Lib.hid ht9
  have HV9' := Go.Lib.hid (show w9.heap[w2.heap.size]? = some (.cells #[.int .i64 P, .int .i64 N, .slice sA s sc, .slice none 0 0] 25 (0, 0)) from HV9)
  have c1 : w9.cell? ⟨w2.heap.size, 1, none⟩ = some (.int .i64 N) := cellH HV9 1
  clear HV9 ht9
  have hN6 : 1 ≤ N ∧ N ≤ 6 := by omega
  have HCO := Go.Lib.hid (callsOf_any B tb (g + 1 + 1 + N + 1 + 1) calls each N w9 (by omega) (by omega) he he9 (by omega) (by omega) HT9.out)
  go_wp2_with (first
    | (go_at_call 26; go_must (refine HCO.out.mono ?_; rintro e w10 ⟨cv, C, g2, rfl, hCl, hg2, hCA, hT10, ht10⟩)
       obtain ⟨cA, cc, rfl⟩ : ∃ cA cc, cv = .slice cA C.length cc := let ⟨_, h, _⟩ := hCA; own_form h
       have HV10 := Go.Lib.hid (hT10.heap' HV9'.out (by omega))
       have c3 : w10.cell? ⟨w2.heap.size, 3, none⟩ = some (.slice none 0 0) := cellH HV10.out 3
       have f3 : w10.frozen? ⟨w2.heap.size, 3, none⟩ = false := freeH HV10.out 3
       have HCA := Go.Lib.hid hCA
       clear hCA))
  have hz9 : w8.heap.size ≤ w9.heap.size := hTv.size
  have hz10 := hT10.size
  have hT11 : Turn (fun b => b = w2.heap.size) w10 (w10.setCell ⟨w2.heap.size, 3, none⟩ (.slice cA C.length cc)) := Turn.of_but ((But.refl _ w10).set 3 _)
  have hv11 : (w10.setCell ⟨w2.heap.size, 3, none⟩ (.slice cA C.length cc)).heap[w2.heap.size]? = some (.cells (vVal P N sA s sc cA C.length cc) 25 (0, 0)) := setH HV10.out 3 (.slice cA C.length cc)
  have hC11 : CallsAt w9.heap.size N (.slice cA C.length cc) C (w10.setCell ⟨w2.heap.size, 3, none⟩ (.slice cA C.length cc)) := HCA.out.keep hT11 (fun b hb h => by omega)
  have ht11 : TinAt (w10.setCell ⟨w2.heap.size, 3, none⟩ (.slice cA C.length cc)) B tb g2 := ht10.keep fun b hb => hT11.block b (by have := ht10.lt; omega) (by omega)
  obtain ⟨w11, hw11⟩ : ∃ w11, w10.setCell ⟨w2.heap.size, 3, none⟩ (.slice cA C.length cc) = w11 := ⟨_, rfl⟩
  rw [hw11] at hT11 hv11 hC11 ht11 ⊢
  clear hw11
  have hz11 := hT11.size
  have hg2' : g2 ≤ g + 100 := by
    have : C.length * (N + 2) ≤ 8 * 8 := Nat.mul_le_mul (by omega) (by omega)
    omega
  have hcok : ∀ l ∈ C, CallOk N l := let ⟨_, _, h, _⟩ := hC11; h
  have hl9 : ∀ l ∈ C, l.length ≤ 99 := fun l hl => by have := (hcok l hl).len (by omega); omega
  refine (wpIn_wide (n := 20)).1 ?_
  refine wpIn_region_heldN (S := (fun W : World => W.heap[w2.heap.size]? = some (.cells (vVal P N sA s sc cA C.length cc) 25 (0, 0)))) hmo ?_
  have HA0 : (fun W : World => W.heap[w2.heap.size]? = some (.cells (vVal P N sA s sc cA C.length cc) 25 (0, 0))) w11.drew := hv11
  refine wpAnyI_take (i := 0) (v := .agg (vVal P N sA s sc cA C.length cc)) wide_fn (by kernel_rfl) rfl (by kernel_rfl) (by kernel_rfl) (by kernel_rfl) (fun _ _ _ h => h) HA0 ?hy ?_
  case hy => exact yieldsIf_load_whole (by rfl) 25 (.tmp 8) rfl w2.heap.size rfl (fun w h => h) Tryz.underlying25 rfl (by kernel_rfl)
  refine wpAnyI_take (i := 2) (v := .agg (vVal P N sA s sc cA C.length cc)) wide_fn (by kernel_rfl) rfl (by kernel_rfl) (by kernel_rfl) (by kernel_rfl) (fun _ _ _ h => h) HA0 ?hy ?_
  case hy => exact yieldsIf_load_whole (by rfl) 25 (.tmp 8) rfl w2.heap.size rfl (fun w h => h) Tryz.underlying25 rfl (by kernel_rfl)
  refine wpAnyI_take (i := 1) (v := ?_) wide_fn (by kernel_rfl) rfl (by kernel_rfl) (by kernel_rfl) (by kernel_rfl) (fun _ _ _ h => h) HA0 (.inl ⟨by rfl, ?hy⟩) ?_
  case hy => intro w hS; first | (go_simp; done) | (go_simp; rfl)
  refine wpAnyI_one (i := 3) (by kernel_rfl) rfl (fun KK hKK => ?_)
  go_simp
  have hdT : Turn (fun _ => False) w11 w11.drew := (Turn.refl _ _).drew
  refine ⟨trivial, (callsIn_wide.2 (truthOf_any B tb g2 P N N s sc C.length cc w9.heap.size sA cA C w11.drew (by omega) rfl (by omega) hl9 (by omega) (by show w9.heap.size ≤ w11.heap.size; omega) (hC11.keep hdT (fun _ _ h => h)) (ht11.keep fun b hb => rfl))).mono ?_⟩
  rintro e w12 ⟨tv, tt, rfl, htok, hown, hT12, ht12⟩
  have HA2 : (fun W : World => W.heap[w2.heap.size]? = some (.cells (vVal P N sA s sc cA C.length cc) 25 (0, 0))) w12 := hT12.heap' HA0 (by omega)
  refine hKK _ _ HA2 ?_
  clear hKK KK
  have m1 : ∀ b, b = tb → (b = tb ∨ w.heap.size + 2 ≤ b) := fun b h => .inl h
  have m2 : ∀ b, b = w2.heap.size → (b = tb ∨ w.heap.size + 2 ≤ b) := fun b h => .inr (by omega)
  have hA1 : Turn (fun b => b = tb ∨ w.heap.size + 2 ≤ b) ((w.alloc (.cells #[.int .i64 0, .int .i64 0, .slice none 0 0, .slice none 0 0] 25)).alloc (.cells sixV 3)) w4 := (((((Only.turn ho1).mono fun b _ h => m1 b h).trans ((Only.turn ho2).mono fun b _ h => m1 b h))).alloc _).trans (hT4.mono fun b _ h => m1 b h)
  have hA2 : Turn (fun b => b = tb ∨ w.heap.size + 2 ≤ b) w4 w8 := ((((Turn.refl _ w4).drew.trans ((Only.turn ho5).mono fun b _ h => m1 b h)).trans (hTA _)).trans ((Only.turn ho7).mono fun b _ h => m1 b h)).trans (Turn.of_below' hB8 _)
  have hA3 : Turn (fun b => b = tb ∨ w.heap.size + 2 ≤ b) w8 w12 := ((((hTv.mono fun b _ h => m2 b h).trans (hT10.mono fun b _ h => m1 b h)).trans (hT11.mono fun b _ h => m2 b h)).trans (hdT.mono fun _ _ h => h.elim)).trans (hT12.mono fun b _ h => m1 b h)
  have hAll := (hA1.trans hA2).trans hA3
  have hr0 : ((w.alloc (.cells #[.int .i64 0, .int .i64 0, .slice none 0 0, .slice none 0 0] 25)).alloc (.cells sixV 3)).heap[w.heap.size]? = some (.cells #[.int .i64 0, .int .i64 0, .slice none 0 0, .slice none 0 0] 25 (0, 0)) := heap_old _ (heap_alloc_new w _)
  have hr12 := hAll.heap' hr0 (by omega)
  obtain ⟨tA, tc, rfl⟩ := own_form hown
  refine wpAnyI_one (i := 4) (by kernel_rfl) rfl (fun KK hKK => ?_)
  rw [if_pos (by rfl)]
  refine opIn_store_whole 25 (.tmp 6) (.tmp 45) rfl w.heap.size (vVal P N sA s sc cA C.length cc) rfl rfl hr12 (by kernel_rfl) rfl (by simp [Value.oneCell']) (fun w13 g1 g3 => ?_)
  have hT13 := Turn.of_but g3
  have HA3 : (fun W : World => W.heap[w2.heap.size]? = some (.cells (vVal P N sA s sc cA C.length cc) 25 (0, 0))) w13 := hT13.heap' HA2 (by omega)
  refine hKK _ _ HA3 ?_
  clear hKK KK
  refine wpAnyI_take (i := 5) (v := ?_) wide_fn (by kernel_rfl) rfl (by kernel_rfl) (by kernel_rfl) (by kernel_rfl) (fun _ _ _ h => h) HA3 (.inl ⟨by rfl, ?hy⟩) ?_
  case hy => intro w hS; first | (go_simp; done) | (go_simp; rfl)
  refine wpAnyI_done (by kernel_rfl) (NoPanic.normal ?_) _
  go_wp2_with fail
  have hLl : ((List.range s).map f).length = s := by simp
  have hmx := HMX.out
  have hnodup : ((List.range s).map f).Nodup := by
    rw [List.nodup_iff_pairwise_ne, List.pairwise_map]
    exact (List.pairwise_lt_range (n := s)).imp_of_mem fun ha hb hlt e => by
      have h1 := List.mem_range.1 ha
      have h2 := List.mem_range.1 hb
      have := hmx.inj _ _ (by omega) (by omega) e
      omega
  have hLN : ∀ p ∈ (List.range s).map f, p < N := fun p hp => by
    obtain ⟨j, hj, rfl⟩ := List.mem_map.1 hp
    exact hmx.lt j (by have := List.mem_range.1 hj; omega)
  have hVok : VaultOk P N ((List.range s).map f) C := ⟨by omega, by omega, by omega, by omega, ⟨hnodup, fun p hp => by have := hLN p hp; omega, by omega⟩, hLN, by omega, hcok⟩
  refine ⟨rfl, _, results_cw_tmp rfl rfl g1 Tryz.underlying25 rfl (by kernel_rfl), ?_⟩
  have hz13 := hT13.size
  have hz12 : w11.heap.size ≤ w12.heap.size := hT12.size
  have hB3 : Turn (fun b => b = tb ∨ b = w2.heap.size) w8 w12 := ((((hTv.mono fun b _ h => .inr h).trans (hT10.mono fun b _ h => .inl h)).trans (hT11.mono fun b _ h => .inr h)).trans (hdT.mono fun _ _ h => h.elim)).trans (hT12.mono fun b _ h => .inl h)
  refine ⟨P, N, (List.range s).map f, C, tt, sA, cA, tA, sc, cc, tc, g2 + C.length, by rw [hLl]; rfl, hVok, htok, hCl, own_cap hown, fun W' hk => ⟨?_, ?_, ?_⟩, ?_, ?_, by omega⟩
  · rw [hLl]
    intro h0
    obtain ⟨ad, ha, hb, hcs⟩ := hI8 h0
    have h1 := hA8 ad ha
    refine ⟨ad, ha, by omega, fun j hj => ?_⟩
    refine (cell_eq (hk _ (by omega) (by omega)) j).trans ?_
    refine (hT13.cell (p := ad.add j) (by rw [block_add]; omega) (by rw [block_add]; omega)).trans ((hB3.cell (p := ad.add j) (by rw [block_add]; omega) (by rw [block_add]; omega)).trans ((hcs j hj).trans ?_))
    have e1 : ofL ((List.range s).map f) j = ((f j : Nat) : Int) := by simp [ofL, hj]
    rw [e1]
  · exact rows_of_kept (((hC11.keep hdT (fun _ _ h => h)).keep hT12 (fun b hb h => by omega)).keep hT13 (fun b hb h => by omega)) fun b hb hb2 => hk b (by omega) hb2
  · exact ints_own_kept (own_turn hown hT13 (fun b hb h => by have : w11.drew.heap.size = w11.heap.size := rfl; omega)) (htok.len) fun b hb hb2 => hk b (by have : w11.drew.heap.size = w11.heap.size := rfl; omega) hb2
  · exact ((HTW.out.mono (T' := fun b => b = tb ∨ w.heap.size ≤ b) fun _ _ h => h.elim).trans (hAll.mono fun b _ h => by omega)).trans (hT13.mono fun b _ h => .inr (by omega)) |>.mono fun b hb h => by omega
  · exact ht12.keep fun b hb => hT13.block b (by have := ht12.lt; omega) (by omega)

end Go.Proofs.YtoobopohohoidaaGreatDoor
