/- THE KIT: BandIn, HaulOf. -/
import Derived.Test.YtoobopohohoidaaGreatDoorKitC
import Derived.Test.YtoobopohohoidaaGreatDoorBC
import Derived.Test.YtoobopohohoidaaGreatDoorRngV
set_option linter.unusedSimpArgs false
set_option linter.unusedVariables false
namespace Go.Proofs.YtoobopohohoidaaGreatDoor
open Go.RowKit Go.Maps Go.Shelf

set_option maxRecDepth 100000 in
set_option maxHeartbeats 1000000 in
theorem bandIn_any (B tb g : Nat) (lo hi : Int) (w : World) (hgm : g < 4611686018427300000) (h1 : -1000 ≤ lo) (h2 : lo ≤ 1000) (h3 : -1000 ≤ hi) (h4 : hi ≤ 1000) (h : TinAt w B tb g) :
    Calls Tryz.prog 14 #[.pointer (some ⟨tb, 0, none⟩), .int .i64 lo, .int .i64 hi] w fun e w' => ∃ a b : Int, e = .returned (.agg #[.int .i64 a, .int .i64 b]) ∧ lo ≤ a ∧ a ≤ max lo hi ∧ a ≤ b ∧ b ≤ max a hi ∧ Turn (fun b => b = tb) w w' ∧ TinAt w' B tb (g + 2) := by
  have hBt : B ≤ tb := let ⟨_, _, _, _, _, h, _⟩ := h; h
  have htb := h.lt
  have hTw : Turn (fun b => b = tb) w (w.alloc (.cells #[.int .i64 0, .int .i64 0] 27)) := (Turn.refl _ w).alloc _
  have ht0 : TinAt (w.alloc (.cells #[.int .i64 0, .int .i64 0] 27)) B tb g := h.keep fun b hb => ((Turn.refl (fun _ => False) w).alloc _).block b (by omega) (fun h => h)
  have k0 := heap_alloc_new w (.cells #[.int .i64 0, .int .i64 0] 27)
  have HT0 := Go.Lib.hid ht0
  have HK := Go.Lib.hid (And.intro hTw k0)
  clear h hTw ht0 k0
  go_enter Tryz.func14, Tryz.ntmps14
  go_wp2_with (first
    | (go_at_call 13; refine (within_any B tb g lo hi _ (by omega) (by omega) (by omega) (by omega) (by omega) HT0.out).mono ?_; clear HT0; rintro e w1 ⟨a, ha1, ha2, rfl, ho1, ht1⟩
       have HT1 := Go.Lib.hid ht1
       have ha3 : a ≤ 1000 := by omega
       have ha4 : -1000 ≤ a := by omega
       have hT1 := Go.Lib.hid (HK.out.1.trans (Only.turn ho1))
       have k1 := Go.Lib.hid ((Only.turn ho1).heap HK.out.2 (by omega))
       have hz1 := ho1.size
       clear ho1 ht1)
    | (go_at_call 13; refine (within_any B tb (g + 1) a hi _ (by omega) (by omega) (by omega) (by omega) (by omega) HT1.out).mono ?_; clear HT1; rintro e w2 ⟨c, hc1, hc2, rfl, ho2, ht2⟩
       have HT2 := Go.Lib.hid ht2
       have hT2 := Go.Lib.hid (hT1.out.trans (Only.turn ho2))
       have k2 := Go.Lib.hid ((Only.turn ho2).heap k1.out (by omega))
       have hz2 := ho2.size
       clear ho2 ht2)
    | (with_reducible refine wpList_store_whole rfl 27 (.tmp 6) (.tmp 17) rfl w.heap.size #[.int .i64 a, .int .i64 c] rfl rfl k2.out (by kernel_rfl) rfl (by simp [Value.oneCell']) ?_
       intro W9 d1 d2))
  refine bodyPost_ret (results_cell_whole rfl rfl d1 Tryz.underlying27 rfl (by kernel_rfl)) rfl ?_
  have hTd := Turn.of_but d2
  refine ⟨a, c, rfl, ha1, ha2, hc1, hc2, ?_, HT2.out.keep fun b hb => hTd.block b (by simp at hz1; omega) (by omega)⟩
  exact hT2.out.then_new (hTd.mono fun b hb h => by omega)

/-- What HaulOf gives. -/
def HaulPost (tb : Nat) (calls : Nat) (w : World) (e : Ending) (w' : World) : Prop :=
  ∃ d : HaulD, e = .returned (.agg (hC d)) ∧ HaulOk d ∧ d.m ≤ calls ∧ HaulAt d w'.heap.size w' ∧ Turn (fun b => b = tb) w w'
/-- Times so far. -/
structure TimesAt (τ : List Nat) (a : Nat) : Prop where
  ok : TimesOk τ
  le : ∀ x ∈ τ, x ≤ a
theorem TimesAt.more {τ : List Nat} {a x : Nat} (h : TimesAt τ a) (ha : a ≤ 99) (hx : a ≤ x) : TimesAt (τ ++ [a]) x := by
  refine ⟨⟨fun y hy => ?_, fun i j hij hj => ?_⟩, fun y hy => ?_⟩
  · rcases List.mem_append.1 hy with hy | hy
    · exact h.ok.le y hy
    · simp at hy; omega
  · by_cases hj2 : j < τ.length
    · rw [List.getD_eq_getElem?_getD, List.getElem?_append_left (by omega), List.getD_eq_getElem?_getD, List.getElem?_append_left hj2, ← List.getD_eq_getElem?_getD, ← List.getD_eq_getElem?_getD]
      exact h.ok.up i j hij hj2
    · have e1 : j = τ.length := by simp at hj; omega
      subst e1
      have e2 : (τ ++ [a]).getD τ.length 0 = a := by simp
      rw [e2]
      by_cases hi2 : i < τ.length
      · rw [List.getD_eq_getElem?_getD, List.getElem?_append_left hi2, List.getElem?_eq_getElem hi2]
        exact h.le _ (List.getElem_mem hi2)
      · have e3 : i = τ.length := by omega
        rw [e3, e2]; exact Nat.le_refl _
  · rcases List.mem_append.1 hy with hy | hy
    · have := h.le y hy; omega
    · simp at hy; omega
abbrev aZ : Array Value := #[.int .i64 0, .int .i64 0, .slice none 0 0, .slice none 0 0, .slice none 0 0, .int .i64 0, .slice none 0 0, .int .i64 0, .int .i64 0, .int .i64 0, .int .i64 0, .int .i64 0]

def eitherT (v j : Nat) : Nat := [0, 1, 2, v].getD j 0
theorem eitherT_le {v j : Nat} (hj : j < 4) (hv : v ≤ 9) : eitherT v j ≤ 9 := by
  match j, hj with
  | 0, _ => show 0 ≤ 9; omega
  | 1, _ => show 1 ≤ 9; omega
  | 2, _ => show 2 ≤ 9; omega
  | 3, _ => exact hv
/-- A haul that is being made. -/
abbrev hQ (P N n sc m cc tc : Nat) (sA cA tA : Option Addr) (r : Int) (xv : Value) (nt ld br t1 t2 : Int) : Array Value := #[.int .i64 P, .int .i64 N, .slice sA n sc, .slice cA m cc, .slice tA m tc, .int .i64 r, xv, .int .i64 nt, .int .i64 ld, .int .i64 br, .int .i64 t1, .int .i64 t2]

theorem Ints.up {w : World} {B B' : Nat} {A : Option Addr} {n : Nat} {f : Nat → Int} (h : Ints w B A n f) (hB : B ≤ B') : Ints w B' A n f := fun h0 =>
  let ⟨ad, e, hb, hc⟩ := h h0
  ⟨ad, e, Nat.lt_of_lt_of_le hb hB, hc⟩
theorem Rows.up {w : World} {B B' : Nat} {A : Option Addr} {C : List (List Nat)} (h : Rows w B A C) (hB : B ≤ B') : Rows w B' A C := fun h0 =>
  let ⟨ad, e, hb, hc⟩ := h h0
  ⟨ad, e, Nat.lt_of_lt_of_le hb hB, fun i hi => let ⟨Ai, ci, h1, h2⟩ := hc i hi; ⟨Ai, ci, h1, h2.up hB⟩⟩
/-- A haul's cells, one by one. -/
abbrev hEk (P N n sc m cc tc r xc nt ld br t1 t2 : Nat) (sA cA tA xA : Option Addr) : Array Value := #[.int .i64 P, .int .i64 N, .slice sA n sc, .slice cA m cc, .slice tA m tc, .int .i64 r, .slice xA m xc, .int .i64 nt, .int .i64 ld, .int .i64 br, .int .i64 t1, .int .i64 t2]
/-- Where HaulOf stands behind its loop. -/
structure StH (Z tb B g : Nat) (cs : Array Value) (xA : Option Addr) (m xc : Nat) (τ : List Nat) (w5 W : World) : Prop where
  heap : W.heap[Z + 1]? = some (.cells cs 29 (0, 0))
  own : W.ownsRow w5.heap.size 3 1 (.slice xA m xc) m (τ.map fun x : Nat => Value.int .i64 (x : Int))
  turn : Turn (fun b => b = Z + 1 ∨ b = tb ∨ w5.heap.size ≤ b) w5 W
  tin : TinAt W B tb g
  lt : Z + 2 ≤ w5.heap.size ∧ tb < Z ∧ B ≤ tb
theorem StH.size {Z tb B g : Nat} {cs : Array Value} {xA : Option Addr} {m xc : Nat} {τ : List Nat} {w5 W : World} (h : StH Z tb B g cs xA m xc τ w5 W) : w5.heap.size ≤ W.heap.size := h.turn.size
theorem StH.tins {Z tb B g g' : Nat} {cs : Array Value} {xA : Option Addr} {m xc : Nat} {τ : List Nat} {w5 W W' : World} (h : StH Z tb B g cs xA m xc τ w5 W) (hT : Turn (fun b => b = tb) W W') (ht : TinAt W' B tb g') : StH Z tb B g' cs xA m xc τ w5 W' :=
  ⟨hT.heap h.heap (by have := h.lt; omega), own_turn h.own hT (fun b hb e => by have := h.lt; omega), h.turn.trans (hT.mono fun b _ h => .inr (.inl h)), ht, h.lt⟩
theorem StH.alloc {Z tb B g : Nat} {cs : Array Value} {xA : Option Addr} {m xc : Nat} {τ : List Nat} {w5 W : World} (h : StH Z tb B g cs xA m xc τ w5 W) (o : Obj) : StH Z tb B g cs xA m xc τ w5 (W.alloc o) :=
  ⟨heap_old _ h.heap, h.own.alloc _, h.turn.alloc _, h.tin.keep fun b hb => ((Turn.refl (fun _ => False) W).alloc _).block b (by have := h.tin.lt; have := h.lt; omega) (fun h => h), h.lt⟩
theorem StH.set {Z tb B g : Nat} {cs : Array Value} {xA : Option Addr} {m xc : Nat} {τ : List Nat} {w5 W : World} (h : StH Z tb B g cs xA m xc τ w5 W) (k : Nat) (v : Value) : StH Z tb B g (cs.setIfInBounds k v) xA m xc τ w5 (W.setCell ⟨Z + 1, k, none⟩ v) := by
  have hT : Turn (fun b => b = Z + 1) W (W.setCell ⟨Z + 1, k, none⟩ v) := Turn.of_but ((But.refl _ W).set k v)
  exact ⟨setH h.heap k v, own_turn h.own hT (fun b hb e => by have := h.lt; omega), h.turn.trans (hT.mono fun b _ h => .inl h), h.tin.keep fun b hb => hT.block b (by have := h.tin.lt; have := h.lt; omega) (by have := h.lt; omega), h.lt⟩
theorem cells_add (W : World) (c : Array Value) (t : TypeId) (f : Nat → Nat) (hf : ∀ j, j < c.size → c[j]? = some (.int .i64 ((f j : Nat) : Int))) : ∀ j, j < c.size → (W.alloc (.cells c t)).cell? ((⟨W.heap.size, 0, none⟩ : Addr).add j) = some (.int .i64 ((f j : Nat) : Int)) := fun j hj => by
  have e1 : (⟨W.heap.size, 0, none⟩ : Addr).add j = ⟨W.heap.size, j, none⟩ := by simp [Addr.add]; omega
  rw [e1, cell_new]; exact hf j hj

set_option maxRecDepth 100000 in
set_option maxHeartbeats 8000000 in
theorem haulOf_any (B tb g calls : Nat) (w : World) (hgm : g < 4611686018427100000) (hc : calls ≤ 7) (h : TinAt w B tb g) :
    Calls Tryz.prog 4 #[.pointer (some ⟨tb, 0, none⟩), .int .i64 calls] w (HaulPost tb calls w) := by
  obtain ⟨i0, hi, hz0, hz1', hz2⟩ := info_parts info_intK
  have hBt : B ≤ tb := let ⟨_, _, _, _, _, h, _⟩ := h; h
  have htb := h.lt
  have k0 := heap_old (.cells aZ 29) (heap_alloc_new w (.cells aZ 29))
  have k1 := heap_alloc_new (w.alloc (.cells aZ 29)) (.cells aZ 29)
  rw [World.size_alloc] at k1
  obtain ⟨w0, hw0⟩ : ∃ w0, (w.alloc (.cells aZ 29)).alloc (.cells aZ 29) = w0 := ⟨_, rfl⟩
  have hT0 : ∀ T, Turn T w w0 := fun T => hw0 ▸ ((Turn.refl T w).alloc _).alloc _
  have hzw0 : w0.heap.size = w.heap.size + 2 := by rw [← hw0]; simp
  rw [hw0] at k0 k1
  have ht0 : TinAt w0 B tb g := h.keep fun b hb => (hT0 (fun _ => False)).block b (by omega) (fun h => h)
  have HVO := Go.Lib.hid (vaultOf_any B tb g calls 2 w0 (by omega) (by omega) (by omega) (by omega) ht0)
  have HK := Go.Lib.hid (And.intro k0 (And.intro k1 hT0))
  obtain ⟨q, hq⟩ : ∃ q, HaulPost tb calls w = q := ⟨_, rfl⟩
  rw [hq]
  have HQ := Go.Lib.hid hq
  clear h k0 k1 hT0 ht0 hq
  go_enter Tryz.func4, Tryz.ntmps4
  go_wp2_with (first
    | (go_at_call 10; refine HVO.out.mono ?_; rintro e w1 ⟨P, N, L, C, t, sA, cA, tA, sc, cc, tc, g1, rfl, hVok, htok, hCl, hCt, hKP, hT1, ht1, hg1⟩
       obtain ⟨n, hn⟩ : ∃ n, L.length = n := ⟨_, rfl⟩
       obtain ⟨m, hm⟩ : ∃ m, C.length = m := ⟨_, rfl⟩
       rw [hn, hm] at hKP
       rw [hn]
       rw [hm] at hCl hCt ⊢
       have HVV := Go.Lib.hid (And.intro hVok (And.intro htok (And.intro hn hm)))
       have hz1q := hT1.size
       have HM1 := Go.Lib.hid hKP
       have j0 := hT1.heap HK.out.1 (by omega)
       have j1 := hT1.heap HK.out.2.1 (by omega)
       have HJ := Go.Lib.hid (And.intro j0 (And.intro j1 ((HK.out.2.2 _).trans hT1)))
       have HT1 := Go.Lib.hid ht1
       have c1 := cells_of j1
       have f1 : ∀ o, w1.frozen? ⟨w.heap.size + 1, o, none⟩ = false := fun o => freeH j1 o
       clear hVok htok hKP hT1 ht1 hn hm j0 j1))
  obtain ⟨Z, hZ⟩ : ∃ Z, w.heap.size = Z := ⟨_, rfl⟩
  rw [hZ] at c1 f1 ⊢
  have hQ2 : ((((w1.setCell ⟨Z + 1, 0, none⟩ (.int .i64 P)).setCell ⟨Z + 1, 1, none⟩ (.int .i64 N)).setCell ⟨Z + 1, 2, none⟩ (.slice sA n sc)).setCell ⟨Z + 1, 3, none⟩ (.slice cA m cc)).setCell ⟨Z + 1, 4, none⟩ (.slice tA m tc) |>.heap[Z + 1]? = some (.cells (hQ P N n sc m cc tc sA cA tA 0 (.slice none 0 0) 0 0 0 0 0) 29 (0, 0)) := by
    have := HJ.out.2.1
    rw [hZ] at this
    exact setH (setH (setH (setH (setH this 0 _) 1 _) 2 _) 3 _) 4 _
  have hT2 : Turn (fun b => b = Z + 1) w1 (((((w1.setCell ⟨Z + 1, 0, none⟩ (.int .i64 P)).setCell ⟨Z + 1, 1, none⟩ (.int .i64 N)).setCell ⟨Z + 1, 2, none⟩ (.slice sA n sc)).setCell ⟨Z + 1, 3, none⟩ (.slice cA m cc)).setCell ⟨Z + 1, 4, none⟩ (.slice tA m tc)) := Turn.of_but ((((((But.refl _ w1).set 0 _).set 1 _).set 2 _).set 3 _).set 4 _)
  obtain ⟨w2, hw2⟩ : ∃ w2, ((((w1.setCell ⟨Z + 1, 0, none⟩ (.int .i64 P)).setCell ⟨Z + 1, 1, none⟩ (.int .i64 N)).setCell ⟨Z + 1, 2, none⟩ (.slice sA n sc)).setCell ⟨Z + 1, 3, none⟩ (.slice cA m cc)).setCell ⟨Z + 1, 4, none⟩ (.slice tA m tc) = w2 := ⟨_, rfl⟩
  rw [hw2] at hQ2 hT2 ⊢
  clear hw2 c1 f1
  have ht2 : TinAt w2 B tb g1 := HT1.out.keep fun b hb => hT2.block b (by have := HT1.out.lt; omega) (by omega)
  refine (upto_any B tb g1 3 w2 (by omega) (by omega) (by omega) ht2).mono ?_
  rintro e w3 ⟨r, hr, rfl, ho3, ht3⟩
  have hQ3 := (Only.turn ho3).heap hQ2 (by omega)
  have c3 := cells_of hQ3
  have f3 : ∀ o, w3.frozen? ⟨Z + 1, o, none⟩ = false := fun o => freeH hQ3 o
  have HQ3 := Go.Lib.hid hQ3
  have HT3 := Go.Lib.hid ht3
  have HTA := Go.Lib.hid ((hT2.mono (T' := fun b => b = Z + 1 ∨ b = tb) fun b _ h => .inl h).trans ((Only.turn ho3).mono fun b _ h => .inr h))
  clear hQ3 ht3 hT2 hQ2 ht2
  go_wp2_with fail
  have hQ4 := setH HQ3.out 5 (.int .i64 r)
  have hT4 : Turn (fun b => b = Z + 1) w3 (w3.setCell ⟨Z + 1, 5, none⟩ (.int .i64 r)) := Turn.of_but ((But.refl _ w3).set 5 _)
  obtain ⟨w4, hw4⟩ : ∃ w4, w3.setCell ⟨Z + 1, 5, none⟩ (.int .i64 r) = w4 := ⟨_, rfl⟩
  rw [hw4] at hQ4 hT4 ⊢
  clear hw4 c3 f3
  have ht4 : TinAt w4 B tb (g1 + 1) := HT3.out.keep fun b hb => hT4.block b (by have := HT3.out.lt; omega) (by omega)
  refine (upto_any B tb (g1 + 1) 10 w4 (by omega) (by omega) (by omega) ht4).mono ?_
  rintro e w5 ⟨a0, ha0, rfl, ho5, ht5⟩
  have hQ5 : w5.heap[Z + 1]? = some (.cells (hQ P N n sc m cc tc sA cA tA r (.slice none 0 0) 0 0 0 0 0) 29 (0, 0)) := (Only.turn ho5).heap hQ4 (by omega)
  have HQ5 := Go.Lib.hid hQ5
  have HT5 := Go.Lib.hid ht5
  have HTB := Go.Lib.hid ((HTA.out.trans (hT4.mono fun b _ h => .inl h)).trans ((Only.turn ho5).mono (T' := fun b => b = Z + 1 ∨ b = tb) fun b _ h => .inr h))
  have ha0' : a0 ≤ 10 := by omega
  clear hQ4 ht4 hT4 hQ5 ht5 ho5 ho3 HT3 HQ3 HTA ha0
  go_wp2_with fail
  have hz5 : Z + 2 ≤ w5.heap.size := by have := HTB.out.size; omega
  have hZtb : tb < Z := by omega
  go_loopw [6, 7] (fun av iv wr => ∃ (i a : Nat) (τ : List Nat) (xA : Option Addr) (xc : Nat), i ≤ m ∧ iv = .int .i64 i ∧ av = .int .i64 a ∧ a ≤ 10 + 9 * i ∧ Hid (TimesAt τ a ∧ τ.length = i) ∧ Hid (wr.heap[Z + 1]? = some (.cells (hQ P N n sc m cc tc sA cA tA r (.slice xA i xc) 0 0 0 0 0) 29 (0, 0))) ∧
      Hid (wr.ownsRow w5.heap.size 3 1 (.slice xA i xc) i (τ.map fun x : Nat => Value.int .i64 (x : Int))) ∧ Hid (Turn (fun b => b = Z + 1 ∨ b = tb ∨ w5.heap.size ≤ b) w5 wr) ∧ Hid (TinAt wr B tb (g1 + 2 + 2 * i))) (fun _ iv _ => m - (intOf iv).toNat)
  case atStart => exact ⟨0, a0, [], none, 0, Nat.zero_le _, rfl, rfl, by omega, Go.Lib.hid ⟨⟨⟨fun x hx => by simp at hx, fun i j _ hj => by simp at hj⟩, fun x hx => by simp at hx⟩, rfl⟩, HQ5, Go.Lib.hid (World.ownsRow_nil _ _ _ _), Go.Lib.hid (Turn.refl _ _), HT5⟩
  case round =>
    obtain ⟨i, a, τ, xA, xc, hi9, rfl, rfl, ha, HTI, HQR, HROW, HTU, HTN⟩ := hrel
    have hzr : w5.heap.size ≤ wr.heap.size := HTU.out.size
    have cq := cells_of HQR.out
    by_cases hlt : i < m
    · have him : i ≤ 6 := by omega
      go_wp2_with (first
        | (at_builtin; go_must (refine wpList_append_own _ rfl _ _ 22 rfl w5.heap.size 3 i0 (.int .i64 0) 1 8 Tryz.underlying22 hi hz0 hz1' hz2 (by decide) (by decide) _ _ _ rfl (HROW.out.alloc _) ⟨wr.heap.size, 0, none⟩ 1 1 [.int .i64 a] rfl rfl (cell_list_new _ _ _) (by simp [Value.oneCell']) (by unfold maxLen; omega) (by omega) (by simp; omega) ?_; intro v' w6 hown' hgrow _)
           obtain ⟨yA, yc, rfl⟩ := own_form hown'
           have hB6 : Below w5.heap.size wr w6 := ((Below.refl w5.heap.size wr).alloc (by omega) _).trans (grown_below (HROW.out.alloc _) hgrow (Nat.le_refl _) (by simp; omega))
           have hq6 := (hB6.block (Z + 1) (by omega)).trans HQR.out
           have cq6 := cells_of hq6
           have fq6 : ∀ o, w6.frozen? ⟨Z + 1, o, none⟩ = false := fun o => freeH hq6 o
           have HQ6 := Go.Lib.hid hq6
           have HB6 := Go.Lib.hid (And.intro hB6 hown')
           clear hq6 hB6 hown' hgrow))
      have hQ7 := setH HQ6.out 6 (.slice yA (i + 1) yc)
      have hT7 : Turn (fun b => b = Z + 1) w6 (w6.setCell ⟨Z + 1, 6, none⟩ (.slice yA (i + 1) yc)) := Turn.of_but ((But.refl _ w6).set 6 _)
      obtain ⟨w7, hw7⟩ : ∃ w7, w6.setCell ⟨Z + 1, 6, none⟩ (.slice yA (i + 1) yc) = w7 := ⟨_, rfl⟩
      rw [hw7] at hQ7 hT7 ⊢
      have hz6 : wr.heap.size ≤ w6.heap.size := HB6.out.1.size
      have ht7 : TinAt w7 B tb (g1 + 2 + 2 * i) := (HTN.out.keep fun b hb => HB6.out.1.block b (by omega)).keep fun b hb => hT7.block b (by omega) (by omega)
      have hr7 : w7.ownsRow w5.heap.size 3 1 (.slice yA (i + 1) yc) (i + 1) ((τ ++ [a]).map fun x : Nat => Value.int .i64 (x : Int)) := by
        rw [List.map_append]; exact own_turn HB6.out.2 hT7 (fun b hb h => by omega)
      have hU7 : Turn (fun b => b = Z + 1 ∨ b = tb ∨ w5.heap.size ≤ b) w5 w7 := (HTU.out.trans ((Turn.of_below HB6.out.1).mono fun b _ h => .inr (.inr h))).trans (hT7.mono fun b _ h => .inl h)
      clear hw7 cq cq6 fq6
      refine (upto_any B tb (g1 + 2 + 2 * i) 9 w7 (by omega) (by omega) (by omega) ht7).mono ?_
      rintro e w8 ⟨v, hv, rfl, ho8, ht8⟩
      have hv9 : v ≤ 9 := by omega
      have hTn : Turn (fun b => b = tb) w7 w8 := Only.turn ho8
      have hz8 : w7.heap.size ≤ w8.heap.size := hTn.size
      have hz7 : w6.heap.size ≤ w7.heap.size := hT7.size
      have HR8 := Go.Lib.hid (And.intro (hTn.heap hQ7 (by omega)) (And.intro (own_turn hr7 hTn (fun b hb h => by omega)) (hU7.trans (hTn.mono fun b _ h => .inr (.inl h)))))
      have hcE : ∀ j, j < 4 → (w8.alloc (.cells #[.int .i64 0, .int .i64 1, .int .i64 2, .int .i64 v] 3)).cell? ((⟨w8.heap.size, 0, none⟩ : Addr).add j) = some (.int .i64 ((eitherT v j : Nat) : Int)) := fun j hj => by
        have e1 : (⟨w8.heap.size, 0, none⟩ : Addr).add j = ⟨w8.heap.size, j, none⟩ := by simp [Addr.add]; omega
        rw [e1, cell_new]
        match j, hj with
        | 0, _ => rfl
        | 1, _ => rfl
        | 2, _ => rfl
        | 3, _ => rfl
      have ht8a : TinAt (w8.alloc (.cells #[.int .i64 0, .int .i64 1, .int .i64 2, .int .i64 v] 3)) B tb (g1 + 2 + 2 * i + 1) := ht8.keep fun b hb => ((Turn.refl (fun _ => False) w8).alloc _).block b (by omega) (fun h => h)
      have HE := Go.Lib.hid (either_any B tb (g1 + 2 + 2 * i + 1) 4 4 ⟨w8.heap.size, 0, none⟩ (fun j => ((eitherT v j : Nat) : Int)) _ (by omega) (by omega) (by omega) (by show w8.heap.size ≠ tb; omega) hcE ht8a)
      clear hcE ht8a hQ7 hT7 ht7 hr7 hU7 hTn ho8 ht8 HROW HTU HTN HQR HB6 HQ6 hv
      go_wp2_with (go_at_call 12; refine HE.out.mono ?_; rintro e w9 ⟨j, hj, rfl, ho9, ht9⟩; have hje := eitherT_le hj hv9)
      have hlen := HTI.out.2
      have ht9' : TinAt w9 B tb (g1 + 2 + 2 * (i + 1)) := by
        have e : g1 + 2 + 2 * (i + 1) = g1 + 2 + 2 * i + 1 + 1 := by omega
        rw [e]; exact ht9
      exact ⟨⟨i + 1, a + eitherT v j, τ ++ [a], yA, yc, by omega, by go_num, by go_num, by omega, Go.Lib.hid ⟨HTI.out.1.more (by omega) (by omega), by simp [hlen]⟩, Go.Lib.hid ((Only.turn ho9).heap (heap_old _ HR8.out.1) (by omega)), Go.Lib.hid (own_turn (HR8.out.2.1.alloc _) (Only.turn ho9) (fun b hb h => by omega)),
        Go.Lib.hid ((HR8.out.2.2.alloc _).trans ((Only.turn ho9).mono fun b _ h => .inr (.inl h))), Go.Lib.hid ht9'⟩, by simp [intOf]; omega⟩
    · have e : m = i := by omega
      subst e
      have st : StH Z tb B (g1 + 2 + 2 * m) (hQ P N n sc m cc tc sA cA tA r (.slice xA m xc) 0 0 0 0 0) xA m xc τ w5 wr := ⟨HQR.out, HROW.out, HTU.out, HTN.out, by omega, hZtb, hBt⟩
      have HS0 := Go.Lib.hid st
      clear HQR HROW HTU HTN st
      go_wp2_with fail
      refine (upto_any B tb (g1 + 2 + 2 * m) 10 wr (by omega) (by omega) (by omega) HS0.out.tin).mono ?_
      rintro e W1 ⟨x1, hx1, rfl, ho1, ht1⟩
      have HS1 := Go.Lib.hid (HS0.out.tins (Only.turn ho1) ht1)
      clear cq ho1 ht1 HS0
      go_wp2_with fail
      refine (upto_any B tb _ 30 W1 (by omega) (by omega) (by omega) HS1.out.tin).mono ?_
      rintro e W2 ⟨x2, hx2, rfl, ho2, ht2⟩
      have HS2 := Go.Lib.hid ((HS1.out.tins (Only.turn ho2) ht2).alloc (.cells #[.int .i64 x1, .int .i64 x2] 3))
      clear ho2 ht2 HS1
      have HE2 := Go.Lib.hid (either_any B tb _ 2 2 ⟨W2.heap.size, 0, none⟩ (fun j => (([x1, x2].getD j 0 : Nat) : Int)) _ (by omega) (by omega) (by omega) (by have := HS2.out.lt; have := HS2.out.turn.size; simp at this; show W2.heap.size ≠ tb; omega) (cells_add W2 #[.int .i64 x1, .int .i64 x2] 3 (fun j => [x1, x2].getD j 0) (fun j hj => by
        match j, hj with
        | 0, _ => rfl
        | 1, _ => rfl)) HS2.out.tin)
      go_wp2_with fail
      refine HE2.out.mono ?_
      rintro e W3 ⟨j3, hj3, rfl, ho3, ht3⟩
      have HS3 := Go.Lib.hid (HS2.out.tins (Only.turn ho3) ht3)
      obtain ⟨nt, hnt, hnt3⟩ : ∃ nt, [x1, x2].getD j3 0 = nt ∧ nt ≤ 30 := ⟨_, rfl, by
        match j3, hj3 with
        | 0, _ => show x1 ≤ 30; omega
        | 1, _ => show x2 ≤ 30; omega⟩
      dsimp only
      rw [hnt]
      clear ho3 ht3 HS2 HE2 hnt
      go_wp2_with fail
      refine (within_any B tb _ 1 3 W3 (by omega) (by omega) (by omega) (by omega) (by omega) HS3.out.tin).mono ?_
      rintro e W4 ⟨v4, hv4, hv4', rfl, ho4, ht4⟩
      obtain ⟨ld, rfl⟩ : ∃ ld : Nat, v4 = ld := ⟨v4.toNat, by omega⟩
      have HS4 := Go.Lib.hid ((HS3.out.tins (Only.turn ho4) ht4).alloc (.cells #[.int .i64 1, .int .i64 1, .int .i64 2, .int .i64 4] 3))
      have HE4 := Go.Lib.hid (either_any B tb _ 4 4 ⟨W4.heap.size, 0, none⟩ (fun j => (([1, 1, 2, 4].getD j 0 : Nat) : Int)) _ (by omega) (by omega) (by omega) (by have := HS4.out.lt; have := HS4.out.turn.size; simp at this; show W4.heap.size ≠ tb; omega) (cells_add W4 #[.int .i64 1, .int .i64 1, .int .i64 2, .int .i64 4] 3 (fun j => [1, 1, 2, 4].getD j 0) (fun j hj => by
        match j, hj with
        | 0, _ => rfl
        | 1, _ => rfl
        | 2, _ => rfl
        | 3, _ => rfl)) HS4.out.tin)
      clear ho4 ht4 HS3
      go_wp2_with fail
      refine HE4.out.mono ?_
      rintro e W5 ⟨j5, hj5, rfl, ho5, ht5⟩
      have hS5 := HS4.out.tins (Only.turn ho5) ht5
      obtain ⟨br, hbr, hbr1, hbr4⟩ : ∃ br, [1, 1, 2, 4].getD j5 0 = br ∧ 1 ≤ br ∧ br ≤ 4 := ⟨_, rfl, by
        match j5, hj5 with
        | 0, _ => decide
        | 1, _ => decide
        | 2, _ => decide
        | 3, _ => decide, by
        match j5, hj5 with
        | 0, _ => decide
        | 1, _ => decide
        | 2, _ => decide
        | 3, _ => decide⟩
      dsimp only
      rw [hbr]
      have c5 := cells_of hS5.heap
      have f5 : ∀ o, W5.frozen? ⟨Z + 1, o, none⟩ = false := fun o => freeH hS5.heap o
      have hS6 := ((hS5.set 7 (.int .i64 nt)).set 8 (.int .i64 ld)).set 9 (.int .i64 br)
      have HS6 := Go.Lib.hid (hS6.alloc (.cells #[.int .i64 4, .int .i64 8, .int .i64 20] 3))
      have hz6 : (((W5.setCell ⟨Z + 1, 7, none⟩ (.int .i64 nt)).setCell ⟨Z + 1, 8, none⟩ (.int .i64 ld)).setCell ⟨Z + 1, 9, none⟩ (.int .i64 br)).heap.size = W5.heap.size := by simp
      have HE6 := Go.Lib.hid (either_any B tb _ 3 3 ⟨(((W5.setCell ⟨Z + 1, 7, none⟩ (.int .i64 nt)).setCell ⟨Z + 1, 8, none⟩ (.int .i64 ld)).setCell ⟨Z + 1, 9, none⟩ (.int .i64 br)).heap.size, 0, none⟩ (fun j => (([4, 8, 20].getD j 0 : Nat) : Int)) _ (by omega) (by omega) (by omega) (by rw [hz6]; have := hS5.lt; have := hS5.turn.size; show W5.heap.size ≠ tb; omega) (cells_add _ #[.int .i64 4, .int .i64 8, .int .i64 20] 3 (fun j => [4, 8, 20].getD j 0) (fun j hj => by
        match j, hj with
        | 0, _ => rfl
        | 1, _ => rfl
        | 2, _ => rfl)) HS6.out.tin)
      rw [hz6] at HE6
      clear ho5 ht5 HS4 HE4 hS5 hS6 hz6 hbr
      go_wp2_with fail
      refine HE6.out.mono ?_
      rintro e W7 ⟨j7, hj7, rfl, ho7, ht7⟩
      have hS7 := HS6.out.tins (Only.turn ho7) ht7
      obtain ⟨hi7, hhi, hhi1, hhi4⟩ : ∃ hi7, [4, 8, 20].getD j7 0 = hi7 ∧ 1 ≤ hi7 ∧ hi7 ≤ 20 := ⟨_, rfl, by
        match j7, hj7 with
        | 0, _ => decide
        | 1, _ => decide
        | 2, _ => decide, by
        match j7, hj7 with
        | 0, _ => decide
        | 1, _ => decide
        | 2, _ => decide⟩
      dsimp only
      rw [hhi]
      have HS7 := Go.Lib.hid hS7
      clear ho7 ht7 HS6 HE6 hS7 hhi c5 f5
      go_wp2_with fail
      refine (bandIn_any B tb _ 1 hi7 W7 (by omega) (by omega) (by omega) (by omega) (by omega) HS7.out.tin).mono ?_
      rintro e W8 ⟨p1, p2, rfl, hp1, hp2, hp3, hp4, hT8, ht8⟩
      obtain ⟨t1, rfl⟩ : ∃ t1 : Nat, p1 = t1 := ⟨p1.toNat, by omega⟩
      obtain ⟨t2, rfl⟩ : ∃ t2 : Nat, p2 = t2 := ⟨p2.toNat, by omega⟩
      have hS8 := HS7.out.tins hT8 ht8
      have c8 := cells_of hS8.heap
      have f8 : ∀ o, W8.frozen? ⟨Z + 1, o, none⟩ = false := fun o => freeH hS8.heap o
      have hS9 := (hS8.set 10 (.int .i64 t1)).set 11 (.int .i64 t2)
      have hT9 : Turn (fun b => b = Z + 1 ∨ b = tb ∨ w5.heap.size ≤ b) w1 ((W8.setCell ⟨Z + 1, 10, none⟩ (.int .i64 t1)).setCell ⟨Z + 1, 11, none⟩ (.int .i64 t2)) := (HTB.out.mono fun b _ h => by omega).trans hS9.turn
      have hj0 := HJ.out.1
      rw [hZ] at hj0
      have hlt := hS9.lt
      have h90 := hT9.heap hj0 (by omega)
      have HS9 := Go.Lib.hid (And.intro hS9 hT9)
      have H91 := Go.Lib.hid (show ((W8.setCell ⟨Z + 1, 10, none⟩ (.int .i64 t1)).setCell ⟨Z + 1, 11, none⟩ (.int .i64 t2)).heap[Z + 1]? = some (.cells (hEk P N n sc m cc tc r xc nt ld br t1 t2 sA cA tA xA) 29 (0, 0)) from hS9.heap)
      have H90 := Go.Lib.hid h90
      clear hT8 ht8 hS8 hS9 hT9 HS7 h90 hj0
      go_wp2_with (first
        | (with_reducible refine wpList_load_whole rfl 29 (.tmp 5) rfl (Z + 1) rfl H91.out Tryz.underlying29 rfl (by kernel_rfl) ?_)
        | (with_reducible refine wpList_store_whole rfl 29 (.tmp 4) (.tmp 63) rfl Z (hEk P N n sc m cc tc r xc nt ld br t1 t2 sA cA tA xA) rfl rfl H90.out (by kernel_rfl) rfl (by simp [Value.oneCell']) ?_
           intro W9 d1 d2))
      refine bodyPost_ret (results_cell_whole rfl rfl d1 Tryz.underlying29 rfl (by kernel_rfl)) rfl ?_
      rw [← HQ.out]
      have hTd := Turn.of_but d2
      obtain ⟨hVok, htok, hn, hm⟩ := HVV.out
      have hzW := HS9.out.2.size
      have hzd := hTd.size
      have hz15 : w1.heap.size ≤ w5.heap.size := HTB.out.size
      obtain ⟨k1, k2, k3⟩ := HM1.out W9 (fun b hb1 hb2 => (hTd.block b (by omega) (by omega)).trans (HS9.out.2.block b hb2 (by omega)))
      refine ⟨⟨P, N, n, sc, m, cc, tc, r, xc, nt, ld, br, t1, t2, sA, cA, tA, xA, L, t, τ, C⟩, rfl, ⟨hVok, htok, HTI.out.1.ok, hn, hm, HTI.out.2, hCt, by show r < 4; omega, hnt3, ⟨by show 1 ≤ ld; omega, by show ld ≤ 3; omega⟩, ⟨hbr1, hbr4⟩, ⟨by show 1 ≤ t1; omega, by show t1 ≤ t2; omega, by show t2 ≤ 20; omega⟩⟩, hCl, ⟨k1.up (by omega), k2.up (by omega), k3.up (by omega), ints_own (own_turn HS9.out.1.own hTd (fun b hb h => by omega)) HTI.out.2⟩, ?_⟩
      have h1 := HJ.out.2.2
      exact ((h1.mono (T' := fun b => b = tb ∨ Z ≤ b) fun b _ h => .inl h).trans ((HS9.out.2.mono fun b _ h => by omega).trans (hTd.mono fun b _ h => .inr (by omega)))).mono fun b hb h => by omega

end Go.Proofs.YtoobopohohoidaaGreatDoor
