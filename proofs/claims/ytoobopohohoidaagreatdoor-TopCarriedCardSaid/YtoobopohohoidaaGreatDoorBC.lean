/- BARROW: hauls; checkHaul. -/
import Derived.Test.YtoobopohohoidaaGreatDoorBA
import Derived.Test.YtoobopohohoidaaGreatDoorVW
set_option linter.unusedSimpArgs false
set_option linter.unusedVariables false
namespace Go.Proofs.YtoobopohohoidaaGreatDoor
open Go.RowKit Go.Maps Go.Shelf

/-- What a haul is. -/
structure HaulD where
  (P N n sc m cc tc r xc nt ld br t1 t2 : Nat)
  (sA cA tA xA : Option Addr)
  (L t τ : List Nat)
  (C : List (List Nat))
/-- Its cells. -/
abbrev hC (d : HaulD) : Array Value := #[.int .i64 d.P, .int .i64 d.N, .slice d.sA d.n d.sc, .slice d.cA d.m d.cc, .slice d.tA d.m d.tc, .int .i64 d.r, .slice d.xA d.m d.xc, .int .i64 d.nt, .int .i64 d.ld, .int .i64 d.br, .int .i64 d.t1, .int .i64 d.t2]
structure HaulOk (d : HaulD) : Prop where
  vault : VaultOk d.P d.N d.L d.C
  truth : TruthOk d.C d.t
  times : TimesOk d.τ
  ln : d.L.length = d.n
  cm : d.C.length = d.m
  tm : d.τ.length = d.m
  mc : d.m ≤ d.tc
  r4 : d.r < 4
  nt : d.nt ≤ 30
  ld : 1 ≤ d.ld ∧ d.ld ≤ 3
  br : 1 ≤ d.br ∧ d.br ≤ 4
  tr : 1 ≤ d.t1 ∧ d.t1 ≤ d.t2 ∧ d.t2 ≤ 20
structure HaulAt (d : HaulD) (B : Nat) (W : World) : Prop where
  start : Ints W B d.sA d.n (ofL d.L)
  calls : Rows W B d.cA d.C
  truth : Ints W B d.tA d.m (ofL d.t)
  times : Ints W B d.xA d.m (ofL d.τ)
theorem HaulAt.keep {d : HaulD} {B : Nat} {W W' : World} (h : HaulAt d B W) (hk : ∀ b, b < B → W'.heap[b]? = W.heap[b]?) : HaulAt d B W' := ⟨h.start.keep hk, h.calls.keep hk, h.truth.keep hk, h.times.keep hk⟩
theorem HaulAt.below {d : HaulD} {B N : Nat} {W W' : World} (h : HaulAt d B W) (hB : Below N W W') (hN : B ≤ N) : HaulAt d B W' := h.keep fun b hb => hB.block b (by omega)
theorem cells_of {W : World} {b T : Nat} {c : Array Value} (h : W.heap[b]? = some (.cells c T (0, 0))) : ∀ o, W.cell? ⟨b, o, none⟩ = c[o]? := fun o => cellH h o

theorem cell_list_new (W : World) (l : List Value) (t : TypeId) : ∀ (j : Nat) (u : Value), l[j]? = some u → (W.alloc (.cells l.toArray t)).cell? ((⟨W.heap.size, 0, none⟩ : Addr).add j) = some u := fun j u h => by
  have e1 : (⟨W.heap.size, 0, none⟩ : Addr).add j = ⟨W.heap.size, j, none⟩ := by simp [Addr.add]; omega
  rw [e1, cell_new]; simpa using h

set_option maxRecDepth 100000 in
set_option maxHeartbeats 2000000 in
theorem bcheckHaul_yes (d : HaulD) (B : Nat) (w : World) (hd : HaulOk d) (hB : B ≤ w.heap.size) (h : HaulAt d B w) :
    Calls Tryz.prog 37 #[.agg (hC d)] w fun e w' => e = .returned (.int .i64 0) ∧ Below w.heap.size w w' := by
  have hm8 : d.m ≤ 8 := by have := hd.vault.calls; have := hd.cm; omega
  have hA := h.below ((Below.refl B w).alloc hB (.cells (hC d) 29)) (Nat.le_refl _)
  have HR := Go.Lib.hid (vRun_any d.r d.P d.N d.sc B d.L d.C d.t d.n d.m d.sA d.cA d.tA d.cc d.tc (w.alloc (.cells (hC d) 29)) hd.r4 hd.vault hd.truth hd.ln hd.cm hd.mc (by simp; omega) hA.start hA.calls hA.truth)
  have H0 := Go.Lib.hid (heap_alloc_new w (.cells (hC d) 29))
  have HA := Go.Lib.hid hA
  have HD := Go.Lib.hid hd
  obtain ⟨q1, q2⟩ := hd.ld
  obtain ⟨q3, q4⟩ := hd.br
  obtain ⟨q5, q6, q7⟩ := hd.tr
  have q8 := hd.nt
  clear hd h hA
  go_enter Tryz.func37, Tryz.ntmps37
  go_wp2_with (first
    | (go_at_call 60; refine HR.out.mono ?_; rintro e w1 ⟨A, c, rfl, hB1, _⟩
       have c1 := cells_of ((hB1.block w.heap.size (by simp)).trans H0.out)
       have HA1 := Go.Lib.hid (HA.out.below hB1 (by simp; omega))
       have HBL := Go.Lib.hid (((Below.refl w.heap.size w).alloc (Nat.le_refl _) (.cells (hC d) 29)).trans (hB1.mono (by simp)))
       have hzw : w.heap.size + 1 ≤ w1.heap.size := by have := hB1.size; simp at this; omega
       have c2 : ∀ (x : Obj) o, (w1.alloc x).cell? ⟨w.heap.size, o, none⟩ = (hC d)[o]? := fun x o => (cell_old w1 x (by omega)).trans (c1 o)
       clear hB1)
    | (go_at_call 61; refine (bcheckTimes_yes d.xA d.τ d.m d.xc B _ (by omega) HD.out.times HD.out.tm HA1.out.times).mono ?_; rintro e w' ⟨rfl, rfl⟩)
    | (go_at_call 62; refine (bwithin_yes _ _ _ _ (by omega) (by omega)).mono ?_; rintro e w' ⟨rfl, rfl⟩)
    | (go_at_call 63; refine (bcheckMinutes_yes (some ⟨w1.heap.size, 0, none⟩) 2 2 (w1.heap.size + 1) (fun j => if j = 0 then d.t1 else d.t2) _ (by omega) (fun _ => ⟨_, rfl, by simp, fun j hj => by
         match j, hj with
         | 0, _ => exact cellH (heap_alloc_new w1 _) 0
         | 1, _ => exact cellH (heap_alloc_new w1 _) 1⟩) (fun j hj => by
         match j, hj with
         | 0, _ => simp; omega
         | 1, _ => simp; omega)).mono ?_; rintro e w' ⟨rfl, rfl⟩))
  go_ret
  exact ⟨rfl, HBL.out.alloc (by omega) _⟩

end Go.Proofs.YtoobopohohoidaaGreatDoor
