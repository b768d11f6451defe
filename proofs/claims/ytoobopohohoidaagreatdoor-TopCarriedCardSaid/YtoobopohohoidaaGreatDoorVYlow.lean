/- VAULT: run by the rule low. -/
/- VAULT: Run by the rule low. -/
import Derived.Test.YtoobopohohoidaaGreatDoorVY0
import Derived.Test.YtoobopohohoidaaGreatDoorVZ0
set_option linter.unusedSimpArgs false
set_option linter.unusedVariables false
namespace Go.Proofs.YtoobopohohoidaaGreatDoor
open Go.RowKit Go.Maps Go.Shelf

abbrev pv_low : Array Value := #[.func (.method "gladstone/vault.sends") #[.iface 205 (.agg #[])] #[], .bool false]

set_option maxRecDepth 100000 in
set_option maxHeartbeats 8000000 in
theorem vrun_low (P N : Nat) (sA : Option Addr) (sn sc : Nat) (cA : Option Addr) (cn cc : Nat) (L0 t : List Nat) (tA : Option Addr) (m tc B : Nat) (w : World) (hP : 1 ≤ P) (hP4 : P ≤ 4) (hL0 : Line P L0) (ht6 : ∀ p ∈ t, p < 6) (hm : t.length = m) (hm8 : m ≤ 8) (hmc : m ≤ tc) (hB : B ≤ w.heap.size) (hI : Ints w B tA m (ofL t)) :
    Calls Tryz.prog 87 #[.agg (wVal P N sA sn sc cA cn cc L0), .slice tA m tc, .agg pv_low] w fun e w' => e = .returned (.tuple #[.agg (chV (sim P lowS false t L0).1), .int .i64 (sim P lowS false t L0).2]) ∧ Below w.heap.size w w' := by
  obtain ⟨x0, x1, x2, x3, xT, xz⟩ := heaps4 w (wVal P N sA sn sc cA cn cc L0) pv_low (chV []) (dC (maskOf L0) L0 (.slice none 0 0)) 58 176 65 56
  have hstart : RunMem (wVal P N sA sn sc cA cn cc L0) pv_low m 0 w.heap.size L0 [] w ((((w.alloc (.cells (wVal P N sA sn sc cA cn cc L0) 58)).alloc (.cells pv_low 176)).alloc (.cells (chV []) 65)).alloc (.cells (dC (maskOf L0) L0 (.slice none 0 0)) 56)) :=
    ⟨x0, x1, ⟨List.replicate m 0, by rw [chV_zero]; exact x2, by simp, rfl⟩, ⟨_, rfl, x3⟩, xT _⟩
  have HSTART := Go.Lib.hid hstart
  have hmet : ∀ w, (method 345 205 (.agg #[]) "gladstone/vault.sends").run Tryz.prog w = .ok (142, .agg #[]) w := fun _ => by kernel_rfl
  have HI := Go.Lib.hid hI
  have HM := Go.Lib.hid hm
  have HL0 := Go.Lib.hid hL0
  have HT6 := Go.Lib.hid ht6
  clear x0 x1 x2 x3 xT xz hstart hI hm hL0 ht6
  go_enter Tryz.func87, Tryz.ntmps87
  go_wp2
  go_loopw [15, 7] (fun i ff wr => ∃ (k f : Nat) (L : List Nat) (pre : List Int), k ≤ m ∧ i = .int .i64 k ∧ ff = .int .i64 f ∧ Hid (RunAt P lowS false t L0 k L pre f) ∧ Hid (RunMem (wVal P N sA sn sc cA cn cc L0) pv_low m k w.heap.size L pre w wr)) (fun i _ _ => m - (intOf i).toNat)
  case atStart =>
    refine ⟨0, 0, L0, [], Nat.zero_le _, rfl, rfl, Go.Lib.hid (RunAt.start HL0.out), ?_⟩
    exact HSTART
  case round =>
    obtain ⟨k, f, L, pre, hk, rfl, rfl, HR, HM'⟩ := hrel
    have hR := HR.out
    have hmem := HM'.out
    have hzw : w.heap.size + 3 < wr.heap.size := let ⟨_, _, h⟩ := hmem.desk; (Array.getElem?_eq_some_iff.1 h).1
    by_cases hlt : k < m
    · obtain ⟨ad, rfl, hab, hac⟩ := HI.out (by omega)
      obtain ⟨p, hp1, hp2, hp3⟩ := ofL_mem (l := t) (j := k) (by rw [HM.out]; exact hlt)
      have hp6 := HT6.out p hp1
      have hcell : wr.cell? (ad.add k) = some (.int .i64 p) := by
        rw [hmem.turn.cell (p := ad.add k) (by rw [block_add]; omega) (by rw [block_add]; omega), hac k hlt, hp2]
      have hdrop : t.drop k = p :: t.drop (k + 1) := by
        obtain ⟨h1, h2⟩ := List.getElem?_eq_some_iff.1 hp3
        rw [List.drop_eq_getElem_cons h1, h2]
      obtain ⟨q, hq1, hq2, hq3⟩ := id hmem.made
      have cm : wr.cell? ⟨w.heap.size + 1 + 1, k, none⟩ = some (.int .i64 (q.getD k 0)) := (cellH hq1 k).trans (chV_get q (by omega))
      have fm : wr.frozen? ⟨w.heap.size + 1 + 1, k, none⟩ = false := freeH hq1 k
      have hmem1 := hmem.store hlt hm8 (-1) (by omega)
      have hz1 : (wr.setCell ⟨w.heap.size + 1 + 1, k, none⟩ (.int .i64 (-1))).heap.size = wr.heap.size := by simp
      obtain ⟨R, hRc, hdesk⟩ := id hmem1.desk
      have d0 : (wr.setCell ⟨w.heap.size + 1 + 1, k, none⟩ (.int .i64 (-1))).cell? ⟨w.heap.size + 1 + 1 + 1, 0, none⟩ = some (.int .u8 (maskOf L)) := cellH hdesk 0
      have p1 : (wr.setCell ⟨w.heap.size + 1 + 1, k, none⟩ (.int .i64 (-1))).cell? ⟨w.heap.size + 1, 1, none⟩ = some (.bool false) := cellH hmem1.porter 1
      have v0 : (wr.setCell ⟨w.heap.size + 1 + 1, k, none⟩ (.int .i64 (-1))).cell? ⟨w.heap.size, 0, none⟩ = some (.int .i64 P) := cellH hmem1.vault 0
      have hml := mask_lt hR.line.lt
      have hk8 : (k : Int) < 8 := by omega
      have hkm : (k : Int) < m := by omega
      have HMEM1 := Go.Lib.hid hmem1
      have HDROP := Go.Lib.hid hdrop
      have HDESK := Go.Lib.hid hdesk
      have HAC := Go.Lib.hid hac
      clear hmem hmem1 hdrop hq1 hq2 hq3 hdesk hR hac hp1 hp2 hp3 HSTART
      by_cases hp : p ∈ L
      · have hbit : (maskOf L).testBit p = true := by rw [mask_bit]; simp [hp]
        go_wp2_with (first | (go_at_call 55; refine (vhas_lit _ _ true hbit _ hml hp6).mono ?_; rintro e w' ⟨rfl, rfl⟩))
        have h1 := HR.out.hit HDROP.out hp hp6
        simp only [Bool.false_eq_true, if_false] at h1
        exact ⟨⟨k + 1, f, L, pre ++ [-1], by omega, by go_num, rfl, Go.Lib.hid h1, HMEM1⟩, by simp [intOf]; omega⟩
      · have hbit : (maskOf L).testBit p = false := by rw [mask_bit]; simp [hp]
        have hcn := HR.out.line.cnt
        have hle := HR.out.line.le
        have hL4 := HR.out.line.mono hP4
        by_cases hl : L.length = P
        · have hcq : ((cnt (maskOf L) : Int) == (P : Int)) = true := by rw [hcn, hl]; simp
          go_wp2_with (first | (go_at_call 55; refine (vhas_lit _ _ false hbit _ hml hp6).mono ?_; rintro e w' ⟨rfl, rfl⟩))
          clear hcn
          go_quiet (first | (go_at_call 56; exact quietly (vsize_any _ _ hml)))
          have hf8 := HR.out.few
          have hd6 : ((wr.setCell ⟨w.heap.size + 1 + 1, k, none⟩ (.int .i64 (-1))).drewN nq).cell? ⟨w.heap.size + 1 + 1 + 1, 6, none⟩ = some R := cellH HDESK.out 6
          have hf6 : ((wr.setCell ⟨w.heap.size + 1 + 1, k, none⟩ (.int .i64 (-1))).drewN nq).frozen? ⟨w.heap.size + 1 + 1 + 1, 6, none⟩ = false := freeH HDESK.out 6
          have hk1 : (k : Int) + 1 ≤ m := by omega
          have hmt : (m : Int) ≤ tc := by omega
          have hne : L ≠ [] := fun h => by rw [h] at hl; simp at hl; omega
          have hsnd : lowS L (t.drop (k + 1)) ∈ L := lowS_mem _ HR.out.line hne
          have hsl := rest_run ad k m tc hlt hmc
          have hI1 := rest_ints HM.out hlt hab HAC.out
          obtain ⟨A1, hA1⟩ : ∃ A1, restA ad k m = A1 := ⟨_, rfl⟩
          obtain ⟨d, hdd⟩ : ∃ d, m - (k + 1) = d := ⟨_, rfl⟩
          rw [hA1, hdd] at hI1
          simp only [hA1, hdd] at hsl
          have hA1I : ∀ W, Turn (fun b => w.heap.size ≤ b) w W → Ints W B A1 d (ofL (t.drop (k + 1))) := fun W hT => hI1.keep fun b hb => hT.block b (by omega) (by omega)
          have HA1I := Go.Lib.hid hA1I
          clear hI1 hA1I hA1
          have HD1 := Go.Lib.hid (show (((wr.setCell ⟨w.heap.size + 1 + 1, k, none⟩ (.int .i64 (-1))).drewN nq).setCell ⟨w.heap.size + 1 + 1 + 1, 6, none⟩ (.slice A1 d d)).heap[w.heap.size + 1 + 1 + 1]? = some (.cells (dC (maskOf L) L (.slice A1 d d)) 56 (0, 0)) from setH HDESK.out 6 (.slice A1 d d))
          have hTd : Turn (fun b => b = w.heap.size + 3) (wr.setCell ⟨w.heap.size + 1 + 1, k, none⟩ (.int .i64 (-1))) (((wr.setCell ⟨w.heap.size + 1 + 1, k, none⟩ (.int .i64 (-1))).drewN nq).setCell ⟨w.heap.size + 1 + 1 + 1, 6, none⟩ (.slice A1 d d)) := ((Turn.refl _ _).drewN nq).trans (Turn.of_but ((But.refl (w.heap.size + 3) _).set 6 _))
          have HM2 := Go.Lib.hid (HMEM1.out.turned hTd rfl HD1.out)
          have p0 : (((wr.setCell ⟨w.heap.size + 1 + 1, k, none⟩ (.int .i64 (-1))).drewN nq).setCell ⟨w.heap.size + 1 + 1 + 1, 6, none⟩ (.slice A1 d d)).cell? ⟨w.heap.size + 1, 0, none⟩ = some (.func (.method "gladstone/vault.sends") #[.iface 205 (.agg #[])] #[]) := cellH HM2.out.porter 0
          have hz2 : w.heap.size ≤ (((wr.setCell ⟨w.heap.size + 1 + 1, k, none⟩ (.int .i64 (-1))).drewN nq).setCell ⟨w.heap.size + 1 + 1 + 1, 6, none⟩ (.slice A1 d d)).heap.size := by simp; omega
          have HSND := Go.Lib.hid (send_low L (t.drop (k + 1)) A1 d d B (((wr.setCell ⟨w.heap.size + 1 + 1, k, none⟩ (.int .i64 (-1))).drewN nq).setCell ⟨w.heap.size + 1 + 1 + 1, 6, none⟩ (.slice A1 d d)) hL4 hne (by rw [List.length_drop, HM.out]; exact hdd) (by omega) (HA1I.out _ (Turn.trans HM2.out.turn (Turn.refl _ _))) (by omega))
          go_wp2_with (first
            | (with_reducible refine wpList_load_whole rfl 56 (.tmp 8) rfl (w.heap.size + 1 + 1 + 1) rfl HD1.out Tryz.underlying56 rfl (by kernel_rfl) ?_)
            | (go_at_call 142; refine HSND.out.mono ?_; rintro e w5 ⟨rfl, hB5⟩
               have hT5 : Turn (fun _ => False) (((wr.setCell ⟨w.heap.size + 1 + 1, k, none⟩ (.int .i64 (-1))).drewN nq).setCell ⟨w.heap.size + 1 + 1 + 1, 6, none⟩ (.slice A1 d d)) w5 := Turn.of_below' hB5 _
               have hm5 := HM2.out.kept hT5
               obtain ⟨q5, hq1, hq2, hq3⟩ := id hm5.made
               have cm5 : w5.cell? ⟨w.heap.size + 1 + 1, k, none⟩ = some (.int .i64 (q5.getD k 0)) := (cellH hq1 k).trans (chV_get q5 (by omega))
               have fm5 : w5.frozen? ⟨w.heap.size + 1 + 1, k, none⟩ = false := freeH hq1 k
               have HM6 := Go.Lib.hid (hm5.again HR.out.len hlt hm8 (lowS L (t.drop (k + 1))))
               have HD6 := Go.Lib.hid (show (w5.setCell ⟨w.heap.size + 1 + 1, k, none⟩ (.int .i64 (lowS L (t.drop (k + 1))))).heap[w.heap.size + 1 + 1 + 1]? = some (.cells (dC (maskOf L) L (.slice A1 d d)) 56 (0, 0)) from (Turn.of_but ((But.refl (w.heap.size + 2) w5).set k (.int .i64 (lowS L (t.drop (k + 1)))))).heap (hT5.heap HD1.out (fun h => h)) (by omega))
               clear hm5 hq1)
            | (go_at_call 97; refine (vsend_any (w.heap.size + 1 + 1 + 1) 56 (lowS L (t.drop (k + 1))) L (.slice A1 d d) _ hL4 hsnd HD6.out).mono ?_; rintro e w6 ⟨rfl, hb6, hB6⟩)
            | (go_at_call 47; refine (vput_any (w.heap.size + 1 + 1 + 1) 56 p (L.erase (lowS L (t.drop (k + 1)))) (.slice A1 d d) _ (hL4.erase _) (by rw [List.length_erase_of_mem hsnd]; omega) hp6 hb6).mono ?_; rintro e w7 ⟨rfl, hb7, hB7⟩))
          have hm7 := (HM6.out.turned (Turn.of_but hB6) rfl hb6).turned (Turn.of_but hB7) rfl hb7
          exact ⟨⟨k + 1, f + 1, _, _, by omega, by go_num, by go_num, Go.Lib.hid (HR.out.full HDROP.out hp hp6 hl hsnd), Go.Lib.hid hm7⟩, by simp [intOf]; omega⟩
        · have hcq : ((cnt (maskOf L) : Int) == (P : Int)) = false := by rw [hcn]; simp; omega
          go_wp2_with (first | (go_at_call 55; refine (vhas_lit _ _ false hbit _ hml hp6).mono ?_; rintro e w' ⟨rfl, rfl⟩))
          clear hcn
          go_quiet (first | (go_at_call 56; exact quietly (vsize_any _ _ hml)))
          have hf8 := HR.out.few
          go_wp2_with (first | (go_at_call 47; refine (vput_any (w.heap.size + 1 + 1 + 1) 56 p L R ((wr.setCell ⟨w.heap.size + 1 + 1, k, none⟩ (.int .i64 (-1))).drewN nq) hL4 (by omega) hp6 HDESK.out).mono ?_; rintro e w2 ⟨rfl, hb2, hB2⟩))
          have hm2 := HMEM1.out.turned (((Turn.refl _ _).drewN nq).trans (Turn.of_but hB2)) hRc hb2
          exact ⟨⟨k + 1, f + 1, _, pre ++ [-1], by omega, by go_num, by go_num, Go.Lib.hid (HR.out.room HDROP.out hp hp6 (by omega)), Go.Lib.hid hm2⟩, by simp [intOf]; omega⟩
    · have HK := Go.Lib.hid (show k = m by omega)
      obtain ⟨q, hq1, hq2, hq3⟩ := id hmem.made
      have HQ := Go.Lib.hid (show wr.heap[w.heap.size + 1 + 1]? = some (.cells (chV q) 65 (0, 0)) from hq1)
      have HMEM := Go.Lib.hid hmem
      clear hq1 hmem hR HSTART
      go_wp2_with (first
        | (with_reducible refine wpList_load_whole rfl 65 (.tmp 6) rfl (w.heap.size + 1 + 1) rfl HQ.out Tryz.underlying65 rfl (by kernel_rfl) ?_)
        | (with_reducible refine wpList_store_whole rfl 65 (.tmp 6) (.tmp 61) rfl (w.heap.size + 1 + 1) (chV q) rfl rfl HQ.out (by kernel_rfl) rfl (chV_one q) ?_; intro W2 g1 g2))
      have hkm := HK.out
      subst hkm
      obtain ⟨e1, e2⟩ := HR.out.done HM.out
      have e3 : q = pre := by rw [← hq3, ← hq2, List.take_length]
      rw [e1, e2, ← e3]
      refine ⟨rfl, _, results_cw_tmp rfl rfl g1 Tryz.underlying65 rfl (by kernel_rfl), rfl, ?_⟩
      exact (HMEM.out.turn.trans ((Turn.of_but g2).mono fun b _ hb => by omega)).below (fun b hb h => by omega) (Nat.le_refl _)

end Go.Proofs.YtoobopohohoidaaGreatDoor

namespace Go.Proofs.YtoobopohohoidaaGreatDoor
open Go.RowKit Go.Maps Go.Shelf

attribute [local go_sem] Oper.semAt_some

/-- What Run gives. -/
def RunOk_low (P : Nat) (t L : List Nat) (m : Nat) (w : World) (e : Ending) (w' : World) : Prop :=
  ∃ (A : Option Addr) (c : Nat), e = .returned (.tuple #[.slice A m c, .int .i64 (sim P lowS false t L).2, .int .i64 0]) ∧ Below w.heap.size w w' ∧ Ints w' w'.heap.size A m (fun j => (sim P lowS false t L).1.getD j 0)

set_option maxRecDepth 100000 in
set_option maxHeartbeats 8000000 in
theorem vRun_low (P N sc B : Nat) (L : List Nat) (C : List (List Nat)) (t : List Nat) (n m : Nat) (sA cA tA : Option Addr) (cc tc : Nat) (w : World) (hV : VaultOk P N L C) (ht : TruthOk C t) (hn : L.length = n) (hm : C.length = m) (hmc : m ≤ tc) (hB : B ≤ w.heap.size)
    (h : Ints w B sA n (ofL L)) (hR : Rows w B cA C) (hT : Ints w B tA m (ofL t)) :
    Calls Tryz.prog 60 #[.agg (vVal P N sA n sc cA m cc), .slice tA m tc, .int .i64 0] w (RunOk_low P t L m w) := by
  subst hn
  have hB1 : Below w.heap.size w (w.alloc (.cells (vVal P N sA L.length sc cA m cc) 25)) := (Below.refl w.heap.size w).alloc (Nat.le_refl _) _
  have HO := Go.Lib.hid (vopenTruth_any P N sc B L C t L.length m sA cA tA cc tc (w.alloc (.cells (vVal P N sA L.length sc cA m cc) 25)) hV ht rfl hm (Nat.le_trans hB hB1.size) (h.below hB1 hB) (hR.below hB1 hB) (hT.below hB1 hB))
  have HI := Go.Lib.hid (hT.below hB1 hB)
  have htm : t.length = m := ht.len.trans hm
  have ht6 : ∀ p ∈ t, p < 6 := ht.lt hV
  have hm8 : m ≤ 8 := by rw [← hm]; exact hV.calls
  have hP := hV.p1
  have hP4 := hV.p4
  have HL := Go.Lib.hid hV.line
  have HF := Go.Lib.hid (And.intro htm ht6)
  clear h hR hT hB1 hV ht hm htm ht6
  refine (callsIn_wide (n := 12)).1 ?_
  refine callsIn_of_wp Tryz.func60 rfl trivial ?_
  simp only [Tryz.ntmps60, List.size_toArray, List.length_cons, List.length_nil, Nat.reduceAdd, Nat.reduceSub, Array.replicate_succ, Array.replicate_zero, List.push_toArray, List.append_toArray, List.nil_append, List.cons_append]
  have hmo : Tryz.prog.follows .mixedOrders = true := by kernel_rfl
  gi_wp2_with (first
    | (refine ⟨trivial, (callsIn_wide.2 HO.out).mono ?_⟩; rintro e w1 ⟨kb, hkb, rfl, hB2, hown⟩)
    | (refine ⟨trivial, (callsIn_wide.2 (vfind_low _)).mono ?_⟩; rintro e w2 ⟨rfl, hB3⟩))
  change Code.wpIn _ _ _ _ _ _ w2
  obtain ⟨htm, ht6⟩ := HF.out
  have hx1 : (w1.alloc (.cells (tVal P N sA L.length sc cA m cc L tA m tc kb) 61)).heap[w1.heap.size]? = some (.cells (tVal P N sA L.length sc cA m cc L tA m tc kb) 61 (0, 0)) := heap_alloc_new w1 _
  have hTb : Turn (fun _ => False) (w1.alloc (.cells (tVal P N sA L.length sc cA m cc L tA m tc kb) 61)) w2 := Turn.of_below' hB3 _
  have hx2 : w2.heap[w1.heap.size]? = some (.cells (tVal P N sA L.length sc cA m cc L tA m tc kb) 61 (0, 0)) := hTb.heap hx1 (fun h => h)
  have hz1 : w.heap.size < w1.heap.size := by have := hB2.size; simp at this; omega
  have hTw2 : Turn (fun b => w.heap.size ≤ b) w w2 := (((((Turn.refl _ w).alloc _).trans ((Turn.of_below hB2).mono fun b _ hb => by simp at hb; omega))).alloc _).trans (hTb.mono fun _ _ h => h.elim)
  have hzw2 : w1.heap.size < w2.heap.size := (Array.getElem?_eq_some_iff.1 hx2).1
  have hI2 : Ints w2 B tA m (ofL t) := (((HI.out.below hB2 (by simp; omega)).keep fun b hb => ((Turn.refl (fun _ => False) w1).alloc _).block b (by omega) (fun h => h))).keep fun b hb => hTb.block b (by simp; omega) (fun h => h)
  clear hx1 hTb hB2 hB3 hown hkb
  refine wpIn_region_heldN (S := (fun W : World => W.heap[w1.heap.size]? = some (.cells (tVal P N sA L.length sc cA m cc L tA m tc kb) 61 (0, 0)))) hmo ?_
  have HS0 : (fun W : World => W.heap[w1.heap.size]? = some (.cells (tVal P N sA L.length sc cA m cc L tA m tc kb) 61 (0, 0))) w2.drew := hx2
  have hTw2d : ∀ T, Turn T w2 w2.drew := fun T => (Turn.refl T w2).drew
  obtain ⟨w0, hw0⟩ : ∃ w0, w2.drew = w0 := ⟨_, rfl⟩
  rw [hw0] at HS0 hTw2d ⊢
  have hTw0 := hTw2d
  clear hw0 hTw2d
  refine wpAnyI_take (i := 0) (v := ?_) wide_fn (by kernel_rfl) rfl (by kernel_rfl) (by kernel_rfl) (by kernel_rfl) (fun _ _ _ h => h) HS0 (.inl ⟨by rfl, ?hy⟩) ?_
  case hy => intro w _; first | (go_simp; done) | (go_simp; rfl)
  refine wpAnyI_take (i := 1) (v := .agg (wVal P N sA L.length sc cA m cc L)) wide_fn (by kernel_rfl) rfl (by kernel_rfl) (by kernel_rfl) (by kernel_rfl) (fun _ _ _ h => h) HS0 ?hy ?_
  case hy => exact yieldsIf_load_mid (by rfl) 58 (.tmp 30) rfl w1.heap.size 0 rfl (wVal P N sA L.length sc cA m cc L).toList _ (fun w h j v hv => by
      rw [Nat.zero_add, cellH h]
      have hj : j < 11 := by have := (List.getElem?_eq_some_iff.1 hv).1; simpa using this
      rw [← hv]
      match j, hj with
      | 0, _ => rfl
      | 1, _ => rfl
      | 2, _ => rfl
      | 3, _ => rfl
      | 4, _ => rfl
      | 5, _ => rfl
      | 6, _ => rfl
      | 7, _ => rfl
      | 8, _ => rfl
      | 9, _ => rfl
      | 10, _ => rfl) Tryz.underlying58 rfl (by kernel_rfl)
  refine wpAnyI_take (i := 2) (v := ?_) wide_fn (by kernel_rfl) rfl (by kernel_rfl) (by kernel_rfl) (by kernel_rfl) (fun _ _ _ h => h) HS0 (.inl ⟨by rfl, ?hy⟩) ?_
  case hy => intro w _; first | (go_simp; done) | (go_simp; rfl)
  refine wpAnyI_take (i := 3) (v := ?_) wide_fn (by kernel_rfl) rfl (by kernel_rfl) (by kernel_rfl) (by kernel_rfl) (fun _ _ _ h => h) HS0 (.inl ⟨by rfl, ?hy⟩) ?_
  case hy => intro w _; first | (go_simp; done) | (go_simp; rfl)
  refine wpAnyI_two (i := 4) (k := 9) (by kernel_rfl) rfl rfl (fun KK hKK => ?_) (fun KK hKK => ?_)
  · go_simp
    refine ⟨trivial, (callsIn_wide.2 (vporter_low _)).mono ?_⟩
    rintro e w3 ⟨rfl, hBp⟩
    have hTw3 : ∀ T, Turn T w2 w3 := fun T => (hTw0 T).trans (Turn.of_below' hBp T)
    have HSw3 : (fun W : World => W.heap[w1.heap.size]? = some (.cells (tVal P N sA L.length sc cA m cc L tA m tc kb) 61 (0, 0))) w3 := (hTw3 (fun _ => False)).heap hx2 (fun h => h)
    refine hKK _ _ HSw3 ?_
    clear hKK KK
    refine wpAnyI_two (i := 5) (k := 9) (by kernel_rfl) rfl rfl (fun KK hKK => ?_) (fun KK hKK => ?_)
    · go_simp
      refine ⟨trivial, (callsIn_wide.2 (vrun_low P N sA L.length sc cA m cc L t tA m tc B _ hP hP4 HL.out ht6 htm hm8 hmc (by have := (hTw3 (fun _ => False)).size; omega) (hI2.keep fun b hb => (hTw3 (fun _ => False)).block b (by omega) (fun h => h)))).mono ?_⟩
      rintro e w4 ⟨rfl, hBr⟩
      have hTw4 : ∀ T, Turn T w2 w4 := fun T => (hTw3 T).trans (Turn.of_below' hBr T)
      have HSw4 : (fun W : World => W.heap[w1.heap.size]? = some (.cells (tVal P N sA L.length sc cA m cc L tA m tc kb) 61 (0, 0))) w4 := (hTw4 (fun _ => False)).heap hx2 (fun h => h)
      refine hKK _ _ HSw4 ?_
      clear hKK KK
      refine wpAnyI_take (i := 6) (v := ?_) wide_fn (by kernel_rfl) rfl (by kernel_rfl) (by kernel_rfl) (by kernel_rfl) (fun _ _ _ h => h) HSw4 (.inl ⟨by rfl, ?hy⟩) ?_
      case hy => intro w _; first | (go_simp; done) | (go_simp; rfl)
      refine wpAnyI_take (i := 7) (v := ?_) wide_fn (by kernel_rfl) rfl (by kernel_rfl) (by kernel_rfl) (by kernel_rfl) (fun _ _ _ h => h) HSw4 (.inl ⟨by rfl, ?hy⟩) ?_
      case hy => intro w _; first | (go_simp; done) | (go_simp; rfl)
      refine wpAnyI_take (i := 8) (v := ?_) wide_fn (by kernel_rfl) rfl (by kernel_rfl) (by kernel_rfl) (by kernel_rfl) (fun _ _ _ h => h) HSw4 (.inl ⟨by rfl, ?hy⟩) ?_
      case hy => intro w _; first | (go_simp; done) | (go_simp; rfl)
      refine wpAnyI_one (i := 9) (by kernel_rfl) rfl (fun KK hKK => ?_)
      go_simp
      have hab := heap_alloc_new w4 (.cells #[.int .i64 0, .int .i64 0, .int .i64 0, .int .i64 0, .int .i64 0, .int .i64 0, .int .i64 0, .int .i64 0] 65)
      obtain ⟨w5, hw5⟩ : ∃ w5, w4.alloc (.cells #[.int .i64 0, .int .i64 0, .int .i64 0, .int .i64 0, .int .i64 0, .int .i64 0, .int .i64 0, .int .i64 0] 65) = w5 := ⟨_, rfl⟩
      have hTw5 : ∀ T, Turn T w2 w5 := fun T => hw5 ▸ (hTw4 T).alloc _
      have HSw5 : (fun W : World => W.heap[w1.heap.size]? = some (.cells (tVal P N sA L.length sc cA m cc L tA m tc kb) 61 (0, 0))) w5 := (hTw5 (fun _ => False)).heap hx2 (fun h => h)
      rw [hw5] at hab ⊢
      have hzw5 : w2.heap.size ≤ w4.heap.size := (hTw4 (fun _ => False)).size
      clear hw5
      have hab' := hab
      refine hKK _ _ HSw5 ?_
      clear hKK KK
      refine wpAnyI_one (i := 10) (by kernel_rfl) rfl (fun KK hKK => ?_)
      rw [if_pos (by rfl)]
      refine opIn_store_whole 65 (.tmp 11) (.tmp 36) rfl w4.heap.size (chV (sim P lowS false t L).1) rfl rfl hab' (by kernel_rfl) rfl (chV_one _) (fun W7 g1 g2 => ?_)
      have hT7 : Turn (fun b => w2.heap.size ≤ b) w2 W7 := (hTw5 _).trans ((Turn.of_but g2).mono fun b _ hb => by omega)
      have HSW7 : (fun W : World => W.heap[w1.heap.size]? = some (.cells (tVal P N sA L.length sc cA m cc L tA m tc kb) 61 (0, 0))) W7 := hT7.heap hx2 (by omega)
      refine hKK _ _ HSW7 ?_
      clear hKK KK
      refine wpAnyI_take (i := 11) (v := ?_) wide_fn (by kernel_rfl) rfl (by kernel_rfl) (by kernel_rfl) (by kernel_rfl) (fun _ _ _ h => h) HSW7 (.inl ⟨by rfl, ?hy⟩) ?_
      case hy => intro w _; first | (go_simp; done) | (go_simp; rfl)
      refine wpAnyI_done (by kernel_rfl) (NoPanic.normal ?_) _
      have hz7 := hT7.size
      gi_wp2_with (first
        | (with_reducible refine wpListIn_load_whole rfl 65 (.tmp 11) rfl w4.heap.size rfl g1 Tryz.underlying65 rfl (by kernel_rfl) ?_)
        | (refine ⟨trivial, (callsIn_wide.2 (vlist_any _ m _ hm8)).mono ?_⟩; rintro e w8 ⟨A, cc', rfl, hB8, hI8, hA8⟩))
      exact ⟨rfl, _, results_tmp3 rfl _ _ _, A, cc', rfl, ((hTw2.trans (hT7.mono fun b _ hb => by omega)).trans (Turn.of_below' hB8 _)).below (fun b hb h => by omega) (Nat.le_refl _), hI8⟩
    · go_simp
      have hab := heap_alloc_new w3 (.cells #[.int .i64 0, .int .i64 0, .int .i64 0, .int .i64 0, .int .i64 0, .int .i64 0, .int .i64 0, .int .i64 0] 65)
      obtain ⟨w4, hw4⟩ : ∃ w4, w3.alloc (.cells #[.int .i64 0, .int .i64 0, .int .i64 0, .int .i64 0, .int .i64 0, .int .i64 0, .int .i64 0, .int .i64 0] 65) = w4 := ⟨_, rfl⟩
      have hTw4 : ∀ T, Turn T w2 w4 := fun T => hw4 ▸ (hTw3 T).alloc _
      have HSw4 : (fun W : World => W.heap[w1.heap.size]? = some (.cells (tVal P N sA L.length sc cA m cc L tA m tc kb) 61 (0, 0))) w4 := (hTw4 (fun _ => False)).heap hx2 (fun h => h)
      rw [hw4] at hab ⊢
      have hzw4 : w2.heap.size ≤ w3.heap.size := (hTw3 (fun _ => False)).size
      clear hw4
      refine hKK _ _ HSw4 ?_
      clear hKK KK
      refine wpAnyI_one (i := 5) (by kernel_rfl) rfl (fun KK hKK => ?_)
      go_simp
      refine ⟨trivial, (callsIn_wide.2 (vrun_low P N sA L.length sc cA m cc L t tA m tc B _ hP hP4 HL.out ht6 htm hm8 hmc (by have := (hTw4 (fun _ => False)).size; omega) (hI2.keep fun b hb => (hTw4 (fun _ => False)).block b (by omega) (fun h => h)))).mono ?_⟩
      rintro e w5 ⟨rfl, hBr⟩
      have hTw5 : ∀ T, Turn T w2 w5 := fun T => (hTw4 T).trans (Turn.of_below' hBr T)
      have HSw5 : (fun W : World => W.heap[w1.heap.size]? = some (.cells (tVal P N sA L.length sc cA m cc L tA m tc kb) 61 (0, 0))) w5 := (hTw5 (fun _ => False)).heap hx2 (fun h => h)
      have hab' := (Turn.of_below' hBr (fun _ => False)).heap hab (fun h => h)
      refine hKK _ _ HSw5 ?_
      clear hKK KK
      refine wpAnyI_take (i := 6) (v := ?_) wide_fn (by kernel_rfl) rfl (by kernel_rfl) (by kernel_rfl) (by kernel_rfl) (fun _ _ _ h => h) HSw5 (.inl ⟨by rfl, ?hy⟩) ?_
      case hy => intro w _; first | (go_simp; done) | (go_simp; rfl)
      refine wpAnyI_take (i := 7) (v := ?_) wide_fn (by kernel_rfl) rfl (by kernel_rfl) (by kernel_rfl) (by kernel_rfl) (fun _ _ _ h => h) HSw5 (.inl ⟨by rfl, ?hy⟩) ?_
      case hy => intro w _; first | (go_simp; done) | (go_simp; rfl)
      refine wpAnyI_take (i := 8) (v := ?_) wide_fn (by kernel_rfl) rfl (by kernel_rfl) (by kernel_rfl) (by kernel_rfl) (fun _ _ _ h => h) HSw5 (.inl ⟨by rfl, ?hy⟩) ?_
      case hy => intro w _; first | (go_simp; done) | (go_simp; rfl)
      refine wpAnyI_one (i := 10) (by kernel_rfl) rfl (fun KK hKK => ?_)
      rw [if_pos (by rfl)]
      refine opIn_store_whole 65 (.tmp 11) (.tmp 36) rfl w3.heap.size (chV (sim P lowS false t L).1) rfl rfl hab' (by kernel_rfl) rfl (chV_one _) (fun W7 g1 g2 => ?_)
      have hT7 : Turn (fun b => w2.heap.size ≤ b) w2 W7 := (hTw5 _).trans ((Turn.of_but g2).mono fun b _ hb => by omega)
      have HSW7 : (fun W : World => W.heap[w1.heap.size]? = some (.cells (tVal P N sA L.length sc cA m cc L tA m tc kb) 61 (0, 0))) W7 := hT7.heap hx2 (by omega)
      refine hKK _ _ HSW7 ?_
      clear hKK KK
      refine wpAnyI_take (i := 11) (v := ?_) wide_fn (by kernel_rfl) rfl (by kernel_rfl) (by kernel_rfl) (by kernel_rfl) (fun _ _ _ h => h) HSW7 (.inl ⟨by rfl, ?hy⟩) ?_
      case hy => intro w _; first | (go_simp; done) | (go_simp; rfl)
      refine wpAnyI_done (by kernel_rfl) (NoPanic.normal ?_) _
      have hz7 := hT7.size
      gi_wp2_with (first
        | (with_reducible refine wpListIn_load_whole rfl 65 (.tmp 11) rfl w3.heap.size rfl g1 Tryz.underlying65 rfl (by kernel_rfl) ?_)
        | (refine ⟨trivial, (callsIn_wide.2 (vlist_any _ m _ hm8)).mono ?_⟩; rintro e w8 ⟨A, cc', rfl, hB8, hI8, hA8⟩))
      exact ⟨rfl, _, results_tmp3 rfl _ _ _, A, cc', rfl, ((hTw2.trans (hT7.mono fun b _ hb => by omega)).trans (Turn.of_below' hB8 _)).below (fun b hb h => by omega) (Nat.le_refl _), hI8⟩
  · go_simp
    have hab := heap_alloc_new w0 (.cells #[.int .i64 0, .int .i64 0, .int .i64 0, .int .i64 0, .int .i64 0, .int .i64 0, .int .i64 0, .int .i64 0] 65)
    obtain ⟨w3, hw3⟩ : ∃ w3, w0.alloc (.cells #[.int .i64 0, .int .i64 0, .int .i64 0, .int .i64 0, .int .i64 0, .int .i64 0, .int .i64 0, .int .i64 0] 65) = w3 := ⟨_, rfl⟩
    have hTw3 : ∀ T, Turn T w2 w3 := fun T => hw3 ▸ (hTw0 T).alloc _
    have HSw3 : (fun W : World => W.heap[w1.heap.size]? = some (.cells (tVal P N sA L.length sc cA m cc L tA m tc kb) 61 (0, 0))) w3 := (hTw3 (fun _ => False)).heap hx2 (fun h => h)
    rw [hw3] at hab ⊢
    have hzw3 : w2.heap.size ≤ w0.heap.size := (hTw0 (fun _ => False)).size
    clear hw3
    refine hKK _ _ HSw3 ?_
    clear hKK KK
    refine wpAnyI_one (i := 4) (by kernel_rfl) rfl (fun KK hKK => ?_)
    go_simp
    refine ⟨trivial, (callsIn_wide.2 (vporter_low _)).mono ?_⟩
    rintro e w4 ⟨rfl, hBp⟩
    have hTw4 : ∀ T, Turn T w2 w4 := fun T => (hTw3 T).trans (Turn.of_below' hBp T)
    have HSw4 : (fun W : World => W.heap[w1.heap.size]? = some (.cells (tVal P N sA L.length sc cA m cc L tA m tc kb) 61 (0, 0))) w4 := (hTw4 (fun _ => False)).heap hx2 (fun h => h)
    have hab1 := (Turn.of_below' hBp (fun _ => False)).heap hab (fun h => h)
    refine hKK _ _ HSw4 ?_
    clear hKK KK
    refine wpAnyI_one (i := 5) (by kernel_rfl) rfl (fun KK hKK => ?_)
    go_simp
    refine ⟨trivial, (callsIn_wide.2 (vrun_low P N sA L.length sc cA m cc L t tA m tc B _ hP hP4 HL.out ht6 htm hm8 hmc (by have := (hTw4 (fun _ => False)).size; omega) (hI2.keep fun b hb => (hTw4 (fun _ => False)).block b (by omega) (fun h => h)))).mono ?_⟩
    rintro e w5 ⟨rfl, hBr⟩
    have hTw5 : ∀ T, Turn T w2 w5 := fun T => (hTw4 T).trans (Turn.of_below' hBr T)
    have HSw5 : (fun W : World => W.heap[w1.heap.size]? = some (.cells (tVal P N sA L.length sc cA m cc L tA m tc kb) 61 (0, 0))) w5 := (hTw5 (fun _ => False)).heap hx2 (fun h => h)
    have hab' := (Turn.of_below' hBr (fun _ => False)).heap hab1 (fun h => h)
    refine hKK _ _ HSw5 ?_
    clear hKK KK
    refine wpAnyI_take (i := 6) (v := ?_) wide_fn (by kernel_rfl) rfl (by kernel_rfl) (by kernel_rfl) (by kernel_rfl) (fun _ _ _ h => h) HSw5 (.inl ⟨by rfl, ?hy⟩) ?_
    case hy => intro w _; first | (go_simp; done) | (go_simp; rfl)
    refine wpAnyI_take (i := 7) (v := ?_) wide_fn (by kernel_rfl) rfl (by kernel_rfl) (by kernel_rfl) (by kernel_rfl) (fun _ _ _ h => h) HSw5 (.inl ⟨by rfl, ?hy⟩) ?_
    case hy => intro w _; first | (go_simp; done) | (go_simp; rfl)
    refine wpAnyI_take (i := 8) (v := ?_) wide_fn (by kernel_rfl) rfl (by kernel_rfl) (by kernel_rfl) (by kernel_rfl) (fun _ _ _ h => h) HSw5 (.inl ⟨by rfl, ?hy⟩) ?_
    case hy => intro w _; first | (go_simp; done) | (go_simp; rfl)
    refine wpAnyI_one (i := 10) (by kernel_rfl) rfl (fun KK hKK => ?_)
    rw [if_pos (by rfl)]
    refine opIn_store_whole 65 (.tmp 11) (.tmp 36) rfl w0.heap.size (chV (sim P lowS false t L).1) rfl rfl hab' (by kernel_rfl) rfl (chV_one _) (fun W7 g1 g2 => ?_)
    have hT7 : Turn (fun b => w2.heap.size ≤ b) w2 W7 := (hTw5 _).trans ((Turn.of_but g2).mono fun b _ hb => by omega)
    have HSW7 : (fun W : World => W.heap[w1.heap.size]? = some (.cells (tVal P N sA L.length sc cA m cc L tA m tc kb) 61 (0, 0))) W7 := hT7.heap hx2 (by omega)
    refine hKK _ _ HSW7 ?_
    clear hKK KK
    refine wpAnyI_take (i := 11) (v := ?_) wide_fn (by kernel_rfl) rfl (by kernel_rfl) (by kernel_rfl) (by kernel_rfl) (fun _ _ _ h => h) HSW7 (.inl ⟨by rfl, ?hy⟩) ?_
    case hy => intro w _; first | (go_simp; done) | (go_simp; rfl)
    refine wpAnyI_done (by kernel_rfl) (NoPanic.normal ?_) _
    have hz7 := hT7.size
    gi_wp2_with (first
      | (with_reducible refine wpListIn_load_whole rfl 65 (.tmp 11) rfl w0.heap.size rfl g1 Tryz.underlying65 rfl (by kernel_rfl) ?_)
      | (refine ⟨trivial, (callsIn_wide.2 (vlist_any _ m _ hm8)).mono ?_⟩; rintro e w8 ⟨A, cc', rfl, hB8, hI8, hA8⟩))
    exact ⟨rfl, _, results_tmp3 rfl _ _ _, A, cc', rfl, ((hTw2.trans (hT7.mono fun b _ hb => by omega)).trans (Turn.of_below' hB8 _)).below (fun b hb h => by omega) (Nat.le_refl _), hI8⟩

end Go.Proofs.YtoobopohohoidaaGreatDoor
