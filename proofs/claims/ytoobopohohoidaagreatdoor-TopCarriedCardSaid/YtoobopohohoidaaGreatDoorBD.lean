/- BARROW: the office as a map; jobsOf. -/
import Derived.Test.YtoobopohohoidaaGreatDoorBC
import Derived.Test.YtoobopohohoidaaGreatDoorKitC
set_option linter.unusedSimpArgs false
set_option linter.unusedVariables false
namespace Go.Proofs.YtoobopohohoidaaGreatDoor
open Go.RowKit Go.Maps Go.Shelf

theorem wpList_lookup_own_bool {H : Type} {P : Program} (w : World) {ops : Array Oper} {rest : List Oper} {o : Oper} {a : Act} {Q : Exit → Act → World → Prop}
    (hg : o.guard = none) (m x : Operand) (t : TypeId) (hop : o.op = Op.lookup t m x false)
    (k e : TypeId) (K : Keyed P k) (ht : P.underlying t = some (.map k e)) (he : P.underlying e = some .bool) (hz : (zeroValue e).run P w = .ok (.bool false) w) (b n : Nat) (D : DataW H)
    (hm : a.eval m = .map (some b)) (hown : w.ownsMap P k (plainElem P e) b n D) (key : Value) (kl : Lit) (hx : a.eval x = key) (hkey : keyOf P k key = some kl) (c : Bool) (hat : D.atKey kl (.lit (.bool false)) = .lit (.bool c))
    (hK : wpList P ops Q rest (a.put o.dst (.bool c)) w) :
    wpList P ops Q (o :: rest) a w := by
  refine wpList_plain hg fun K' hK' => ?_
  obtain ⟨v, ps, hrun, hv⟩ := hown.lookup K ht hz (plainElem_bool he false) hkey
  rw [hat] at hv
  have hvc : v = .bool c := by
    unfold plainElem at hv
    rw [he] at hv
    split at hv
    · simp only [Option.some.injEq, Prod.mk.injEq, DataW.lit.injEq, Lit.bool.injEq] at hv
      rw [hv.1]
    · simp_all
    · simp_all
    · cases hv
  subst hvc
  unfold Oper.wp
  simp [execOp, hop, hm, hx, hrun, Result.andThen]
  exact hK' _ _ hK

/-- The office: block mb holds a map that has the pieces of L alone. -/
def InAt (mb k : Nat) (L : List Nat) (W : World) : Prop :=
  ∃ D : DataW Unit, W.ownsMap Tryz.prog 3 (plainElem Tryz.prog 4) mb k D ∧ ∀ p : Nat, p < 6 → D.atKey (.int .i64 p) (.lit (.bool false)) = .lit (.bool (decide (p ∈ L)))
theorem InAt.keep {mb k : Nat} {L : List Nat} {W W' : World} {T : Nat → Prop} (h : InAt mb k L W) (hT : Turn T W W') (hn : ¬ T mb) : InAt mb k L W' := by
  obtain ⟨D, ⟨es, clock, hb, F, hs, hD⟩, h2⟩ := h
  exact ⟨D, ⟨es, clock, hT.heap hb hn, F, hs, hD⟩, h2⟩
theorem InAt.lt {mb k : Nat} {L : List Nat} {W : World} (h : InAt mb k L W) : mb < W.heap.size := let ⟨_, h, _⟩ := h; h.lt
theorem keyed_int : Keyed Tryz.prog 3 := int_keyed Tryz.underlying3
theorem key_int {z : Int} (h1 : -9223372036854775808 ≤ z) (h2 : z ≤ 9223372036854775807) : keyOf Tryz.prog 3 (.int .i64 z) = some (.int .i64 z) := keyOf_int_mk Tryz.underlying3 (WalkArith.wf_i64 (by omega))
theorem at_put {L : List Nat} {D : DataW Unit} {p : Nat} (hp : p < 6) (h0 : Maps.IsMap D) (h1 : ∀ p : Nat, p < 6 → D.atKey (.int .i64 p) (.lit (.bool false)) = .lit (.bool (decide (p ∈ L)))) {L' : List Nat} (hL : ∀ q, q ∈ L' ↔ q = p ∨ q ∈ L) :
    ∀ q : Nat, q < 6 → (D.put (.int .i64 p) (.lit (.bool true))).atKey (.int .i64 q) (.lit (.bool false)) = .lit (.bool (decide (q ∈ L'))) := fun q hq => by
  by_cases e : q = p
  · subst e
    rw [atKey_put_same h0 (keyed_int.key (key_int (by omega) (by omega)))]
    have : q ∈ L' := (hL q).2 (.inl rfl)
    simp [this]
  · rw [atKey_put_other (by simp; omega), h1 q hq]
    congr 2
    rw [Bool.eq_iff_iff]
    simp [hL, e]
theorem at_del {L : List Nat} {D : DataW Unit} {p : Int} (h1 : ∀ p : Nat, p < 6 → D.atKey (.int .i64 p) (.lit (.bool false)) = .lit (.bool (decide (p ∈ L)))) {L' : List Nat} (hL : ∀ q : Nat, q ∈ L' ↔ (q : Int) ≠ p ∧ q ∈ L) :
    ∀ q : Nat, q < 6 → (D.del (.int .i64 p)).atKey (.int .i64 q) (.lit (.bool false)) = .lit (.bool (decide (q ∈ L'))) := fun q hq => by
  by_cases e : (q : Int) = p
  · subst e
    rw [atKey_del_same]
    have : ¬ q ∈ L' := fun h => ((hL q).1 h).1 rfl
    simp [this]
  · rw [atKey_del_other (by simp; omega), h1 q hq]
    congr 2
    rw [Bool.eq_iff_iff]
    simp [hL, e]
theorem InAt.of {mb k : Nat} {L L' : List Nat} {W : World} (h : InAt mb k L W) (hL : ∀ q, q ∈ L' ↔ q ∈ L) {k' : Nat} (hk : k ≤ k') : InAt mb k' L' W := by
  obtain ⟨D, ⟨es, clock, hb, F, hs, hD⟩, h2⟩ := h
  refine ⟨D, ⟨es, clock, hb, F, by omega, hD⟩, fun p hp => ?_⟩
  rw [h2 p hp]
  congr 2
  rw [Bool.eq_iff_iff]
  simp [hL]
theorem mapTurned_turn {W W' : World} {mb : Nat} (h : W.mapTurned W' mb) : Turn (fun b => b = mb) W W' := by
  have hg := h.grown
  exact ⟨hg.size, hg.os, hg.tape, hg.output, fun b hb hn => hg.block b hb (by simp; exact hn)⟩
theorem grown_turn {W W' : World} {mb : Nat} (hg : W.grownBy W' (some mb)) : Turn (fun b => b = mb) W W' := ⟨hg.size, hg.os, hg.tape, hg.output, fun b hb hn => hg.block b hb (by simp; exact hn)⟩

/-- The cells of jobs. -/
def jobV (nt : Nat) (τ : List Nat) (c : Nat) : List Value := [.int .i64 c, .int .i64 ((τ.getD c 0 : Nat) : Int), .int .i64 (((τ.getD c 0 : Nat) : Int) - nt)]
def jobsV (nt : Nat) (τ : List Nat) (J : List Nat) : List Value := J.flatMap (jobV nt τ)
theorem jobsV_snoc (nt : Nat) (τ : List Nat) (J : List Nat) (c : Nat) : jobsV nt τ (J ++ [c]) = jobsV nt τ J ++ jobV nt τ c := by simp [jobsV]
theorem jobsV_len (nt : Nat) (τ : List Nat) : ∀ J : List Nat, (jobsV nt τ J).length = J.length * 3
  | [] => rfl
  | c :: J => by rw [jobsV, List.flatMap_cons, List.length_append, ← jobsV, jobsV_len, List.length_cons]; simp [jobV]; omega

/-- What jobsOf's loop knows. -/
structure JobI (P r : Nat) (t L : List Nat) (i : Nat) (L' acc : List Nat) : Prop where
  line : Line P L'
  total : jobsL P (ruleS r) (ruleN r) t L 0 = acc ++ jobsL P (ruleS r) (ruleN r) (t.drop i) L' i
  sent : (sim P (ruleS r) (ruleN r) t L).1.drop i = (sim P (ruleS r) (ruleN r) (t.drop i) L').1
theorem JobI.start {P r : Nat} {t L : List Nat} (h : Line P L) : JobI P r t L 0 L [] := ⟨h, by simp, by simp⟩
theorem drop_cons {α : Type} {t : List α} {i : Nat} {p : α} (h : t[i]? = some p) : t.drop i = p :: t.drop (i + 1) := by
  obtain ⟨h1, h2⟩ := List.getElem?_eq_some_iff.1 h
  rw [List.drop_eq_getElem_cons h1, h2]
theorem head_drop {S : List Int} {i : Nat} {x : Int} {T : List Int} (h : S.drop i = x :: T) : S.getD i 0 = x ∧ S.drop (i + 1) = T := by
  have hl : i < S.length := by
    apply Classical.byContradiction
    intro hn
    rw [List.drop_eq_nil_of_le (by omega)] at h
    cases h
  rw [List.drop_eq_getElem_cons hl] at h
  simp only [List.cons.injEq] at h
  exact ⟨by rw [List.getD_eq_getElem?_getD, List.getElem?_eq_getElem hl]; exact h.1, h.2⟩
theorem JobI.hit {P r : Nat} {t L : List Nat} {i : Nat} {L' acc : List Nat} {p : Nat} (h : JobI P r t L i L' acc) (ht : t[i]? = some p) (hp : p < 6) (hm : p ∈ L') : ∃ L'', JobI P r t L (i + 1) L'' acc ∧ ∀ q, q ∈ L'' ↔ q ∈ L' := by
  have hd := drop_cons ht
  have h2 := h.total
  have h3 := h.sent
  rw [hd, jobsL, if_pos hm] at h2
  rw [hd, sim, if_pos hm] at h3
  refine ⟨_, ⟨?_, h2, (head_drop h3).2⟩, fun q => ?_⟩
  · cases hr : ruleN r with
    | false => exact h.line
    | true => exact h.line.swap hm hp (fun h' => by rw [h.line.nodup.mem_erase_iff] at h'; exact h'.1 rfl)
  · cases hr : ruleN r with
    | false => simp
    | true =>
      simp only [if_true, List.mem_append, List.mem_singleton, h.line.nodup.mem_erase_iff]
      constructor
      · rintro (h1 | rfl)
        · exact h1.2
        · exact hm
      · intro h1
        by_cases e : q = p
        · exact .inr e
        · exact .inl ⟨e, h1⟩
theorem JobI.miss {P r : Nat} {t L : List Nat} {i : Nat} {L' acc : List Nat} {p : Nat} (hP : 1 ≤ P) (h : JobI P r t L i L' acc) (ht : t[i]? = some p) (hp : p < 6) (hm : p ∉ L') :
    ∃ (x : Int) (L1 : List Nat), (sim P (ruleS r) (ruleN r) t L).1.getD i 0 = x ∧ -1 ≤ x ∧ x ≤ 5 ∧ JobI P r t L (i + 1) (L1 ++ [p]) (acc ++ [i]) ∧ ∀ q : Nat, q ∈ L1 ↔ (q : Int) ≠ x ∧ q ∈ L' := by
  have hd := drop_cons ht
  have h2 := h.total
  have h3 := h.sent
  rw [hd, jobsL, if_neg hm] at h2
  rw [hd, sim, if_neg hm] at h3
  by_cases hl : L'.length = P
  · rw [if_pos hl] at h2 h3
    have hs := rule_mem r (t.drop (i + 1)) h.line (fun e => by rw [e] at hl; simp at hl; omega)
    have hs6 := h.line.lt _ hs
    obtain ⟨e1, e2⟩ := head_drop h3
    refine ⟨_, _, e1, by omega, by omega, ⟨h.line.swap hs hp (fun h' => hm (List.mem_of_mem_erase h')), by rw [h2]; simp, e2⟩, fun q => ?_⟩
    rw [h.line.nodup.mem_erase_iff]
    constructor
    · rintro ⟨a, b⟩; exact ⟨by omega, b⟩
    · rintro ⟨a, b⟩; exact ⟨by omega, b⟩
  · rw [if_neg hl] at h2 h3
    obtain ⟨e1, e2⟩ := head_drop h3
    refine ⟨-1, L', e1, by omega, by omega, ⟨h.line.snoc hp hm (by have := h.line.le; omega), by rw [h2]; simp, e2⟩, fun q => ?_⟩
    constructor
    · exact fun h => ⟨by omega, h⟩
    · exact fun h => h.2

theorem info_job : (Tryz.prog.info? 78).map (fun i => (i.zero, i.size, i.bytes)) = some (some (.agg #[.int .i64 0, .int .i64 0, .int .i64 0]), 3, 24) := by kernel_rfl
theorem zeroBool (w : World) : (zeroValue 4).run Tryz.prog w = .ok (.bool false) w := by kernel_rfl

/-- The jobs of a haul. -/
def jobsD (d : HaulD) : List Nat := jobsL d.P (ruleS d.r) (ruleN d.r) d.t d.L 0
/-- What jobsOf gives. -/
def JobsPost (d : HaulD) (w : World) (e : Ending) (w' : World) : Prop :=
  ∃ v, e = .returned v ∧ w'.ownsRow w.heap.size 78 3 v (jobsD d).length (jobsV d.nt d.τ (jobsD d)) ∧ Below w.heap.size w w'

/-- A haul's cells, one by one. -/
abbrev hE (P N n sc m cc tc r xc nt ld br t1 t2 : Nat) (sA cA tA xA : Option Addr) : Array Value := #[.int .i64 P, .int .i64 N, .slice sA n sc, .slice cA m cc, .slice tA m tc, .int .i64 r, .slice xA m xc, .int .i64 nt, .int .i64 ld, .int .i64 br, .int .i64 t1, .int .i64 t2]

set_option maxRecDepth 100000 in
set_option maxHeartbeats 8000000 in
theorem bjobsOf_x (P N n sc m cc tc r xc nt ld br t1 t2 : Nat) (sA cA tA xA : Option Addr) (L t τ : List Nat) (C : List (List Nat)) (B : Nat) (w : World)
    (hV : VaultOk P N L C) (hTr : TruthOk C t) (hTi : TimesOk τ) (hln : L.length = n) (hcm : C.length = m) (htm : τ.length = m) (hmc : m ≤ tc) (hr4 : r < 4) (hnt : nt ≤ 30) (hB : B ≤ w.heap.size)
    (hA1 : Ints w B sA n (ofL L)) (hA2 : Rows w B cA C) (hA3 : Ints w B tA m (ofL t)) (hA4 : Ints w B xA m (ofL τ)) :
    Calls Tryz.prog 64 #[.agg (hE P N n sc m cc tc r xc nt ld br t1 t2 sA cA tA xA)] w (JobsPost ⟨P, N, n, sc, m, cc, tc, r, xc, nt, ld, br, t1, t2, sA, cA, tA, xA, L, t, τ, C⟩ w) := by
  obtain ⟨i0, hi, hz0, hz1, hz2⟩ := info_parts info_job
  obtain ⟨jp, hjp⟩ : ∃ jp, JobsPost ⟨P, N, n, sc, m, cc, tc, r, xc, nt, ld, br, t1, t2, sA, cA, tA, xA, L, t, τ, C⟩ w = jp := ⟨_, rfl⟩
  rw [hjp]
  have HJP := Go.Lib.hid hjp
  clear hjp
  have hm8 : m ≤ 8 := by have := hV.calls; omega
  have hn4 : n ≤ 4 := by have := hV.line.le; have := hV.p4; omega
  have hP1 := hV.p1
  have hBa := (Below.refl B w).alloc hB (.cells (hE P N n sc m cc tc r xc nt ld br t1 t2 sA cA tA xA) 29)
  have HR := Go.Lib.hid (vRun_any r P N sc B L C t n m sA cA tA cc tc (w.alloc (.cells (hE P N n sc m cc tc r xc nt ld br t1 t2 sA cA tA xA) 29)) hr4 hV hTr hln hcm hmc (by simp; omega) (hA1.below hBa (Nat.le_refl _)) (hA2.below hBa (Nat.le_refl _)) (hA3.below hBa (Nat.le_refl _)))
  have H0 := Go.Lib.hid (heap_alloc_new w (.cells (hE P N n sc m cc tc r xc nt ld br t1 t2 sA cA tA xA) 29))
  have HA := Go.Lib.hid (And.intro (hA1.below hBa (Nat.le_refl _)) (And.intro (hA3.below hBa (Nat.le_refl _)) (hA4.below hBa (Nat.le_refl _))))
  have HV := Go.Lib.hid hV
  have HTR := Go.Lib.hid hTr
  have HTI := Go.Lib.hid hTi
  have HLN := Go.Lib.hid hln
  have HTM := Go.Lib.hid htm
  have HCM := Go.Lib.hid hcm
  have hmm := @run_makeMap Tryz.prog
  clear hV hTr hTi hln htm hcm hA1 hA2 hA3 hA4 hBa
  go_enter Tryz.func64, Tryz.ntmps64
  go_wp2_with (first
    | (go_at_call 60; refine HR.out.mono ?_; rintro e w1 ⟨A, c, rfl, hB1, hS1⟩
       have hx1 := (hB1.block w.heap.size (by simp)).trans H0.out
       have hzw : w.heap.size + 1 ≤ w1.heap.size := by have := hB1.size; simp at this; omega
       have c1 := cells_of ((Below.heap_alloc w1 (.map #[] 0) _ (by omega)).trans hx1)
       have HX1 := Go.Lib.hid hx1
       have HA1 := Go.Lib.hid (And.intro (HA.out.1.below hB1 (by simp; omega)) (And.intro (HA.out.2.1.below hB1 (by simp; omega)) (HA.out.2.2.below hB1 (by simp; omega))))
       have HBL := Go.Lib.hid (((Below.refl w.heap.size w).alloc (Nat.le_refl _) (.cells (hE P N n sc m cc tc r xc nt ld br t1 t2 sA cA tA xA) 29)).trans (hB1.mono (by simp)))
       have HS1 := Go.Lib.hid hS1
       have HOM := Go.Lib.hid (World.ownsMap_made (H := Unit) w1 Tryz.prog 3 (plainElem Tryz.prog 4))
       clear hB1 hx1 hS1))
  go_loopw [29] (fun iv wr => ∃ i : Nat, i ≤ n ∧ iv = .int .i64 i ∧ Hid (InAt w1.heap.size i (L.take i) wr) ∧ Hid (Turn (fun b => b = w1.heap.size) (w1.alloc (.map #[] 0)) wr)) (fun iv _ => n - (intOf iv).toNat)
  case atStart => exact ⟨0, Nat.zero_le _, rfl, Go.Lib.hid ⟨.map [], HOM.out, fun p _ => by simp [DataW.atKey]⟩, Go.Lib.hid (Turn.refl _ _)⟩
  case round =>
    obtain ⟨i, hi9, rfl, HIN, HTU⟩ := hrel
    have hTB : Turn (fun b => b = w1.heap.size) w1 wr := ((Turn.refl _ w1).alloc _).trans HTU.out
    have c3 := cells_of (hTB.heap' HX1.out (by omega))
    by_cases hlt : i < n
    · have hI : Ints wr B sA n (ofL L) := HA1.out.1.keep fun b hb => hTB.block b (by omega) (by omega)
      obtain ⟨ad, rfl, hab, hac⟩ := hI (by omega)
      obtain ⟨p, hp1, hp2, hp3⟩ := ofL_mem (l := L) (j := i) (by rw [HLN.out]; exact hlt)
      have hcell := hac i hlt
      rw [hp2] at hcell
      have hp6 := HV.out.line.lt p hp1
      obtain ⟨D, hown, hat⟩ := HIN.out
      have hroom : i < maxLen := by unfold maxLen; omega
      have HOWN := Go.Lib.hid hown
      have HAT := Go.Lib.hid (And.intro hat hp3)
      have HKEY := Go.Lib.hid (key_int (z := (p : Int)) (by omega) (by omega))
      clear hac hp1 hp2 hp3 hown hat
      go_wp2_with (first
        | (at_mapUpdate; refine wpList_mapUpdate_own _ rfl _ _ _ 178 rfl 3 4 keyed_int Tryz.underlying178 _ w1.heap.size i D rfl HOWN.out hroom _ _ _ rfl rfl HKEY.out (.lit (.bool true)) [] (plainElem_bool Tryz.underlying4 true) ?_
           intro w7 hown7 hgrow7
           have HO7 := Go.Lib.hid hown7
           have HG7 := Go.Lib.hid (grown_turn hgrow7)
           clear hown7 hgrow7))
      refine ⟨⟨i + 1, by omega, by go_num, Go.Lib.hid ⟨_, HO7.out, at_put hp6 HOWN.out.isMap HAT.out.1 fun q => ?_⟩, Go.Lib.hid (HTU.out.trans HG7.out)⟩, by simp [intOf]; omega⟩
      obtain ⟨h1, h2⟩ := List.getElem?_eq_some_iff.1 HAT.out.2
      rw [List.take_succ_eq_append_getElem h1, h2]
      simp [or_comm]
    · have e : n = i := by omega
      subst e
      obtain ⟨wq, hwq⟩ : ∃ wq, wq = wr := ⟨_, rfl⟩
      subst hwq
      have HIN0 := Go.Lib.hid (show InAt w1.heap.size n L wq by
        have h := HIN.out
        have e : L.take n = L := by rw [← HLN.out, List.take_length]
        rw [e] at h
        exact h)
      have HT0 := Go.Lib.hid hTB
      have HA2 := Go.Lib.hid (show Ints wq B tA m (ofL t) ∧ Ints wq B xA m (ofL τ) ∧ Ints wq w1.heap.size A m (fun j => (sim P (ruleS r) (ruleN r) t L).1.getD j 0) from
        ⟨HA1.out.2.1.keep fun b hb => hTB.block b (by omega) (by omega), HA1.out.2.2.keep fun b hb => hTB.block b (by omega) (by omega), HS1.out.keep fun b hb => hTB.block b (by omega) (by omega)⟩)
      clear hTB HIN HTU
      have hzr : w1.heap.size + 1 ≤ wq.heap.size := HIN0.out.lt
      go_wp2_with fail
      go_loopw [9, 39] (fun ov iv wr => ∃ (i : Nat) (L' acc : List Nat), i ≤ m ∧ iv = .int .i64 i ∧ Hid (JobI P r t L i L' acc) ∧ Hid (InAt w1.heap.size (n + i) L' wr) ∧ Hid (wr.ownsRow (w1.heap.size + 1) 78 3 ov acc.length (jobsV nt τ acc)) ∧ Hid (Turn (fun b => w1.heap.size ≤ b) wq wr)) (fun ov iv _ => m - (intOf iv).toNat)
      case atStart => exact ⟨0, L, [], Nat.zero_le _, rfl, Go.Lib.hid (JobI.start HV.out.line), HIN0, Go.Lib.hid (World.ownsRow_nil _ _ _ _), Go.Lib.hid (Turn.refl _ _)⟩
      case round =>
        obtain ⟨i, L', acc, hi9, rfl, HJ, HIN, HROW, HTU⟩ := hrel
        have hzv : wq.heap.size ≤ wr.heap.size := HTU.out.size
        have hbx : wr.heap[w.heap.size]? = _ := HTU.out.heap' (HT0.out.heap' HX1.out (by omega)) (by omega)
        have HBX := Go.Lib.hid hbx
        have c4 := cells_of hbx
        clear hbx
        by_cases hlt : i < m
        · have hK : ∀ b, b < w1.heap.size → wr.heap[b]? = wq.heap[b]? := fun b hb => HTU.out.block b (by omega) (by omega)
          obtain ⟨ta, rfl, tb, tcl⟩ := (HA2.out.1.keep fun b hb => hK b (by omega)) (by omega)
          obtain ⟨xa, rfl, xb, xcl⟩ := (HA2.out.2.1.keep fun b hb => hK b (by omega)) (by omega)
          obtain ⟨aa, rfl, ab, acl⟩ := (HA2.out.2.2.keep hK) (by omega)
          clear hK
          obtain ⟨p, hp1, hp2, hp3⟩ := ofL_mem (l := t) (j := i) (by rw [HTR.out.len, HCM.out]; exact hlt)
          obtain ⟨q, hq1, hq2, hq3⟩ := ofL_mem (l := τ) (j := i) (by rw [HTM.out]; exact hlt)
          have hp6 := HTR.out.lt HV.out p hp1
          have hq9 := HTI.out.le q hq1
          have tcell := tcl i hlt
          rw [hp2] at tcell
          have xcell := xcl i hlt
          rw [hq2] at xcell
          have acell := acl i hlt
          dsimp only at acell
          obtain ⟨D, hown, hat⟩ := HIN.out
          have HKEY := Go.Lib.hid (key_int (z := (p : Int)) (by omega) (by omega))
          have HOWN := Go.Lib.hid hown
          have HAT := Go.Lib.hid hat
          have HP := Go.Lib.hid hp3
          have HQ := Go.Lib.hid hq3
          have hatp := hat p hp6
          clear tcl xcl acl hp1 hp2 hp3 hq1 hq2 hq3 hown hat
          by_cases hm : p ∈ L'
          · rw [decide_eq_true hm] at hatp
            have HATP := Go.Lib.hid hatp
            clear hatp acell xcell
            go_wp2_with (first
              | (at_lookup; refine wpList_lookup_own_bool _ rfl _ _ 178 rfl 3 4 keyed_int Tryz.underlying178 Tryz.underlying4 (zeroBool _) w1.heap.size (n + i) D rfl HOWN.out _ _ rfl HKEY.out true HATP.out ?_))
            obtain ⟨L'', hJ2, hL2⟩ := HJ.out.hit HP.out hp6 hm
            exact ⟨⟨i + 1, L'', acc, by omega, by go_num, Go.Lib.hid hJ2, Go.Lib.hid (HIN.out.of hL2 (by omega)), HROW, HTU⟩, by simp [intOf]; omega⟩
          · rw [decide_eq_false hm] at hatp
            have HATP := Go.Lib.hid hatp
            clear hatp
            obtain ⟨x, L1, hx, hx1, hx2, hJ2, hL1⟩ := HJ.out.miss hP1 HP.out hp6 hm
            rw [hx] at acell
            have HKX := Go.Lib.hid (key_int (z := x) (by omega) (by omega))
            have HJ2 := Go.Lib.hid hJ2
            have HL1 := Go.Lib.hid hL1
            have haccl : acc.length ≤ 8 := by
              have h1 := congrArg List.length HJ.out.total
              have h2 := jobs_le P (ruleS r) (ruleN r) t L 0
              have h3 : t.length = m := HTR.out.len.trans HCM.out
              rw [h1, List.length_append] at h2
              omega
            have hroom : n + i < maxLen := by unfold maxLen; omega
            clear hJ2 hL1 hx
            go_wp2_with (first
              | (at_lookup; refine wpList_lookup_own_bool _ rfl _ _ 178 rfl 3 4 keyed_int Tryz.underlying178 Tryz.underlying4 (zeroBool _) w1.heap.size (n + i) D rfl HOWN.out _ _ rfl HKEY.out false HATP.out ?_)
              | (at_delete; refine wpList_delete_own _ rfl _ _ 178 3 rfl 4 keyed_int Tryz.underlying178 _ w1.heap.size (n + i) D rfl HOWN.out _ _ rfl HKX.out ?_
                 intro w5 hown5 hturn5
                 have HO5 := Go.Lib.hid hown5
                 have HG5 := Go.Lib.hid (mapTurned_turn hturn5)
                 clear hown5 hturn5)
              | (at_mapUpdate; refine wpList_mapUpdate_own _ rfl _ _ _ 178 rfl 3 4 keyed_int Tryz.underlying178 _ w1.heap.size (n + i) _ rfl HO5.out hroom _ _ _ rfl rfl HKEY.out (.lit (.bool true)) [] (plainElem_bool Tryz.underlying4 true) ?_
                 intro w6 hown6 hgrow6
                 have HO6 := Go.Lib.hid hown6
                 have hT6 := HG5.out.trans (grown_turn hgrow6)
                 have HG6 := Go.Lib.hid hT6
                 have c6 := cells_of (hT6.heap' HBX.out (by omega))
                 have x6 : w6.cell? (xa.add i) = some (.int .i64 (q : Int)) := (hT6.cell (by rw [block_add]; omega) (by rw [block_add]; omega)).trans xcell
                 have HR6 := Go.Lib.hid (own_turn HROW.out hT6 (fun b hb h => by omega))
                 have hz6 : wr.heap.size ≤ w6.heap.size := hT6.size
                 clear hown6 hgrow6 hT6)
              | (at_builtin; go_must (refine wpList_append_own _ rfl _ _ 72 rfl (w1.heap.size + 1) 78 i0 (.agg #[.int .i64 0, .int .i64 0, .int .i64 0]) 3 24 Tryz.underlying72 hi hz0 hz1 hz2 (by decide) (by decide) _ _ _ rfl (HR6.out.alloc _) ⟨w6.heap.size, 0, none⟩ 1 1 [.int .i64 i, .int .i64 q, .int .i64 (q - nt)] rfl rfl (cell_list_new _ _ _) (by simp [Value.oneCell']) (by have := haccl; unfold maxLen; omega) (by have := haccl; omega) (by simp; omega) ?_; intro v' w9 hown' hgrow _)))
            have hB9 : Below (w1.heap.size + 1) w6 w9 := ((Below.refl (w1.heap.size + 1) w6).alloc (by omega) _).trans (grown_below (HR6.out.alloc _) hgrow (Nat.le_refl _) (by simp; omega))
            have hT9 : Turn (fun b => w1.heap.size ≤ b) wr w9 := (HG6.out.mono fun b _ h => by omega).trans ((Turn.of_below hB9).mono fun b _ h => by omega)
            have hin6 : InAt w1.heap.size (n + (i + 1)) (L1 ++ [p]) w6 := ⟨_, HO6.out, at_put hp6 HO5.out.isMap (at_del HAT.out HL1.out) fun x => by simp [or_comm]⟩
            have hqv : jobV nt τ i = [.int .i64 i, .int .i64 q, .int .i64 (q - nt)] := by
              have : τ.getD i 0 = q := by rw [List.getD_eq_getElem?_getD, HQ.out]; rfl
              rw [jobV, this]
            refine ⟨⟨i + 1, L1 ++ [p], acc ++ [i], by omega, by go_num, HJ2, Go.Lib.hid (hin6.keep (Turn.of_below hB9) (by omega)), Go.Lib.hid ?_, Go.Lib.hid (HTU.out.trans hT9)⟩, by simp [intOf]; omega⟩
            rw [jobsV_snoc, hqv, List.length_append]
            exact hown'
        · have e : m = i := by omega
          subst e
          go_wp2_with fail
          rw [← HJP.out]
          have htl : t.length = m := HTR.out.len.trans HCM.out
          have hJa : jobsL P (ruleS r) (ruleN r) t L 0 = acc := by rw [HJ.out.total, List.drop_eq_nil_of_le (by omega)]; simp [jobsL]
          refine ⟨_, rfl, ?_, ?_⟩
          · show wr.ownsRow w.heap.size 78 3 _ (jobsL P (ruleS r) (ruleN r) t L 0).length (jobsV nt τ (jobsL P (ruleS r) (ruleN r) t L 0))
            rw [hJa]
            exact own_base HROW.out (by omega)
          · exact HBL.out.trans ((HT0.out.below (N := w.heap.size) (fun b hb => by omega) (by omega)).trans (HTU.out.below (fun b hb => by omega) (by omega)))

theorem bjobsOf_any (d : HaulD) (B : Nat) (w : World) (hd : HaulOk d) (hB : B ≤ w.heap.size) (h : HaulAt d B w) :
    Calls Tryz.prog 64 #[.agg (hC d)] w (JobsPost d w) :=
  bjobsOf_x d.P d.N d.n d.sc d.m d.cc d.tc d.r d.xc d.nt d.ld d.br d.t1 d.t2 d.sA d.cA d.tA d.xA d.L d.t d.τ d.C B w hd.vault hd.truth hd.times hd.ln hd.cm hd.tm hd.mc hd.r4 hd.nt hB h.start h.calls h.truth h.times

end Go.Proofs.YtoobopohohoidaaGreatDoor
