/- BARROW: inTime, an iterator. -/
import Derived.Test.YtoobopohohoidaaGreatDoorBM
import Derived.Test.YtoobopohohoidaaGreatDoorBI
import Derived.Test.YtoobopohohoidaaGreatDoorRngV
set_option linter.unusedSimpArgs false
set_option linter.unusedVariables false
namespace Go.Proofs.YtoobopohohoidaaGreatDoor
open Go.RowKit Go.Maps Go.Shelf

attribute [local go_sem] Oper.semAt_some

/-- How many of the first plans are in time. -/
def cntT (mn nt : Int) (D : List Int) (PL : List (List Nat)) (i : Nat) : Nat := ((PL.take i).filter (inTime mn nt D)).length
theorem cntT_zero (mn nt : Int) (D : List Int) (PL : List (List Nat)) : cntT mn nt D PL 0 = 0 := rfl
theorem cntT_succ (mn nt : Int) (D : List Int) {PL : List (List Nat)} {i : Nat} (h : i < PL.length) : cntT mn nt D PL (i + 1) = cntT mn nt D PL i + if inTime mn nt D (PL.getD i []) then 1 else 0 := by
  unfold cntT
  rw [take_filter_succ _ _ _ h, List.length_append, List.getD_eq_getElem?_getD, List.getElem?_eq_getElem h]
  congr 1
  simp only [Option.getD_some]
  split <;> rfl
theorem cntT_le (mn nt : Int) (D : List Int) {PL : List (List Nat)} {i : Nat} (h : i < PL.length) (h1 : inTime mn nt D (PL.getD i []) = true) : cntT mn nt D PL i < cntT mn nt D PL PL.length := by
  have mono : ∀ d k, k + d ≤ PL.length → cntT mn nt D PL k ≤ cntT mn nt D PL (k + d) := by
    intro d
    induction d with
    | zero => intro k _; exact Nat.le_refl _
    | succ d ih =>
      intro k hk
      have := ih k (by omega)
      rw [← Nat.add_assoc, cntT_succ mn nt D (by omega)]
      omega
  have h2 := cntT_succ mn nt D h
  rw [if_pos h1] at h2
  have h3 := mono (PL.length - (i + 1)) (i + 1) (by omega)
  rw [show i + 1 + (PL.length - (i + 1)) = PL.length by omega] at h3
  omega
theorem inTime_of {mn nt : Int} {D : List Int} {q : List Nat} (h : ∀ k, k < q.length → (tripsL mn nt D q 0 startB).getD k false = false) : inTime mn nt D q = true := by
  unfold inTime
  rw [List.all_eq_true]
  intro x hx
  obtain ⟨k, hk, rfl⟩ := List.getElem_of_mem hx
  have h1 := h k (by rw [trips_len] at hk; exact hk)
  rw [List.getD_eq_getElem?_getD, List.getElem?_eq_getElem hk] at h1
  simpa using h1
theorem not_inTime {mn nt : Int} {D : List Int} {q : List Nat} {k : Nat} (h : (tripsL mn nt D q 0 startB).getD k false = true) : inTime mn nt D q = false := by
  unfold inTime
  rw [← Bool.not_eq_true, List.all_eq_true]
  intro hall
  by_cases hk : k < (tripsL mn nt D q 0 startB).length
  · have h1 := hall _ (List.getElem_mem hk)
    rw [List.getD_eq_getElem?_getD, List.getElem?_eq_getElem hk] at h
    simp only [Option.getD_some] at h
    simp [h] at h1
  · rw [List.getD_eq_getElem?_getD, List.getElem?_eq_none (by omega)] at h
    simp at h

theorem RoundIn.inRound {F : Fence} {n l f : Nat} {P : Program} {tmps : Array Value} {assign body : Code} {w : World} {R : Ending → World → Prop} (l0 : Nat) (h : RoundIn F n P l f tmps assign body w R) : RoundIn (F.inRound l0) n P l f tmps assign body w R := h

/-- A slice that has cells does not lie where a loop's record lies. -/
theorem ints_ne {w : World} {B n b0 : Nat} {A : Option Addr} {f : Nat → Int} {rc : Loop} (h : Ints w B A n f) (hr : w.heap[b0]? = some (.loop rc)) : 0 < n → ∀ ad, A = some ad → ad.block ≠ b0 := fun h0 ad hA e => by
  obtain ⟨ad', h1, h2, h3⟩ := h h0
  have h4 := h3 0 h0
  rw [hA] at h1
  cases h1
  unfold World.cell? at h4
  rw [block_add, e, hr] at h4
  cases h4
theorem ints_up {w : World} {B B' n : Nat} {A : Option Addr} {f : Nat → Int} (h : Ints w B A n f) (hB : B ≤ B') : Ints w B' A n f := fun h0 => by
  obtain ⟨ad, h1, h2, h3⟩ := h h0
  exact ⟨ad, h1, by omega, h3⟩
theorem ints_turn {w w' : World} {B n b0 : Nat} {A : Option Addr} {f : Nat → Int} (h : Ints w B A n f) (hB : B ≤ w.heap.size) (hr : 0 < n → ∀ ad, A = some ad → ad.block ≠ b0) (hT : Turn (fun b => b = b0) w w') : Ints w' B A n f := fun h0 => by
  obtain ⟨ad, h1, h2, h3⟩ := h h0
  exact ⟨ad, h1, h2, fun j hj => by rw [cell_eq (hT.block _ (by omega) (hr h0 ad h1))]; exact h3 j hj⟩

set_option maxRecDepth 100000 in
set_option maxHeartbeats 16000000 in
theorem ta_late (x : Value) (w : World) : (Instr.typeAssert (.iface 118 x) 112 118 true).run Tryz.prog w = .ok (.tuple #[x, .bool true]) w := by kernel_rfl
theorem ta_punctual (x : Value) (w : World) : (Instr.typeAssert (.iface 181 x) 112 118 true).run Tryz.prog w = .ok (.tuple #[.agg #[.int .i64 0, .int .i64 0, .int .i64 0, .slice none 0 0, .int .i64 0], .bool false]) w := by kernel_rfl

set_option maxRecDepth 100000 in
set_option maxHeartbeats 16000000 in
theorem binTime_iter (hb g n jc mn nt ld : Nat) (D : List Int) (HV : Array Value) (K : Nat → Prop) (w : World) (hV : (Tryz.prog.info? 74).map (·.size) = some HV.size) (h8 : HV[8]? = some (.int .i64 ld)) (h9 : HV[9]? = some (.int .i64 4)) (h12 : HV[12]? = some (.int .i64 mn)) (jA : Option Addr) (h13 : HV[13]? = some (.slice jA n jc))
    (hld : 1 ≤ ld ∧ ld ≤ 3) (hmn : 1 ≤ mn ∧ mn ≤ 20) (hnt : nt ≤ 30) (hn8 : n ≤ 8) (hD : ∀ j, j < n → 0 ≤ D.getD j 0 ∧ D.getD j 0 ≤ 99)
    (hJ : 0 < n → jA = some ⟨g, 0, none⟩ ∧ n ≤ jc ∧ g < w.heap.size ∧ K g ∧ ∀ j, j < n → w.cell? ⟨g, j * 3 + 1, none⟩ = some (.int .i64 (D.getD j 0)) ∧ w.cell? ⟨g, j * 3 + 2, none⟩ = some (.int .i64 (D.getD j 0 - nt)))
    (hKh : K hb) (hH : w.heap[hb]? = some (.cells HV 74 (0, 0))) :
    IterA Tryz.prog 40 #[.pointer (some ⟨hb, 0, none⟩)] (cntT mn nt D (plansL ld n) (plansL ld n).length) (fun _ v _ => ∃ x, v = #[x]) (fun b => w.heap.size ≤ b) (fun b => b < w.heap.size ∧ ¬ K b) (fun _ => True) w := by
  intro l J Jx hJ1 hJx hl hY h0
  have hbw : hb < w.heap.size := (Array.getElem?_eq_some_iff.1 hH).1
  have HJ := Go.Lib.hid (And.intro hJ1 hJx)
  have HY := Go.Lib.hid hY
  have HV0 := Go.Lib.hid hV
  have HHV := Go.Lib.hid (And.intro h8 (And.intro h9 (And.intro h12 h13)))
  have HNB := Go.Lib.hid (And.intro hld (And.intro hmn (And.intro hnt hD)))
  have HJB := Go.Lib.hid hJ
  have HKH := Go.Lib.hid hKh
  have H0 := Go.Lib.hid h0
  have HH := Go.Lib.hid (heap_old (.cells #[.func (.yield l) #[] #[]] 41) hH)
  have HHW := Go.Lib.hid hH
  obtain ⟨qq, hqq⟩ : ∃ qq : Ending → World → Prop, (fun e W' => (∃ v, e = Ending.returned v) ∧ True ∧ (J (cntT mn nt D (plansL ld n) (plansL ld n).length) W' ∨ Jx W')) = qq := ⟨_, rfl⟩
  rw [hqq]
  have HQ := Go.Lib.hid hqq
  clear hJ1 hJx hY h8 h9 h12 h13 hld hmn hnt hD hJ hKh h0 hH hqq
  show Calls Tryz.prog 40 #[.func (.yield l) #[] #[], .pointer (some ⟨hb, 0, none⟩)] w _
  refine (callsIn_wide (n := 12)).1 ?_
  refine callsIn_of_wp_marks Tryz.func40 rfl trivial ?_ rfl
  simp only [Tryz.ntmps40, List.size_toArray, List.length_cons, List.length_nil, Nat.reduceAdd, Nat.reduceSub, Array.replicate_succ, Array.replicate_zero, List.push_toArray, List.append_toArray, List.nil_append, List.cons_append]
  gi_wp2
  refine (wpIn_wide (n := 12)).2 (wp_scope_straight ((wpIn_wide (n := 12)).1 ?_))
  gi_wp2
  refine wpIn_label ?_
  gi_wp2_with (first
    | (with_reducible refine wpListIn_load_whole rfl 74 (.tmp 1) rfl hb rfl HH.out Tryz.underlying74 rfl HV0.out ?_)
    | (refine ⟨trivial, (callsIn_wide.2 (bplans_any HV _ HV0.out)).mono ?_⟩; rintro e w1 ⟨rfl, rfl⟩))
  have x0 := heap_old (.cells HV 74) (heap_alloc_new w (.cells #[.func (.yield l) #[] #[]] 41))
  have x1 := heap_alloc_new (w.alloc (.cells #[.func (.yield l) #[] #[]] 41)) (.cells HV 74)
  rw [World.size_alloc] at x1
  have hT0 : ∀ T, Turn T w ((w.alloc (.cells #[.func (.yield l) #[] #[]] 41)).alloc (.cells HV 74)) := fun T => ((Turn.refl T w).alloc _).alloc _
  have hz0 : ((w.alloc (.cells #[.func (.yield l) #[] #[]] 41)).alloc (.cells HV 74)).heap.size = w.heap.size + 2 := by simp
  obtain ⟨W0, hW0⟩ : ∃ W0, (w.alloc (.cells #[.func (.yield l) #[] #[]] 41)).alloc (.cells HV 74) = W0 := ⟨_, rfl⟩
  rw [hW0] at x0 x1 hT0 hz0 ⊢
  clear hW0
  obtain ⟨N, hN⟩ : ∃ N, w.heap.size = N := ⟨_, rfl⟩
  rw [hN] at x0 x1 hz0 hl hbw HJ HY HJB ⊢
  obtain ⟨PL, hPL⟩ : ∃ PL, plansL ld n = PL := ⟨_, rfl⟩
  obtain ⟨qf, hqf⟩ : ∃ qf : Nat → List Nat, (fun i => PL.getD i []) = qf := ⟨_, rfl⟩
  have eqf : ∀ i, qf i = PL.getD i [] := fun i => by rw [← hqf]
  have hI0 := (show ∀ W, Turn (fun _ => False) W0 W → W.heap.size = W0.heap.size + 2 → IterA Tryz.prog 65 #[.pointer (some ⟨N + 1, 0, none⟩)] (plansL ld n).length (planOk ld n) (fun b => N + 4 ≤ b) (fun b => b < N + 4 ∧ ¬ b = N + 1) (fun _ => True) W from fun W hT hs => by
    have h := bplans_iter (N + 1) ld n jc jA HV (fun b => b = N + 1) W rfl HHV.out.1 HHV.out.2.2.2 HNB.out.1 hn8 (hT.heap x1 (fun h => h))
    rw [hs, hz0] at h
    exact h)
  have eok : planOk ld n = fun i v W => ∃ (A : Option Addr) (c : Nat), v = #[.slice A (qf i).length c] ∧ Ints W W.heap.size A (qf i).length (ofL (qf i)) := by
    unfold planOk; rw [hPL, ← hqf]
  rw [eok, hPL] at hI0
  have HIT := Go.Lib.hid hI0
  clear hI0
  have HEQ := Go.Lib.hid eqf
  have HCN := Go.Lib.hid (show ∀ i, i < PL.length → (inTime mn nt D (qf i) = true → cntT mn nt D PL i < cntT mn nt D PL PL.length) ∧ cntT mn nt D PL (i + 1) = cntT mn nt D PL i + if inTime mn nt D (qf i) then 1 else 0 from fun i hi => ⟨fun h => cntT_le _ _ _ hi (by rw [← eqf]; exact h), by rw [eqf]; exact cntT_succ _ _ _ hi⟩)
  have hplo : ∀ i, i < PL.length → (∀ x ∈ qf i, 1 ≤ x ∧ x ≤ 3) ∧ (qf i).sum = n := fun i hi => by
    have hm : qf i ∈ plansL ld n := by
      rw [eqf, hPL, List.getD_eq_getElem?_getD, List.getElem?_eq_getElem hi]
      exact List.getElem_mem hi
    have h := plans_ok ld n _ hm
    exact ⟨fun x hx => ⟨(h.1 x hx).1, Nat.le_trans (h.1 x hx).2 HNB.out.1.2⟩, h.2⟩
  have HPO := Go.Lib.hid hplo
  rw [hPL] at HY HQ
  have HTW := Go.Lib.hid hT0
  clear hplo hPL eqf hqf eok hT0
  obtain ⟨ct, hct⟩ : ∃ ct : Nat → Nat, cntT mn nt D PL = ct := ⟨_, rfl⟩
  have hc0 : ct 0 = 0 := by rw [← hct]; rfl
  rw [hct] at HCN HY HQ
  clear hct
  refine range_iterA (P := Tryz.prog) (f := 65) (lb := #[.pointer (some ⟨N + 1, 0, none⟩)]) (m := PL.length) (ok := fun i v W => ∃ (A : Option Addr) (c : Nat), v = #[.slice A (qf i).length c] ∧ Ints W W.heap.size A (qf i).length (ofL (qf i))) (A := fun b => N + 4 ≤ b) (U := fun b => b < N + 4 ∧ ¬ b = N + 1) (Z := fun _ => True)
    (fun l W => by simp only [resolve]; simp [go_sem]) (fun l W => by simp [invoke, go_sem, enters_of Tryz.func65 (by kernel_rfl) rfl])
    (fun i v W _ h => by obtain ⟨A, c, rfl, _⟩ := h; rfl) (by rw [hz0]; omega) (by rw [hz0]; omega) (by rw [hz0]; omega) HIT.out
    (fun i W => J (ct i) W ∧ W.heap[N]? = some (.cells #[.func (.yield l) #[] #[]] 41 (0, 0)) ∧ (∀ b, b < N → K b → W.heap[b]? = w.heap[b]?) ∧ N + 2 ≤ W.heap.size) (fun c W => c = .exit 0 ∧ Jx W)
    (fun i a1 W => (J (ct i) W ∧ W.heap[N]? = some (.cells #[.func (.yield l) #[] #[]] 41 (0, 0)) ∧ (∀ b, b < N → K b → W.heap[b]? = w.heap[b]?) ∧ N + 2 ≤ W.heap.size) ∧ ∃ (A : Option Addr) (c : Nat), Ints W W.heap.size A (qf i).length (ofL (qf i)) ∧ (0 < (qf i).length → ∀ ad, A = some ad → ad.block ≠ N + 3) ∧
      a1 = { tmps := #[.func (.yield l) #[] #[], .pointer (some ⟨hb, 0, none⟩), .pointer (some ⟨N, 0, none⟩), .slice A (qf i).length c, undef, .agg HV, .func (.func 65) #[] #[.pointer (some ⟨N + 1, 0, none⟩)], .slice A (qf i).length c, undef, undef, undef, undef, undef, undef, undef, undef, undef, undef, undef, undef], defers := [] })
    (fun i W W' h ht => ⟨HJ.out.1 _ _ _ h.1 (ht.mono fun b _ hb => by rcases hb with hb | hb | hb <;> omega), ht.heap h.2.1 (fun hb => by rcases hb with hb | hb | hb <;> omega), fun b hb hk => (ht.block b (by omega) (fun hb => by rcases hb with hb | hb | hb <;> omega)).trans (h.2.2.1 b hb hk), Nat.le_trans h.2.2.2 ht.size⟩)
    (fun c W W' h ht => ⟨h.1, HJ.out.2 _ _ h.2 (ht.mono fun b _ hb => by rcases hb with hb | hb | hb <;> omega)⟩)
    (fun i a1 W W' h ht => by
      obtain ⟨h, A, c, hI, hne, rfl⟩ := h
      rw [hz0] at ht
      exact ⟨⟨HJ.out.1 _ _ _ h.1 (ht.mono fun b _ hb => by omega), ht.heap h.2.1 (by omega), fun b hb hk => (ht.block b (by omega) (by omega)).trans (h.2.2.1 b hb hk), Nat.le_trans h.2.2.2 ht.size⟩, A, c, ints_up (ints_turn hI (Nat.le_refl _) hne ht) ht.size, hne, rfl⟩)
    (fun _ _ _ _ => trivial)
    ⟨by rw [hc0]; exact HJ.out.1 _ _ _ H0.out (HTW.out _), x0, fun b hb _ => (HTW.out (fun _ => False)).block b (by omega) (fun h => h), by omega⟩ ?asg ?bdy ?dne ?stp
  case asg =>
    rintro i v W C hi ⟨A, c, rfl, hI⟩ hJW ⟨hzW, rc, hrc⟩ hC
    rw [hz0] at hrc
    have hne := ints_ne hI hrc
    gi_wp2
    exact hC _ _ ⟨hJW, A, c, hI, hne, rfl⟩ (Turn.refl _ _)
  case bdy =>
    rintro i a1 W hi ⟨rc, hrl⟩ hrd ⟨⟨hJi, hYB, hKP, hzW0⟩, A, c, hI, hne, rfl⟩
    rw [hz0] at hrl
    have hzW : N + 4 ≤ W.heap.size := by have := (Array.getElem?_eq_some_iff.1 hrl).1; omega
    obtain ⟨hq1, hq2⟩ := HPO.out i hi
    have hcn := HCN.out i hi
    obtain ⟨q, hq⟩ : ∃ q, qf i = q := ⟨_, rfl⟩
    rw [hq] at hI hq1 hq2 hcn ⊢
    obtain ⟨m, hm⟩ : ∃ m, q.length = m := ⟨_, rfl⟩
    rw [hm] at hI ⊢
    have HHB := Go.Lib.hid ((hKP hb hbw HKH.out).trans HHW.out)
    have HB := Go.Lib.hid (And.intro hJi (And.intro hYB (And.intro hKP (And.intro hrl hI))))
    have HQQ := Go.Lib.hid (And.intro hq1 (And.intro hq2 (And.intro hcn hm)))
    clear hJi hYB hKP hrl hI hq1 hq2 hcn hm hne hrd hzW0 x0 x1 hq
    generalize hRP : rndPost _ _ _ _ = RP
    have HRP := Go.Lib.hid hRP
    clear hRP
    gi_wp2_with (first
      | (with_reducible refine wpListIn_load_whole rfl 74 (.tmp 1) rfl hb rfl HHB.out Tryz.underlying74 rfl HV0.out ?_)
      | (refine ⟨trivial, (callsIn_wide.2 (btrips_any HV A m c W HV0.out)).mono ?_⟩; rintro e w1 ⟨rfl, rfl⟩))
    rename_i KK hKK
    have y0 := heap_old (.cells #[.slice A m c] 22) (heap_alloc_new W (.cells HV 74))
    have y1 := heap_alloc_new (W.alloc (.cells HV 74)) (.cells #[.slice A m c] 22)
    rw [World.size_alloc] at y1
    have hT3 : ∀ T, Turn T W ((W.alloc (.cells HV 74)).alloc (.cells #[.slice A m c] 22)) := fun T => ((Turn.refl T W).alloc _).alloc _
    have hz3 : ((W.alloc (.cells HV 74)).alloc (.cells #[.slice A m c] 22)).heap.size = W.heap.size + 2 := by simp
    obtain ⟨W3, hW3⟩ : ∃ W3, (W.alloc (.cells HV 74)).alloc (.cells #[.slice A m c] 22) = W3 := ⟨_, rfl⟩
    rw [hW3] at y0 y1 hT3 hz3 ⊢
    clear hW3
    obtain ⟨z, hz⟩ : ∃ z, W.heap.size = z := ⟨_, rfl⟩
    rw [hz] at y0 y1 hz3 hzW HB ⊢
    obtain ⟨ok2, hok2⟩ : ∃ ok2, tripOk mn nt D q = ok2 := ⟨_, rfl⟩
    obtain ⟨tf, htf⟩ : ∃ tf : Nat → Bool, (fun k => (tripsL mn nt D q 0 startB).getD k false) = tf := ⟨_, rfl⟩
    have hok : ∀ k v W, ok2 k v W → ∃ x ty, v = #[.iface ty x] ∧ (tf k = true ∧ ty = 118 ∨ tf k = false ∧ ty = 181) := fun k v W h => by
      rw [← hok2] at h
      obtain ⟨x, rfl⟩ := h
      refine ⟨x, _, rfl, ?_⟩
      have e := congrFun htf k
      rw [e]
      cases h : tf k
      · exact .inr ⟨rfl, by simp⟩
      · exact .inl ⟨rfl, by simp⟩
    have hall : (∀ k, k < m → tf k = false) → inTime mn nt D q = true := fun h => inTime_of fun k hk => by
      have := h k (by rw [← HQQ.out.2.2.2]; exact hk)
      rw [← htf] at this
      exact this
    have hnot : ∀ k, tf k = true → inTime mn nt D q = false := fun k h => by
      rw [← htf] at h
      exact not_inTime h
    have HOK := Go.Lib.hid (And.intro hok (And.intro hall hnot))
    have hit : ∀ W', Turn (fun _ => False) W3 W' → W'.heap.size = W3.heap.size + 1 → IterA Tryz.prog 70 #[.pointer (some ⟨z, 0, none⟩), .pointer (some ⟨z + 1, 0, none⟩)] m ok2 (fun b => z + 3 ≤ b) (fun b => b < z + 3 ∧ ¬ b ≤ z) (fun _ => True) W' := fun W' hT hs => by
      have h := btrips_iter z (z + 1) g n jc mn nt c z m A D q HV (fun b => b ≤ z) W' HV0.out HHV.out.2.1 HHV.out.2.2.1 HNB.out.2.1 HNB.out.2.2.1 hn8 HQQ.out.2.2.2 HQQ.out.1 HQQ.out.2.1 HNB.out.2.2.2 (fun h0 => by
        obtain ⟨j1, j2, j3, j4, j5⟩ := HJB.out h0
        have e : ∀ o, W'.cell? ⟨g, o, none⟩ = w.cell? ⟨g, o, none⟩ := fun o => by
          unfold World.cell?
          rw [((hT3 (fun _ => False)).trans hT).block g (by omega) (fun h => h), HB.out.2.2.1 g j3 j4]
        refine ⟨by rw [HHV.out.2.2.2, j1], j2, by omega, by omega, fun j hj => ?_⟩
        rw [e, e]
        exact j5 j hj) (Nat.le_refl _) (fun hm0 ad hA => ?hka) (hT.heap y0 (fun h => h)) (hT.heap y1 (fun h => h)) (by omega) (HB.out.2.2.2.2.keep fun b hb => ((hT3 (fun _ => False)).trans hT).block b (by omega) (fun h => h))
      · rw [hok2, hs, hz3] at h
        exact h
      case hka =>
        obtain ⟨ad', e1, e2, _⟩ := HB.out.2.2.2.2 hm0
        rw [hA] at e1
        cases e1
        omega
    refine range_iterN (P := Tryz.prog) (f := 70) (lb := #[.pointer (some ⟨z, 0, none⟩), .pointer (some ⟨z + 1, 0, none⟩)]) (m := m) (ok := ok2) (A := fun b => z + 3 ≤ b) (U := fun b => b < z + 3 ∧ ¬ b ≤ z) (Z := fun _ => True)
      ⟨rc, by rw [hz0]; exact (hT3 (fun _ => False)).heap' HB.out.2.2.2.1 (fun h => h)⟩
      (fun l W => by simp only [resolve]; simp [go_sem]) (fun l W => by simp [invoke, go_sem, enters_of Tryz.func70 (by kernel_rfl) rfl])
      (fun i v W _ h => by obtain ⟨x, ty, rfl, _⟩ := HOK.out.1 _ _ _ h; rfl) (by rw [hz3]; omega) (by rw [hz3]; omega) hit
      (fun j W' => Turn (fun b => z + 2 ≤ b) W3 W' ∧ ∀ k, k < j → tf k = false) (fun c W' => c = .exit 1 ∧ Turn (fun b => z + 2 ≤ b) W3 W' ∧ ∃ k, tf k = true)
      (fun j a1 W' => (Turn (fun b => z + 2 ≤ b) W3 W' ∧ ∀ k, k < j → tf k = false) ∧ ∃ (x : Value) (ty : TypeId), (tf j = true ∧ ty = 118 ∨ tf j = false ∧ ty = 181) ∧
        a1 = { tmps := #[.func (.yield l) #[] #[], .pointer (some ⟨hb, 0, none⟩), .pointer (some ⟨N, 0, none⟩), .slice A m c, .iface ty x, .agg HV, .func (.func 65) #[] #[.pointer (some ⟨N + 1, 0, none⟩)], .slice A m c, .agg HV, .slice A m c, .func (.func 70) #[] #[.pointer (some ⟨z, 0, none⟩), .pointer (some ⟨z + 1, 0, none⟩)], .iface ty x, undef, undef, undef, undef, undef, undef, undef, undef], defers := [] })
      (fun i W W' h ht => ⟨h.1.trans (ht.mono fun b _ hb => by rcases hb with hb | hb <;> omega), h.2⟩)
      (fun c W W' h ht => ⟨h.1, h.2.1.trans (ht.mono fun b _ hb => by rcases hb with hb | hb <;> omega), h.2.2⟩)
      (fun i a1 W W' h ht => ⟨⟨h.1.1.trans (ht.mono fun b _ hb => by omega), h.1.2⟩, h.2⟩)
      (fun _ _ _ _ => trivial) ⟨Turn.refl _ _, fun k hk => by omega⟩ ?asg2 ?bdy2 ?dne2 ?stp2
    case asg2 =>
      rintro j v W' C hj hv hJW _ hC
      obtain ⟨x, ty, rfl, hty⟩ := HOK.out.1 _ _ _ hv
      gi_wp2
      exact hC _ _ ⟨hJW, x, ty, hty, rfl⟩ (Turn.refl _ _)
    case bdy2 =>
      rintro j a1 W' hj hrl2 ⟨⟨hT, hall'⟩, x, ty, ⟨ht, rfl⟩ | ⟨ht, rfl⟩, rfl⟩
      · have ta : ∀ w, (Instr.typeAssert (.iface 118 x) 112 118 true).run Tryz.prog w = .ok (.tuple #[x, .bool true]) w := ta_late x
        have HX := Go.Lib.hid (And.intro hT ht)
        clear hT ht hall' hit hrl2 hKK
        gi_wp2
        exact ⟨⟨rfl, HX.out.1, j, HX.out.2⟩, Turn.refl _ _⟩
      · have ta : ∀ w, (Instr.typeAssert (.iface 181 x) 112 118 true).run Tryz.prog w = .ok (.tuple #[.agg #[.int .i64 0, .int .i64 0, .int .i64 0, .slice none 0 0, .int .i64 0], .bool false]) w := ta_punctual x
        have HX := Go.Lib.hid (And.intro hT (And.intro ht hall'))
        clear hT ht hall' hit hrl2 hKK
        gi_wp2
        refine ⟨⟨HX.out.1, fun k hk => ?_⟩, Turn.refl _ _⟩
        by_cases e : k = j
        · rw [e]; exact HX.out.2.1
        · exact HX.out.2.2 k (by omega)
    case dne2 =>
      rintro W' ⟨hT, hal⟩ _
      refine hKK _ _ ?_
      obtain ⟨hJi, hYB, hKP, _, _⟩ := HB.out
      have hTW : ∀ T, Turn T W W' := fun T => (hT3 T).then_new (hT.mono fun b _ h => by omega)
      have hin := HOK.out.2.1 hal
      have hcl := HQQ.out.2.2.1.1 hin
      have hcs := HQQ.out.2.2.1.2
      rw [hin, if_pos rfl] at hcs
      have cyb : W'.cell? ⟨N, 0, none⟩ = some (.func (.yield l) #[] #[]) := cellH ((hTW (fun _ => False)).heap hYB (fun h => h)) 0
      obtain ⟨fn, tmps, assign, body, hy, hR⟩ := HY.out (ct i) #[.slice A m c] W' 19 hcl ⟨_, rfl⟩ (HJ.out.1 _ _ _ hJi (hTW _))
      have HTT := Go.Lib.hid hTW
      have HBB := Go.Lib.hid (And.intro hYB (And.intro hKP hcs))
      clear hit hTW hYB hKP hcs hJi hin hal hT hKK
      gi_wp2
      refine (RoundIn.inRound _ hR).mono ?_
      rintro e W4 (⟨rfl, hJ4, hk4⟩ | ⟨rfl, hx4, hk4⟩)
      · have HG := Go.Lib.hid (And.intro hJ4 ((HTT.out (fun b => b < N ∧ ¬ K b)).trans hk4))
        clear hJ4 hk4 hR hy
        gi_wp2
        rw [← HRP.out]
        have hT4 := HG.out.2
        exact ⟨⟨by rw [HBB.out.2.2]; exact HG.out.1, hT4.heap HBB.out.1 (by omega), fun b hb hk => (hT4.block b (by omega) (fun h => h.2 hk)).trans (HBB.out.2.1 b hb hk), by have := hT4.size; omega⟩, hT4.mono fun b _ h => ⟨by omega, by omega, by omega⟩⟩
      · have HG := Go.Lib.hid (And.intro hx4 ((HTT.out (fun b => b < N ∧ ¬ K b)).trans hk4))
        clear hx4 hk4 hR hy
        gi_wp2
        rw [← HRP.out]
        have hT4 := HG.out.2
        exact ⟨⟨rfl, HG.out.1⟩, hT4.mono fun b _ h => ⟨by omega, by omega, by omega⟩⟩
    case stp2 =>
      rintro c2 W' ⟨rfl, hT, k, hk⟩ _
      obtain ⟨hJi, hYB, hKP, _, _⟩ := HB.out
      have hTW : ∀ T, Turn T W W' := fun T => (hT3 T).then_new (hT.mono fun b _ h => by omega)
      have hcs := HQQ.out.2.2.1.2
      rw [HOK.out.2.2 k hk, if_neg (by simp)] at hcs
      clear hit hKK
      gi_wp2
      rw [← HRP.out]
      exact ⟨⟨by rw [hcs]; exact HJ.out.1 _ _ _ hJi (hTW _), (hTW (fun _ => False)).heap hYB (fun h => h), fun b hb hk => ((hTW (fun _ => False)).block b (by omega) (fun h => h)).trans (hKP b hb hk), by have := (hTW (fun _ => False)).size; omega⟩, hTW _⟩
  case dne =>
    rintro W ⟨hJm, _, _, _⟩ _ hdd
    gi_wp2
    simp only [Exit.noGoto, bodyPostM]
    refine ⟨by simp, .inl ⟨_, _, rfl, run_takeDeferred hdd, ?_⟩⟩
    rw [← HQ.out]
    exact ⟨_, results_none rfl _ _ _, ⟨_, rfl⟩, trivial, .inl (HJ.out.1 _ _ _ hJm ((Turn.refl (fun b => N ≤ b) _).putObj (show N ≤ W0.heap.size by omega) _))⟩
  case stp =>
    rintro c W ⟨rfl, hJx⟩ _ hdd
    gi_wp2
    simp only [Exit.noGoto, bodyPostM]
    refine ⟨by simp, .inl ⟨_, _, rfl, run_takeDeferred hdd, ?_⟩⟩
    rw [← HQ.out]
    exact ⟨_, results_none rfl _ _ _, ⟨_, rfl⟩, trivial, .inr (HJ.out.2 _ _ hJx ((Turn.refl (fun b => N ≤ b) _).putObj (show N ≤ W0.heap.size by omega) _))⟩

end Go.Proofs.YtoobopohohoidaaGreatDoor
