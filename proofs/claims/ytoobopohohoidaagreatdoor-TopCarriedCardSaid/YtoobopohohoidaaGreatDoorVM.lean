/- VAULT: the iterator over the steps from a place where the office is full. -/
/- VAULT: the least of all steps. -/
import Derived.Test.YtoobopohohoidaaGreatDoorVK
set_option linter.unusedSimpArgs false
set_option linter.unusedVariables false
namespace Go.Proofs.YtoobopohohoidaaGreatDoor
open Go.RowKit Go.Maps Go.Shelf

attribute [local go_sem] Oper.semAt_some

/-- What the iterator's own blocks hold. -/
structure OwnS (W0 : World) (pb k s p l : Nat) (w : World) : Prop where
  y : w.cell? ⟨W0.heap.size, 0, none⟩ = some (.func (.yield l) #[] #[])
  p : w.cell? ⟨W0.heap.size + 1, 0, none⟩ = some (.int .i64 p)
  k : w.cell? ⟨pb, 0, none⟩ = some (.int .i64 k)
  s : w.cell? ⟨pb, 1, none⟩ = some (.int .u8 s)
theorem lt_of_cell {w : World} {b o : Nat} {v : Value} (h : w.cell? ⟨b, o, none⟩ = some v) : b < w.heap.size := by
  unfold World.cell? at h
  rcases Nat.lt_or_ge b w.heap.size with h1 | h1
  · exact h1
  · simp [Array.getElem?_eq_none h1] at h
theorem OwnS.keep {W0 : World} {pb k s p l : Nat} {w w' : World} {T : Nat → Prop} (h : OwnS W0 pb k s p l w) (hT : Turn T w w') (h1 : ¬ T W0.heap.size) (h2 : ¬ T (W0.heap.size + 1)) (h3 : ¬ T pb) : OwnS W0 pb k s p l w' :=
  ⟨(hT.cell (p := ⟨W0.heap.size, 0, none⟩) (lt_of_cell h.y) h1).trans h.y, (hT.cell (p := ⟨W0.heap.size + 1, 0, none⟩) (lt_of_cell h.p) h2).trans h.p,
   (hT.cell (p := ⟨pb, 0, none⟩) (lt_of_cell h.k) h3).trans h.k, (hT.cell (p := ⟨pb, 1, none⟩) (lt_of_cell h.s) h3).trans h.s⟩

set_option maxRecDepth 100000 in
set_option maxHeartbeats 4000000 in
theorem vsteps_full (tb pb B k s p P tn tc : Nat) (tad : Addr) (W0 : World) (l : Nat) (J : Nat → World → Prop) (Jx : World → Prop) (hs : s < 64) (hp : p < 6) (hk : k < 8) (hkn : k < tn) (hv : s.testBit p = false) (hP : ¬ cnt s < P)
    (htB : B ≤ W0.heap.size) (htb : tb < W0.heap.size) (hpb : pb < W0.heap.size)
    (hT0 : W0.cell? ⟨tb, 0, none⟩ = some (.int .i64 P)) (hT11 : W0.cell? ⟨tb, 11, none⟩ = some (.slice (some tad) tn tc))
    (hpl : W0.heap[pb]? = some (.cells (plV k s) 70 (0, 0))) (htk : W0.cell? (tad.add k) = some (.int .i64 p)) (htad : tad.block < B)
    (hJ : ∀ i W W', J i W → Turn (ItT W0 (fun _ => False)) W W' → J i W') (hJx : ∀ W W', Jx W → Turn (ItT W0 (fun _ => False)) W W' → Jx W')
    (hY : ∀ i W mm, i < (els s).length → J i W → YieldAt .wide mm Tryz.prog l #[.int .i64 (((els s).getD i 0 : Nat) : Int), .agg (plV (k + 1) (withP (lessP s ((els s).getD i 0)) p))] W fun e W' => (e = .returned (.bool true) ∧ J (i + 1) W' ∧ Turn (ItU W0 (fun b => b < B ∨ b = tb ∨ b = pb)) W W') ∨ (e = .returned (.bool false) ∧ Jx W' ∧ Turn (ItU W0 (fun b => b < B ∨ b = tb ∨ b = pb)) W W'))
    (h0 : J 0 W0) :
    Calls Tryz.prog 54 #[.func (.yield l) #[] #[], .pointer (some ⟨tb, 0, none⟩), .pointer (some ⟨pb, 0, none⟩)] W0 fun e W' => (∃ v, e = .returned v) ∧ (J (els s).length W' ∨ Jx W') := by
  refine (callsIn_wide (n := 12)).1 ?_
  refine callsIn_of_wp_marks Tryz.func54 rfl trivial ?_ rfl
  simp only [Tryz.ntmps54, List.size_toArray, List.length_cons, List.length_nil, Nat.reduceAdd, Nat.reduceSub, Array.replicate_succ, Array.replicate_zero, List.push_toArray, List.append_toArray, List.nil_append, List.cons_append]
  have hmo : Tryz.prog.follows .mixedOrders = true := by kernel_rfl
  have hP0 : W0.cell? ⟨pb, 0, none⟩ = some (.int .i64 k) := cellH hpl 0
  have hP1 : W0.cell? ⟨pb, 1, none⟩ = some (.int .u8 s) := cellH hpl 1
  have g0 : ∀ o, (W0.alloc o).cell? ⟨tb, 0, none⟩ = some (.int .i64 P) := fun o => cell_alloc_l _ hT0
  have g11 : ∀ o, (W0.alloc o).cell? ⟨tb, 11, none⟩ = some (.slice (some tad) tn tc) := fun o => cell_alloc_l _ hT11
  have gp0 : ∀ o, (W0.alloc o).cell? ⟨pb, 0, none⟩ = some (.int .i64 k) := fun o => cell_alloc_l _ hP0
  have gp1 : ∀ o, (W0.alloc o).cell? ⟨pb, 1, none⟩ = some (.int .u8 s) := fun o => cell_alloc_l _ hP1
  have gt : ∀ o, (W0.alloc o).cell? (tad.add k) = some (.int .i64 p) := fun o => cell_alloc_l _ htk
  have gg0 : ∀ o o', ((W0.alloc o).alloc o').cell? ⟨tb, 0, none⟩ = some (.int .i64 P) := fun o o' => cell_alloc_l _ (g0 o)
  have ggp0 : ∀ o o', ((W0.alloc o).alloc o').cell? ⟨pb, 0, none⟩ = some (.int .i64 k) := fun o o' => cell_alloc_l _ (gp0 o)
  have ggp1 : ∀ o o', ((W0.alloc o).alloc o').cell? ⟨pb, 1, none⟩ = some (.int .u8 s) := fun o o' => cell_alloc_l _ (gp1 o)
  have cY : ((W0.alloc (.cells #[.func (.yield l) #[] #[]] 134)).alloc (.cells #[.int .i64 p] 3)).cell? ⟨W0.heap.size, 0, none⟩ = some (.func (.yield l) #[] #[]) := by simp
  have cP : ((W0.alloc (.cells #[.func (.yield l) #[] #[]] 134)).alloc (.cells #[.int .i64 p] 3)).cell? ⟨W0.heap.size + 1, 0, none⟩ = some (.int .i64 p) := by
    have := cell_new (W0.alloc (.cells #[.func (.yield l) #[] #[]] 134)) #[.int .i64 p] 3 0
    rwa [World.size_alloc] at this
  have hz : ((W0.alloc (.cells #[.func (.yield l) #[] #[]] 134)).alloc (.cells #[.int .i64 p] 3)).heap.size = W0.heap.size + 2 := by simp
  have hJ1 := hJ 0 _ _ h0 (((Turn.refl (ItT W0 (fun _ => False)) W0).alloc (.cells #[.func (.yield l) #[] #[]] 134)).alloc (.cells #[.int .i64 p] 3))
  have HJ := Go.Lib.hid hJ; clear hJ
  have HY := Go.Lib.hid hY; clear hY
  have HJX := Go.Lib.hid hJx; clear hJx
  have HJ1 := Go.Lib.hid hJ1; clear hJ1
  gi_wp2
  clear gp0 gp1 gt g0 g11
  have q0 := gg0 (.cells #[.func (.yield l) #[] #[]] 134) (.cells #[.int .i64 p] 3)
  have q1 := ggp0 (.cells #[.func (.yield l) #[] #[]] 134) (.cells #[.int .i64 p] 3)
  have q2 := ggp1 (.cells #[.func (.yield l) #[] #[]] 134) (.cells #[.int .i64 p] 3)
  clear gg0 ggp0 ggp1
  obtain ⟨W1, hW1⟩ : ∃ W1, (W0.alloc (.cells #[.func (.yield l) #[] #[]] 134)).alloc (.cells #[.int .i64 p] 3) = W1 := ⟨_, rfl⟩
  rw [hW1] at cY cP HJ1 q0 q1 q2 hz ⊢
  clear hW1
  have hl1 : decide ((cnt s : Int) < (P : Int)) = false := by simp; omega
  have hwr : IntKind.i64.wrap ((k : Int) + 1) = (k : Int) + 1 := IntWalk.i64_in _ (by omega)
  have ek : ((k + 1 : Nat) : Int) = (k : Int) + 1 := by omega
  refine (wpIn_wide (n := 12)).2 ?_
  go_quiet (first | (go_at_call 55; exact quietly (vhas_lit s p false hv _ hs hp)) | (go_at_call 56; exact quietly (vsize_any s _ hs)))
  gi_wp2_with (refine ⟨trivial, ?_⟩; gi_at_call 58; refine (callsIn_wide.2 (vall_any s _)).mono ?_; rintro e w' ⟨rfl, rfl⟩)
  have hbox := cell_new (W1.drewN nq) #[.int .u8 s] 51 0
  have r1 : ((W1.drewN nq).alloc (.cells #[.int .u8 s] 51)).cell? ⟨W0.heap.size, 0, none⟩ = some (.func (.yield l) #[] #[]) := cell_alloc_l _ cY
  have r2 : ((W1.drewN nq).alloc (.cells #[.int .u8 s] 51)).cell? ⟨W0.heap.size + 1, 0, none⟩ = some (.int .i64 p) := cell_alloc_l _ cP
  have r3 : ((W1.drewN nq).alloc (.cells #[.int .u8 s] 51)).cell? ⟨pb, 0, none⟩ = some (.int .i64 k) := cell_alloc_l _ q1
  have r4 : ((W1.drewN nq).alloc (.cells #[.int .u8 s] 51)).cell? ⟨pb, 1, none⟩ = some (.int .u8 s) := cell_alloc_l _ q2
  have hz2 : ((W1.drewN nq).alloc (.cells #[.int .u8 s] 51)).heap.size = W0.heap.size + 3 := by simp; omega
  have hzN : (W1.drewN nq).heap.size = W0.heap.size + 2 := hz
  have hzW1 : W1.heap.size = W0.heap.size + 2 := hz
  have hJ2 : J 0 ((W1.drewN nq).alloc (.cells #[.int .u8 s] 51)) := HJ.out _ _ _ HJ1.out (((Turn.refl _ _).drewN nq).alloc _)
  rw [hzN] at hbox
  clear cY cP q0 q1 q2 HJ1 hl1
  have HJ2 := Go.Lib.hid hJ2; clear hJ2
  obtain ⟨W2, hW2⟩ : ∃ W2, (W1.drewN nq).alloc (.cells #[.int .u8 s] 51) = W2 := ⟨_, rfl⟩
  rw [hW2] at hbox r1 r2 r3 r4 hz2 HJ2 ⊢
  clear hW2
  have hit : ∀ W, Turn (fun _ => False) W2 W → W.heap.size = W2.heap.size + 2 → Iter Tryz.prog 84 #[.pointer (some ⟨W0.heap.size + 2, 0, none⟩)] (els s).length (elV s) (fun _ => False) (fun b => b = W0.heap.size + 2) W := fun W hT hzW =>
    vall_iter (W0.heap.size + 2) s hs W (by omega) ((hT.cell (p := ⟨W0.heap.size + 2, 0, none⟩) (by show W0.heap.size + 2 < W2.heap.size; omega) (fun h => h)).trans hbox)
  refine range_iter (P := Tryz.prog) (f := 84) (lb := #[.pointer (some ⟨W0.heap.size + 2, 0, none⟩)]) (m := (els s).length) (val := elV s) (T := fun _ => False) (K := fun b => b = W0.heap.size + 2)
    (fun l W => by simp only [resolve]; simp [go_sem, hzW1]) (fun l W => by simp [invoke, go_sem, enters_of Tryz.func84 (by kernel_rfl) rfl])
    (fun _ _ => rfl) (fun _ h => h.elim) (fun b h => by subst h; omega) hit
    (fun i W => J i W ∧ OwnS W0 pb k s p l W) (fun c W => c = .ret ∧ Jx W)
    (fun l1 i a1 W => (J i W ∧ OwnS W0 pb k s p l W) ∧ l1 > W0.heap.size + 2 ∧ l1 ≠ pb ∧ a1 = { tmps := #[.func (.yield l) #[] #[], .pointer (some ⟨tb, 0, none⟩), .pointer (some ⟨pb, 0, none⟩), .pointer (some ⟨W0.heap.size, 0, none⟩), .pointer (some ⟨W0.heap.size + 1, 0, none⟩), .int .i64 (((els s).getD i 0 : Nat) : Int), .pointer (some ⟨tb, 11, none⟩), .slice (some tad) tn tc, .pointer (some ⟨pb, 0, none⟩), .int .i64 k, .pointer (some (tad.add k)), .int .i64 p, .pointer (some ⟨pb, 1, none⟩), .int .u8 s, .int .i64 p, .bool false, .bool false, .pointer (some ⟨pb, 1, none⟩), .int .u8 s, .int .i64 (cnt s), .pointer (some ⟨tb, 0, none⟩), .pointer (some ⟨tb, 0, none⟩), .pointer (some ⟨tb, 0, none⟩), .int .i64 P, .bool false, .bool false, undef, undef, undef, undef, undef, undef, undef, undef, undef, undef, .pointer (some ⟨pb, 1, none⟩), .int .u8 s, .func (.func 84) #[] #[.pointer (some ⟨W0.heap.size + 2, 0, none⟩)], .int .i64 (((els s).getD i 0 : Nat) : Int), undef, undef, undef, undef, undef, undef, undef, undef, undef, undef, undef, undef, undef, undef], defers := [] })
    (fun i W W' h ht => ⟨HJ.out _ _ _ h.1 (ht.mono fun b _ hb => .inl (by rcases hb with hb | hb <;> first | omega | exact hb.elim)), h.2.keep ht (fun hb => by rcases hb with hb | hb <;> first | omega | exact hb.elim) (fun hb => by rcases hb with hb | hb <;> first | omega | exact hb.elim) (fun hb => by rcases hb with hb | hb <;> first | omega | exact hb.elim)⟩)
    (fun c W W' h ht => ⟨h.1, HJX.out _ _ h.2 (ht.mono fun b _ hb => .inl (by rcases hb with hb | hb <;> first | omega | exact hb.elim))⟩)
    (fun l1 i a1 W W' h ht => ⟨⟨HJ.out _ _ _ h.1.1 (ht.mono fun b _ hb => .inl (by have := h.2.1; omega)), h.1.2.keep ht (by have := h.2.1; omega) (by have := h.2.1; omega) (fun e => h.2.2.1 e.symm)⟩, h.2⟩)
    ⟨HJ2.out, r1, r2, r3, r4⟩ ?assign ?body ?done ?stop
  case assign =>
    intro l1 i W C hi hJW hl1 hlW hC
    obtain ⟨q, hq⟩ : ∃ q, (els s).getD i 0 = q := ⟨_, rfl⟩
    simp only [elV, hq]
    gi_wp2
    exact hC _ _ ⟨hJW, by omega, by omega, by rw [hq]⟩ (Turn.refl _ _)
  case body =>
    rintro l1 i a1 W hi hl1 hlW ⟨⟨hJW, hO⟩, hl2, hl3, rfl⟩
    have hYi := fun W mm h => HY.out i W mm hi h
    have hqm : (els s).getD i 0 ∈ els s := getD_mem hi
    obtain ⟨q, hq⟩ : ∃ q, (els s).getD i 0 = q := ⟨_, rfl⟩
    rw [hq] at hYi hqm ⊢
    have hq6 : q < 6 := (els_mem.1 hqm).1
    have hl64 : lessP s q < 64 := less_lt' hs hq6
    have HYI := Go.Lib.hid hYi
    have HO := Go.Lib.hid hO
    have HJW := Go.Lib.hid hJW
    clear hYi hqm hq hO hJW hit
    gi_wp2
    refine wpIn_region_heldN (S := OwnS W0 pb k s p l) hmo ?_
    have hS : ∀ d, OwnS W0 pb k s p l (W.drewN d) := fun d => HO.out.keep ((Turn.refl (fun _ => False) W).drewN d) (fun h => h) (fun h => h) (fun h => h)
    have hS3 : ∀ W3, Turn (ItU W0 (fun b => b < B ∨ b = tb ∨ b = pb)) (W.drewN 1) W3 → OwnS W0 pb k s p l W3 := fun W3 h3 => (hS 1).keep h3 (fun h => by have := h.1; omega) (fun h => by have := h.1; omega) (fun h => h.2 (.inr (.inr rfl)))
    refine wpAnyI_take (i := 0) (v := ?_) (wideR_fn l1) (by kernel_rfl) rfl (by kernel_rfl) (by kernel_rfl) (by kernel_rfl) (fun _ _ _ h => h) (hS 1) (.inl ⟨by rfl, ?hy⟩) ?_
    case hy => rintro w ⟨e1, e2, e3, e4⟩; first | (go_simp; done) | (go_simp; rfl)
    refine wpAnyI_take (i := 1) (v := ?_) (wideR_fn l1) (by kernel_rfl) rfl (by kernel_rfl) (by kernel_rfl) (by kernel_rfl) (fun _ _ _ h => h) (hS 1) (.inl ⟨by rfl, ?hy⟩) ?_
    case hy => rintro w ⟨e1, e2, e3, e4⟩; first | (go_simp; done) | (go_simp; rfl)
    refine wpAnyI_take (i := 2) (v := ?_) (wideR_fn l1) (by kernel_rfl) rfl (by kernel_rfl) (by kernel_rfl) (by kernel_rfl) (fun _ _ _ h => h) (hS 1) (.inl ⟨by rfl, ?hy⟩) ?_
    case hy => rintro w ⟨e1, e2, e3, e4⟩; first | (go_simp; done) | (go_simp; rfl)
    refine wpAnyI_take (i := 3) (v := ?_) (wideR_fn l1) (by kernel_rfl) rfl (by kernel_rfl) (by kernel_rfl) (by kernel_rfl) (fun _ _ _ h => h) (hS 1) (.inl ⟨by rfl, ?hy⟩) ?_
    case hy => rintro w ⟨e1, e2, e3, e4⟩; first | (go_simp; done) | (go_simp; rfl)
    refine wpAnyI_take (i := 4) (v := ?_) (wideR_fn l1) (by kernel_rfl) rfl (by kernel_rfl) (by kernel_rfl) (by kernel_rfl) (fun _ _ _ h => h) (hS 1) (.inl ⟨by rfl, ?hy⟩) ?_
    case hy => rintro w ⟨e1, e2, e3, e4⟩; first | (go_simp; done) | (go_simp; rfl)
    refine wpAnyI_take (i := 5) (v := ?_) (wideR_fn l1) (by kernel_rfl) rfl (by kernel_rfl) (by kernel_rfl) (by kernel_rfl) (fun _ _ _ h => h) (hS 1) (.inl ⟨by rfl, ?hy⟩) ?_
    case hy => rintro w ⟨e1, e2, e3, e4⟩; first | (go_simp; done) | (go_simp; rfl)
    refine wpAnyI_take (i := 6) (v := ?_) (wideR_fn l1) (by kernel_rfl) rfl (by kernel_rfl) (by kernel_rfl) (by kernel_rfl) (fun _ _ _ h => h) (hS 1) (.inl ⟨by rfl, ?hy⟩) ?_
    case hy => rintro w ⟨e1, e2, e3, e4⟩; first | (go_simp; done) | (go_simp; rfl)
    refine wpAnyI_take (i := 7) (v := ?_) (wideR_fn l1) (by kernel_rfl) rfl (by kernel_rfl) (by kernel_rfl) (by kernel_rfl) (fun _ _ _ h => h) (hS 1) (.inl ⟨by rfl, ?hy⟩) ?_
    case hy => rintro w ⟨e1, e2, e3, e4⟩; first | (go_simp; done) | (go_simp; rfl)
    refine wpAnyI_take (i := 9) (v := ?_) (wideR_fn l1) (by kernel_rfl) rfl (by kernel_rfl) (by kernel_rfl) (by kernel_rfl) (fun _ _ _ h => h) (hS 1) (.inl ⟨by rfl, ?hy⟩) ?_
    case hy => rintro w ⟨e1, e2, e3, e4⟩; first | (go_simp; done) | (go_simp; rfl)
    refine wpAnyI_one (i := 8) (by kernel_rfl) rfl (fun K hK => ?_)
    go_simp
    refine ⟨trivial, (CallsIn.inRound l1 (callsIn_wide.2 (vwithout_any s q _ hs hq6))).mono ?_⟩
    rintro e w' ⟨rfl, rfl⟩
    refine hK _ _ (hS 1) ?_
    clear hK K
    refine wpAnyI_one (i := 10) (by kernel_rfl) rfl (fun K hK => ?_)
    go_simp
    refine ⟨trivial, (CallsIn.inRound l1 (callsIn_wide.2 (vwith_any (lessP s q) p _ hl64 hp))).mono ?_⟩
    rintro e w' ⟨rfl, rfl⟩
    refine hK _ _ (hS 1) ?_
    clear hK K
    refine wpAnyI_take (i := 11) (v := ?_) (wideR_fn l1) (by kernel_rfl) rfl (by kernel_rfl) (by kernel_rfl) (by kernel_rfl) (fun _ _ _ h => h) (hS 1) (.inl ⟨by rfl, ?hy⟩) ?_
    case hy => rintro w ⟨e1, e2, e3, e4⟩; first | (go_simp; done) | (go_simp; rfl)
    obtain ⟨fn, tmps, assign, body, hy, hR⟩ := HYI.out W.drew 19 (HJ.out _ _ _ HJW.out ((Turn.refl _ _).drew))
    simp only [plV, ek] at hy
    refine wpAnyI_one (i := 12) (by kernel_rfl) rfl (fun K hK => ?_)
    go_simp
    refine RoundIn.mono hR ?_
    rintro e W3 (⟨rfl, hJ3, hk3⟩ | ⟨rfl, hJx3, hk3⟩)
    · refine hK _ _ (hS3 _ hk3) ?_
      clear hK K
      refine wpAnyI_take (i := 13) (v := ?_) (wideR_fn l1) (by kernel_rfl) rfl (by kernel_rfl) (by kernel_rfl) (by kernel_rfl) (fun _ _ _ h => h) (hS3 _ hk3) (.inl ⟨by rfl, ?hy⟩) ?_
      case hy => rintro w ⟨e1, e2, e3, e4⟩; first | (go_simp; done) | (go_simp; rfl)
      refine wpAnyI_done (by kernel_rfl) (NoPanic.normal ?_) _
      gi_wp2
      exact ⟨⟨hJ3, hS3 _ hk3⟩, (Turn.refl (ItU W2 fun b => b = W0.heap.size + 2) W).drew.trans (hk3.mono fun b _ hb => ⟨by have := hb.1; omega, by have := hb.1; omega⟩)⟩
    · refine hK _ _ (hS3 _ hk3) ?_
      clear hK K
      refine wpAnyI_take (i := 13) (v := ?_) (wideR_fn l1) (by kernel_rfl) rfl (by kernel_rfl) (by kernel_rfl) (by kernel_rfl) (fun _ _ _ h => h) (hS3 _ hk3) (.inl ⟨by rfl, ?hy⟩) ?_
      case hy => rintro w ⟨e1, e2, e3, e4⟩; first | (go_simp; done) | (go_simp; rfl)
      refine wpAnyI_done (by kernel_rfl) (NoPanic.normal ?_) _
      gi_wp2
      exact ⟨⟨rfl, hJx3⟩, (Turn.refl (ItU W2 fun b => b = W0.heap.size + 2) W).drew.trans (hk3.mono fun b _ hb => ⟨by have := hb.1; omega, by have := hb.1; omega⟩)⟩
  case done =>
    rintro D W hD ⟨hJm, _⟩ hKD
    gi_wp2
    refine ⟨by simp, .inl ⟨_, _, rfl, run_takeDeferred hKD, ?_⟩⟩
    exact ⟨_, results_none rfl _ _ _, ⟨_, rfl⟩, .inl (HJ.out _ _ _ hJm ((Turn.refl _ _).putObj (.inl (by omega)) _))⟩
  case stop =>
    rintro c D W hD ⟨rfl, hx⟩ hKD
    gi_wp2
    refine ⟨by simp, .inl ⟨_, _, rfl, run_takeDeferred hKD, ?_⟩⟩
    exact ⟨_, results_none rfl _ _ _, ⟨_, rfl⟩, .inr (HJX.out _ _ hx ((Turn.refl _ _).putObj (.inl (by omega)) _))⟩

/-- THE STEPS FROM A PLACE. -/
theorem vsteps_iter (tb pb B k s p P tn tc : Nat) (tad : Addr) (W0 : World) (hs : s < 64) (hp : p < 6) (hk : k < 8) (hkn : k < tn)
    (htB : B ≤ W0.heap.size) (htb : tb < W0.heap.size) (hpb : pb < W0.heap.size)
    (hT0 : W0.cell? ⟨tb, 0, none⟩ = some (.int .i64 P)) (hT11 : W0.cell? ⟨tb, 11, none⟩ = some (.slice (some tad) tn tc))
    (hpl : W0.heap[pb]? = some (.cells (plV k s) 70 (0, 0))) (htk : W0.cell? (tad.add k) = some (.int .i64 p)) (htad : tad.block < B) :
    Iter Tryz.prog 54 #[.pointer (some ⟨tb, 0, none⟩), .pointer (some ⟨pb, 0, none⟩)] (stepL P p s).length (stV P p s k) (fun _ => False) (fun b => b < B ∨ b = tb ∨ b = pb) W0 := by
  intro l J Jx hJ hJx hl hKl _ hY h0
  cases hv : s.testBit p with
  | true =>
    have e : stepL P p s = [(-1, withP s p)] := by rw [stepL, if_pos (.inl hv)]
    simp only [stV, e] at hY ⊢
    exact vsteps_one tb pb B k s p P tn tc #[] none tad true W0 l J Jx hs hp hk hkn hv (fun h => by cases h) htB htb hpb hT0 hT11 hpl htk htad hJ (fun i W mm hi => by
      obtain rfl : i = 0 := by omega
      exact hY 0 W mm (by simp)) h0
  | false =>
    by_cases hP : cnt s < P
    · have e : stepL P p s = [(-1, withP s p)] := by rw [stepL, if_pos (.inr hP)]
      simp only [stV, e] at hY ⊢
      exact vsteps_one tb pb B k s p P tn tc #[] none tad false W0 l J Jx hs hp hk hkn hv (fun _ => hP) htB htb hpb hT0 hT11 hpl htk htad hJ (fun i W mm hi => by
        obtain rfl : i = 0 := by omega
        exact hY 0 W mm (by simp)) h0
    · have e : stepL P p s = (els s).map fun q : Nat => ((q : Int), withP (lessP s q) p) := by rw [stepL, if_neg (by rintro (h | h); rw [hv] at h; cases h; exact hP h)]
      have el : (stepL P p s).length = (els s).length := by rw [e, List.length_map]
      rw [el] at hY ⊢
      exact vsteps_full tb pb B k s p P tn tc tad W0 l J Jx hs hp hk hkn hv hP htB htb hpb hT0 hT11 hpl htk htad hJ hJx (fun i W mm hi h => by
        have h1 := hY i W mm hi h
        have eg : (stepL P p s).getD i (0, 0) = ((((els s).getD i 0 : Nat) : Int), withP (lessP s ((els s).getD i 0)) p) := by
          rw [e, List.getD_eq_getElem?_getD, List.getElem?_map, List.getElem?_eq_getElem hi, List.getD_eq_getElem?_getD, List.getElem?_eq_getElem hi]
          rfl
        simp only [stV, eg] at h1
        exact h1) h0

end Go.Proofs.YtoobopohohoidaaGreatDoor

namespace Go.Proofs.YtoobopohohoidaaGreatDoor
open Go.RowKit

def fetN (s s' : Nat) : Nat := if s' = s then 0 else 1
theorem vfetched_any (k s s' : Nat) (w : World) (hk : k ≤ 8) :
    Calls Tryz.prog 36 #[.agg (plV k s), .agg (plV (k + 1) s')] w fun e w' => e = .returned (.int .i64 (fetN s s')) ∧ Below w.heap.size w w' := by
  by_cases h : s' = s
  · subst h; rw [fetN, if_pos rfl]; exact vfetched_no k s' w hk
  · rw [fetN, if_neg h]; exact vfetched_yes k s s' w hk h

theorem few_len {P : Nat} (hP : 1 ≤ P) : ∀ (t : List Nat) (s : Nat), (∀ p ∈ t, p < 6) → s < 64 → fewN P t s ≤ t.length
  | [], _, _, _ => Nat.le_refl _
  | p :: t, s, ht, hs => by
    have ht' : ∀ x ∈ t, x < 6 := fun x hx => ht x (by simp [hx])
    have hp : p < 6 := ht p (by simp)
    rw [List.length_cons]
    cases h : s.testBit p with
    | true => rw [few_hit h]; have := few_len hP t s ht' hs; omega
    | false =>
      by_cases hc : cnt s < P
      · rw [few_room h hc]; have := few_len hP t (withP s p) ht' (with_lt' hs hp); omega
      · obtain ⟨q, hq, hq1, e⟩ := few_ex (P := P) (t := t) h hc (els_ne hs (by omega))
        rw [e]
        have := few_len hP t (withP (lessP s q) p) ht' (with_lt' (less_lt' hs hq) hp)
        omega

/-- What the steps from a place come to. -/
def valsL (P p : Nat) (t : List Nat) (s : Nat) : List Nat := (stepL P p s).map fun x => fetN s x.2 + fewN P t x.2
theorem with_same {s p : Nat} (hs : s < 64) (hp : p < 6) (h : s.testBit p = true) : withP s p = s := bit_ext (with_lt' hs hp) hs fun q _ => by
  rw [with_bit]
  by_cases e : p = q
  · subst e; rw [h]; rfl
  · simp [e]
theorem with_ne {s p : Nat} (h : s.testBit p = false) : withP s p ≠ s := fun e => by
  have : (withP s p).testBit p = true := by rw [with_bit]; simp
  rw [e, h] at this; cases this
theorem swap_ne {s p q : Nat} (h : s.testBit p = false) : withP (lessP s q) p ≠ s := fun e => by
  have : (withP (lessP s q) p).testBit p = true := by rw [with_bit]; simp
  rw [e, h] at this; cases this
theorem few_vals {P p : Nat} {t : List Nat} {s : Nat} (hs : s < 64) (hp : p < 6) : fewN P (p :: t) s = minL (valsL P p t s) := by
  cases h : s.testBit p with
  | true => rw [few_hit h, valsL, stepL, if_pos (.inl h)]; simp [minL, with_same hs hp h, fetN]
  | false =>
    by_cases hc : cnt s < P
    · rw [few_room h hc, valsL, stepL, if_pos (.inr hc)]; simp [minL, fetN, with_ne h]
    · rw [few_full h hc, valsL, stepL, if_neg (by rintro (h1 | h1); rw [h] at h1; cases h1; exact hc h1), List.map_map]
      congr 1
      apply List.map_congr_left
      intro q _
      simp [fetN, swap_ne h]
theorem step_ne {P p s : Nat} (hP : 1 ≤ P) (hs : s < 64) : stepL P p s ≠ [] := by
  unfold stepL
  split
  · simp
  · rename_i h
    simp only [not_or] at h
    simpa using els_ne hs (by omega)
theorem step_ok {P p s : Nat} (hs : s < 64) (hp : p < 6) (hc : cnt s ≤ P) : ∀ x ∈ stepL P p s, x.2 < 64 ∧ cnt x.2 ≤ P := by
  intro x hx
  unfold stepL at hx
  split at hx
  · rename_i h
    simp at hx
    subst hx
    refine ⟨with_lt' hs hp, ?_⟩
    cases hb : s.testBit p with
    | true => rw [with_same hs hp hb]; exact hc
    | false =>
      rcases h with h | h
      · rw [hb] at h; cases h
      · rw [cnt_with hs hp hb]; omega
  · rename_i h
    simp only [not_or] at h
    obtain ⟨q, hq, rfl⟩ := List.mem_map.1 hx
    obtain ⟨hq6, hq1⟩ := els_mem.1 hq
    refine ⟨with_lt' (less_lt' hs hq6) hp, ?_⟩
    have hb : s.testBit p = false := by simpa using h.1
    rw [cnt_with (less_lt' hs hq6) hp (by rw [less_bit, hb]; rfl)]
    have := cnt_less hs hq6 hq1
    omega
/-- The least of the first i. -/
def mnV (l : List Nat) (i : Nat) : Nat := if i = 0 then 0 else minL (l.take i)
theorem mnV_first {l : List Nat} {x : Nat} (h : l[0]? = some x) : mnV l 1 = x := by
  cases l with
  | nil => simp at h
  | cons a l => simp at h; subst h; simp [mnV, minL]
theorem mnV_next {l : List Nat} {i x : Nat} (h0 : 0 < i) (h : l[i]? = some x) : mnV l (i + 1) = min (mnV l i) x := by
  obtain ⟨hi, e⟩ := List.getElem?_eq_some_iff.1 h
  rw [mnV, if_neg (by omega), mnV, if_neg (by omega), List.take_succ_eq_append_getElem hi, e, minL_snoc]
  intro e
  have := congrArg List.length e
  simp at this
  rcases this with h | h
  · omega
  · rw [h] at hi; simp at hi
theorem mnV_all {l : List Nat} (h : l ≠ []) : mnV l l.length = minL l := by
  rw [mnV, if_neg (by simpa using h), List.take_length]

end Go.Proofs.YtoobopohohoidaaGreatDoor
