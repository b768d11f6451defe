/- BARROW: trips, an iterator. -/
import Derived.Test.YtoobopohohoidaaGreatDoorBL
import Derived.Test.YtoobopohohoidaaGreatDoorRng
set_option linter.unusedSimpArgs false
set_option linter.unusedVariables false
namespace Go.Proofs.YtoobopohohoidaaGreatDoor
open Go.RowKit Go.Maps Go.Shelf

attribute [local go_sem] Oper.semAt_some

/-- What trips yields. -/
abbrev tripOk (mn nt : Nat) (D : List Int) (q : List Nat) (i : Nat) (v : Array Value) (_W : World) : Prop :=
  ∃ x, v = #[.iface (if (tripsL mn nt D q 0 startB).getD i false = true then 118 else 181) x]
theorem trips_step (mn nt : Int) (D : List Int) {q : List Nat} {i done x : Nat} {b : List Int} {T : List Bool} (h : T.drop i = tripsL mn nt D (q.drop i) done b) (hx : q[i]? = some x) :
    T.getD i false = decide (D.getD done 0 < backAt mn b (D.getD (done + x - 1) 0 - nt)) ∧ T.drop (i + 1) = tripsL mn nt D (q.drop (i + 1)) (done + x) (sendB mn b (D.getD (done + x - 1) 0 - nt)) := by
  obtain ⟨h1, h2⟩ := List.getElem?_eq_some_iff.1 hx
  rw [List.drop_eq_getElem_cons h1, h2, tripsL] at h
  have hl : i < T.length := by
    apply Classical.byContradiction
    intro hn
    rw [List.drop_eq_nil_of_le (by omega)] at h
    cases h
  rw [List.drop_eq_getElem_cons hl] at h
  simp only [List.cons.injEq] at h
  exact ⟨by rw [List.getD_eq_getElem?_getD, List.getElem?_eq_getElem hl]; exact h.1, h.2⟩
theorem take_sum {q : List Nat} {i x : Nat} (hx : q[i]? = some x) : (q.take (i + 1)).sum = (q.take i).sum + x := by
  obtain ⟨h1, h2⟩ := List.getElem?_eq_some_iff.1 hx
  rw [List.take_succ_eq_append_getElem h1, List.sum_append, h2]; simp
theorem take_sum_le (q : List Nat) (i : Nat) : (q.take i).sum ≤ q.sum := by
  have h := congrArg List.sum (List.take_append_drop i q)
  rw [List.sum_append] at h
  omega

set_option maxRecDepth 100000 in
set_option maxHeartbeats 16000000 in
theorem btrips_iter (hb qb g n jc mn nt pc B m : Nat) (A : Option Addr) (D : List Int) (q : List Nat) (HV : Array Value) (K : Nat → Prop) (w : World) (hV : (Tryz.prog.info? 74).map (·.size) = some HV.size) (h9 : HV[9]? = some (.int .i64 4)) (h12 : HV[12]? = some (.int .i64 mn))
    (hmn : 1 ≤ mn ∧ mn ≤ 20) (hnt : nt ≤ 30) (hn8 : n ≤ 8) (hm : q.length = m) (hq : ∀ x ∈ q, 1 ≤ x ∧ x ≤ 3) (hsum : q.sum = n) (hD : ∀ j, j < n → 0 ≤ D.getD j 0 ∧ D.getD j 0 ≤ 99)
    (hJ : 0 < n → HV[13]? = some (.slice (some ⟨g, 0, none⟩) n jc) ∧ n ≤ jc ∧ g < w.heap.size ∧ K g ∧ ∀ j, j < n → w.cell? ⟨g, j * 3 + 1, none⟩ = some (.int .i64 (D.getD j 0)) ∧ w.cell? ⟨g, j * 3 + 2, none⟩ = some (.int .i64 (D.getD j 0 - nt)))
    (hKh : K hb) (hKA : 0 < m → ∀ ad, A = some ad → K ad.block) (hH : w.heap[hb]? = some (.cells HV 74 (0, 0))) (hQ : w.heap[qb]? = some (.cells #[.slice A m pc] 22 (0, 0))) (hB : B ≤ w.heap.size) (hP : Ints w B A m (ofL q)) :
    IterA Tryz.prog 70 #[.pointer (some ⟨hb, 0, none⟩), .pointer (some ⟨qb, 0, none⟩)] m (tripOk mn nt D q) (fun b => w.heap.size ≤ b) (fun b => b < w.heap.size ∧ ¬ K b) (fun _ => True) w := by
  intro l J Jx hJ1 hJx hl hY h0
  have hbw : hb < w.heap.size := (Array.getElem?_eq_some_iff.1 hH).1
  have hqw : qb < w.heap.size := (Array.getElem?_eq_some_iff.1 hQ).1
  have hm8 : m ≤ 8 := by have := len_le_sum q (fun x hx => (hq x hx).1); omega
  have HJ := Go.Lib.hid (And.intro hJ1 hJx)
  have HY := Go.Lib.hid hY
  have HV0 := Go.Lib.hid hV
  have H9 := Go.Lib.hid h9
  have H12 := Go.Lib.hid h12
  have HMN := Go.Lib.hid hmn
  have HMNZ := Go.Lib.hid (show (1 : Int) ≤ mn ∧ (mn : Int) ≤ 20 by omega)
  have HJB := Go.Lib.hid hJ
  have HQL := Go.Lib.hid (And.intro hm (And.intro hq hsum))
  have HD := Go.Lib.hid hD
  have HA := Go.Lib.hid (And.intro hKh hKA)
  have HH := Go.Lib.hid hH
  have HP := Go.Lib.hid hP
  have H0 := Go.Lib.hid h0
  have HST0 := Go.Lib.hid (bstart_any HV w hV h9)
  have cq : w.cell? ⟨qb, 0, none⟩ = some (.slice A m pc) := cellH hQ 0
  obtain ⟨qq, hqq⟩ : ∃ qq : Ending → World → Prop, (fun e W' => (∃ v, e = Ending.returned v) ∧ True ∧ (J m W' ∨ Jx W')) = qq := ⟨_, rfl⟩
  rw [hqq]
  have HQ := Go.Lib.hid hqq
  clear hJ1 hJx hY hV h9 h12 hmn hJ hm hq hsum hD hKh hKA hH hQ hP h0 hqq
  show Calls Tryz.prog 70 #[.func (.yield l) #[] #[], .pointer (some ⟨hb, 0, none⟩), .pointer (some ⟨qb, 0, none⟩)] w _
  refine (callsIn_wide (n := 12)).1 ?_
  refine callsIn_of_wp_marks Tryz.func70 rfl trivial ?_ rfl
  simp only [Tryz.ntmps70, List.size_toArray, List.length_cons, List.length_nil, Nat.reduceAdd, Nat.reduceSub, Array.replicate_succ, Array.replicate_zero, List.push_toArray, List.append_toArray, List.nil_append, List.cons_append]
  have hmo : Tryz.prog.follows .mixedOrders = true := by kernel_rfl
  gi_wp2_with (first
    | (with_reducible refine wpListIn_load_whole rfl 74 (.tmp 1) rfl hb rfl HH.out Tryz.underlying74 rfl HV0.out ?_)
    | (refine ⟨trivial, (callsIn_wide.2 HST0.out).mono ?_⟩; rintro e w1 ⟨rfl, hB1⟩
       have cq1 : ∀ o, (w1.alloc o).cell? ⟨qb, 0, none⟩ = some (.slice A m pc) := fun o => (cell_old _ _ (by have := hB1.size; omega)).trans ((hB1.cell (p := ⟨qb, 0, none⟩) hqw).trans cq)
       have HB1 := Go.Lib.hid hB1
       clear hB1))
  change Code.wpIn _ _ _ _ _ _ (w1.alloc (.cells (bwV startB) 149))
  have k2 := heap_alloc_new w1 (.cells (bwV startB) 149)
  have hT2 : ∀ T, Turn T w (w1.alloc (.cells (bwV startB) 149)) := fun T => (Turn.of_below' HB1.out T).alloc _
  obtain ⟨z0, hz0⟩ : ∃ z0, w1.heap.size = z0 := ⟨_, rfl⟩
  have hwz : w.heap.size ≤ z0 := by have := HB1.out.size; omega
  obtain ⟨w2, hw2⟩ : ∃ w2, w1.alloc (.cells (bwV startB) 149) = w2 := ⟨_, rfl⟩
  rw [hw2] at k2 hT2 ⊢
  rw [hz0] at k2 ⊢
  clear hw2 hz0 cq1
  gi_loopw [5, 14] (fun dv iv wr => ∃ (i done : Nat) (b : List Int), i ≤ m ∧ dv = .int .i64 done ∧ iv = .int .i64 i ∧ Hid (done = (q.take i).sum ∧ (tripsL mn nt D q 0 startB).drop i = tripsL mn nt D (q.drop i) done b) ∧ Hid (BarOk b i) ∧ Hid (wr.heap[z0]? = some (.cells (bwV b) 149 (0, 0))) ∧
      Hid (∀ b, b < w.heap.size → K b → wr.heap[b]? = w.heap[b]?) ∧ Hid (J i wr)) (fun _ iv _ => m - (intOf iv).toNat)
  case atStart => exact ⟨0, 0, startB, Nat.zero_le _, rfl, rfl, Go.Lib.hid ⟨rfl, rfl⟩, Go.Lib.hid bar_start, Go.Lib.hid k2, Go.Lib.hid (fun b hb _ => (hT2 (fun _ => False)).block b hb (fun h => h)), Go.Lib.hid (HJ.out.1 _ _ _ H0.out (hT2 _))⟩
  case round =>
    obtain ⟨i, done, b, hi9, rfl, rfl, HSTT, HBO, HBW, HKP, HI⟩ := hrel
    have hz0r : z0 < wr.heap.size := (Array.getElem?_eq_some_iff.1 HBW.out).1
    by_cases hlt : i < m
    · obtain ⟨x, hx⟩ : ∃ x, q[i]? = some x := ⟨_, List.getElem?_eq_getElem (by rw [HQL.out.1]; exact hlt)⟩
      obtain ⟨hx1, hx3⟩ := HQL.out.2.1 x (List.mem_of_getElem? hx)
      have hs1 := take_sum hx
      have hs2 := take_sum_le q (i + 1)
      rw [HQL.out.2.2, hs1, ← HSTT.out.1] at hs2
      have hn0 : 0 < n := by omega
      obtain ⟨h13, hnj, hgw, hKg, hcs⟩ := HJB.out hn0
      have hJJ : HV[13]? = some (.slice (some ⟨g, 0, none⟩) n jc) ∧ n ≤ jc ∧ g < w.heap.size := ⟨h13, hnj, hgw⟩
      have hgc : ∀ o, wr.cell? ⟨g, o, none⟩ = w.cell? ⟨g, o, none⟩ := fun o => by unfold World.cell?; rw [HKP.out g hgw hKg]
      have hd1 := HD.out done (by omega)
      have hd2 := HD.out (done + x - 1) (by omega)
      obtain ⟨hlate, hdrop⟩ := trips_step mn nt D HSTT.out.2 hx
      have e9 : done * 3 + (x - 1) * 3 + 2 = (done + x - 1) * 3 + 2 := by omega
      have hck0 : wr.cell? ⟨g, done * 3 + (x - 1) * 3 + 2, none⟩ = some (.int .i64 (D.getD (done + x - 1) 0 - nt)) := by rw [hgc, e9]; exact (hcs (done + x - 1) (by omega)).2
      clear e9
      have hcd0 := (hgc (done * 3 + 1)).trans (hcs done (by omega)).1
      obtain ⟨du, hdu0⟩ : ∃ du, D.getD done 0 = du := ⟨_, rfl⟩
      obtain ⟨kn, hkn0⟩ : ∃ kn, D.getD (done + x - 1) 0 - (nt : Int) = kn := ⟨_, rfl⟩
      rw [hdu0] at hd1 hlate hcd0
      rw [hkn0] at hlate hdrop hck0
      have hkn : -30 ≤ kn ∧ kn ≤ 99 := by omega
      have HST := Go.Lib.hid (show done + x = (q.take (i + 1)).sum ∧ (tripsL mn nt D q 0 startB).drop (i + 1) = tripsL mn nt D (q.drop (i + 1)) (done + x) (sendB mn b kn) from ⟨by rw [hs1, ← HSTT.out.1], hdrop⟩)
      have HLT := Go.Lib.hid hlate
      obtain ⟨ty, hty⟩ : ∃ ty, (if du < backAt mn b kn then 118 else 181) = ty := ⟨_, rfl⟩
      have HTY := Go.Lib.hid hty
      clear hty
      have hdu := hd1
      have hck : wr.cell? ⟨g, done * 3 + (x - 1) * 3 + 2, none⟩ = some (.int .i64 kn) := hck0
      have hcd : wr.cell? ⟨g, done * 3 + 1, none⟩ = some (.int .i64 du) := hcd0
      have HCC := Go.Lib.hid (And.intro hck (And.intro hcd (And.intro hkn (And.intro hdu hJJ))))
      obtain ⟨ad, rfl, hab, hac⟩ := HP.out (by omega)
      have hpc : wr.cell? (ad.add i) = some (.int .i64 (x : Int)) := by
        have h1 : wr.cell? (ad.add i) = w.cell? (ad.add i) := cell_eq (HKP.out ad.block (by omega) (HA.out.2 (by omega) ad rfl)) i
        rw [h1, hac i hlt]
        simp [ofL, List.getD_eq_getElem?_getD, hx]
      have hdn8 : done ≤ 8 := by omega
      have HKH := Go.Lib.hid (show wr.heap[hb]? = some (.cells HV 74 (0, 0)) from (HKP.out hb hbw HA.out.1).trans HH.out)
      have hndx : done + x ≤ n := hs2
      clear hx hs1 hs2 h13 hnj hgw hKg hcs hJJ hgc hd1 hd2 hlate hdrop hck0 hcd0 hdu0 hkn0 hck hcd hdu hkn hac hab k2
      gi_wp2
      obtain ⟨hck, hcd, hkn, hdu, hJJ⟩ := HCC.out
      refine wpIn_region_heldN (S := (fun W : World => W.heap[hb]? = some (.cells HV 74 (0, 0)) ∧ W.heap[z0]? = some (.cells (bwV b) 149 (0, 0)))) hmo ?_
      have HSw0 : (fun W : World => W.heap[hb]? = some (.cells HV 74 (0, 0)) ∧ W.heap[z0]? = some (.cells (bwV b) 149 (0, 0))) wr.drew := ⟨HKH.out, HBW.out⟩
      have hTw0 : ∀ T, Turn T wr wr.drew := fun T => (Turn.refl T wr).drew
      obtain ⟨w0, hw0⟩ : ∃ w0, wr.drew = w0 := ⟨_, rfl⟩
      rw [hw0] at HSw0 hTw0 ⊢
      clear hw0
      refine wpAnyI_take (i := 0) (v := .agg HV) wide_fn (by kernel_rfl) rfl (by kernel_rfl) (by kernel_rfl) (by kernel_rfl) (fun _ _ _ h => h) HSw0 ?hy ?_
      case hy => exact yieldsIf_load_whole (by rfl) 74 (.tmp 1) rfl hb rfl (fun w h => h.1) Tryz.underlying74 rfl HV0.out
      refine wpAnyI_take (i := 1) (v := .agg (bwV b)) wide_fn (by kernel_rfl) rfl (by kernel_rfl) (by kernel_rfl) (by kernel_rfl) (fun _ _ _ h => h) HSw0 ?hy ?_
      case hy => exact yieldsIf_load_whole (by rfl) 149 (.tmp 4) rfl z0 rfl (fun w h => h.2) Tryz.underlying149 rfl (by kernel_rfl)
      refine wpAnyI_take (i := 2) (v := .agg HV) wide_fn (by kernel_rfl) rfl (by kernel_rfl) (by kernel_rfl) (by kernel_rfl) (fun _ _ _ h => h) HSw0 ?hy ?_
      case hy => exact yieldsIf_load_whole (by rfl) 74 (.tmp 1) rfl hb rfl (fun w h => h.1) Tryz.underlying74 rfl HV0.out
      refine wpAnyI_take (i := 3) (v := ?_) wide_fn (by kernel_rfl) rfl (by kernel_rfl) (by kernel_rfl) (by kernel_rfl) (fun _ _ _ h => h) HSw0 (.inl ⟨by rfl, ?hy⟩) ?_
      case hy => intro w _; first | (go_simp; done) | (go_simp; rfl)
      refine wpAnyI_take (i := 4) (v := ?_) wide_fn (by kernel_rfl) rfl (by kernel_rfl) (by kernel_rfl) (by kernel_rfl) (fun _ _ _ h => h) HSw0 (.inl ⟨by rfl, ?hy⟩) ?_
      case hy => intro w _; first | (go_simp; done) | (go_simp; rfl)
      refine wpAnyI_two (i := 5) (k := 10) (by kernel_rfl) rfl rfl (fun KK hKK => ?_) (fun KK hKK => ?_)
      · skip
        go_simp
        refine ⟨trivial, (callsIn_wide.2 (bcut_any HV g n jc done x w0 HV0.out hJJ.1 hx1 (by omega) hJJ.2.1 (by omega))).mono ?_⟩
        rintro e wc ⟨rfl, hBq⟩
        have hTwc : ∀ T, Turn T wr wc := fun T => (hTw0 T).trans ((fun T => Turn.of_below' hBq T) T)
        have HSwc : (fun W : World => W.heap[hb]? = some (.cells HV 74 (0, 0)) ∧ W.heap[z0]? = some (.cells (bwV b) 149 (0, 0))) wc := ⟨(hTwc (fun _ => False)).heap HKH.out (fun h => h), (hTwc (fun _ => False)).heap HBW.out (fun h => h)⟩
        refine hKK _ _ HSwc ?_
        clear hKK KK
        refine wpAnyI_two (i := 6) (k := 10) (by kernel_rfl) rfl rfl (fun KK hKK => ?_) (fun KK hKK => ?_)
        · skip
          go_simp
          refine ⟨trivial, (callsIn_wide.2 (bsend_any HV b mn g (done * 3) x x i _ _ wc HV0.out H9.out H12.out HBO.out (by omega) HMN.out hx1 hx3 (by have := (hTwc (fun _ => False)).size; omega) (((hTwc (fun _ => False)).cell (p := ⟨g, done * 3 + (x - 1) * 3 + 2, none⟩) (by show g < _; omega) (fun h => h)).trans hck) (((hTwc (fun _ => False)).cell (p := ⟨g, done * 3 + 1, none⟩) (by show g < _; omega) (fun h => h)).trans hcd) hkn hdu)).mono ?_⟩
          rintro e ws ⟨xv, he, hBq⟩
          rw [HTY.out] at he
          subst he
          have hTws : ∀ T, Turn T wr ws := fun T => (hTwc T).trans ((fun T => Turn.of_below' hBq T) T)
          have HSws : (fun W : World => W.heap[hb]? = some (.cells HV 74 (0, 0)) ∧ W.heap[z0]? = some (.cells (bwV b) 149 (0, 0))) ws := ⟨(hTws (fun _ => False)).heap HKH.out (fun h => h), (hTws (fun _ => False)).heap HBW.out (fun h => h)⟩
          refine hKK _ _ HSws ?_
          clear hKK KK
          refine wpAnyI_take (i := 7) (v := ?_) wide_fn (by kernel_rfl) rfl (by kernel_rfl) (by kernel_rfl) (by kernel_rfl) (fun _ _ _ h => h) HSws (.inl ⟨by rfl, ?hy⟩) ?_
          case hy => intro w _; first | (go_simp; done) | (go_simp; rfl)
          refine wpAnyI_take (i := 8) (v := ?_) wide_fn (by kernel_rfl) rfl (by kernel_rfl) (by kernel_rfl) (by kernel_rfl) (fun _ _ _ h => h) HSws (.inl ⟨by rfl, ?hy⟩) ?_
          case hy => intro w _; first | (go_simp; done) | (go_simp; rfl)
          refine wpAnyI_take (i := 9) (v := ?_) wide_fn (by kernel_rfl) rfl (by kernel_rfl) (by kernel_rfl) (by kernel_rfl) (fun _ _ _ h => h) HSws (.inl ⟨by rfl, ?hy⟩) ?_
          case hy => intro w _; first | (go_simp; done) | (go_simp; rfl)
          refine wpAnyI_one (i := 10) (by kernel_rfl) rfl (fun KK hKK => ?_)
          go_simp
          have hab := heap_alloc_new ws (.cells bZ 149)
          obtain ⟨z, hz⟩ : ∃ z, ws.heap.size = z := ⟨_, rfl⟩
          have hzr : wr.heap.size ≤ z := by have := (hTws (fun _ => False)).size; omega
          have hTal : ∀ T, Turn T ws (ws.alloc (.cells bZ 149)) := fun T => (Turn.refl T ws).alloc _
          obtain ⟨wa, hw9⟩ : ∃ wa, ws.alloc (.cells bZ 149) = wa := ⟨_, rfl⟩
          rw [hw9] at hab hTal
          rw [hz] at hab
          change KK _ (ws.alloc (.cells bZ 149))
          rw [hz, hw9]
          have hzz : z < wa.heap.size := (Array.getElem?_eq_some_iff.1 hab).1
          clear hw9
          have hTwa : ∀ T, Turn T wr wa := fun T => (hTws T).trans ((hTal) T)
          have HSwa : (fun W : World => W.heap[hb]? = some (.cells HV 74 (0, 0)) ∧ W.heap[z0]? = some (.cells (bwV b) 149 (0, 0))) wa := ⟨(hTwa (fun _ => False)).heap HKH.out (fun h => h), (hTwa (fun _ => False)).heap HBW.out (fun h => h)⟩
          refine hKK _ _ HSwa ?_
          clear hKK KK
          refine wpAnyI_one (i := 11) (by kernel_rfl) rfl (fun KK hKK => ?_)
          rw [if_pos (by rfl)]
          refine opIn_store_whole 149 (.tmp 8) (.tmp 26) rfl z (bwV (sendB mn b kn)) rfl rfl hab (by kernel_rfl) rfl (by simp [Value.oneCell']) (fun wt g1 g2 => ?_)
          have hTwt : Turn (fun b => wr.heap.size ≤ b) wr wt := (hTwa _).trans ((Turn.of_but g2).mono fun b _ h => by omega)
          have HSwt : (fun W : World => W.heap[hb]? = some (.cells HV 74 (0, 0)) ∧ W.heap[z0]? = some (.cells (bwV b) 149 (0, 0))) wt := ⟨hTwt.heap HKH.out (by omega), hTwt.heap HBW.out (by omega)⟩
          refine hKK _ _ HSwt ?_
          clear hKK KK
          refine wpAnyI_take (i := 12) (v := ?_) wide_fn (by kernel_rfl) rfl (by kernel_rfl) (by kernel_rfl) (by kernel_rfl) (fun _ _ _ h => h) HSwt (.inl ⟨by rfl, ?hy⟩) ?_
          case hy => intro w _; first | (go_simp; done) | (go_simp; rfl)
          refine wpAnyI_done (by kernel_rfl) (NoPanic.normal ?_) _
          have hzq : wr.heap.size ≤ wt.heap.size := hTwt.size
          obtain ⟨fn, tmps, assign, body, hy, hR⟩ := HY.out i #[.iface ty xv] wt 11 hlt ⟨xv, by simp only [HLT.out, decide_eq_true_eq, HTY.out]⟩ (HJ.out.1 _ _ _ HI.out (hTwt.mono fun b _ h => by omega))
          have HG := Go.Lib.hid (And.intro g1 hTwt)
          clear g1 g2 hab
          gi_wp2
          refine hR.mono ?_
          rintro e W3 (⟨rfl, hJ3, hk3⟩ | ⟨rfl, hJx3, hk3⟩)
          · have hb3 := hk3.heap HG.out.1 (by omega)
            have h03 := hk3.heap (HG.out.2.heap HBW.out (by omega)) (by omega)
            have hkp3 : ∀ b, b < w.heap.size → K b → W3.heap[b]? = w.heap[b]? := fun b hb hk => (hk3.block b (by omega) (fun h => h.2 hk)).trans ((HG.out.2.block b (by omega) (by omega)).trans (HKP.out b hb hk))
            have HB3 := Go.Lib.hid hb3
            have H03 := Go.Lib.hid h03
            have HK3 := Go.Lib.hid hkp3
            have HJ3 := Go.Lib.hid hJ3
            have hz3 := hk3.size
            clear hb3 h03 hkp3 hJ3 hR hy
            gi_wp2_with (first
              | (with_reducible refine wpListIn_load_whole rfl 149 (.tmp 8) rfl z rfl HB3.out Tryz.underlying149 rfl (by kernel_rfl) ?_)
              | (with_reducible refine wpListIn_store_whole rfl 149 (.tmp 4) (.tmp 32) rfl z0 (bwV (sendB mn b kn)) rfl rfl H03.out (by kernel_rfl) rfl (by simp [Value.oneCell']) ?_; intro W4 d1 d2))
            have hT4 := Turn.of_but d2
            exact ⟨⟨i + 1, done + x, sendB mn b kn, by omega, by go_num, by go_num, Go.Lib.hid (HST.out), Go.Lib.hid (HBO.out.send HMNZ.out hkn), Go.Lib.hid d1, Go.Lib.hid (fun b hb hk => (hT4.block b (by omega) (by omega)).trans (HK3.out b hb hk)), Go.Lib.hid (HJ.out.1 _ _ _ HJ3.out (hT4.mono fun b _ h => by omega))⟩, by simp [intOf]; omega⟩
          · gi_wp2
            rw [← HQ.out]
            exact ⟨_, results_none rfl _ _ _, ⟨_, rfl⟩, trivial, .inr hJx3⟩
        · skip
          go_simp
          have hab := heap_alloc_new wc (.cells bZ 149)
          obtain ⟨z, hz⟩ : ∃ z, wc.heap.size = z := ⟨_, rfl⟩
          have hzr : wr.heap.size ≤ z := by have := (hTwc (fun _ => False)).size; omega
          have hTal : ∀ T, Turn T wc (wc.alloc (.cells bZ 149)) := fun T => (Turn.refl T wc).alloc _
          obtain ⟨wa, hw9⟩ : ∃ wa, wc.alloc (.cells bZ 149) = wa := ⟨_, rfl⟩
          rw [hw9] at hab hTal
          rw [hz] at hab
          change KK _ (wc.alloc (.cells bZ 149))
          rw [hz, hw9]
          have hzz : z < wa.heap.size := (Array.getElem?_eq_some_iff.1 hab).1
          clear hw9
          have hTwa : ∀ T, Turn T wr wa := fun T => (hTwc T).trans ((hTal) T)
          have HSwa : (fun W : World => W.heap[hb]? = some (.cells HV 74 (0, 0)) ∧ W.heap[z0]? = some (.cells (bwV b) 149 (0, 0))) wa := ⟨(hTwa (fun _ => False)).heap HKH.out (fun h => h), (hTwa (fun _ => False)).heap HBW.out (fun h => h)⟩
          refine hKK _ _ HSwa ?_
          clear hKK KK
          refine wpAnyI_one (i := 6) (by kernel_rfl) rfl (fun KK hKK => ?_)
          go_simp
          refine ⟨trivial, (callsIn_wide.2 (bsend_any HV b mn g (done * 3) x x i _ _ wa HV0.out H9.out H12.out HBO.out (by omega) HMN.out hx1 hx3 (by have := (hTwa (fun _ => False)).size; omega) (((hTwa (fun _ => False)).cell (p := ⟨g, done * 3 + (x - 1) * 3 + 2, none⟩) (by show g < _; omega) (fun h => h)).trans hck) (((hTwa (fun _ => False)).cell (p := ⟨g, done * 3 + 1, none⟩) (by show g < _; omega) (fun h => h)).trans hcd) hkn hdu)).mono ?_⟩
          rintro e ws ⟨xv, he, hBq⟩
          rw [HTY.out] at he
          subst he
          have hTws : ∀ T, Turn T wr ws := fun T => (hTwa T).trans ((fun T => Turn.of_below' hBq T) T)
          have HSws : (fun W : World => W.heap[hb]? = some (.cells HV 74 (0, 0)) ∧ W.heap[z0]? = some (.cells (bwV b) 149 (0, 0))) ws := ⟨(hTws (fun _ => False)).heap HKH.out (fun h => h), (hTws (fun _ => False)).heap HBW.out (fun h => h)⟩
          refine hKK _ _ HSws ?_
          clear hKK KK
          refine wpAnyI_take (i := 7) (v := ?_) wide_fn (by kernel_rfl) rfl (by kernel_rfl) (by kernel_rfl) (by kernel_rfl) (fun _ _ _ h => h) HSws (.inl ⟨by rfl, ?hy⟩) ?_
          case hy => intro w _; first | (go_simp; done) | (go_simp; rfl)
          refine wpAnyI_take (i := 8) (v := ?_) wide_fn (by kernel_rfl) rfl (by kernel_rfl) (by kernel_rfl) (by kernel_rfl) (fun _ _ _ h => h) HSws (.inl ⟨by rfl, ?hy⟩) ?_
          case hy => intro w _; first | (go_simp; done) | (go_simp; rfl)
          refine wpAnyI_take (i := 9) (v := ?_) wide_fn (by kernel_rfl) rfl (by kernel_rfl) (by kernel_rfl) (by kernel_rfl) (fun _ _ _ h => h) HSws (.inl ⟨by rfl, ?hy⟩) ?_
          case hy => intro w _; first | (go_simp; done) | (go_simp; rfl)
          refine wpAnyI_one (i := 11) (by kernel_rfl) rfl (fun KK hKK => ?_)
          rw [if_pos (by rfl)]
          refine opIn_store_whole 149 (.tmp 8) (.tmp 26) rfl z (bwV (sendB mn b kn)) rfl rfl ((Turn.of_below' hBq (fun _ => False)).heap hab (fun h => h)) (by kernel_rfl) rfl (by simp [Value.oneCell']) (fun wt g1 g2 => ?_)
          have hTwt : Turn (fun b => wr.heap.size ≤ b) wr wt := (hTws _).trans ((Turn.of_but g2).mono fun b _ h => by omega)
          have HSwt : (fun W : World => W.heap[hb]? = some (.cells HV 74 (0, 0)) ∧ W.heap[z0]? = some (.cells (bwV b) 149 (0, 0))) wt := ⟨hTwt.heap HKH.out (by omega), hTwt.heap HBW.out (by omega)⟩
          refine hKK _ _ HSwt ?_
          clear hKK KK
          refine wpAnyI_take (i := 12) (v := ?_) wide_fn (by kernel_rfl) rfl (by kernel_rfl) (by kernel_rfl) (by kernel_rfl) (fun _ _ _ h => h) HSwt (.inl ⟨by rfl, ?hy⟩) ?_
          case hy => intro w _; first | (go_simp; done) | (go_simp; rfl)
          refine wpAnyI_done (by kernel_rfl) (NoPanic.normal ?_) _
          have hzq : wr.heap.size ≤ wt.heap.size := hTwt.size
          obtain ⟨fn, tmps, assign, body, hy, hR⟩ := HY.out i #[.iface ty xv] wt 11 hlt ⟨xv, by simp only [HLT.out, decide_eq_true_eq, HTY.out]⟩ (HJ.out.1 _ _ _ HI.out (hTwt.mono fun b _ h => by omega))
          have HG := Go.Lib.hid (And.intro g1 hTwt)
          clear g1 g2 hab
          gi_wp2
          refine hR.mono ?_
          rintro e W3 (⟨rfl, hJ3, hk3⟩ | ⟨rfl, hJx3, hk3⟩)
          · have hb3 := hk3.heap HG.out.1 (by omega)
            have h03 := hk3.heap (HG.out.2.heap HBW.out (by omega)) (by omega)
            have hkp3 : ∀ b, b < w.heap.size → K b → W3.heap[b]? = w.heap[b]? := fun b hb hk => (hk3.block b (by omega) (fun h => h.2 hk)).trans ((HG.out.2.block b (by omega) (by omega)).trans (HKP.out b hb hk))
            have HB3 := Go.Lib.hid hb3
            have H03 := Go.Lib.hid h03
            have HK3 := Go.Lib.hid hkp3
            have HJ3 := Go.Lib.hid hJ3
            have hz3 := hk3.size
            clear hb3 h03 hkp3 hJ3 hR hy
            gi_wp2_with (first
              | (with_reducible refine wpListIn_load_whole rfl 149 (.tmp 8) rfl z rfl HB3.out Tryz.underlying149 rfl (by kernel_rfl) ?_)
              | (with_reducible refine wpListIn_store_whole rfl 149 (.tmp 4) (.tmp 32) rfl z0 (bwV (sendB mn b kn)) rfl rfl H03.out (by kernel_rfl) rfl (by simp [Value.oneCell']) ?_; intro W4 d1 d2))
            have hT4 := Turn.of_but d2
            exact ⟨⟨i + 1, done + x, sendB mn b kn, by omega, by go_num, by go_num, Go.Lib.hid (HST.out), Go.Lib.hid (HBO.out.send HMNZ.out hkn), Go.Lib.hid d1, Go.Lib.hid (fun b hb hk => (hT4.block b (by omega) (by omega)).trans (HK3.out b hb hk)), Go.Lib.hid (HJ.out.1 _ _ _ HJ3.out (hT4.mono fun b _ h => by omega))⟩, by simp [intOf]; omega⟩
          · gi_wp2
            rw [← HQ.out]
            exact ⟨_, results_none rfl _ _ _, ⟨_, rfl⟩, trivial, .inr hJx3⟩
      · skip
        go_simp
        have hab := heap_alloc_new w0 (.cells bZ 149)
        obtain ⟨z, hz⟩ : ∃ z, w0.heap.size = z := ⟨_, rfl⟩
        have hzr : wr.heap.size ≤ z := by have := (hTw0 (fun _ => False)).size; omega
        have hTal : ∀ T, Turn T w0 (w0.alloc (.cells bZ 149)) := fun T => (Turn.refl T w0).alloc _
        obtain ⟨wa, hw9⟩ : ∃ wa, w0.alloc (.cells bZ 149) = wa := ⟨_, rfl⟩
        rw [hw9] at hab hTal
        rw [hz] at hab
        change KK _ (w0.alloc (.cells bZ 149))
        rw [hz, hw9]
        have hzz : z < wa.heap.size := (Array.getElem?_eq_some_iff.1 hab).1
        clear hw9
        have hTwa : ∀ T, Turn T wr wa := fun T => (hTw0 T).trans ((hTal) T)
        have HSwa : (fun W : World => W.heap[hb]? = some (.cells HV 74 (0, 0)) ∧ W.heap[z0]? = some (.cells (bwV b) 149 (0, 0))) wa := ⟨(hTwa (fun _ => False)).heap HKH.out (fun h => h), (hTwa (fun _ => False)).heap HBW.out (fun h => h)⟩
        refine hKK _ _ HSwa ?_
        clear hKK KK
        refine wpAnyI_one (i := 5) (by kernel_rfl) rfl (fun KK hKK => ?_)
        go_simp
        refine ⟨trivial, (callsIn_wide.2 (bcut_any HV g n jc done x wa HV0.out hJJ.1 hx1 (by omega) hJJ.2.1 (by omega))).mono ?_⟩
        rintro e wc ⟨rfl, hBc⟩
        have hTwc : ∀ T, Turn T wr wc := fun T => (hTwa T).trans ((fun T => Turn.of_below' hBc T) T)
        have HSwc : (fun W : World => W.heap[hb]? = some (.cells HV 74 (0, 0)) ∧ W.heap[z0]? = some (.cells (bwV b) 149 (0, 0))) wc := ⟨(hTwc (fun _ => False)).heap HKH.out (fun h => h), (hTwc (fun _ => False)).heap HBW.out (fun h => h)⟩
        refine hKK _ _ HSwc ?_
        clear hKK KK
        refine wpAnyI_one (i := 6) (by kernel_rfl) rfl (fun KK hKK => ?_)
        go_simp
        refine ⟨trivial, (callsIn_wide.2 (bsend_any HV b mn g (done * 3) x x i _ _ wc HV0.out H9.out H12.out HBO.out (by omega) HMN.out hx1 hx3 (by have := (hTwc (fun _ => False)).size; omega) (((hTwc (fun _ => False)).cell (p := ⟨g, done * 3 + (x - 1) * 3 + 2, none⟩) (by show g < _; omega) (fun h => h)).trans hck) (((hTwc (fun _ => False)).cell (p := ⟨g, done * 3 + 1, none⟩) (by show g < _; omega) (fun h => h)).trans hcd) hkn hdu)).mono ?_⟩
        rintro e ws ⟨xv, he, hBq⟩
        rw [HTY.out] at he
        subst he
        have hTws : ∀ T, Turn T wr ws := fun T => (hTwc T).trans ((fun T => Turn.of_below' hBq T) T)
        have HSws : (fun W : World => W.heap[hb]? = some (.cells HV 74 (0, 0)) ∧ W.heap[z0]? = some (.cells (bwV b) 149 (0, 0))) ws := ⟨(hTws (fun _ => False)).heap HKH.out (fun h => h), (hTws (fun _ => False)).heap HBW.out (fun h => h)⟩
        refine hKK _ _ HSws ?_
        clear hKK KK
        refine wpAnyI_take (i := 7) (v := ?_) wide_fn (by kernel_rfl) rfl (by kernel_rfl) (by kernel_rfl) (by kernel_rfl) (fun _ _ _ h => h) HSws (.inl ⟨by rfl, ?hy⟩) ?_
        case hy => intro w _; first | (go_simp; done) | (go_simp; rfl)
        refine wpAnyI_take (i := 8) (v := ?_) wide_fn (by kernel_rfl) rfl (by kernel_rfl) (by kernel_rfl) (by kernel_rfl) (fun _ _ _ h => h) HSws (.inl ⟨by rfl, ?hy⟩) ?_
        case hy => intro w _; first | (go_simp; done) | (go_simp; rfl)
        refine wpAnyI_take (i := 9) (v := ?_) wide_fn (by kernel_rfl) rfl (by kernel_rfl) (by kernel_rfl) (by kernel_rfl) (fun _ _ _ h => h) HSws (.inl ⟨by rfl, ?hy⟩) ?_
        case hy => intro w _; first | (go_simp; done) | (go_simp; rfl)
        refine wpAnyI_one (i := 11) (by kernel_rfl) rfl (fun KK hKK => ?_)
        rw [if_pos (by rfl)]
        refine opIn_store_whole 149 (.tmp 8) (.tmp 26) rfl z (bwV (sendB mn b kn)) rfl rfl ((Turn.of_below' hBq (fun _ => False)).heap ((Turn.of_below' hBc (fun _ => False)).heap hab (fun h => h)) (fun h => h)) (by kernel_rfl) rfl (by simp [Value.oneCell']) (fun wt g1 g2 => ?_)
        have hTwt : Turn (fun b => wr.heap.size ≤ b) wr wt := (hTws _).trans ((Turn.of_but g2).mono fun b _ h => by omega)
        have HSwt : (fun W : World => W.heap[hb]? = some (.cells HV 74 (0, 0)) ∧ W.heap[z0]? = some (.cells (bwV b) 149 (0, 0))) wt := ⟨hTwt.heap HKH.out (by omega), hTwt.heap HBW.out (by omega)⟩
        refine hKK _ _ HSwt ?_
        clear hKK KK
        refine wpAnyI_take (i := 12) (v := ?_) wide_fn (by kernel_rfl) rfl (by kernel_rfl) (by kernel_rfl) (by kernel_rfl) (fun _ _ _ h => h) HSwt (.inl ⟨by rfl, ?hy⟩) ?_
        case hy => intro w _; first | (go_simp; done) | (go_simp; rfl)
        refine wpAnyI_done (by kernel_rfl) (NoPanic.normal ?_) _
        have hzq : wr.heap.size ≤ wt.heap.size := hTwt.size
        obtain ⟨fn, tmps, assign, body, hy, hR⟩ := HY.out i #[.iface ty xv] wt 11 hlt ⟨xv, by simp only [HLT.out, decide_eq_true_eq, HTY.out]⟩ (HJ.out.1 _ _ _ HI.out (hTwt.mono fun b _ h => by omega))
        have HG := Go.Lib.hid (And.intro g1 hTwt)
        clear g1 g2 hab
        gi_wp2
        refine hR.mono ?_
        rintro e W3 (⟨rfl, hJ3, hk3⟩ | ⟨rfl, hJx3, hk3⟩)
        · have hb3 := hk3.heap HG.out.1 (by omega)
          have h03 := hk3.heap (HG.out.2.heap HBW.out (by omega)) (by omega)
          have hkp3 : ∀ b, b < w.heap.size → K b → W3.heap[b]? = w.heap[b]? := fun b hb hk => (hk3.block b (by omega) (fun h => h.2 hk)).trans ((HG.out.2.block b (by omega) (by omega)).trans (HKP.out b hb hk))
          have HB3 := Go.Lib.hid hb3
          have H03 := Go.Lib.hid h03
          have HK3 := Go.Lib.hid hkp3
          have HJ3 := Go.Lib.hid hJ3
          have hz3 := hk3.size
          clear hb3 h03 hkp3 hJ3 hR hy
          gi_wp2_with (first
            | (with_reducible refine wpListIn_load_whole rfl 149 (.tmp 8) rfl z rfl HB3.out Tryz.underlying149 rfl (by kernel_rfl) ?_)
            | (with_reducible refine wpListIn_store_whole rfl 149 (.tmp 4) (.tmp 32) rfl z0 (bwV (sendB mn b kn)) rfl rfl H03.out (by kernel_rfl) rfl (by simp [Value.oneCell']) ?_; intro W4 d1 d2))
          have hT4 := Turn.of_but d2
          exact ⟨⟨i + 1, done + x, sendB mn b kn, by omega, by go_num, by go_num, Go.Lib.hid (HST.out), Go.Lib.hid (HBO.out.send HMNZ.out hkn), Go.Lib.hid d1, Go.Lib.hid (fun b hb hk => (hT4.block b (by omega) (by omega)).trans (HK3.out b hb hk)), Go.Lib.hid (HJ.out.1 _ _ _ HJ3.out (hT4.mono fun b _ h => by omega))⟩, by simp [intOf]; omega⟩
        · gi_wp2
          rw [← HQ.out]
          exact ⟨_, results_none rfl _ _ _, ⟨_, rfl⟩, trivial, .inr hJx3⟩
    · have e : m = i := by omega
      subst e
      gi_wp2
      rw [← HQ.out]
      exact ⟨_, results_none rfl _ _ _, ⟨_, rfl⟩, trivial, .inl HI.out⟩

end Go.Proofs.YtoobopohohoidaaGreatDoor
