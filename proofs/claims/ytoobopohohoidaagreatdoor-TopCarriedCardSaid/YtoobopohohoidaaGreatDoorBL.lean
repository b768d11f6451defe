/- BARROW: cut, send. -/
import Derived.Test.YtoobopohohoidaaGreatDoorBK
set_option linter.unusedSimpArgs false
set_option linter.unusedVariables false
namespace Go.Proofs.YtoobopohohoidaaGreatDoor
open Go.RowKit Go.Maps Go.Shelf

set_option maxRecDepth 100000 in
set_option maxHeartbeats 2000000 in
theorem bcut_any (HV : Array Value) (g n jc done load : Nat) (w : World) (hV : (Tryz.prog.info? 74).map (·.size) = some HV.size) (h13 : HV[13]? = some (.slice (some ⟨g, 0, none⟩) n jc)) (hl : 1 ≤ load) (hn : done + load ≤ n) (hj : n ≤ jc) (h8 : n ≤ 8) :
    Calls Tryz.prog 73 #[.agg HV, .int .i64 done, .int .i64 load] w fun e w' => e = .returned (.slice (some ⟨g, done * 3, none⟩) load load) ∧ Below w.heap.size w w' := by
  have x0 := heap_alloc_new w (.cells HV 74)
  have c13 : (w.alloc (.cells HV 74)).cell? ⟨w.heap.size, 13, none⟩ = some (.slice (some ⟨g, 0, none⟩) n jc) := (cellH x0 13).trans h13
  have e1 : done + load - done = load := by omega
  clear x0 h13
  go_enter Tryz.func73, Tryz.ntmps73
  go_wp2
  go_ret
  exact ⟨by simp [e1], (Below.refl _ _).alloc (Nat.le_refl _) _⟩

/-- What send gives. -/
def SendP (mn : Nat) (b : List Int) (kn du : Int) (w : World) (e : Ending) (w' : World) : Prop :=
  ∃ x : Value, e = .returned (.tuple #[.agg (bwV (sendB mn b kn)), .iface (if du < backAt mn b kn then 118 else 181) x]) ∧ Below w.heap.size w w'

set_option maxRecDepth 100000 in
set_option maxHeartbeats 8000000 in
theorem bsend_any (HV : Array Value) (b : List Int) (mn g o x c i : Nat) (kn du : Int) (w : World) (hV : (Tryz.prog.info? 74).map (·.size) = some HV.size) (h9 : HV[9]? = some (.int .i64 4)) (h12 : HV[12]? = some (.int .i64 mn))
    (hb : BarOk b i) (hi : i ≤ 8) (hm : 1 ≤ mn ∧ mn ≤ 20) (hx : 1 ≤ x) (hx3 : x ≤ 3) (hg : g < w.heap.size) (hk : w.cell? ⟨g, o + (x - 1) * 3 + 2, none⟩ = some (.int .i64 kn)) (hd : w.cell? ⟨g, o + 1, none⟩ = some (.int .i64 du)) (hkn : -30 ≤ kn ∧ kn ≤ 99) (hdu : 0 ≤ du ∧ du ≤ 99) :
    Calls Tryz.prog 72 #[.agg HV, .agg (bwV b), .slice (some ⟨g, o, none⟩) x c] w (SendP mn b kn du w) := by
  have x0 := heap_old (.cells bZ 149) (heap_old (.cells (bwV b) 149) (heap_alloc_new w (.cells HV 74)))
  have x1 := heap_old (.cells bZ 149) (heap_alloc_new (w.alloc (.cells HV 74)) (.cells (bwV b) 149))
  have x2 := heap_alloc_new ((w.alloc (.cells HV 74)).alloc (.cells (bwV b) 149)) (.cells bZ 149)
  simp only [World.size_alloc] at x1 x2
  obtain ⟨w3, hw3⟩ : ∃ w3, (((w.alloc (.cells HV 74)).alloc (.cells (bwV b) 149)).alloc (.cells bZ 149)) = w3 := ⟨_, rfl⟩
  have hB3 : Below w.heap.size w w3 := by rw [← hw3]; exact (((Below.refl _ w).alloc (Nat.le_refl _) _).alloc (by simp) _).alloc (by simp; omega) _
  have hz3 : w3.heap.size = w.heap.size + 3 := by rw [← hw3]; simp
  rw [hw3] at x0 x1 x2
  have HX := Go.Lib.hid (And.intro x0 (And.intro x1 (And.intro x2 hB3)))
  have H12 := Go.Lib.hid h12
  have HNX := Go.Lib.hid (bnext_any HV b w3 hV h9)
  have HK := Go.Lib.hid ((hB3.cell (p := ⟨g, o + (x - 1) * 3 + 2, none⟩) hg).trans hk)
  have HDU := Go.Lib.hid ((hB3.cell (p := ⟨g, o + 1, none⟩) hg).trans hd)
  have hn4 := nxt_lt b
  have hlo := hb.low _ hn4
  have hhi := hb.high _ hn4
  have HBL := Go.Lib.hid hb.len
  obtain ⟨q, hq⟩ : ∃ q, SendP mn b kn du w = q := ⟨_, rfl⟩
  rw [hq]
  have HQ := Go.Lib.hid hq
  obtain ⟨t, ht⟩ : ∃ t, b.getD (nxt b) 0 = t := ⟨_, rfl⟩
  obtain ⟨nx, hnx⟩ : ∃ nx, nxt b = nx := ⟨_, rfl⟩
  have HT := Go.Lib.hid (And.intro ht hnx)
  rw [ht] at hlo hhi
  rw [hnx] at hn4 HNX
  obtain ⟨hkn1, hkn2⟩ := hkn
  obtain ⟨hdu1, hdu2⟩ := hdu
  obtain ⟨hm1, hm2⟩ := hm
  obtain ⟨mx, hmx⟩ : ∃ mx : Int, (if t < kn then kn else t) = mx := ⟨_, rfl⟩
  have hmx1 : mx = max t kn := by rw [← hmx]; split <;> omega
  have hm1' : -31 ≤ mx := by omega
  have hm2' : mx ≤ 99 + 20 * i := by omega
  have HM := Go.Lib.hid hmx1
  clear hmx1 x0 x1 x2 hB3 h9 h12 hk hd hb hq ht hnx
  go_enter Tryz.func72, Tryz.ntmps72
  go_wp2_with (first
    | (with_reducible refine wpList_load_whole rfl 74 (.tmp 3) rfl w.heap.size rfl HX.out.1 Tryz.underlying74 rfl hV ?_)
    | (with_reducible refine wpList_load_whole rfl 149 (.tmp 4) rfl (w.heap.size + 1) rfl HX.out.2.1 Tryz.underlying149 rfl (by kernel_rfl) ?_)
    | (go_at_call 90; refine HNX.out.mono ?_; rintro e w4 ⟨rfl, hB4⟩
       have hz4 : w3.heap.size ≤ w4.heap.size := hB4.size
       have k1 := (hB4.block (w.heap.size + 1) (by omega)).trans HX.out.2.1
       have ct : w4.cell? ⟨w.heap.size + 1, nx, none⟩ = some (.int .i64 t) := by rw [cellH k1, bwV_get b hn4, ← HT.out.1, HT.out.2]
       have ft : w4.frozen? ⟨w.heap.size + 1, nx, none⟩ = false := freeH k1 nx
       have ck : w4.cell? ⟨g, o + (x - 1) * 3 + 2, none⟩ = some (.int .i64 kn) := (hB4.cell (p := ⟨g, o + (x - 1) * 3 + 2, none⟩) (by show g < _; omega)).trans HK.out
       have cd : w4.cell? ⟨g, o + 1, none⟩ = some (.int .i64 du) := (hB4.cell (p := ⟨g, o + 1, none⟩) (by show g < _; omega)).trans HDU.out
       have cm : w4.cell? ⟨w.heap.size, 12, none⟩ = some (.int .i64 mn) := (cellH ((hB4.block w.heap.size (by omega)).trans HX.out.1) 12).trans H12.out
       have K1 := Go.Lib.hid k1
       have KB := Go.Lib.hid hB4
       clear k1 hB4))
  go_quiet (fail)
  have ct5 : (w4.drewN nq).cell? ⟨w.heap.size + 1, nx, none⟩ = some (.int .i64 t) := ct
  have ft5 : (w4.drewN nq).frozen? ⟨w.heap.size + 1, nx, none⟩ = false := ft
  have cm5 : (w4.drewN nq).cell? ⟨w.heap.size, 12, none⟩ = some (.int .i64 mn) := cm
  have cd5 : (w4.drewN nq).cell? ⟨g, o + 1, none⟩ = some (.int .i64 du) := cd
  obtain ⟨w5, hw5⟩ : ∃ w5, w4.drewN nq = w5 := ⟨_, rfl⟩
  have hT5 : ∀ T, Turn T w4 w5 := fun T => hw5 ▸ (Turn.refl T w4).drewN nq
  rw [hw5] at ct5 ft5 cm5 cd5 ⊢
  clear hw5 ct ft ck cd cm
  go_wp2_with fail
  have hz5 : w3.heap.size ≤ w5.heap.size := Nat.le_trans hz4 (hT5 (fun _ => False)).size
  have hmo : Tryz.prog.follows .mixedOrders = true := by kernel_rfl
  have k5 : (w5.setCell ⟨w.heap.size + 1, nx, none⟩ (.int .i64 (mx + mn))).heap[w.heap.size + 1]? = some (.cells (bwV (b.set nx (mx + mn))) 149 (0, 0)) := by rw [← bwV_set HBL.out hn4]; exact setH ((hT5 (fun _ => False)).heap K1.out (fun h => h)) nx _
  have hTs : Turn (fun b => b = w.heap.size + 1) w5 (w5.setCell ⟨w.heap.size + 1, nx, none⟩ (.int .i64 (mx + mn))) := Turn.of_but ((But.refl _ w5).set nx _)
  have k6 := heap_old (.cells #[.int .i64 nx, .int .i64 mx, .int .i64 (mx + mn), .slice (some ⟨g, o, none⟩) x c] 116) k5
  have k7 := heap_alloc_new (w5.setCell ⟨w.heap.size + 1, nx, none⟩ (.int .i64 (mx + mn))) (.cells #[.int .i64 nx, .int .i64 mx, .int .i64 (mx + mn), .slice (some ⟨g, o, none⟩) x c] 116)
  have k8 := heap_old (.cells #[.int .i64 nx, .int .i64 mx, .int .i64 (mx + mn), .slice (some ⟨g, o, none⟩) x c] 116) (hTs.heap ((hT5 (fun _ => False)).heap ((KB.out.block (w.heap.size + 1 + 1) (by omega)).trans HX.out.2.2.1) (fun h => h)) (by omega))
  have cd6 : ((w5.setCell ⟨w.heap.size + 1, nx, none⟩ (.int .i64 (mx + mn))).alloc (.cells #[.int .i64 nx, .int .i64 mx, .int .i64 (mx + mn), .slice (some ⟨g, o, none⟩) x c] 116)).cell? ⟨g, o + 1, none⟩ = some (.int .i64 du) :=
    (cell_old _ _ (by simp; omega)).trans ((hTs.cell (p := ⟨g, o + 1, none⟩) (by show g < _; omega) (by show ¬ g = _; omega)).trans cd5)
  have hBw : Below w.heap.size w ((w5.setCell ⟨w.heap.size + 1, nx, none⟩ (.int .i64 (mx + mn))).alloc (.cells #[.int .i64 nx, .int .i64 mx, .int .i64 (mx + mn), .slice (some ⟨g, o, none⟩) x c] 116)) :=
    ((HX.out.2.2.2.trans (KB.out.mono (by omega))).trans (((hT5 (fun _ => False)).below (fun _ _ h => h) (by omega)).trans (hTs.below (fun b hb => by omega) (by omega)))).alloc (by simp; omega) _
  rw [show (w5.setCell ⟨w.heap.size + 1, nx, none⟩ (.int .i64 (mx + mn))).heap.size = w5.heap.size from by simp] at k7
  obtain ⟨w6, hw6⟩ : ∃ w6, (w5.setCell ⟨w.heap.size + 1, nx, none⟩ (.int .i64 (mx + mn))).alloc (.cells #[.int .i64 nx, .int .i64 mx, .int .i64 (mx + mn), .slice (some ⟨g, o, none⟩) x c] 116) = w6 := ⟨_, rfl⟩
  rw [hw6] at k6 k7 k8 cd6 hBw ⊢
  have cb6 : w6.cell? ⟨w.heap.size + 1, nx, none⟩ = some (.int .i64 (mx + mn)) := by rw [cellH k6, bwV_get _ hn4, getD_set_int (by rw [HBL.out]; exact hn4), if_pos rfl]
  clear hw6 k5 hTs ct5 ft5 cm5 cd5
  have HW6 := Go.Lib.hid (And.intro k6 (And.intro k7 k8))
  clear k6 k7 k8
  go_quiet (fail)
  obtain ⟨w7, hw7⟩ : ∃ w7, w6.drewN nq = w7 := ⟨_, rfl⟩
  have HW7 := Go.Lib.hid (show w7.heap[w.heap.size + 1]? = some (.cells (bwV (b.set nx (mx + mn))) 149 (0, 0)) ∧ w7.heap[w5.heap.size]? = some (.cells #[.int .i64 nx, .int .i64 mx, .int .i64 (mx + mn), .slice (some ⟨g, o, none⟩) x c] 116 (0, 0)) ∧ w7.heap[w.heap.size + 1 + 1]? = some (.cells bZ 149 (0, 0)) by rw [← hw7]; exact HW6.out)
  have hBw7 : Below w.heap.size w w7 := by rw [← hw7]; exact below_drewN hBw nq
  rw [hw7]
  clear hw7 cb6 cd6
  by_cases hlt : du < mx + mn
  · have h0 : 0 < mx + mn - du := by omega
    go_wp2_with fail
    refine (wpIn_wide (n := 20)).1 ?_
    refine wpIn_region_heldN (S := (fun W : World => W.heap[w.heap.size + 1]? = some (.cells (bwV (b.set nx (mx + mn))) 149 (0, 0)) ∧ W.heap[w5.heap.size]? = some (.cells #[.int .i64 nx, .int .i64 mx, .int .i64 (mx + mn), .slice (some ⟨g, o, none⟩) x c] 116 (0, 0)))) hmo ?_
    have HS0 : (fun W : World => W.heap[w.heap.size + 1]? = some (.cells (bwV (b.set nx (mx + mn))) 149 (0, 0)) ∧ W.heap[w5.heap.size]? = some (.cells #[.int .i64 nx, .int .i64 mx, .int .i64 (mx + mn), .slice (some ⟨g, o, none⟩) x c] 116 (0, 0))) w7.drew := ⟨HW7.out.1, HW7.out.2.1⟩
    refine wpAnyI_take (i := 0) (v := .agg (bwV (b.set nx (mx + mn)))) wide_fn (by kernel_rfl) rfl (by kernel_rfl) (by kernel_rfl) (by kernel_rfl) (fun _ _ _ h => h) HS0 ?hy ?_
    case hy => exact yieldsIf_load_whole (by rfl) 149 (.tmp 4) rfl (w.heap.size + 1) rfl (fun w h => h.1) Tryz.underlying149 rfl (by kernel_rfl)
    refine wpAnyI_take (i := 1) (v := .agg #[.int .i64 nx, .int .i64 mx, .int .i64 (mx + mn), .slice (some ⟨g, o, none⟩) x c]) wide_fn (by kernel_rfl) rfl (by kernel_rfl) (by kernel_rfl) (by kernel_rfl) (fun _ _ _ h => h) HS0 ?hy ?_
    case hy => exact yieldsIf_load_whole (by rfl) 116 (.tmp 10) rfl w5.heap.size rfl (fun w h => h.2) Tryz.underlying116 rfl (by kernel_rfl)
    refine wpAnyI_take (i := 2) (v := ?_) wide_fn (by kernel_rfl) rfl (by kernel_rfl) (by kernel_rfl) (by kernel_rfl) (fun _ _ _ h => h) HS0 (.inl ⟨by rfl, ?hy⟩) ?_
    case hy => intro w _; first | (go_simp; done) | (go_simp; rfl)
    refine wpAnyI_take (i := 3) (v := ?_) wide_fn (by kernel_rfl) rfl (by kernel_rfl) (by kernel_rfl) (by kernel_rfl) (fun _ _ _ h => h) HS0 (.inl ⟨by rfl, ?hy⟩) ?_
    case hy => intro w _; first | (go_simp; done) | (go_simp; rfl)
    refine wpAnyI_take (i := 4) (v := ?_) wide_fn (by kernel_rfl) rfl (by kernel_rfl) (by kernel_rfl) (by kernel_rfl) (fun _ _ _ h => h) HS0 (.inl ⟨by rfl, ?hy⟩) ?_
    case hy => intro w _; first | (go_simp; done) | (go_simp; rfl)
    refine wpAnyI_one (i := 5) (by kernel_rfl) rfl (fun KK hKK => ?_)
    rw [if_pos (by rfl)]
    refine opIn_store_whole 149 (.tmp 6) (.tmp 50) rfl (w.heap.size + 1 + 1) (bwV (b.set nx (mx + mn))) rfl rfl (show w7.drew.heap[w.heap.size + 1 + 1]? = _ from HW7.out.2.2) (by kernel_rfl) rfl (by simp [Value.oneCell']) (fun W8 g1 g2 => ?_)
    refine hKK _ _ ⟨((Turn.of_but g2).heap HW7.out.1 (by omega)), ((Turn.of_but g2).heap HW7.out.2.1 (by omega))⟩ ?_
    clear hKK KK
    have HS0 := (show (fun W : World => W.heap[w.heap.size + 1]? = some (.cells (bwV (b.set nx (mx + mn))) 149 (0, 0)) ∧ W.heap[w5.heap.size]? = some (.cells #[.int .i64 nx, .int .i64 mx, .int .i64 (mx + mn), .slice (some ⟨g, o, none⟩) x c] 116 (0, 0))) W8 from ⟨((Turn.of_but g2).heap HW7.out.1 (by omega)), ((Turn.of_but g2).heap HW7.out.2.1 (by omega))⟩)
    refine wpAnyI_take (i := 6) (v := ?_) wide_fn (by kernel_rfl) rfl (by kernel_rfl) (by kernel_rfl) (by kernel_rfl) (fun _ _ _ h => h) HS0 (.inl ⟨by rfl, ?hy⟩) ?_
    case hy => intro w _; first | (go_simp; done) | (go_simp; rfl)
    refine wpAnyI_done (by kernel_rfl) (NoPanic.normal ?_) _
    go_wp2_with fail
    refine bodyPost_ret (v := .tuple #[.agg (bwV (b.set nx (mx + mn))), .iface 118 (.agg #[.int .i64 nx, .int .i64 mx, .int .i64 (mx + mn), .slice (some ⟨g, o, none⟩) x c, .int .i64 (mx + mn - du)])]) (results_cell_slot rfl rfl g1 Tryz.underlying149 rfl (by kernel_rfl) rfl) rfl ?_
    have hbk : backAt mn b kn = mx + mn := by unfold backAt; rw [HT.out.1, ← HM.out]
    rw [← HQ.out]
    refine ⟨_, by rw [hbk, if_pos hlt, sendB, hbk, HT.out.2], hBw7.trans ((((Turn.refl (fun _ => False) w7).drew).below (fun _ _ h => h) (by have := hBw7.size; omega)).trans (g2.below (by omega) (by have := hBw7.size; show w.heap.size ≤ w7.heap.size; omega)))⟩
  · have h0 : ¬ 0 < mx + mn - du := by omega
    go_wp2_with fail
    refine (wpIn_wide (n := 20)).1 ?_
    refine wpIn_region_heldN (S := (fun W : World => W.heap[w.heap.size + 1]? = some (.cells (bwV (b.set nx (mx + mn))) 149 (0, 0)) ∧ W.heap[w5.heap.size]? = some (.cells #[.int .i64 nx, .int .i64 mx, .int .i64 (mx + mn), .slice (some ⟨g, o, none⟩) x c] 116 (0, 0)))) hmo ?_
    have HS0 : (fun W : World => W.heap[w.heap.size + 1]? = some (.cells (bwV (b.set nx (mx + mn))) 149 (0, 0)) ∧ W.heap[w5.heap.size]? = some (.cells #[.int .i64 nx, .int .i64 mx, .int .i64 (mx + mn), .slice (some ⟨g, o, none⟩) x c] 116 (0, 0))) w7.drew := ⟨HW7.out.1, HW7.out.2.1⟩
    refine wpAnyI_take (i := 0) (v := .agg (bwV (b.set nx (mx + mn)))) wide_fn (by kernel_rfl) rfl (by kernel_rfl) (by kernel_rfl) (by kernel_rfl) (fun _ _ _ h => h) HS0 ?hy ?_
    case hy => exact yieldsIf_load_whole (by rfl) 149 (.tmp 4) rfl (w.heap.size + 1) rfl (fun w h => h.1) Tryz.underlying149 rfl (by kernel_rfl)
    refine wpAnyI_take (i := 1) (v := .agg #[.int .i64 nx, .int .i64 mx, .int .i64 (mx + mn), .slice (some ⟨g, o, none⟩) x c]) wide_fn (by kernel_rfl) rfl (by kernel_rfl) (by kernel_rfl) (by kernel_rfl) (fun _ _ _ h => h) HS0 ?hy ?_
    case hy => exact yieldsIf_load_whole (by rfl) 116 (.tmp 10) rfl w5.heap.size rfl (fun w h => h.2) Tryz.underlying116 rfl (by kernel_rfl)
    refine wpAnyI_take (i := 2) (v := ?_) wide_fn (by kernel_rfl) rfl (by kernel_rfl) (by kernel_rfl) (by kernel_rfl) (fun _ _ _ h => h) HS0 (.inl ⟨by rfl, ?hy⟩) ?_
    case hy => intro w _; first | (go_simp; done) | (go_simp; rfl)
    refine wpAnyI_take (i := 3) (v := ?_) wide_fn (by kernel_rfl) rfl (by kernel_rfl) (by kernel_rfl) (by kernel_rfl) (fun _ _ _ h => h) HS0 (.inl ⟨by rfl, ?hy⟩) ?_
    case hy => intro w _; first | (go_simp; done) | (go_simp; rfl)
    refine wpAnyI_one (i := 4) (by kernel_rfl) rfl (fun KK hKK => ?_)
    rw [if_pos (by rfl)]
    refine opIn_store_whole 149 (.tmp 6) (.tmp 55) rfl (w.heap.size + 1 + 1) (bwV (b.set nx (mx + mn))) rfl rfl (show w7.drew.heap[w.heap.size + 1 + 1]? = _ from HW7.out.2.2) (by kernel_rfl) rfl (by simp [Value.oneCell']) (fun W8 g1 g2 => ?_)
    refine hKK _ _ ⟨((Turn.of_but g2).heap HW7.out.1 (by omega)), ((Turn.of_but g2).heap HW7.out.2.1 (by omega))⟩ ?_
    clear hKK KK
    have HS0 := (show (fun W : World => W.heap[w.heap.size + 1]? = some (.cells (bwV (b.set nx (mx + mn))) 149 (0, 0)) ∧ W.heap[w5.heap.size]? = some (.cells #[.int .i64 nx, .int .i64 mx, .int .i64 (mx + mn), .slice (some ⟨g, o, none⟩) x c] 116 (0, 0))) W8 from ⟨((Turn.of_but g2).heap HW7.out.1 (by omega)), ((Turn.of_but g2).heap HW7.out.2.1 (by omega))⟩)
    refine wpAnyI_take (i := 5) (v := ?_) wide_fn (by kernel_rfl) rfl (by kernel_rfl) (by kernel_rfl) (by kernel_rfl) (fun _ _ _ h => h) HS0 (.inl ⟨by rfl, ?hy⟩) ?_
    case hy => intro w _; first | (go_simp; done) | (go_simp; rfl)
    refine wpAnyI_done (by kernel_rfl) (NoPanic.normal ?_) _
    go_wp2_with fail
    refine bodyPost_ret (v := .tuple #[.agg (bwV (b.set nx (mx + mn))), .iface 181 (.agg #[.int .i64 nx, .int .i64 mx, .int .i64 (mx + mn), .slice (some ⟨g, o, none⟩) x c])]) (results_cell_slot rfl rfl g1 Tryz.underlying149 rfl (by kernel_rfl) rfl) rfl ?_
    have hbk : backAt mn b kn = mx + mn := by unfold backAt; rw [HT.out.1, ← HM.out]
    rw [← HQ.out]
    refine ⟨_, by rw [hbk, if_neg (by omega), sendB, hbk, HT.out.2], hBw7.trans ((((Turn.refl (fun _ => False) w7).drew).below (fun _ _ h => h) (by have := hBw7.size; omega)).trans (g2.below (by omega) (by have := hBw7.size; show w.heap.size ≤ w7.heap.size; omega)))⟩

end Go.Proofs.YtoobopohohoidaaGreatDoor
