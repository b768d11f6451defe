/- BARROW: plans: extend. -/
/- BARROW: plans, an iterator. -/
import Derived.Test.YtoobopohohoidaaGreatDoorBG
import Derived.Test.YtoobopohohoidaaGreatDoorVT
import Derived.Test.YtoobopohohoidaaGreatDoorRng
import Derived.Test.YtoobopohohoidaaGreatDoorVZ0
set_option linter.unusedSimpArgs false
set_option linter.unusedVariables false
namespace Go.Proofs.YtoobopohohoidaaGreatDoor
open Go.RowKit Go.Maps Go.Shelf

attribute [local go_sem] Oper.semAt_some

set_option maxRecDepth 100000 in
theorem bclone_any (base k c : Nat) (A : Option Addr) (pre : List Nat) (w : World) (hk : pre.length = k) (hk8 : k ≤ 8) (h : w.ownsRow base 3 1 (.slice A k c) k (pre.map fun x : Nat => Value.int .i64 (x : Int))) :
    Calls Tryz.prog 33 #[.slice A k c] w fun e w' => ∃ (A' : Option Addr) (c' : Nat), e = .returned (.slice A' k c') ∧ Below w.heap.size w w' ∧ Ints w' w'.heap.size A' k (ofL pre) := by
  rcases h.2 with ⟨hE, h0⟩ | ⟨g, cap, cur, hE, h1, h2, h3, h4, h5, h6⟩
  · simp only [Value.slice.injEq] at hE
    obtain ⟨rfl, _, rfl⟩ := hE
    subst h0
    have heq : ∀ w, (binOp .eql 22 (.slice none 0 0) (.slice none 0 0)).run Tryz.prog w = .ok (.bool true) w := fun w => by kernel_rfl
    go_enter Tryz.func33, Tryz.ntmps33
    go_wp2
    go_ret
    exact ⟨none, ⟨0, rfl⟩, Below.refl _ _, fun h => absurd h (by omega)⟩
  · simp only [Value.slice.injEq] at hE
    obtain ⟨rfl, _, rfl⟩ := hE
    refine (vclone_any k c ⟨g, 0, none⟩ (ofL pre) w hk8 (Array.getElem?_eq_some_iff.1 h2).1 fun j hj => ?_).mono fun e w' ⟨A', c', a1, a2, a3, _⟩ => ⟨A', c', a1, a2, a3⟩
    have e1 : (⟨g, 0, none⟩ : Addr).add j = ⟨g, j, none⟩ := by simp [Addr.add]; omega
    have e2 : (List.take (k * 1) cur.toList)[j]? = some (.int .i64 (ofL pre j)) := by
      rw [h6, List.getElem?_map, List.getElem?_eq_getElem (by omega)]
      simp [ofL, show j < pre.length by omega]
    rw [e1, cellH h2]
    rw [List.getElem?_take_of_lt (by omega)] at e2
    rw [← Array.getElem?_toList]
    exact e2

theorem bext_result {tmps : Array Value} {rb : Nat} {v : Bool} {W : World} (h8 : tmps.getD 6 undef = .pointer (some ⟨rb, 0, none⟩)) (hb : W.heap[rb]? = some (.cells #[.bool v] 4 (0, 0))) :
    (results Tryz.f68 tmps).run Tryz.prog W = .ok (.bool v) W := by
  have hl : (loadVar 4 ⟨rb, 0, none⟩).run Tryz.prog W = .ok (.bool v) W := by
    have := cellH hb 0
    simp [loadVar, go_sem, this]
  have h8' : tmps[6]?.getD undef = .pointer (some ⟨rb, 0, none⟩) := by simpa using h8
  simp [results, Tryz.results68, h8', asAddr, hl]

/-- What extend's loop holds. -/
structure ExJ (N hb l : Nat) (HV : Array Value) (K : Nat → Prop) (ro : Option Nat) (pre : List Nat) (left z : Nat) (w W : World) : Prop where
  env : PE N hb l HV W
  plan : ∃ ro', PlanAt N ro' pre W ∧ RoStep (z + 6) ro ro'
  box : W.heap[z]? = some (.cells #[.int .i64 left] 3 (0, 0))
  res : W.heap[z + 1]? = some (.cells #[.bool false] 4 (0, 0))
  turn : Turn (ExtT N K ro) w W
theorem RoStep.apart {z : Nat} {ro ro' : Option Nat} (h : RoStep (z + 6) ro ro') (hro : ∀ g, ro = some g → g < z) {g : Nat} (e : ro' = some g) : g < z ∨ z + 6 ≤ g := by
  rcases h with rfl | ⟨g', rfl, hg⟩
  · exact .inl (hro g e)
  · simp at e; subst e; exact .inr hg
theorem ExJ.keep {N hb l : Nat} {HV : Array Value} {K : Nat → Prop} {ro : Option Nat} {pre : List Nat} {left z : Nat} {w W W' : World} {T : Nat → Prop} (h : ExJ N hb l HV K ro pre left z w W) (hT : Turn T W W') (hn : ∀ b, T b → z + 2 ≤ b ∧ b ≤ z + 5) (hz : w.heap.size = z) (hN : N + 4 ≤ z) (hbN : hb < N) (hro : ∀ g, ro = some g → g < z) :
    ExJ N hb l HV K ro pre left z w W' := by
  obtain ⟨ro', h1, h2⟩ := h.plan
  refine ⟨h.env.keep hT (fun h => by have := hn _ h; omega) (fun h => by have := hn _ h; omega) (fun h => by have := hn _ h; omega) (fun h => by have := hn _ h; omega), ⟨ro', h1.keep hT (fun h => by have := hn _ h; omega) (fun g e h => ?_), h2⟩, hT.heap h.box (fun h => by have := hn _ h; omega), hT.heap h.res (fun h => by have := hn _ h; omega), h.turn.then_new (hT.mono fun b _ h => by have := hn _ h; omega)⟩
  have := hn _ h
  have := h2.apart hro e
  omega
theorem ExJ.add {N hb l : Nat} {HV : Array Value} {K : Nat → Prop} {ro ro' : Option Nat} {pre : List Nat} {left z : Nat} {w W W' : World} (h : ExJ N hb l HV K ro pre left z w W) (h2 : RoStep (z + 6) ro ro') (h3 : PE N hb l HV W') (h4 : ∃ ro2, PlanAt N ro2 pre W' ∧ RoStep W.heap.size ro' ro2) (h5 : Turn (ExtT N K ro') W W') (hW : z + 6 ≤ W.heap.size) (hz : w.heap.size = z) (hN : N + 4 ≤ z)
    (hro : ∀ g, ro = some g → g < z) : ExJ N hb l HV K ro pre left z w W' ∧ ∀ b, ExtT N K ro' b → b < z ∧ b ≠ z ∨ z + 6 ≤ b := by
  have hx : ∀ b, ExtT N K ro' b → b < z ∧ b ≠ z ∨ z + 6 ≤ b := by
    rintro b (h | h | h)
    · omega
    · have := h2.apart hro h.symm; omega
    · omega
  obtain ⟨ro2, h6, h7⟩ := h4
  refine ⟨⟨h3, ⟨ro2, h6, h2.trans hW h7⟩, h5.heap h.box (fun h => by have := hx _ h; omega), h5.heap h.res (fun h => by have := hx _ h; omega), ExtT.trans h.turn ?_ h5⟩, hx⟩
  rcases h2 with rfl | ⟨g, rfl, hg⟩
  · exact .inl rfl
  · exact .inr ⟨g, rfl, by omega⟩

theorem ExJ.done {N hb l : Nat} {HV : Array Value} {K : Nat → Prop} {ro : Option Nat} {pre : List Nat} {left z : Nat} {w W W' : World} (h : ExJ N hb l HV K ro pre left z w W) (hT : Turn (fun b => z + 1 ≤ b ∧ b ≤ z + 5) W W') (hz : w.heap.size = z) (hN : N + 4 ≤ z) (hbN : hb < N) (hro : ∀ g, ro = some g → g < z) :
    PE N hb l HV W' ∧ (∃ ro', PlanAt N ro' pre W' ∧ RoStep w.heap.size ro ro') ∧ Turn (ExtT N K ro) w W' := by
  obtain ⟨ro', h1, h2⟩ := h.plan
  refine ⟨h.env.keep hT (fun h => by omega) (fun h => by omega) (fun h => by omega) (fun h => by omega), ⟨ro', h1.keep hT (fun h => by omega) (fun g e h => ?_), ?_⟩, h.turn.then_new (hT.mono fun b _ h => by omega)⟩
  · have := h2.apart hro e
    omega
  · rcases h2 with rfl | ⟨g, rfl, hg⟩
    · exact .inl rfl
    · exact .inr ⟨g, rfl, by omega⟩
theorem ExJ.set {N hb l : Nat} {HV : Array Value} {K : Nat → Prop} {ro : Option Nat} {pre : List Nat} {left z : Nat} {w W : World} (h : ExJ N hb l HV K ro pre left z w W) (hz : w.heap.size = z) (hN : N + 4 ≤ z) (hbN : hb < N) (hro : ∀ g, ro = some g → g < z) :
    ExJ N hb l HV K ro pre left z w (W.setCell ⟨z + 1, 0, none⟩ (.bool false)) := by
  have hT : Turn (fun b => b = z + 1) W (W.setCell ⟨z + 1, 0, none⟩ (.bool false)) := Turn.of_but ((But.refl (z + 1) W).set 0 _)
  obtain ⟨ro', h1, h2⟩ := h.plan
  refine ⟨h.env.keep hT (by omega) (by omega) (by omega) (by omega), ⟨ro', h1.keep hT (by omega) (fun g e h => ?_), h2⟩, hT.heap h.box (by omega), setH h.res 0 _, h.turn.then_new (hT.mono fun b _ h => by omega)⟩
  have := h2.apart hro e
  omega

set_option maxRecDepth 100000 in
set_option maxHeartbeats 8000000 in
theorem bextend_any (N hb l ld M : Nat) (HV : Array Value) (K : Nat → Prop) (PL : Nat → List Nat) (J : Nat → World → Prop) (Jx : World → Prop) (hbN : hb < N) (hKh : K hb) (hHV : HV[8]? = some (.int .i64 ld)) (hld : 1 ≤ ld ∧ ld ≤ 3)
    (hJ : ∀ i W W', J i W → Turn (fun b => N ≤ b) W W' → J i W') (hJx : ∀ W W', Jx W → Turn (fun b => N ≤ b) W W' → Jx W')
    (hY : ∀ i v W mm, i < M → (∃ (A : Option Addr) (c : Nat), v = #[.slice A (PL i).length c] ∧ Ints W W.heap.size A (PL i).length (ofL (PL i))) → J i W → YieldAt .wide mm Tryz.prog l v W fun e W' =>
      (e = .returned (.bool true) ∧ J (i + 1) W' ∧ Turn (fun b => b < N ∧ ¬ K b) W W') ∨ (e = .returned (.bool false) ∧ Jx W' ∧ Turn (fun b => b < N ∧ ¬ K b) W W')) :
    ∀ (left : Nat) (pre : List Nat) (ro : Option Nat) (i0 : Nat) (w : World), left + pre.length ≤ 8 → (∀ j, j < (plansL ld left).length → i0 + j < M ∧ PL (i0 + j) = pre ++ (plansL ld left).getD j []) → PE N hb l HV w → PlanAt N ro pre w → J i0 w →
      Calls Tryz.prog 68 #[.int .i64 left, .pointer (some ⟨N, 0, none⟩), .pointer (some ⟨N + 1, 0, none⟩), .pointer (some ⟨hb, 0, none⟩), .pointer (some ⟨N + 3, 0, none⟩)] w (ExtP N hb l HV K J Jx pre ro (i0 + (plansL ld left).length) w) := by
  intro left
  induction left using Nat.strongRecOn with
  | ind left ih =>
    intro pre ro i0 w hlen hval h1 h2 h0
    obtain ⟨hN4, hhb⟩ := h1.lt
    obtain ⟨w2, hw2⟩ : ∃ w2, (w.alloc (.cells #[.int .i64 left] 3)).alloc (.cells #[.bool false] 4) = w2 := ⟨_, rfl⟩
    have hT2 : ∀ T, Turn T w w2 := fun T => hw2 ▸ ((Turn.refl T w).alloc _).alloc _
    have hz2 : w2.heap.size = w.heap.size + 2 := by rw [← hw2]; simp
    have b0 : w2.heap[w.heap.size]? = some (.cells #[.int .i64 left] 3 (0, 0)) := by rw [← hw2]; exact heap_old _ (heap_alloc_new w _)
    have b1 : w2.heap[w.heap.size + 1]? = some (.cells #[.bool false] 4 (0, 0)) := by
      have := heap_alloc_new (w.alloc (.cells #[.int .i64 left] 3)) (.cells #[.bool false] 4)
      rw [World.size_alloc, hw2] at this
      exact this
    have h12 := h1.keep (hT2 (fun _ => False)) (fun h => h) (fun h => h) (fun h => h) (fun h => h)
    have h22 := h2.keep (hT2 (fun _ => False)) (fun h => h) (fun _ _ h => h)
    have h02 := hJ _ _ _ h0 (hT2 _)
    obtain ⟨q, hq⟩ : ∃ q, ExtP N hb l HV K J Jx pre ro (i0 + (plansL ld left).length) w = q := ⟨_, rfl⟩
    rw [hq]
    have HQ := Go.Lib.hid hq
    have HJ := Go.Lib.hid (And.intro hJ hJx)
    have HY := Go.Lib.hid hY
    have HV8 := Go.Lib.hid hHV
    have HIH := Go.Lib.hid ih
    have HVAL := Go.Lib.hid hval
    have H1 := Go.Lib.hid h12
    have H2 := Go.Lib.hid h22
    have H0 := Go.Lib.hid h02
    have HB := Go.Lib.hid (And.intro b0 b1)
    have HLD := Go.Lib.hid hld
    have c0 : w2.cell? ⟨w.heap.size, 0, none⟩ = some (.int .i64 left) := cellH b0 0
    have cr : w2.cell? ⟨w.heap.size + 1, 0, none⟩ = some (.bool false) := cellH b1 0
    have hro : ∀ g, ro = some g → g < w.heap.size := fun g e => by subst e; exact h2.row.2
    have HRO := Go.Lib.hid hro
    clear hq hJ hJx hY hHV ih hval h12 h22 h02 b0 b1 h1 h2 h0 hld hro
    refine (callsIn_wide (n := 20)).1 ?_
    refine callsIn_of_wp_marks Tryz.func68 rfl trivial ?_ rfl
    simp only [Tryz.ntmps68, List.size_toArray, List.length_cons, List.length_nil, Nat.reduceAdd, Nat.reduceSub, Array.replicate_succ, Array.replicate_zero, List.push_toArray, List.append_toArray, List.nil_append, List.cons_append]
    have hmo : Tryz.prog.follows .mixedOrders = true := by kernel_rfl
    by_cases hl0 : left = 0
    · subst hl0
      gi_wp2
      change Code.wpIn _ _ _ _ _ _ ((w.alloc (.cells #[.int .i64 ((0 : Nat) : Int)] 3)).alloc (.cells #[.bool false] 4))
      rw [hw2]
      obtain ⟨A, c, hp1, hp2, hp3⟩ := id H2.out
      obtain ⟨k, hk⟩ : ∃ k, pre.length = k := ⟨_, rfl⟩
      rw [hk] at hp1 hp2
      have e1 : plansL ld 0 = [[]] := plans_zero ld
      obtain ⟨hM0, hv1⟩ := HVAL.out 0 (by rw [e1]; simp)
      rw [e1] at hv1
      have hv2 : PL i0 = pre := by have := hv1; rw [Nat.add_zero] at this; rw [this]; simp
      rw [Nat.add_zero] at hM0
      refine wpIn_region_heldN (S := (fun W : World => W.cell? ⟨N, 0, none⟩ = some (.func (.yield l) #[] #[]) ∧ W.cell? ⟨N + 1, 0, none⟩ = some (.slice A k c))) hmo ?_
      have HS0 : (fun W : World => W.cell? ⟨N, 0, none⟩ = some (.func (.yield l) #[] #[]) ∧ W.cell? ⟨N + 1, 0, none⟩ = some (.slice A k c)) w2.drew := ⟨cellH H1.out.yld 0, cellH hp1 0⟩
      refine wpAnyI_take (i := 0) (v := ?_) wide_fn (by kernel_rfl) rfl (by kernel_rfl) (by kernel_rfl) (by kernel_rfl) (fun _ _ _ h => h) HS0 (.inl ⟨by rfl, ?hy⟩) ?_
      case hy => rintro w ⟨e1, e2⟩; first | (go_simp; done) | (go_simp; rfl)
      refine wpAnyI_take (i := 1) (v := ?_) wide_fn (by kernel_rfl) rfl (by kernel_rfl) (by kernel_rfl) (by kernel_rfl) (fun _ _ _ h => h) HS0 (.inl ⟨by rfl, ?hy⟩) ?_
      case hy => rintro w ⟨e1, e2⟩; first | (go_simp; done) | (go_simp; rfl)
      refine wpAnyI_one (i := 2) (by kernel_rfl) rfl (fun KK hKK => ?_)
      go_simp
      refine ⟨trivial, (callsIn_wide.2 (bclone_any (N + 4) k c A pre w2.drew hk (by omega) hp2)).mono ?_⟩
      rintro e w3 ⟨A', c', rfl, hB3, hI3⟩
      have hT3 : ∀ T, Turn T w2 w3 := fun T => ((Turn.refl T w2).drew).trans (Turn.of_below' hB3 T)
      have HS3 : (fun W : World => W.cell? ⟨N, 0, none⟩ = some (.func (.yield l) #[] #[]) ∧ W.cell? ⟨N + 1, 0, none⟩ = some (.slice A k c)) w3 := ⟨cellH ((hT3 (fun _ => False)).heap H1.out.yld (fun h => h)) 0, cellH ((hT3 (fun _ => False)).heap hp1 (fun h => h)) 0⟩
      refine hKK _ _ HS3 ?_
      clear hKK KK
      refine wpAnyI_one (i := 3) (by kernel_rfl) rfl (fun KK hKK => ?_)
      have hJ3 := HJ.out.1 _ _ _ H0.out (hT3 _)
      obtain ⟨fn, tmps, assign, body, hy, hR⟩ := HY.out i0 #[.slice A' k c'] w3 19 hM0 ⟨A', c', by rw [hv2, hk], by rw [hv2, hk]; exact hI3⟩ hJ3
      go_simp
      refine RoundIn.mono hR ?_
      rintro e W3 (⟨rfl, hJ4, hk3⟩ | ⟨rfl, hJ4, hk3⟩)
      · have hb3 : W3.heap[w.heap.size + 1]? = some (.cells #[.bool false] 4 (0, 0)) := hk3.heap ((hT3 (fun _ => False)).heap HB.out.2 (fun h => h)) (by omega)
        have HS4 : (fun W : World => W.cell? ⟨N, 0, none⟩ = some (.func (.yield l) #[] #[]) ∧ W.cell? ⟨N + 1, 0, none⟩ = some (.slice A k c)) W3 := ⟨cellH (hk3.heap ((hT3 (fun _ => False)).heap H1.out.yld (fun h => h)) (by omega)) 0, cellH (hk3.heap ((hT3 (fun _ => False)).heap hp1 (fun h => h)) (by omega)) 0⟩
        have hPE3 := (H1.out.keep (hT3 (fun _ => False)) (fun h => h) (fun h => h) (fun h => h) (fun h => h)).keep hk3 (fun h => h.2 hKh) (by omega) (by omega) (by omega)
        have hPL3 := (H2.out.keep (hT3 (fun _ => False)) (fun h => h) (fun _ _ h => h)).keep hk3 (by omega) (fun g e h => by subst e; have := H2.out.row; omega)
        refine hKK _ _ HS4 ?_
        clear hKK KK
        refine wpAnyI_one (i := 4) (by kernel_rfl) rfl (fun KK hKK => ?_)
        have cr3 : W3.cell? ⟨w.heap.size + 1, 0, none⟩ = some (.bool false) := cellH hb3 0
        have fr3 : W3.frozen? ⟨w.heap.size + 1, 0, none⟩ = false := freeH hb3 0
        go_simp
        have hS5 : Turn (fun b => b = w.heap.size + 1) W3 (W3.setCell ⟨w.heap.size + 1, 0, none⟩ (.bool true)) := Turn.of_but ((But.refl (w.heap.size + 1) W3).set 0 _)
        have HS5 : (fun W : World => W.cell? ⟨N, 0, none⟩ = some (.func (.yield l) #[] #[]) ∧ W.cell? ⟨N + 1, 0, none⟩ = some (.slice A k c)) (W3.setCell ⟨w.heap.size + 1, 0, none⟩ (.bool true)) := ⟨(hS5.cell (p := ⟨N, 0, none⟩) (by have := (Array.getElem?_eq_some_iff.1 hb3).1; show N < _; omega) (by show ¬ N = _; omega)).trans HS4.1, (hS5.cell (p := ⟨N + 1, 0, none⟩) (by have := (Array.getElem?_eq_some_iff.1 hb3).1; show N + 1 < _; omega) (by show ¬ N + 1 = _; omega)).trans HS4.2⟩
        refine hKK _ _ HS5 ?_
        clear hKK KK
        refine wpAnyI_done (by kernel_rfl) (NoPanic.normal ?_) _
        have hb6 := setH hb3 0 (.bool true)
        have HB6 := Go.Lib.hid hb6
        have HF := Go.Lib.hid (And.intro (hPE3.keep hS5 (by omega) (by omega) (by omega) (by omega)) (And.intro (hPL3.keep hS5 (by omega) (fun g e h => by have := HRO.out g e; omega)) (((hT2 (ExtT N K ro)).trans ((hT3 _).trans (hk3.mono fun b _ h => .inr (.inr h)))).then_new (hS5.mono fun b _ h => by omega))))
        gi_wp2
        rw [← HQ.out]
        refine ⟨_, bext_result rfl HB6.out, ?_, HF.out.1, ⟨ro, HF.out.2.1, .inl rfl⟩, HF.out.2.2⟩
        exact .inl ⟨rfl, by rw [e1]; exact HJ.out.1 _ _ _ hJ4 (hS5.mono fun b _ h => by omega)⟩
      · have hb3 : W3.heap[w.heap.size + 1]? = some (.cells #[.bool false] 4 (0, 0)) := hk3.heap ((hT3 (fun _ => False)).heap HB.out.2 (fun h => h)) (by omega)
        have HS4 : (fun W : World => W.cell? ⟨N, 0, none⟩ = some (.func (.yield l) #[] #[]) ∧ W.cell? ⟨N + 1, 0, none⟩ = some (.slice A k c)) W3 := ⟨cellH (hk3.heap ((hT3 (fun _ => False)).heap H1.out.yld (fun h => h)) (by omega)) 0, cellH (hk3.heap ((hT3 (fun _ => False)).heap hp1 (fun h => h)) (by omega)) 0⟩
        have hPE3 := (H1.out.keep (hT3 (fun _ => False)) (fun h => h) (fun h => h) (fun h => h) (fun h => h)).keep hk3 (fun h => h.2 hKh) (by omega) (by omega) (by omega)
        have hPL3 := (H2.out.keep (hT3 (fun _ => False)) (fun h => h) (fun _ _ h => h)).keep hk3 (by omega) (fun g e h => by subst e; have := H2.out.row; omega)
        refine hKK _ _ HS4 ?_
        clear hKK KK
        refine wpAnyI_one (i := 4) (by kernel_rfl) rfl (fun KK hKK => ?_)
        have cr3 : W3.cell? ⟨w.heap.size + 1, 0, none⟩ = some (.bool false) := cellH hb3 0
        have fr3 : W3.frozen? ⟨w.heap.size + 1, 0, none⟩ = false := freeH hb3 0
        go_simp
        have hS5 : Turn (fun b => b = w.heap.size + 1) W3 (W3.setCell ⟨w.heap.size + 1, 0, none⟩ (.bool false)) := Turn.of_but ((But.refl (w.heap.size + 1) W3).set 0 _)
        have HS5 : (fun W : World => W.cell? ⟨N, 0, none⟩ = some (.func (.yield l) #[] #[]) ∧ W.cell? ⟨N + 1, 0, none⟩ = some (.slice A k c)) (W3.setCell ⟨w.heap.size + 1, 0, none⟩ (.bool false)) := ⟨(hS5.cell (p := ⟨N, 0, none⟩) (by have := (Array.getElem?_eq_some_iff.1 hb3).1; show N < _; omega) (by show ¬ N = _; omega)).trans HS4.1, (hS5.cell (p := ⟨N + 1, 0, none⟩) (by have := (Array.getElem?_eq_some_iff.1 hb3).1; show N + 1 < _; omega) (by show ¬ N + 1 = _; omega)).trans HS4.2⟩
        refine hKK _ _ HS5 ?_
        clear hKK KK
        refine wpAnyI_done (by kernel_rfl) (NoPanic.normal ?_) _
        have hb6 := setH hb3 0 (.bool false)
        have HB6 := Go.Lib.hid hb6
        have HF := Go.Lib.hid (And.intro (hPE3.keep hS5 (by omega) (by omega) (by omega) (by omega)) (And.intro (hPL3.keep hS5 (by omega) (fun g e h => by have := HRO.out g e; omega)) (((hT2 (ExtT N K ro)).trans ((hT3 _).trans (hk3.mono fun b _ h => .inr (.inr h)))).then_new (hS5.mono fun b _ h => by omega))))
        gi_wp2
        rw [← HQ.out]
        refine ⟨_, bext_result rfl HB6.out, ?_, HF.out.1, ⟨ro, HF.out.2.1, .inl rfl⟩, HF.out.2.2⟩
        exact .inr ⟨rfl, HJ.out.2 _ _ hJ4 (hS5.mono fun b _ h => by omega)⟩
    · have hlne : ((left : Int) == 0) = false := by simp; omega
      obtain ⟨q1, q2⟩ := HLD.out
      have ch : w2.cell? ⟨hb, 8, none⟩ = some (.int .i64 ld) := (cellH H1.out.haul 8).trans HV8.out
      obtain ⟨m, hm⟩ : ∃ m, min ld left = m := ⟨_, rfl⟩
      have hm1 : (if (left : Int) < (ld : Int) then (left : Int) else (ld : Int)) = (m : Int) := by split <;> omega
      have hm2 : (if left < ld then (left : Int) else (ld : Int)) = (m : Int) := by split <;> omega
      have HM := Go.Lib.hid hm
      clear hm
      gi_wp2_with (first
        | (refine ⟨trivial, (callsIn_wide.2 (bnumbers_any 1 _ _)).mono ?_⟩; rintro e w' ⟨rfl, rfl⟩))
      change Code.wpIn _ _ _ _ _ _ ((w2.alloc (.cells #[.int .i64 1] 3)).alloc (.cells #[.int .i64 m] 3))
      obtain ⟨lf, hlf⟩ : ∃ lf, left = lf + 1 := ⟨left - 1, by omega⟩
      have hm := HM.out
      have f0 : ((w2.alloc (.cells #[.int .i64 1] 3)).alloc (.cells #[.int .i64 m] 3)).heap[w.heap.size + 2]? = some (.cells #[.int .i64 1] 3 (0, 0)) := by
        have := heap_old (.cells #[.int .i64 m] 3) (heap_alloc_new w2 (.cells #[.int .i64 1] 3))
        rwa [hz2] at this
      have f1 : ((w2.alloc (.cells #[.int .i64 1] 3)).alloc (.cells #[.int .i64 m] 3)).heap[w.heap.size + 3]? = some (.cells #[.int .i64 m] 3 (0, 0)) := by
        have := heap_alloc_new (w2.alloc (.cells #[.int .i64 1] 3)) (.cells #[.int .i64 m] 3)
        rwa [World.size_alloc, hz2] at this
      have hT3 : ∀ T, Turn T w2 ((w2.alloc (.cells #[.int .i64 1] 3)).alloc (.cells #[.int .i64 m] 3)) := fun T => ((Turn.refl T w2).alloc _).alloc _
      have hz3 : ((w2.alloc (.cells #[.int .i64 1] 3)).alloc (.cells #[.int .i64 m] 3)).heap.size = w.heap.size + 4 := by simp; omega
      obtain ⟨W3, hW3⟩ : ∃ W3, (w2.alloc (.cells #[.int .i64 1] 3)).alloc (.cells #[.int .i64 m] 3) = W3 := ⟨_, rfl⟩
      rw [hW3] at f0 f1 hT3 hz3 ⊢
      clear hW3
      obtain ⟨z, hz⟩ : ∃ z, w.heap.size = z := ⟨_, rfl⟩
      rw [hz] at f0 f1 hz3 ⊢
      have hN5 : N + 4 ≤ z := by omega
      have hEx : ExJ N hb l HV K ro pre left z w W3 := by
        have b0 := HB.out.1
        have b1 := HB.out.2
        rw [hz] at b0 b1
        exact ⟨H1.out.keep (hT3 (fun _ => False)) (fun h => h) (fun h => h) (fun h => h) (fun h => h), ⟨ro, H2.out.keep (hT3 (fun _ => False)) (fun h => h) (fun _ _ h => h), .inl rfl⟩, (hT3 (fun _ => False)).heap b0 (fun h => h), (hT3 (fun _ => False)).heap b1 (fun h => h), (hT2 _).trans (hT3 _)⟩
      have hroz : ∀ g, ro = some g → g < z := fun g e => hz ▸ HRO.out g e
      obtain ⟨f, hf⟩ : ∃ f : Nat → List (List Nat), (fun i => (plansL ld (lf - i)).map ((i + 1) :: ·)) = f := ⟨_, rfl⟩
      have hpl : plansL ld left = (List.range m).flatMap f := by rw [hlf, plans_succ, hf, ← hlf, hm]
      have HF := Go.Lib.hid (And.intro hlf (And.intro hm (And.intro hf hpl)))
      clear hlf hm hf hpl
      have hit : ∀ W, Turn (fun _ => False) W3 W → W.heap.size = W3.heap.size + 2 → IterA Tryz.prog 89 #[.pointer (some ⟨z + 2 + 1, 0, none⟩), .pointer (some ⟨z + 2, 0, none⟩)] m (fun i v _ => v = numV i) (fun _ => False) (fun b => b ≠ z + 2) (fun _ => True) W := fun W hT _ =>
        bnumbers_iter (z + 2) (z + 3) m W (by omega) (hT.heap f0 (fun h => h)) (hT.heap f1 (fun h => h))
      refine range_iterA (P := Tryz.prog) (f := 89) (lb := #[.pointer (some ⟨z + 2 + 1, 0, none⟩), .pointer (some ⟨z + 2, 0, none⟩)]) (m := m) (ok := fun i v _ => v = numV i) (A := fun _ => False) (U := fun b => b ≠ z + 2) (Z := fun _ => True)
        (fun l W => by simp only [resolve]; simp [go_sem]) (fun l W => by simp [invoke, go_sem, enters_of Tryz.func89 (by kernel_rfl) rfl])
        (fun i v W _ h => by rw [h]; rfl) (fun h => h) (fun h => h) (by rw [hz3]; omega) hit
        (fun i W => ExJ N hb l HV K ro pre left z w W ∧ J (i0 + offF f i) W) (fun c W => c = .ret ∧ ExJ N hb l HV K ro pre left z w W ∧ Jx W)
        (fun i a1 W => (ExJ N hb l HV K ro pre left z w W ∧ J (i0 + offF f i) W) ∧ a1 = { tmps := #[.int .i64 left, .pointer (some ⟨N, 0, none⟩), .pointer (some ⟨N + 1, 0, none⟩), .pointer (some ⟨hb, 0, none⟩), .pointer (some ⟨N + 3, 0, none⟩), .pointer (some ⟨z, 0, none⟩), .pointer (some ⟨z + 1, 0, none⟩), .int .i64 ((i : Int) + 1), .int .i64 left, .bool false, undef, undef, undef, undef, .pointer (some ⟨hb, 0, none⟩), .pointer (some ⟨hb, 8, none⟩), .int .i64 ld, .int .i64 left, .int .i64 m, .func (.func 89) #[] #[.pointer (some ⟨z + 2 + 1, 0, none⟩), .pointer (some ⟨z + 2, 0, none⟩)], .int .i64 ((i : Int) + 1), undef, undef, undef, undef, undef], defers := [] })
        (fun i W W' h ht => ⟨h.1.keep ht (fun b hb => by rcases hb with hb | hb | hb <;> first | omega | exact hb.elim) hz hN5 hbN hroz, HJ.out.1 _ _ _ h.2 (ht.mono fun b _ hb => by rcases hb with hb | hb | hb <;> first | omega | exact hb.elim)⟩)
        (fun c W W' h ht => ⟨h.1, h.2.1.keep ht (fun b hb => by rcases hb with hb | hb | hb <;> first | omega | exact hb.elim) hz hN5 hbN hroz, HJ.out.2 _ _ h.2.2 (ht.mono fun b _ hb => by rcases hb with hb | hb | hb <;> first | omega | exact hb.elim)⟩)
        (fun i a1 W W' h ht => ⟨⟨h.1.1.keep ht (fun b hb => by omega) hz hN5 hbN hroz, HJ.out.1 _ _ _ h.1.2 (ht.mono fun b _ hb => by omega)⟩, h.2⟩)
        (fun _ _ _ _ => trivial)
        ⟨hEx, by rw [offF_zero]; exact HJ.out.1 _ _ _ H0.out (hT3 _)⟩ ?asg ?bdy ?dne ?stp
      case asg =>
        rintro i v W C hi rfl hJW hzW hC
        gi_wp2
        exact hC _ _ ⟨hJW, rfl⟩ (Turn.refl _ _)
      case bdy =>
        rintro i a1 W hi ⟨rc, hrl⟩ hrd ⟨⟨hJW, hJi⟩, rfl⟩
        obtain ⟨hlf, hm, hf, hpl⟩ := HF.out
        obtain ⟨ro', hp1, hp2⟩ := hJW.plan
        have hzW : z + 6 ≤ W.heap.size := by have := (Array.getElem?_eq_some_iff.1 hrl).1; omega
        have ca : W.cell? ⟨N + 3, 0, none⟩ = some (.func (.func 66) #[] #[.pointer (some ⟨N + 1, 0, none⟩), .pointer (some ⟨N + 2, 0, none⟩)]) := cellH hJW.env.add 0
        have cl : W.cell? ⟨z, 0, none⟩ = some (.int .i64 left) := cellH hJW.box 0
        have hfi : f i = (plansL ld (left - (i + 1))).map ((i + 1) :: ·) := by
          rw [← hf, hlf]
          have : lf + 1 - (i + 1) = lf - i := by omega
          rw [this]
        have hfl : (f i).length = (plansL ld (left - (i + 1))).length := by rw [hfi, List.length_map]
        have HADD := Go.Lib.hid (badd_any N hb l HV K J Jx (i + 1) left pre ro' (i0 + offF f i + (plansL ld (left - (i + 1))).length) W (by omega) (by omega) (by omega) (by omega) hbN hKh HJ.out.1 HJ.out.2
          (fun ro1 w1 hT1 hPE1 hPL1 => HIH.out (left - (i + 1)) (by omega) (pre ++ [i + 1]) ro1 (i0 + offF f i) w1 (by rw [List.length_append]; simp; omega) (fun j hj => by
            have hj' : j < (f i).length := by rw [hfl]; exact hj
            have h1 := HVAL.out (offF f i + j) (by rw [hpl]; exact flat_lt f hi hj')
            rw [hpl, flat_get f hi hj' [], hfi] at h1
            have e2 : i0 + (offF f i + j) = i0 + offF f i + j := by omega
            rw [e2] at h1
            refine ⟨h1.1, h1.2.trans ?_⟩
            rw [List.getD_eq_getElem?_getD, List.getElem?_map, List.getElem?_eq_getElem hj, List.getD_eq_getElem?_getD, List.getElem?_eq_getElem hj]
            simp) hPE1 hPL1 (HJ.out.1 _ _ _ hJi hT1)) hJW.env hp1)
        have HJW := Go.Lib.hid hJW
        have HZW := Go.Lib.hid hzW
        have HP2 := Go.Lib.hid hp2
        have HFL := Go.Lib.hid hfl
        have ex : ((i + 1 : Nat) : Int) = (i : Int) + 1 := by omega
        rw [ex] at HADD
        clear hlf hm hf hpl hJW hp1 hp2 hfi hfl hit hrl hrd hEx ex hzW
        gi_wp2_with (first
          | (refine ⟨trivial, (callsIn_wide.2 HADD.out).mono ?_⟩))
        rintro e W4 ⟨⟨rfl, hr⟩ | ⟨rfl, hr⟩, hPE4, hPL4, hT4⟩
        · have hx := HJW.out.add HP2.out hPE4 hPL4 hT4 HZW.out hz hN5 hroz
          have HX := Go.Lib.hid hx
          have HR := Go.Lib.hid hr
          have HT4 := Go.Lib.hid hT4
          clear hx hr hPE4 hPL4 hT4
          gi_wp2
          refine ⟨⟨HX.out.1, by rw [offF_succ, HFL.out, ← Nat.add_assoc]; exact HR.out⟩, HT4.out.mono fun b _ h => ?_⟩
          have := HX.out.2 b h
          exact ⟨by omega, by omega, by omega⟩
        · have hx := HJW.out.add HP2.out hPE4 hPL4 hT4 HZW.out hz hN5 hroz
          have cr4 : W4.cell? ⟨z + 1, 0, none⟩ = some (.bool false) := cellH hx.1.res 0
          have fr4 : W4.frozen? ⟨z + 1, 0, none⟩ = false := freeH hx.1.res 0
          have HX := Go.Lib.hid hx
          have HR := Go.Lib.hid hr
          have HT4 := Go.Lib.hid hT4
          clear hx hr hPE4 hPL4 hT4
          gi_wp2
          have hS : Turn (fun b => b = z + 1) W4 (W4.setCell ⟨z + 1, 0, none⟩ (.bool false)) := Turn.of_but ((But.refl (z + 1) W4).set 0 _)
          refine ⟨⟨rfl, HX.out.1.set hz hN5 hbN hroz, HJ.out.2 _ _ HR.out (hS.mono fun b _ h => by omega)⟩, (HT4.out.mono fun b _ h => ?_).trans (hS.mono fun b _ h => ⟨by omega, by omega, by omega⟩)⟩
          have := HX.out.2 b h
          exact ⟨by omega, by omega, by omega⟩
      case dne =>
        rintro W ⟨hJm, hJi⟩ _ hdd
        have cr : W.cell? ⟨z + 1, 0, none⟩ = some (.bool false) := cellH hJm.res 0
        have fr : W.frozen? ⟨z + 1, 0, none⟩ = false := freeH hJm.res 0
        have HJM := Go.Lib.hid hJm
        have HJI := Go.Lib.hid hJi
        clear hJm hJi hit hEx
        gi_wp2
        have hS : Turn (fun b => b = z + 1) W (W.setCell ⟨z + 1, 0, none⟩ (.bool true)) := Turn.of_but ((But.refl (z + 1) W).set 0 _)
        have hP : Turn (fun b => b = W3.heap.size) (W.setCell ⟨z + 1, 0, none⟩ (.bool true)) ((W.setCell ⟨z + 1, 0, none⟩ (.bool true)).putObj W3.heap.size (.deferred none)) := (Turn.refl (fun b => b = W3.heap.size) _).putObj (show W3.heap.size = W3.heap.size from rfl) _
        have hSP : Turn (fun b => z + 1 ≤ b ∧ b ≤ z + 5) W ((W.setCell ⟨z + 1, 0, none⟩ (.bool true)).putObj W3.heap.size (.deferred none)) := (hS.mono fun b _ h => by omega).trans (hP.mono fun b _ h => by omega)
        have hb9 := hP.heap (setH HJM.out.res 0 (.bool true)) (by omega)
        obtain ⟨k1, k2, k3⟩ := HJM.out.done hSP hz hN5 hbN hroz
        refine ⟨by simp, .inl ⟨_, _, rfl, run_takeDeferred (hS.heap hdd (by omega)), ?_⟩⟩
        rw [← HQ.out]
        refine ⟨_, bext_result rfl hb9, .inl ⟨rfl, ?_⟩, k1, k2, k3⟩
        have e9 : i0 + (plansL ld left).length = i0 + offF f m := by rw [HF.out.2.2.2]; rfl
        rw [e9]
        exact HJ.out.1 _ _ _ HJI.out (hSP.mono fun b _ h => by omega)
      case stp =>
        rintro c W ⟨rfl, hJm, hJi⟩ _ hdd
        have HJM := Go.Lib.hid hJm
        have HJI := Go.Lib.hid hJi
        clear hJm hJi hit hEx
        gi_wp2
        have hP : Turn (fun b => b = W3.heap.size) W (W.putObj W3.heap.size (.deferred none)) := (Turn.refl (fun b => b = W3.heap.size) _).putObj (show W3.heap.size = W3.heap.size from rfl) _
        have hSP : Turn (fun b => z + 1 ≤ b ∧ b ≤ z + 5) W (W.putObj W3.heap.size (.deferred none)) := hP.mono fun b _ h => by omega
        have hb9 := hP.heap HJM.out.res (by omega)
        obtain ⟨k1, k2, k3⟩ := HJM.out.done hSP hz hN5 hbN hroz
        refine ⟨by simp, .inl ⟨_, _, rfl, run_takeDeferred hdd, ?_⟩⟩
        rw [← HQ.out]
        exact ⟨_, bext_result rfl hb9, .inr ⟨rfl, HJ.out.2 _ _ HJI.out (hSP.mono fun b _ h => by omega)⟩, k1, k2, k3⟩

end Go.Proofs.YtoobopohohoidaaGreatDoor

namespace Go.Proofs.YtoobopohohoidaaGreatDoor
open Go.RowKit Go.Maps Go.Shelf

attribute [local go_sem] Oper.semAt_some
@[local go_sem] theorem run_store_funcJ {P : Program} {w : World} {a : Addr} {m : Mode} (fn : Fn) (first captured : Array Value) : (store a (.func fn first captured) m).run P w = stored P w a (.func fn first captured) m := run_store P w a _ m rfl

theorem heaps4J (w : World) (A B C D : Array Value) (tA tB tC tD : TypeId) {W : World} (hW : (((w.alloc (.cells A tA)).alloc (.cells B tB)).alloc (.cells C tC)).alloc (.cells D tD) = W) :
    W.heap[w.heap.size]? = some (.cells A tA (0, 0)) ∧ W.heap[w.heap.size + 1]? = some (.cells B tB (0, 0)) ∧ W.heap[w.heap.size + 2]? = some (.cells C tC (0, 0)) ∧ W.heap[w.heap.size + 3]? = some (.cells D tD (0, 0)) ∧ (∀ T, Turn T w W) ∧ W.heap.size = w.heap.size + 4 := by
  subst hW
  have h1 := heap_alloc_new w (.cells A tA)
  have h2 := heap_alloc_new (w.alloc (.cells A tA)) (.cells B tB)
  have h3 := heap_alloc_new ((w.alloc (.cells A tA)).alloc (.cells B tB)) (.cells C tC)
  have h4 := heap_alloc_new (((w.alloc (.cells A tA)).alloc (.cells B tB)).alloc (.cells C tC)) (.cells D tD)
  simp only [World.size_alloc] at h2 h3 h4
  exact ⟨heap_old _ (heap_old _ (heap_old _ h1)), heap_old _ (heap_old _ h2), heap_old _ h3, h4, fun T => ((((Turn.refl T w).alloc _).alloc _).alloc _).alloc _, by simp⟩

/-- What plans yields. -/
abbrev planOk (ld n : Nat) (i : Nat) (v : Array Value) (W : World) : Prop :=
  ∃ (A : Option Addr) (c : Nat), v = #[.slice A ((plansL ld n).getD i []).length c] ∧ Ints W W.heap.size A ((plansL ld n).getD i []).length (ofL ((plansL ld n).getD i []))

set_option maxRecDepth 100000 in
set_option maxHeartbeats 4000000 in
theorem bplans_iter (hb ld n jc : Nat) (jA : Option Addr) (HV : Array Value) (K : Nat → Prop) (w : World) (hKh : K hb) (hHV : HV[8]? = some (.int .i64 ld)) (hHJ : HV[13]? = some (.slice jA n jc)) (hld : 1 ≤ ld ∧ ld ≤ 3) (hn : n ≤ 8)
    (hH : w.heap[hb]? = some (.cells HV 74 (0, 0))) :
    IterA Tryz.prog 65 #[.pointer (some ⟨hb, 0, none⟩)] (plansL ld n).length (planOk ld n) (fun b => w.heap.size ≤ b) (fun b => b < w.heap.size ∧ ¬ K b) (fun _ => True) w := by
  intro l J Jx hJ hJx hl hY h0
  have hbw : hb < w.heap.size := (Array.getElem?_eq_some_iff.1 hH).1
  have HJ := Go.Lib.hid (And.intro hJ hJx)
  have HY := Go.Lib.hid hY
  have HV8 := Go.Lib.hid hHV
  have HLD := Go.Lib.hid hld
  have H0 := Go.Lib.hid h0
  have HH := Go.Lib.hid hH
  have cj : w.cell? ⟨hb, 13, none⟩ = some (.slice jA n jc) := (cellH hH 13).trans hHJ
  obtain ⟨q, hq⟩ : ∃ q : Ending → World → Prop, (fun e W' => (∃ v, e = Ending.returned v) ∧ True ∧ (J (plansL ld n).length W' ∨ Jx W')) = q := ⟨_, rfl⟩
  rw [hq]
  have HQ := Go.Lib.hid hq
  have cj4 : ∀ a b c d, ((((w.alloc a).alloc b).alloc c).alloc d).cell? ⟨hb, 13, none⟩ = some (.slice jA n jc) := fun a b c d => by
    rw [cell_old _ _ (by simp; omega), cell_old _ _ (by simp; omega), cell_old _ _ (by simp; omega), cell_old _ _ hbw]; exact cj
  clear hJ hJx hY hHV hHJ hld h0 hH hq
  show Calls Tryz.prog 65 #[.func (.yield l) #[] #[], .pointer (some ⟨hb, 0, none⟩)] w _
  refine (callsIn_wide (n := 12)).1 ?_
  refine callsIn_of_wp_marks Tryz.func65 rfl trivial ?_ rfl
  simp only [Tryz.ntmps65, List.size_toArray, List.length_cons, List.length_nil, Nat.reduceAdd, Nat.reduceSub, Array.replicate_succ, Array.replicate_zero, List.push_toArray, List.append_toArray, List.nil_append, List.cons_append]
  gi_wp2
  obtain ⟨x0, x1, x2, x3, xT, xz⟩ := heaps4J w #[.func (.yield l) #[] #[]] #[.slice none 0 0] #[.func (.func 68) #[] #[.pointer (some ⟨w.heap.size, 0, none⟩), .pointer (some ⟨w.heap.size + 1, 0, none⟩), .pointer (some ⟨hb, 0, none⟩), .pointer (some ⟨w.heap.size + 1 + 1 + 1, 0, none⟩)]] #[.func (.func 66) #[] #[.pointer (some ⟨w.heap.size + 1, 0, none⟩), .pointer (some ⟨w.heap.size + 1 + 1, 0, none⟩)]] 41 22 119 146 rfl
  refine ⟨trivial, (callsIn_wide.2 (bextend_any w.heap.size hb l ld (plansL ld n).length HV K (fun i => (plansL ld n).getD i []) J Jx hbw hKh HV8.out HLD.out HJ.out.1 HJ.out.2 HY.out n [] none 0 _ (by simp; omega) (fun j hj => ⟨by omega, by simp⟩)
    ⟨(xT (fun _ => False)).heap HH.out (fun h => h), x0, x2, x3⟩ ⟨none, 0, x1, World.ownsRow_nil _ _ _ _, rfl⟩ (HJ.out.1 _ _ _ H0.out (xT _)))).mono ?_⟩
  rintro e W5 ⟨⟨rfl, hr⟩ | ⟨rfl, hr⟩, _, _, _⟩
  · gi_wp2
    rw [← HQ.out]
    exact ⟨_, results_none rfl _ _ _, ⟨_, rfl⟩, trivial, .inl (by rw [Nat.zero_add] at hr; exact hr)⟩
  · gi_wp2
    rw [← HQ.out]
    exact ⟨_, results_none rfl _ _ _, ⟨_, rfl⟩, trivial, .inr hr⟩

end Go.Proofs.YtoobopohohoidaaGreatDoor
