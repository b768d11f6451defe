/- SHELF: the iterator over the pairs of two pieces. -/
import Derived.Test.YtckchahangnfiaaGreatDoorShJ
import Derived.RangeFuncNested
namespace Go.Proofs.YtckchahangnfiaaGreatDoor
open Go.RowKit Go.Shelf

attribute [local go_sem] Oper.semAt_some

theorem low2 : low 2 = 3 := by decide
theorem els3 : els 3 = [0, 1] := by decide
theorem els2 : els 2 = [1] := by decide
theorem aft30 : aft 3 0 = 2 := by decide
theorem aft31 : aft 3 1 = 0 := by decide

theorem pairs_any (s : Nat) (w : World) :
    Calls Tryz.prog 42 #[.int .u8 s] w fun e w' => e = .returned (.func (.func 59) #[] #[.pointer (some ⟨w.heap.size, 0, none⟩)]) ∧ w' = w.alloc (.cells #[.int .u8 s] 69) := by
  go_enter Tryz.func42, Tryz.ntmps42
  go_wp2
  go_ret
  exact ⟨rfl, rfl⟩

theorem all3 (w : World) : Calls Tryz.prog 44 #[.int .u8 3] w fun e w' => e = .returned (.func (.func 60) #[] #[.pointer (some ⟨w.heap.size, 0, none⟩)]) ∧ w' = w.alloc (.cells #[.int .u8 3] 69) := all_any 3 w

/-- What holds when some pieces have come. -/
def Came {s : Nat} (Q : Prop) (G : World → Prop) (pre : List (El s)) (W : World) : Prop := ((∃ x ∈ pre, x.1 = 0) → Q) ∧ G W

theorem ownFrom_mono {β : Type} {B B' : Nat} {I : β → World → Prop} (h : OwnFrom B I) (hB : B ≤ B') : OwnFrom B' I := fun s W W' row hs hg hr => h s W W' row hs hg fun r e => ⟨Nat.le_trans hB (hr r e).1, (hr r e).2⟩
theorem came_own {s B B' : Nat} {Q : Prop} {G : World → Prop} (hG : OwnFrom B (fun (_ : Unit) => G)) (hB : B ≤ B') : OwnFrom B' (fun (pre : List (El s)) W => Came Q G pre W) := fun _ W W' row hs hg hr =>
  ⟨hs.1, ownFrom_mono hG hB () W W' row hs.2 hg hr⟩
theorem ret_own {α : Type} {B B' : Nat} {Kx : World → Prop} (hK : OwnFrom B (fun (_ : Unit) => Kx)) (hB : B ≤ B') (c : Code) : OwnFrom B' (fun (_ : α) W => c = .ret ∧ Kx W) := fun _ W W' row hs hg hr => ⟨hs.1, ownFrom_mono hK hB () W W' row hs.2 hg hr⟩
theorem after3_0 (w : World) : Calls Tryz.prog 41 #[.int .u8 3, .int .i64 0] w fun e w' => e = .returned (.int .u8 2) ∧ w = w' := after_any 3 0 w (by omega) (by omega)
theorem after3_1 (w : World) : Calls Tryz.prog 41 #[.int .u8 3, .int .i64 1] w fun e w' => e = .returned (.int .u8 0) ∧ w = w' := after_any 3 1 w (by omega) (by omega)
theorem all2 (w : World) : Calls Tryz.prog 44 #[.int .u8 2] w fun e w' => e = .returned (.func (.func 60) #[] #[.pointer (some ⟨w.heap.size, 0, none⟩)]) ∧ w' = w.alloc (.cells #[.int .u8 2] 69) := all_any 2 w
theorem all0 (w : World) : Calls Tryz.prog 44 #[.int .u8 0] w fun e w' => e = .returned (.func (.func 60) #[] #[.pointer (some ⟨w.heap.size, 0, none⟩)]) ∧ w' = w.alloc (.cells #[.int .u8 0] 69) := all_any 0 w

/-- What was laid from N on lies as it lay, and so does block Bn. -/
structure Far (N Bn : Nat) (W W' : World) : Prop where
  size : W.heap.size ≤ W'.heap.size
  os : W'.os = W.os
  tape : W'.tape = W.tape
  output : W'.output = W.output
  block : ∀ b, N ≤ b → b < W.heap.size → W'.heap[b]? = W.heap[b]?
  one : W'.heap[Bn]? = W.heap[Bn]?
theorem Far.keeps {N Bn : Nat} {W W' : World} (h : Far N Bn W W') : KeepsFrom N W W' := ⟨h.size, fun k o hk ho _ => (h.block k hk (Array.getElem?_eq_some_iff.1 ho).1).trans ho⟩
theorem Far.below {N Bn : Nat} {W W' : World} (h : Far N Bn W W') : Below 0 W W' := ⟨h.os, h.tape, h.output, h.size, fun b hb => absurd hb (Nat.not_lt_zero b)⟩
theorem Far.boxed {N Bn B : Nat} {t : TypeId} {v : Value} {W W' : World} (h : Far N Bn W W') (hb : N ≤ B) (k : Boxed W B t v) : Boxed W' B t v := (h.block B hb k.lt).trans k
theorem Far.cell {N Bn : Nat} {W W' : World} {v : Value} {o : Nat} (h : Far N Bn W W') (k : W.cell? ⟨Bn, o, none⟩ = some v) : W'.cell? ⟨Bn, o, none⟩ = some v := by
  rw [← k]; unfold World.cell?; rw [h.one]
theorem size_own {β : Type} (B N : Nat) : OwnFrom B (fun (_ : β) W => N ≤ W.heap.size) := fun _ _ _ _ hs hg _ => Nat.le_trans hs hg.size
theorem pure_own {β : Type} (B : Nat) (p : β → Prop) : OwnFrom B (fun (b : β) _ => p b) := fun _ _ _ _ hs _ _ => hs

theorem keepsUp {B B' : Nat} {W W' : World} (h : KeepsFrom B W W') (hB : B ≤ B') : KeepsFrom B' W W' := ⟨h.size, fun k o hk => h.same k o (Nat.le_trans hB hk)⟩

/-- What the walk of the pairs holds. -/
def PairsI (B2 Bn l : Nat) (Q : Prop) (G : World → Prop) (pre : List (El 3)) (W : World) : Prop :=
  (((W.cell? ⟨Bn, 0, none⟩ = some (.int .u8 3)) ∧ Boxed W B2 119 (.func (.yield l) #[] #[])) ∧ Came Q G pre W) ∧ B2 + 2 ≤ W.heap.size
theorem pairsI_own {B B2 Bn l : Nat} {Q : Prop} {G : World → Prop} (hG : OwnFrom B (fun (_ : Unit) => G)) {B' : Nat} (hB : B ≤ B') : OwnFrom B' (PairsI B2 Bn l Q G) :=
  OwnFrom.and (OwnFrom.and (OwnFrom.and (Own.from (fun s A B row hs hg hr => cell_kept hs hg hr) _) (Own.from (boxed_own B2 119 (fun (_ : List (El 3)) => Value.func (.yield l) #[] #[])) _)) (came_own hG hB)) (size_own _ _)

set_option maxRecDepth 100000 in
set_option maxHeartbeats 4000000 in
theorem pairs1_two (l Bn n₀ : Nat) (Q : Prop) (G Gx : World → Prop) (w : World) (hn₀ : n₀ ≤ w.heap.size) (hBn : Bn < n₀)
    (hG : OwnFrom w.heap.size (fun (_ : Unit) => G)) (hGx : OwnFrom w.heap.size (fun (_ : Unit) => Gx))
    (hY : ∀ (m : Nat) (W : World), G W → YieldAt .wide m Tryz.prog l #[.int .i64 0, .int .i64 1] W fun e W' => (e = .returned (.bool true) ∧ (Q ∧ G W') ∧ Far w.heap.size Bn W W') ∨ (e = .returned (.bool false) ∧ Gx W' ∧ Far w.heap.size Bn W W'))
    (hc : w.cell? ⟨Bn, 0, none⟩ = some (.int .u8 3)) (h0 : G w) :
    Calls Tryz.prog 59 #[.func (.yield l) #[] #[], .pointer (some ⟨Bn, 0, none⟩)] w fun e W' => (∃ v, e = .returned v) ∧ ((Q ∧ G W') ∨ Gx W') := by
  refine (callsIn_wide (n := 12)).1 ?_
  refine callsIn_of_wp_marks Tryz.func59 rfl trivial ?_ rfl
  simp only [Tryz.ntmps59, List.size_toArray, List.length_cons, List.length_nil, Nat.reduceAdd, Nat.reduceSub, Array.replicate_succ, Array.replicate_zero, List.push_toArray, List.append_toArray, List.nil_append, List.cons_append]
  have hc1 : (w.alloc (.cells #[.func (.yield l) #[] #[]] 119)).cell? ⟨Bn, 0, none⟩ = some (.int .u8 3) := cell_alloc_l _ hc
  gi_wp2_with (refine ⟨trivial, ?_⟩; gi_at_call 44; refine (callsIn_wide.2 (all3 _)).mono ?_; rintro e w2 ⟨rfl, rfl⟩)
  have bY := (Boxed.new w 119 (.func (.yield l) #[] #[])).alloc (.cells #[.int .u8 3] 69)
  have bS := Boxed.new (w.alloc (.cells #[.func (.yield l) #[] #[]] 119)) 69 (.int .u8 3)
  have hJ0 : G ((w.alloc (.cells #[.func (.yield l) #[] #[]] 119)).alloc (.cells #[.int .u8 3] 69)) := hG.alloc (s := ()) _ (hG.alloc (s := ()) _ h0)
  have hB0 : Below w.heap.size w ((w.alloc (.cells #[.func (.yield l) #[] #[]] 119)).alloc (.cells #[.int .u8 3] 69)) := ((Below.refl _ w).alloc (Nat.le_refl _) _).alloc (by simp) _
  have hc2 := cell_alloc_l (.cells #[.int .u8 3] 69) hc1
  have hsz : ((w.alloc (.cells #[.func (.yield l) #[] #[]] 119)).alloc (.cells #[.int .u8 3] 69)).heap.size = w.heap.size + 2 := by simp
  simp only [World.size_alloc] at bS
  obtain ⟨W0, hW0⟩ : ∃ W0, (w.alloc (.cells #[.func (.yield l) #[] #[]] 119)).alloc (.cells #[.int .u8 3] 69) = W0 := ⟨_, rfl⟩
  rw [hW0] at bY bS hJ0 hB0 hc2 hsz ⊢
  clear hW0 hc1
  refine wpIn_rangeFunc_ownH (P := Tryz.prog) rfl (by omega) (gf := 60) (lb := #[.pointer (some ⟨w.heap.size + 1, 0, none⟩)]) rfl trivial (enters_of Tryz.func60 (by kernel_rfl) rfl)
    (all_stops 11 (by omega) (w.heap.size + 1) 0 3 (by omega) W0 (by omega) bS.cell) belowK_t (belowK_b (by omega)) (Below.refl _ _) (fun _ => rfl)
    (PairsI w.heap.size Bn l Q G)
    (fun c _ W => c = .ret ∧ Gx W)
    (pairsI_own hG (by omega))
    (fun c => ret_own hGx (by omega) c)
    ⟨⟨⟨hc2, bY⟩, ⟨fun h => by simp at h, hJ0⟩⟩, by omega⟩
    (fun x a' W => ∃ Bx, w.heap.size + 1 < Bx ∧ Boxed W Bx 3 (.int .i64 (x.1 : Int)) ∧ a' = { tmps := #[.func (.yield l) #[] #[], .pointer (some ⟨Bn, 0, none⟩), .pointer (some ⟨w.heap.size, 0, none⟩), .pointer (some ⟨Bx, 0, none⟩), undef, .int .u8 3, .func (.func 60) #[] #[.pointer (some ⟨w.heap.size + 1, 0, none⟩)], .int .i64 (x.1 : Int), undef, undef, undef, undef, undef, undef, undef, undef, undef, undef], defers := [] })
    (fun x a' _ X Y row hs hg hr => by obtain ⟨Bx, h1, h2, h3⟩ := hs; exact ⟨Bx, h1, boxed_own Bx 3 (fun (_ : Unit) => Value.int .i64 (x.1 : Int)) () X Y row h2 hg (fun r e => (hr r e).2), h3⟩)
    ?assign ?body ?done ?stop
  case assign =>
    rintro l1 pre x W Kk hI hK1
    have hz := hI.2
    gi_wp2
    exact hK1 _ _ ((KeepsOthers.alloc _ _).from _) ((Below.refl _ W).alloc (Nat.zero_le _) _) ((pairsI_own hG (Nat.le_refl _)).alloc _ hI) ⟨W.heap.size, by omega, Boxed.new W 3 _, rfl⟩
  case body =>
    rintro l1 pre x a' W hl ⟨r, hr⟩ hI ⟨Bx, hBx, bX, rfl⟩ hlt
    have HI' := Go.Lib.hid hI
    obtain ⟨⟨⟨hcc, bY1⟩, hcm⟩, hz⟩ := hI
    have hx01 : x.1 ∈ [0, 1] := els3 ▸ x.2
    rcases (show x.1 = 0 ∨ x.1 = 1 by simpa using hx01) with h | h
    · rw [h] at bX ⊢
      have cX' : W.cell? ⟨Bx, 0, none⟩ = some (.int .i64 0) := bX.cell
      have HH := Go.Lib.hid h; clear h
      gi_wp2_with (first | (refine ⟨trivial, ?_⟩; gi_at_call 41; refine (CallsIn.inRound l1 (callsIn_wide.2 (after3_0 _))).mono ?_; rintro e w' ⟨rfl, rfl⟩) | (refine ⟨trivial, ?_⟩; gi_at_call 44; refine (CallsIn.inRound l1 (callsIn_wide.2 (all2 _))).mono ?_; rintro e w' ⟨rfl, rfl⟩))
      have bN := Boxed.new W 69 (.int .u8 2)
      have hr' : (W.alloc (.cells #[.int .u8 2] 69)).heap[l1]? = some (.loop r) := (Below.heap_alloc W _ l1 (Array.getElem?_eq_some_iff.1 hr).1).trans hr
      refine wpIn_rangeFunc_ownN (P := Tryz.prog) (l₀ := l1) (r₀ := r) rfl hr' (by omega) (gf := 60) (lb := #[.pointer (some ⟨W.heap.size, 0, none⟩)]) rfl trivial (enters_of Tryz.func60 (by kernel_rfl) rfl)
        ((all_stops 9 (by omega) W.heap.size 0 2 (by omega) _ (by simp) bN.cell).inRound l1) belowK_t (belowK_b (by omega)) (Below.refl _ _) (fun _ => rfl)
        (fun pre' W' => ((PairsI w.heap.size Bn l Q G pre W' ∧ Boxed W' Bx 3 (.int .i64 ((0 : Nat) : Int))) ∧ (pre' ≠ [] → Q)) ∧ (Below 0 W W' ∧ KeepsFrom W0.heap.size W W'))
        (fun c _ W' => (c = .ret ∧ Gx W') ∧ (Below 0 W W' ∧ KeepsFrom W0.heap.size W W'))
        (OwnFrom.and (OwnFrom.and (OwnFrom.and (fun s A B row hs hg hr' => pairsI_own hG (by simp; omega) pre A B row hs hg hr') (Own.from (boxed_own Bx 3 (fun (_ : List (El 2)) => Value.int .i64 ((0 : Nat) : Int))) _)) (pure_own _ _)) (OwnFrom.and (ownFrom_below (Nat.zero_le _) (Nat.zero_le _)) (ownFrom_keepsFrom (by simp))))
        (fun c => OwnFrom.and (ret_own hGx (by simp; omega) c) (OwnFrom.and (ownFrom_below (Nat.zero_le _) (Nat.zero_le _)) (ownFrom_keepsFrom (by simp))))
        ⟨⟨⟨(pairsI_own hG (Nat.le_refl _)).alloc _ HI'.out, bX.alloc _⟩, fun h => absurd rfl h⟩, (Below.refl 0 W).alloc (Nat.zero_le _) _, (KeepsOthers.alloc _ _).from _⟩
        (fun y a'' _ => a'' = { tmps := #[.func (.yield l) #[] #[], .pointer (some ⟨Bn, 0, none⟩), .pointer (some ⟨w.heap.size, 0, none⟩), .pointer (some ⟨Bx, 0, none⟩), .int .i64 (y.1 : Int), .int .u8 3, .func (.func 60) #[] #[.pointer (some ⟨w.heap.size + 1, 0, none⟩)], .int .i64 ((0 : Nat) : Int), .int .u8 3, .int .i64 0, .int .u8 2, .func (.func 60) #[] #[.pointer (some ⟨W.heap.size, 0, none⟩)], .int .i64 (y.1 : Int), undef, undef, undef, undef, undef], defers := [] })
        (fun _ _ _ _ _ _ hs _ _ => hs)
        ?assign2 ?body2 ?done2 ?stop2
      case assign2 =>
        rintro l2 pre' y W' Kk hi hK2
        gi_wp2
        exact hK2 _ _ (KeepsFrom.refl _ _) (Below.refl _ _) hi rfl
      case body2 =>
        rintro l2 pre' y a'' W' hl2 ⟨r2, hr2⟩ ⟨⟨⟨hI2, bX2⟩, hq2⟩, hBW, hKF⟩ rfl hlt2
        have hy : y.1 ∈ [1] := els2 ▸ y.2
        have hy1 : y.1 = 1 := by simpa using hy
        rw [hy1]
        have cY := hI2.1.1.2.cell
        have cX2 : W'.cell? ⟨Bx, 0, none⟩ = some (.int .i64 0) := bX2.cell
        obtain ⟨fn, tmps, assign, body, hy', hR⟩ := hY 7 W' hI2.1.2.2
        gi_wp2
        refine RoundIn.mono hR ?_
        have H2 := Go.Lib.hid hI2
        rintro e W3 (⟨rfl, ⟨hq3, hg3⟩, hfar⟩ | ⟨rfl, hgx, hfar⟩)
        · gi_wp2
          have hI2 := H2.out
          exact ⟨keepsUp hfar.keeps (by simp; omega), hfar.below, ⟨⟨⟨⟨⟨hfar.cell hI2.1.1.1, hfar.boxed (Nat.le_refl _) hI2.1.1.2⟩, hI2.1.2.1, hg3⟩, Nat.le_trans hI2.2 hfar.size⟩, hfar.boxed (by omega) bX2⟩, fun _ => hq3⟩, hBW.trans hfar.below, hKF.trans (keepsUp hfar.keeps (by omega))⟩
        · gi_wp2
          exact ⟨keepsUp hfar.keeps (by simp; omega), ⟨rfl, hgx⟩, hBW.trans hfar.below, hKF.trans (keepsUp hfar.keeps (by omega))⟩
      case done2 =>
        rintro ys' W' hys ⟨⟨⟨hI2, bX2⟩, hq2⟩, hBW, hKF⟩
        have hne : ys' ≠ [] := by rintro rfl; have := hys.trans els2; simp at this
        have H2 := Go.Lib.hid hI2; clear hI2
        gi_wp2
        have hI2 := H2.out
        exact ⟨hKF, hBW, ⟨hI2.1.1, fun _ => hq2 hne, hI2.1.2.2⟩, hI2.2⟩
      case stop2 =>
        rintro c pre' W' _ ⟨⟨rfl, hx⟩, hBW, hKF⟩
        gi_wp2
        exact ⟨hKF, rfl, hx⟩
    · rw [h] at bX ⊢
      have cX' : W.cell? ⟨Bx, 0, none⟩ = some (.int .i64 1) := bX.cell
      have HH := Go.Lib.hid h; clear h
      gi_wp2_with (first | (refine ⟨trivial, ?_⟩; gi_at_call 41; refine (CallsIn.inRound l1 (callsIn_wide.2 (after3_1 _))).mono ?_; rintro e w' ⟨rfl, rfl⟩) | (refine ⟨trivial, ?_⟩; gi_at_call 44; refine (CallsIn.inRound l1 (callsIn_wide.2 (all0 _))).mono ?_; rintro e w' ⟨rfl, rfl⟩))
      have bN := Boxed.new W 69 (.int .u8 0)
      have hr' : (W.alloc (.cells #[.int .u8 0] 69)).heap[l1]? = some (.loop r) := (Below.heap_alloc W _ l1 (Array.getElem?_eq_some_iff.1 hr).1).trans hr
      refine wpIn_rangeFunc_ownN (P := Tryz.prog) (l₀ := l1) (r₀ := r) rfl hr' (by omega) (gf := 60) (lb := #[.pointer (some ⟨W.heap.size, 0, none⟩)]) rfl trivial (enters_of Tryz.func60 (by kernel_rfl) rfl)
        ((all_stops 9 (by omega) W.heap.size 0 0 (by omega) _ (by simp) bN.cell).inRound l1) belowK_t (belowK_b (by omega)) (Below.refl _ _) (fun _ => rfl)
        (fun pre' W' => PairsI w.heap.size Bn l Q G pre W' ∧ (Below 0 W W' ∧ KeepsFrom W0.heap.size W W'))
        (fun _ _ _ => False)
        (OwnFrom.and (fun s A B row hs hg hr' => pairsI_own hG (by simp; omega) pre A B row hs hg hr') (OwnFrom.and (ownFrom_below (Nat.zero_le _) (Nat.zero_le _)) (ownFrom_keepsFrom (by simp))))
        (fun _ _ _ _ _ hs _ _ => hs)
        ⟨(pairsI_own hG (Nat.le_refl _)).alloc _ HI'.out, (Below.refl 0 W).alloc (Nat.zero_le _) _, (KeepsOthers.alloc _ _).from _⟩
        (fun y a'' _ => a'' = { tmps := #[.func (.yield l) #[] #[], .pointer (some ⟨Bn, 0, none⟩), .pointer (some ⟨w.heap.size, 0, none⟩), .pointer (some ⟨Bx, 0, none⟩), .int .i64 (y.1 : Int), .int .u8 3, .func (.func 60) #[] #[.pointer (some ⟨w.heap.size + 1, 0, none⟩)], .int .i64 ((1 : Nat) : Int), .int .u8 3, .int .i64 1, .int .u8 0, .func (.func 60) #[] #[.pointer (some ⟨W.heap.size, 0, none⟩)], .int .i64 (y.1 : Int), undef, undef, undef, undef, undef], defers := [] })
        (fun _ _ _ _ _ _ hs _ _ => hs)
        ?assign2 ?body2 ?done2 ?stop2
      case assign2 =>
        rintro l2 pre' y W' Kk hi hK2
        gi_wp2
        exact hK2 _ _ (KeepsFrom.refl _ _) (Below.refl _ _) hi rfl
      case body2 =>
        rintro l2 pre' y a'' W' hl2 ⟨r2, hr2⟩ _ rfl hlt2
        have h0 : (els 0).length = 0 := by decide
        omega
      case done2 =>
        rintro ys' W' hys ⟨hI2, hBW, hKF⟩
        have H2 := Go.Lib.hid hI2; clear hI2
        gi_wp2
        have hI2 := H2.out
        refine ⟨hKF, hBW, ⟨hI2.1.1, fun ⟨y, hy, e⟩ => ?_, hI2.1.2.2⟩, hI2.2⟩
        rcases List.mem_append.1 hy with hy | hy
        · exact hI2.1.2.1 ⟨y, hy, e⟩
        · have : y = x := by simpa using hy
          rw [this, HH.out] at e
          cases e
      case stop2 =>
        rintro c pre' W' _ h
        exact h.elim
  case done =>
    rintro D ys W hD hys ⟨⟨⟨hcc, bY1⟩, hcm⟩, hz⟩ hKD
    have hys2 : ys.map (fun x : El 3 => x.1) = [0, 1] := hys.trans els3
    have hq : Q ∧ G W := ⟨hcm.1 (by
      have : (0 : Nat) ∈ ys.map (fun x : El 3 => x.1) := by rw [hys2]; simp
      obtain ⟨y, hy, e⟩ := List.mem_map.1 this
      exact ⟨y, hy, e⟩), hcm.2⟩
    clear hcc bY1 hcm
    gi_wp2
    refine ⟨by simp, .inl ⟨_, _, rfl, run_takeDeferred hKD, ?_⟩⟩
    exact ⟨_, results_none rfl _ _ _, ⟨_, rfl⟩, .inl ⟨hq.1, hG.putObj (s := ()) _ hq.2 (by omega) hKD rfl⟩⟩
  case stop =>
    rintro D c pre W hD hpre ⟨rfl, hx⟩ hKD
    gi_wp2
    refine ⟨by simp, .inl ⟨_, _, rfl, run_takeDeferred hKD, ?_⟩⟩
    exact ⟨_, results_none rfl _ _ _, ⟨_, rfl⟩, .inr (hGx.putObj (s := ()) _ hx (by omega) hKD rfl)⟩

end Go.Proofs.YtckchahangnfiaaGreatDoor
