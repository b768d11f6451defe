/- BARROW: start, show, next. -/
import Derived.Test.YtoobopohohoidaaGreatDoorBG
import Derived.Test.YtoobopohohoidaaGreatDoorBA
import Derived.Test.YtoobopohohoidaaGreatDoorVZ0
set_option linter.unusedSimpArgs false
set_option linter.unusedVariables false
namespace Go.Proofs.YtoobopohohoidaaGreatDoor
open Go.RowKit Go.Maps Go.Shelf

@[local go_sem] theorem run_store_funcK {P : Program} {w : World} {a : Addr} {m : Mode} (fn : Fn) (first captured : Array Value) : (store a (.func fn first captured) m).run P w = stored P w a (.func fn first captured) m := run_store P w a _ m rfl

/-- The cells of barrows. -/
abbrev bwV (b : List Int) : Array Value := #[.int .i64 (b.getD 0 0), .int .i64 (b.getD 1 0), .int .i64 (b.getD 2 0), .int .i64 (b.getD 3 0)]
abbrev bZ : Array Value := #[.int .i64 0, .int .i64 0, .int .i64 0, .int .i64 0]
theorem bwV_get (b : List Int) {k : Nat} (h : k < 4) : (bwV b)[k]? = some (.int .i64 (b.getD k 0)) := by
  match k, h with
  | 0, _ => rfl
  | 1, _ => rfl
  | 2, _ => rfl
  | 3, _ => rfl
theorem bwV_set {b : List Int} {k : Nat} (hl : b.length = 4) (h : k < 4) (x : Int) : (bwV b).setIfInBounds k (.int .i64 x) = bwV (b.set k x) := by
  match b, hl with
  | [p, q, r, s], _ =>
    match k, h with
    | 0, _ => rfl
    | 1, _ => rfl
    | 2, _ => rfl
    | 3, _ => rfl
theorem bwV_start {b : List Int} (h : ∀ j, j < 4 → b.getD j 0 = -31) : bwV b = bwV startB := by
  unfold bwV
  rw [h 0 (by omega), h 1 (by omega), h 2 (by omega), h 3 (by omega)]
  rfl

set_option maxRecDepth 100000 in
set_option maxHeartbeats 4000000 in
theorem bstart_any (HV : Array Value) (w : World) (hV : (Tryz.prog.info? 74).map (·.size) = some HV.size) (h9 : HV[9]? = some (.int .i64 4)) :
    Calls Tryz.prog 71 #[.agg HV] w fun e w' => e = .returned (.agg (bwV startB)) ∧ Below w.heap.size w w' := by
  have x0 := heap_old (.cells bZ 149) (heap_old (.cells bZ 149) (heap_alloc_new w (.cells HV 74)))
  have x1 := heap_old (.cells bZ 149) (heap_alloc_new (w.alloc (.cells HV 74)) (.cells bZ 149))
  have x2 := heap_alloc_new ((w.alloc (.cells HV 74)).alloc (.cells bZ 149)) (.cells bZ 149)
  simp only [World.size_alloc] at x1 x2
  obtain ⟨w3, hw3⟩ : ∃ w3, (((w.alloc (.cells HV 74)).alloc (.cells bZ 149)).alloc (.cells bZ 149)) = w3 := ⟨_, rfl⟩
  have hB3 : Below w.heap.size w w3 := by rw [← hw3]; exact (((Below.refl _ w).alloc (Nat.le_refl _) _).alloc (by simp) _).alloc (by simp; omega) _
  have hz3 : w3.heap.size = w.heap.size + 3 := by rw [← hw3]; simp
  rw [hw3] at x0 x1 x2
  have c9 : w3.cell? ⟨w.heap.size, 9, none⟩ = some (.int .i64 4) := (cellH x0 9).trans h9
  have HX := Go.Lib.hid (And.intro x1 (And.intro x2 hB3))
  clear x0 x1 x2 hB3 h9
  go_enter Tryz.func71, Tryz.ntmps71
  go_wp2
  go_loopw [8] (fun iv wr => ∃ (i : Nat) (b : List Int), i ≤ 4 ∧ iv = .int .i64 i ∧ Hid (b.length = 4 ∧ ∀ j, j < i → b.getD j 0 = -31) ∧ Hid (wr.heap[w.heap.size + 1 + 1]? = some (.cells (bwV b) 149 (0, 0))) ∧ Hid (Turn (fun b => b = w.heap.size + 2) w3 wr)) (fun iv _ => 4 - (intOf iv).toNat)
  case atStart => exact ⟨0, [0, 0, 0, 0], by omega, rfl, Go.Lib.hid ⟨rfl, fun j hj => by omega⟩, Go.Lib.hid HX.out.2.1, Go.Lib.hid (Turn.refl _ _)⟩
  case round =>
    obtain ⟨i, b, hi9, rfl, HB, HC, HTU⟩ := hrel
    by_cases hlt : i < 4
    · have cc : wr.cell? ⟨w.heap.size + 1 + 1, i, none⟩ = some (.int .i64 (b.getD i 0)) := (cellH HC.out i).trans (bwV_get b hlt)
      have fc : wr.frozen? ⟨w.heap.size + 1 + 1, i, none⟩ = false := freeH HC.out i
      go_wp2
      go_roundw
      case rel =>
        refine ⟨i + 1, b.set i (-31), by omega, by go_num, Go.Lib.hid ⟨by simp [HB.out.1], fun j hj => ?_⟩, Go.Lib.hid ?_, Go.Lib.hid (HTU.out.trans (Turn.of_but ((But.refl _ wr).set i _)))⟩
        · rw [getD_set_int (by rw [HB.out.1]; exact hlt)]
          split
          · rfl
          · exact HB.out.2 j (by omega)
        · rw [← bwV_set HB.out.1 hlt]; exact setH HC.out i _
      case measure => simp [intOf]; omega
    · have e : 4 = i := by omega
      subst e
      have hb : wr.heap[w.heap.size + 1 + 1]? = some (.cells (bwV startB) 149 (0, 0)) := by rw [HC.out, bwV_start HB.out.2]
      have h1 : wr.heap[w.heap.size + 1]? = _ := HTU.out.heap' HX.out.1 (by omega)
      have HB2 := Go.Lib.hid (And.intro hb h1)
      clear hb h1
      go_wp2_with (first
        | (with_reducible refine wpList_load_whole rfl 149 (.tmp 3) rfl (w.heap.size + 1 + 1) rfl HB2.out.1 Tryz.underlying149 rfl (by kernel_rfl) ?_)
        | (with_reducible refine wpList_store_whole rfl 149 (.tmp 2) (.tmp 14) rfl (w.heap.size + 1) (bwV startB) rfl rfl HB2.out.2 (by kernel_rfl) rfl (by simp [Value.oneCell']) ?_
           intro W9 d1 d2))
      refine bodyPost_ret (results_cell_whole rfl rfl d1 Tryz.underlying149 rfl (by kernel_rfl)) rfl ?_
      exact ⟨rfl, HX.out.2.2.trans ((HTU.out.below (fun b hb => by omega) (by omega)).trans (d2.below (by omega) (by have := HTU.out.size; omega)))⟩

theorem bnext1_any (tb i : Nat) (b : List Int) (w : World) (hi : i < 4) (hb : w.heap[tb]? = some (.cells (bwV b) 149 (0, 0))) :
    Calls Tryz.prog 98 #[.int .i64 i, .pointer (some ⟨tb, 0, none⟩)] w fun e w' => e = .returned (.int .i64 (b.getD i 0)) ∧ w = w' := by
  have c : w.cell? ⟨tb, i, none⟩ = some (.int .i64 (b.getD i 0)) := (cellH hb i).trans (bwV_get b hi)
  clear hb
  go_enter Tryz.func98, Tryz.ntmps98
  go_wp2
  go_ret
  exact ⟨rfl, rfl⟩

/-- The cells of a least. -/
abbrev leV (tb : Nat) (k n : Int) (f : Bool) : Array Value := #[.func (.func 98) #[] #[.pointer (some ⟨tb, 0, none⟩)], .int .i64 k, .int .i64 n, .bool f]
set_option maxRecDepth 100000 in
set_option maxHeartbeats 2000000 in
theorem bshow_any (lb tb i : Nat) (b : List Int) (k n : Int) (f : Bool) (w : World) (hi : i < 4) (hb : w.heap[tb]? = some (.cells (bwV b) 149 (0, 0))) (hl : w.heap[lb]? = some (.cells (leV tb k n f) 204 (0, 0))) :
    Calls Tryz.prog 99 #[.pointer (some ⟨lb, 0, none⟩), .int .i64 i] w fun e w' => e = .returned (.tuple #[]) ∧ But lb w w' ∧
      w'.heap[lb]? = some (.cells (if f = false ∨ b.getD i 0 < n then leV tb i (b.getD i 0) true else leV tb k n f) 204 (0, 0)) := by
  have c0 : w.cell? ⟨lb, 0, none⟩ = some (.func (.func 98) #[] #[.pointer (some ⟨tb, 0, none⟩)]) := cellH hl 0
  have c1 : w.cell? ⟨lb, 1, none⟩ = some (.int .i64 k) := cellH hl 1
  have c2 : w.cell? ⟨lb, 2, none⟩ = some (.int .i64 n) := cellH hl 2
  have c3 : w.cell? ⟨lb, 3, none⟩ = some (.bool f) := cellH hl 3
  have f1 : w.frozen? ⟨lb, 1, none⟩ = false := freeH hl 1
  have f2 : w.frozen? ⟨lb, 2, none⟩ = false := freeH hl 2
  have f3 : w.frozen? ⟨lb, 3, none⟩ = false := freeH hl 3
  have HN := Go.Lib.hid (bnext1_any tb i b w hi hb)
  have HL := Go.Lib.hid hl
  clear hb hl
  obtain ⟨x, hx⟩ : ∃ x, b.getD i 0 = x := ⟨_, rfl⟩
  rw [hx] at HN ⊢
  clear hx
  cases f with
  | false =>
    rw [if_pos (.inl rfl)]
    go_enter Tryz.func99, Tryz.ntmps99
    go_wp2_with (go_at_call 98; refine HN.out.mono ?_; rintro e w' ⟨rfl, rfl⟩)
    go_end0
    exact ⟨rfl, (((But.refl lb w).set 1 _).set 2 _).set 3 _, setH (setH (setH HL.out 1 _) 2 _) 3 _⟩
  | true =>
    by_cases h : x < n
    · rw [if_pos (.inr h)]
      go_enter Tryz.func99, Tryz.ntmps99
      go_wp2_with (go_at_call 98; refine HN.out.mono ?_; rintro e w' ⟨rfl, rfl⟩)
      go_end0
      exact ⟨rfl, (((But.refl lb w).set 1 _).set 2 _).set 3 _, setH (setH (setH HL.out 1 _) 2 _) 3 _⟩
    · rw [if_neg (by simp; omega)]
      go_enter Tryz.func99, Tryz.ntmps99
      go_wp2_with (go_at_call 98; refine HN.out.mono ?_; rintro e w' ⟨rfl, rfl⟩)
      go_end0
      exact ⟨rfl, But.refl lb w, HL.out⟩

/-- The least so far. -/
def nxtI (b : List Int) : Nat → Nat × Int
  | 0 => (0, 0)
  | i + 1 => if i = 0 ∨ b.getD i 0 < (nxtI b i).2 then (i, b.getD i 0) else nxtI b i
theorem nxtI_nxt (b : List Int) : (nxtI b 4).1 = nxt b := by
  have h1 : nxtI b 1 = (0, b.getD 0 0) := by simp [nxtI]
  have h2 : nxtI b 2 = ((if b.getD 1 0 < b.getD 0 0 then 1 else 0), b.getD (if b.getD 1 0 < b.getD 0 0 then 1 else 0) 0) := by
    rw [nxtI, h1]
    by_cases h : b.getD 1 0 < b.getD 0 0
    · rw [if_pos (.inr h), if_pos h]
    · rw [if_neg (by rintro (h' | h'); omega; exact h h'), if_neg h]
  obtain ⟨i1, hi1⟩ : ∃ i1, (if b.getD 1 0 < b.getD 0 0 then 1 else 0) = i1 := ⟨_, rfl⟩
  rw [hi1] at h2
  have h3 : nxtI b 3 = ((if b.getD 2 0 < b.getD i1 0 then 2 else i1), b.getD (if b.getD 2 0 < b.getD i1 0 then 2 else i1) 0) := by
    rw [nxtI, h2]
    by_cases h : b.getD 2 0 < b.getD i1 0
    · rw [if_pos (.inr h), if_pos h]
    · rw [if_neg (by rintro (h' | h'); omega; exact h h'), if_neg h]
  obtain ⟨i2, hi2⟩ : ∃ i2, (if b.getD 2 0 < b.getD i1 0 then 2 else i1) = i2 := ⟨_, rfl⟩
  rw [hi2] at h3
  rw [nxtI, h3]
  unfold nxt
  dsimp only
  rw [hi1, hi2]
  by_cases h : b.getD 3 0 < b.getD i2 0
  · rw [if_pos (.inr h), if_pos h]
  · rw [if_neg (by rintro (h' | h'); omega; exact h h'), if_neg h]
/-- What next's least holds, when so many barrows have been shown. -/
def LeAt (lb tb : Nat) (b : List Int) (i : Nat) (W : World) : Prop := W.heap[lb]? = some (.cells (leV tb ((nxtI b i).1 : Nat) (nxtI b i).2 (decide (0 < i))) 204 (0, 0))
theorem LeAt.show {lb tb i : Nat} {b : List Int} {W : World} (h : W.heap[lb]? = some (.cells (if decide (0 < i) = false ∨ b.getD i 0 < (nxtI b i).2 then leV tb i (b.getD i 0) true else leV tb ((nxtI b i).1 : Nat) (nxtI b i).2 (decide (0 < i))) 204 (0, 0))) : LeAt lb tb b (i + 1) W := by
  unfold LeAt
  rw [h, nxtI]
  by_cases h0 : i = 0 ∨ b.getD i 0 < (nxtI b i).2
  · rw [if_pos (by rcases h0 with h0 | h0; exact .inl (by simp [h0]); exact .inr h0), if_pos h0]; simp
  · have hi : 0 < i := by omega
    rw [if_neg (by rintro (h1 | h1); simp at h1; omega; exact h0 (.inr h1)), if_neg h0]
    simp [hi]

set_option maxRecDepth 100000 in
set_option maxHeartbeats 4000000 in
theorem bnext_any (HV : Array Value) (b : List Int) (w : World) (hV : (Tryz.prog.info? 74).map (·.size) = some HV.size) (h9 : HV[9]? = some (.int .i64 4)) :
    Calls Tryz.prog 90 #[.agg HV, .agg (bwV b)] w fun e w' => e = .returned (.int .i64 (nxt b)) ∧ Below w.heap.size w w' := by
  have x0 := heap_old (.cells #[.nilFunc, .int .i64 0, .int .i64 0, .bool false] 204) (heap_old (.cells (bwV b) 149) (heap_alloc_new w (.cells HV 74)))
  have x1 := heap_old (.cells #[.nilFunc, .int .i64 0, .int .i64 0, .bool false] 204) (heap_alloc_new (w.alloc (.cells HV 74)) (.cells (bwV b) 149))
  have x2 := heap_alloc_new ((w.alloc (.cells HV 74)).alloc (.cells (bwV b) 149)) (.cells #[.nilFunc, .int .i64 0, .int .i64 0, .bool false] 204)
  simp only [World.size_alloc] at x1 x2
  obtain ⟨w3, hw3⟩ : ∃ w3, (((w.alloc (.cells HV 74)).alloc (.cells (bwV b) 149)).alloc (.cells #[.nilFunc, .int .i64 0, .int .i64 0, .bool false] 204)) = w3 := ⟨_, rfl⟩
  have hB3 : Below w.heap.size w w3 := by rw [← hw3]; exact (((Below.refl _ w).alloc (Nat.le_refl _) _).alloc (by simp) _).alloc (by simp; omega) _
  have hz3 : w3.heap.size = w.heap.size + 3 := by rw [← hw3]; simp
  rw [hw3] at x0 x1 x2
  have HX := Go.Lib.hid (And.intro x0 (And.intro x1 (And.intro x2 hB3)))
  have H9 := Go.Lib.hid h9
  clear x0 x1 x2 hB3 h9
  go_enter Tryz.func90, Tryz.ntmps90
  go_wp2
  have HSH := Go.Lib.hid (fun (i : Nat) (W : World) (hi : i < 4) (hT : Turn (fun x => x = w.heap.size + 2) w3 W) (hL : LeAt (w.heap.size + 2) (w.heap.size + 1) b i W) => bshow_any (w.heap.size + 2) (w.heap.size + 1) i b _ _ _ W hi (hT.heap' HX.out.2.1 (by omega)) hL)
  refine wp_scope_jumps 0 (fun a' W => ∃ (i : Nat) (u9 u10 u11 u12 u13 u14 u15 u16 u17 : Value), 1 ≤ i ∧ i < 4 ∧ Turn (fun x => x = w.heap.size + 2) w3 W ∧ LeAt (w.heap.size + 2) (w.heap.size + 1) b i W ∧
      a' = { tmps := #[.agg HV, .agg (bwV b), .pointer (some ⟨w.heap.size, 0, none⟩), .pointer (some ⟨w.heap.size + 1, 0, none⟩), .int .i64 0, .pointer (some ⟨w.heap.size + 1 + 1, 0, none⟩), .int .i64 i, .func (.func 98) #[] #[.pointer (some ⟨w.heap.size + 1, 0, none⟩)], .agg (leV (w.heap.size + 1) 0 0 false), u9, u10, u11, u12, u13, u14, u15, u16, u17, undef, undef], defers := [] })
    (fun a' _ => match a'.tmps.getD 6 undef with | .int _ i => (4 - i).toNat | _ => 0) rfl ?_ ?_
  · have c9 : ∀ W', Turn (fun x => x = w.heap.size + 2) w3 W' → W'.cell? ⟨w.heap.size, 9, none⟩ = some (.int .i64 4) := fun W' h => (cellH (h.heap' HX.out.1 (by omega)) 9).trans H9.out
    go_wp2_with (first
      | (with_reducible refine wpList_store_whole rfl 204 (.tmp 5) (.tmp 8) rfl (w.heap.size + 1 + 1) (leV (w.heap.size + 1) 0 0 false) rfl rfl HX.out.2.2.1 (by kernel_rfl) rfl (by simp [Value.oneCell']) ?_
         intro W9 d1 d2))
    go_step3
    go_wp2_with (go_at_call 99; refine (HSH.out 0 W9 (by omega) (Turn.of_but d2) d1).mono ?_; rintro e W1 ⟨rfl, hB1, hL1⟩; have hL2 := LeAt.show hL1; have c1 := c9 _ ((Turn.of_but d2).trans (Turn.of_but hB1)))
    go_step3
    exact ⟨rfl, 1, _, _, _, _, _, _, _, _, _, by omega, by omega, (Turn.of_but d2).trans (Turn.of_but hB1), hL2, rfl⟩
  · rintro a' W ⟨i, u9, u10, u11, u12, u13, u14, u15, u16, u17, hi1, hi4, hT, hL, rfl⟩
    have c9 : ∀ W', But (w.heap.size + 2) W W' → W'.cell? ⟨w.heap.size, 9, none⟩ = some (.int .i64 4) := fun W' h => (cellH ((Turn.of_but h).heap' (hT.heap' HX.out.1 (by omega)) (by omega)) 9).trans H9.out
    by_cases hi3 : i = 3
    · subst hi3
      go_wp2_with (go_at_call 99; refine (HSH.out 3 W hi4 hT hL).mono ?_; rintro e W1 ⟨rfl, hB1, hL1⟩; have hL2 := LeAt.show hL1; have c1 := c9 _ hB1; have ck : W1.cell? ⟨w.heap.size + 1 + 1, 1, none⟩ = some (.int .i64 ((nxtI b 4).1 : Nat)) := cellH hL2 1)
      simp only [Exit.jump]
      go_ret
      refine ⟨by rw [← nxtI_nxt]; rfl, HX.out.2.2.2.trans ((hT.below (fun b hb => by omega) (by omega)).trans (hB1.below (by omega) (by have := hT.size; omega)))⟩
    · have hi3' : i < 3 := by omega
      go_wp2_with (go_at_call 99; refine (HSH.out i W hi4 hT hL).mono ?_; rintro e W1 ⟨rfl, hB1, hL1⟩; have hL2 := LeAt.show hL1; have c1 := c9 _ hB1)
      go_step3
      exact ⟨rfl, ⟨i + 1, _, _, _, _, _, _, _, _, _, by omega, by omega, hT.trans (Turn.of_but hB1), hL2, rfl⟩, by simp; omega⟩

end Go.Proofs.YtoobopohohoidaaGreatDoor
