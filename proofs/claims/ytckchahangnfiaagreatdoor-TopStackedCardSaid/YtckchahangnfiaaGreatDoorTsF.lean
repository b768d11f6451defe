/- TopStacked: the loop that makes the pieces. -/
import Derived.Test.YtckchahangnfiaaGreatDoorTsE
import Derived.Deep.DeepCutAuto
import Derived.Deep.AppendLies
namespace Go.Proofs.YtckchahangnfiaaGreatDoor
open Go.RowKit

theorem info_bag : (Tryz.prog.info? 35).map (fun i => (i.zero, i.size, i.bytes)) = some (some (.agg #[.int .i64 0, .int .i64 0, .int .i64 0]), 3, 24) := by kernel_rfl
theorem info_parcel : (Tryz.prog.info? 37).map (fun i => (i.zero, i.size, i.bytes)) = some (some (.agg #[.int .i64 0, .int .i64 0, .int .i64 0, .int .i64 0]), 4, 32) := by kernel_rfl

/-- What the round's region knows of the shelf's cells, by what has come up. -/
def Gs (w : World) (bv pv : Value) (L : Array Bool) (W : World) : Prop :=
  (L.getD 13 true = false → W.cell? ⟨w.heap.size + 1 + 1, 1, none⟩ = some bv) ∧ (L.getD 15 true = false → W.cell? ⟨w.heap.size + 1 + 1, 2, none⟩ = some pv)
theorem Gs.i {w : World} {bv pv : Value} {i : Nat} (h13 : i ≠ 13) (h15 : i ≠ 15) (L : Array Bool) (W : World) (h : Gs w bv pv (L.setIfInBounds i true) W) : Gs w bv pv L W := by
  unfold Gs at h ⊢
  rw [getD_set_ne true h13, getD_set_ne true h15] at h
  exact h

theorem grown_other {W W' : World} {base e size n B t : Nat} {v : Value} {xs : List Value} {c : Array Value} (hr : W.ownsRow base e size v n xs) (hg : W.grownBy W' v.ownBlock) (hB : W.heap[B]? = some (.cells c t (0, 0))) (hne : t ≠ e) : W'.heap[B]? = some (.cells c t (0, 0)) := by
  refine (hg.block B (Array.getElem?_eq_some_iff.1 hB).1 fun e1 => ?_).trans hB
  rcases hr.2 with ⟨rfl, _⟩ | ⟨g, cap, cur, rfl, _, hgb, _⟩
  · simp [Value.ownBlock] at e1
  · simp [Value.ownBlock] at e1
    subst e1
    rw [hB] at hgb
    simp at hgb
    exact hne hgb.2
theorem Mem.named {w W : World} {g g' pn pn' : Nat} {bs ps : List Int} {c1 c2 c3 bv pv qv : Value} (h : Mem w g bs pn ps c1 c2 c3 bv pv qv W) (hg : g = g') (hp : pn = pn') : Mem w g' bs pn' ps c1 c2 c3 bv pv qv W := by
  subst hg; subst hp; exact h

/-- What the region of the shelf of two loads. -/
structure LS (w : World) (gb n cb q k : Nat) (x y : Int) (W : World) : Prop where
  lane : W.cell? ⟨w.heap.size + 1 + 1, 0, none⟩ = some (.slice (some ⟨w.heap.size + 1, 0, none⟩) 1 1)
  bags : W.cell? ⟨w.heap.size + 1 + 1, 1, none⟩ = some (.slice (some ⟨gb, 0, none⟩) n cb)
  q0 : W.cell? ⟨gb, q * 3, none⟩ = some (.int .i64 1)
  q1 : W.cell? ⟨gb, q * 3 + 1, none⟩ = some (.int .i64 x)
  q2 : W.cell? ⟨gb, q * 3 + 2, none⟩ = some (.int .i64 x)
  k0 : W.cell? ⟨gb, k * 3, none⟩ = some (.int .i64 1)
  k1 : W.cell? ⟨gb, k * 3 + 1, none⟩ = some (.int .i64 y)
  k2 : W.cell? ⟨gb, k * 3 + 2, none⟩ = some (.int .i64 y)
  lt : w.heap.size + 1 + 1 < W.heap.size
  gt : gb < W.heap.size
theorem LS.keep {w W W' : World} {gb n cb q k : Nat} {x y : Int} (h : LS w gb n cb q k x y W) (hB : Below W.heap.size W W') : LS w gb n cb q k x y W' := by
  have a : ∀ o, W'.cell? ⟨w.heap.size + 1 + 1, o, none⟩ = W.cell? ⟨w.heap.size + 1 + 1, o, none⟩ := fun o => hB.cell (p := ⟨w.heap.size + 1 + 1, o, none⟩) h.lt
  have b : ∀ o, W'.cell? ⟨gb, o, none⟩ = W.cell? ⟨gb, o, none⟩ := fun o => hB.cell (p := ⟨gb, o, none⟩) h.gt
  exact ⟨(a _).trans h.lane, (a _).trans h.bags, (b _).trans h.q0, (b _).trans h.q1, (b _).trans h.q2, (b _).trans h.k0, (b _).trans h.k1, (b _).trans h.k2, Nat.lt_of_lt_of_le h.lt hB.size, Nat.lt_of_lt_of_le h.gt hB.size⟩

set_option maxRecDepth 100000 in
set_option maxHeartbeats 8000000 in
theorem stacked_any (A : Option Addr) (n cap : Nat) (f : Nat → Int) (w : World) (hn : n ≤ 140737488351232) (h : Ints w w.heap.size A n f) :
    Calls Tryz.prog 3 #[.slice A n cap] w fun e w' => e = .returned (.bool true) ∧ Below w.heap.size w w' := by
  have HI := Go.Lib.hid h; clear h
  obtain ⟨i0, hi, hz0, hz1, hz2⟩ := info_parts info_int'
  obtain ⟨ib, hib, hzb0, hzb1, hzb2⟩ := info_parts info_bag
  obtain ⟨ip, hip, hzp0, hzp1, hzp2⟩ := info_parts info_parcel
  go_enter Tryz.func3, Tryz.ntmps3
  go_wp2_with (first
    | (go_at_call 4; refine (newTin_any A n cap f _ hn HI.out).mono ?_; rintro e w1 ⟨rfl, hB1, hz1, ht1⟩
       have HT1 := Go.Lib.hid ht1; clear ht1
       have HZ1 := Go.Lib.hid hz1; clear hz1
       have HB1 := Go.Lib.hid hB1; clear hB1))
  rw [HZ1.out]
  have hM := Mem.start HB1.out HZ1.out HT1.out
  clear HT1 HB1
  obtain ⟨W0, hW0⟩ : ∃ W0, (((w1.alloc (.cells #[.int .i64 9] 3)).alloc (.cells #[.slice (some ⟨w.heap.size + 1, 0, none⟩) 1 1, .slice none 0 0, .slice none 0 0] 27)).alloc (.cells #[.slice none 0 0, .int .i64 2] 30)) = W0 := ⟨_, rfl⟩
  rw [hW0] at hM ⊢
  clear hW0 HZ1
  refine (upto_any w.heap.size w.heap.size 0 5 _ (by omega) (by omega) (by omega) hM.tin).mono ?_
  rintro e W1 ⟨v5, hv5, rfl, ho, ht⟩
  have HM := Go.Lib.hid (hM.tick ho ht)
  clear hM ho ht
  have hv : v5 ≤ 5 := by omega
  clear hv5
  go_wp2_with fail
  go_loopw [6] (fun i W => ∃ (m : Nat) (hs : List Int) (bv pv qv : Value), m + hs.length = v5 ∧ i = .int .i64 m ∧ Go.RowKit.Hid (Mem w (1 + hs.length) hs hs.length hs bv pv qv bv pv qv W ∧ ∀ x ∈ hs, 0 ≤ x ∧ x ≤ 6)) (fun i _ => (intOf i).toNat)
  case atStart => exact ⟨v5, [], _, _, _, by simp, rfl, Go.Lib.hid ⟨HM.out, by simp⟩⟩
  case round =>
    obtain ⟨m, hs, bv, pv, qv, hmk, rfl, HH⟩ := hrel
    clear HM
    have HMK := Go.Lib.hid hmk; clear hmk
    cases m with
    | succ m =>
      have hm0 : (0 : Int) < ((m + 1 : Nat) : Int) := by omega
      have hm4 : m ≤ 4 := by have := HMK.out; omega
      go_wp2_with (first
        | (go_at_call 5; refine (upto_any w.heap.size w.heap.size (1 + hs.length) 6 _ (by have := HMK.out; omega) (by omega) (by omega) HH.out.1.tin).mono ?_; rintro e W2 ⟨h, hh6, rfl, ho, ht⟩
           have hM2 := HH.out.1.tick ho ht
           have HM2 := Go.Lib.hid hM2; clear hM2))
      have c1 : W2.cell? ⟨w.heap.size + 1 + 1, 1, none⟩ = some bv := cellH HM2.out.shelf 1
      have c2 : W2.cell? ⟨w.heap.size + 1 + 1, 2, none⟩ = some pv := cellH HM2.out.shelf 2
      have hG0 : ∀ L, Gs w bv pv L W2.drew := fun L => ⟨fun _ => c1, fun _ => c2⟩
      clear c1 c2
      have hh : (h : Int) ≤ 6 := by omega
      have hl5 : hs.length ≤ 5 := by have := HMK.out; omega
      clear hh6
      have HGX := Go.Lib.hid (fun L W (c0 : Value) (h : W.heap[w.heap.size + 2]? = some (.cells #[c0, bv, pv] 27 (0, 0))) => (⟨fun _ => cellH h 1, fun _ => cellH h 2⟩ : Gs w bv pv L W))
      refine wp_region_G (Gs w bv pv) (by kernel_rfl) ?_
      refine wpAnyG_take0 (i := 0) (v := .pointer (some ⟨w.heap.size + 1 + 1, 1, none⟩)) rfl (Gs.i (by decide) (by decide)) (by kernel_rfl) (by kernel_rfl) (by kernel_rfl) (fun _ _ _ h => h) (.inl ⟨by rfl, fun w _ => by go_simp⟩) (hG0 _) ?_
      simp only [Act.put, List.setIfInBounds_toArray]
      refine wpAnyG_take 13 (i := 1) (v := bv) (S := fun W => W.cell? ⟨w.heap.size + 1 + 1, 1, none⟩ = some bv) rfl rfl (by kernel_rfl) (fun L W h hl => h.1 hl) (Gs.i (by decide) (by decide)) (by decide) (by kernel_rfl) (by kernel_rfl) (by kernel_rfl) (by kernel_rfl) (fun _ _ _ h => h) (.inl ⟨by rfl, fun w hSw => by (try dsimp only at hSw); go_simp⟩) (hG0 _) ?_
      simp only [Act.put]
      refine wpAnyG_take0 (i := 2) (v := .int .i64 h) rfl (Gs.i (by decide) (by decide)) (by kernel_rfl) (by kernel_rfl) (by kernel_rfl) (fun _ _ _ h => h) (.inl ⟨by rfl, fun w _ => by go_simp⟩) (hG0 _) ?_
      simp only [Act.put]
      refine wpAnyG_take0 (i := 3) (v := .int .i64 h) rfl (Gs.i (by decide) (by decide)) (by kernel_rfl) (by kernel_rfl) (by kernel_rfl) (fun _ _ _ h => h) (.inl ⟨by rfl, fun w _ => by go_simp⟩) (hG0 _) ?_
      simp only [Act.put]
      refine wpAnyG_take0 (i := 4) (v := .agg #[.int .i64 h, .int .i64 h]) rfl (Gs.i (by decide) (by decide)) (by kernel_rfl) (by kernel_rfl) (by kernel_rfl) (fun _ _ _ h => h) (.inl ⟨by rfl, fun w _ => by go_simp⟩) (hG0 _) ?_
      simp only [Act.put]
      refine wpAnyG_take0 (i := 5) (v := .agg #[.int .i64 1, .int .i64 h, .int .i64 h]) rfl (Gs.i (by decide) (by decide)) (by kernel_rfl) (by kernel_rfl) (by kernel_rfl) (fun _ _ _ h => h) (.inl ⟨by rfl, fun w _ => by go_simp⟩) (hG0 _) ?_
      simp only [Act.put]
      refine wpAnyG_take0 (i := 8) (v := .pointer (some ⟨w.heap.size + 1 + 1, 2, none⟩)) rfl (Gs.i (by decide) (by decide)) (by kernel_rfl) (by kernel_rfl) (by kernel_rfl) (fun _ _ _ h => h) (.inl ⟨by rfl, fun w _ => by go_simp⟩) (hG0 _) ?_
      simp only [Act.put]
      refine wpAnyG_take 15 (i := 9) (v := pv) (S := fun W => W.cell? ⟨w.heap.size + 1 + 1, 2, none⟩ = some pv) rfl rfl (by kernel_rfl) (fun L W h hl => h.2 hl) (Gs.i (by decide) (by decide)) (by decide) (by kernel_rfl) (by kernel_rfl) (by kernel_rfl) (by kernel_rfl) (fun _ _ _ h => h) (.inl ⟨by rfl, fun w hSw => by (try dsimp only at hSw); go_simp⟩) (hG0 _) ?_
      simp only [Act.put]
      refine wpAnyG_ready (rs := [6, 10]) (by kernel_rfl) (by simp) ?_
      refine AllReadyG.cons rfl (fun K hK => ?_) (AllReadyG.cons rfl (fun K hK => ?_) AllReadyG.nil)
      · as_aux_lemma =>
          go_simp
          have HMW3 := Go.Lib.hid (HM2.out.keep (W' := (W2.alloc (.cells #[.int .i64 1, .int .i64 (h : Int), .int .i64 (h : Int)] 35)).drew) (((Below.refl _ _).alloc (Nat.le_refl _) _).drew))
          have n6W3 := heap_alloc_new W2 (.cells #[.int .i64 1, .int .i64 (h : Int), .int .i64 (h : Int)] 35)
          have h6W3 : (W2.alloc (.cells #[.int .i64 1, .int .i64 (h : Int), .int .i64 (h : Int)] 35)).drew.heap[W2.heap.size]? = some (.cells #[.int .i64 1, .int .i64 (h : Int), .int .i64 (h : Int)] 35 (0, 0)) := n6W3
          clear n6W3
          obtain ⟨B6, hB6⟩ : ∃ B6, W2.heap.size = B6 := ⟨_, rfl⟩
          rw [hB6] at h6W3 ⊢
          obtain ⟨W3, hqW3⟩ : ∃ W3, (W2.alloc (.cells #[.int .i64 1, .int .i64 (h : Int), .int .i64 (h : Int)] 35)).drew = W3 := ⟨_, rfl⟩
          rw [hqW3] at HMW3 h6W3 ⊢
          clear hqW3 hB6
          have H6W3 := Go.Lib.hid h6W3; clear h6W3
          refine hK.out _ _ (HGX.out _ _ _ HMW3.out.shelf) ?_
          clear hK K
          refine wpAnyG_ready (rs := [7, 10]) (by kernel_rfl) (by simp) ?_
          refine AllReadyG.cons rfl (fun K hK => ?_) (AllReadyG.cons rfl (fun K hK => ?_) AllReadyG.nil)
          · as_aux_lemma =>
              refine step_append_lies _ rfl (.tmp 33) (.tmp 38) 25 rfl (w.heap.size + 4) 35 ib (.agg #[.int .i64 0, .int .i64 0, .int .i64 0]) 3 24 Tryz.underlying25 hib hzb0 hzb1 hzb2 rfl (by omega) bv hs.length (bagCells hs) rfl HMW3.out.bags ⟨B6, 0, none⟩ 1 1 [.int .i64 1, .int .i64 (h : Int), .int .i64 (h : Int)] rfl rfl (World.news_of_block (cs := #[.int .i64 1, .int .i64 (h : Int), .int .i64 (h : Int)]) H6W3.out) (by simp [Value.oneCell']) (by omega) (by unfold maxLen; omega) (by omega) HMW3.out.size W3.heap.size rfl ?_
              intro bg bc W4 hown hgrow _ _
              have HMW4 := Go.Lib.hid (HMW3.out.growBags hgrow hown)
              clear hown hgrow
              refine hK.out _ _ (HGX.out _ _ _ HMW4.out.shelf) ?_
              clear hK K
              simp only [Act.put, List.setIfInBounds_toArray]
              refine wpAnyG_take0 (i := 12) (v := .pointer (some ⟨w.heap.size + 1 + 1, 1, none⟩)) rfl (Gs.i (by decide) (by decide)) (by kernel_rfl) (by kernel_rfl) (by kernel_rfl) (fun _ _ _ h => h) (.inl ⟨by rfl, fun w _ => by go_simp⟩) (HGX.out _ _ _ HMW4.out.shelf) ?_
              simp only [Act.put]
              refine wpAnyG_ready (rs := [10]) (by kernel_rfl) (by simp) ?_
              refine AllReadyG.cons rfl (fun K hK => ?_) AllReadyG.nil
              go_simp
              have HMW5 := Go.Lib.hid (HMW4.out.keep (W' := (W4.alloc (.cells #[.int .i64 0] 3))) ((Below.refl _ _).alloc (Nat.le_refl _) _))
              have n10W5 := heap_alloc_new W4 (.cells #[.int .i64 0] 3)
              have h10W5 : (W4.alloc (.cells #[.int .i64 0] 3)).heap[W4.heap.size]? = some (.cells #[.int .i64 0] 3 (0, 0)) := n10W5
              clear n10W5
              obtain ⟨B10, hB10⟩ : ∃ B10, W4.heap.size = B10 := ⟨_, rfl⟩
              rw [hB10] at h10W5 ⊢
              obtain ⟨W5, hqW5⟩ : ∃ W5, (W4.alloc (.cells #[.int .i64 0] 3)) = W5 := ⟨_, rfl⟩
              rw [hqW5] at HMW5 h10W5 ⊢
              clear hqW5 hB10
              have H10W5 := Go.Lib.hid h10W5; clear h10W5
              refine hK.out _ _ (HGX.out _ _ _ HMW5.out.shelf) ?_
              clear hK K
              refine wpAnyG_ready (rs := [11]) (by kernel_rfl) (by simp) ?_
              refine AllReadyG.cons rfl (fun K hK => ?_) AllReadyG.nil
              refine step_append_lies _ rfl (.tmp 41) (.tmp 42) 22 rfl (w.heap.size + 4) 3 i0 (.int .i64 0) 1 8 Tryz.underlying22 hi hz0 hz1 hz2 rfl (by omega) pv hs.length (List.replicate hs.length (.int .i64 0)) rfl HMW5.out.plan ⟨B10, 0, none⟩ 1 1 [.int .i64 0] rfl rfl (World.news_of_block (cs := #[.int .i64 0]) H10W5.out) (by simp [Value.oneCell']) (by omega) (by unfold maxLen; omega) (by omega) HMW5.out.size W5.heap.size rfl ?_
              intro pg pc W6 hown hgrow _ _
              have HMW6 := Go.Lib.hid (HMW5.out.growPlan hgrow hown)
              clear hown hgrow
              refine hK.out _ _ (HGX.out _ _ _ HMW6.out.shelf) ?_
              clear hK K
              simp only [Act.put, List.setIfInBounds_toArray]
              refine wpAnyG_ready (rs := [13]) (by kernel_rfl) (by simp) ?_
              refine AllReadyG.cons rfl (fun K hK => ?_) AllReadyG.nil
              have c1 : W6.cell? ⟨w.heap.size + 1 + 1, 1, none⟩ = some bv := cellH HMW6.out.shelf 1
              have c2 : W6.frozen? ⟨w.heap.size + 1 + 1, 1, none⟩ = false := freeH HMW6.out.shelf 1
              go_simp
              clear c1 c2
              have hM := HMW6.out.setBags (.slice (some ⟨bg, 0, none⟩) (hs.length + 1) bc)
              obtain ⟨W7, hq⟩ : ∃ W7, W6.setCell ⟨w.heap.size + 1 + 1, 1, none⟩ (.slice (some ⟨bg, 0, none⟩) (hs.length + 1) bc) = W7 := ⟨_, rfl⟩
              change Mem w _ _ _ _ _ _ _ _ _ _ (W6.setCell ⟨w.heap.size + 1 + 1, 1, none⟩ (.slice (some ⟨bg, 0, none⟩) (hs.length + 1) bc)) at hM
              rw [hq] at hM ⊢
              clear hq
              have HMW7 := Go.Lib.hid hM; clear hM
              have hG : ∀ L, L.getD 13 true = true → Gs w bv pv L W7 := fun L hl => ⟨fun hf => absurd (hl.symm.trans hf) (by decide), fun _ => cellH HMW7.out.shelf 2⟩
              refine hK.out _ _ (hG _ (by kernel_rfl)) ?_
              clear hK K
              refine wpAnyG_take0 (i := 14) (v := .pointer (some ⟨w.heap.size + 1 + 1, 2, none⟩)) rfl (Gs.i (by decide) (by decide)) (by kernel_rfl) (by kernel_rfl) (by kernel_rfl) (fun _ _ _ h => h) (.inl ⟨by rfl, fun w _ => by go_simp⟩) (hG _ (by kernel_rfl)) ?_
              simp only [Act.put, List.setIfInBounds_toArray]
              clear hG
              refine wpAnyG_ready (rs := [15]) (by kernel_rfl) (by simp) ?_
              refine AllReadyG.cons rfl (fun K hK => ?_) AllReadyG.nil
              have c1 : W7.cell? ⟨w.heap.size + 1 + 1, 2, none⟩ = some pv := cellH HMW7.out.shelf 2
              have c2 : W7.frozen? ⟨w.heap.size + 1 + 1, 2, none⟩ = false := freeH HMW7.out.shelf 2
              go_simp
              clear c1 c2
              have hM := HMW7.out.setPlan (.slice (some ⟨pg, 0, none⟩) (hs.length + 1) pc)
              obtain ⟨W8, hq⟩ : ∃ W8, W7.setCell ⟨w.heap.size + 1 + 1, 2, none⟩ (.slice (some ⟨pg, 0, none⟩) (hs.length + 1) pc) = W8 := ⟨_, rfl⟩
              change Mem w _ _ _ _ _ _ _ _ _ _ (W7.setCell ⟨w.heap.size + 1 + 1, 2, none⟩ (.slice (some ⟨pg, 0, none⟩) (hs.length + 1) pc)) at hM
              rw [hq] at hM ⊢
              clear hq
              have HMW8 := Go.Lib.hid hM; clear hM
              refine hK.out _ _ ⟨fun hf => absurd (hf.symm.trans (show _ = true by kernel_rfl)) (by decide), fun hf => absurd (hf.symm.trans (show _ = true by kernel_rfl)) (by decide)⟩ ?_
              clear hK K
              refine wpAnyG_done (by kernel_rfl) ?_ _
              have cy : W8.cell? ⟨w.heap.size + 1 + 1 + 1, 0, none⟩ = some qv := cellH HMW8.out.yard 0
              go_wp2_with (at_builtin; refine wpList_append_own _ rfl _ _ 28 rfl (w.heap.size + 4) 37 ip (.agg #[.int .i64 0, .int .i64 0, .int .i64 0, .int .i64 0]) 4 32 Tryz.underlying28 hip hzp0 hzp1 hzp2 rfl (by decide) _ _ _ rfl (HMW8.out.keep ((Below.refl _ W8).alloc (Nat.le_refl _) (.cells #[.int .i64 ((h : Int) + 1), .int .i64 ((h : Int) + 1), .int .i64 ((h : Int) + 1), .int .i64 1] 37))).parc ⟨W8.heap.size, 0, none⟩ 1 1 [.int .i64 ((h : Int) + 1), .int .i64 ((h : Int) + 1), .int .i64 ((h : Int) + 1), .int .i64 1] rfl rfl (World.news_of_block (cs := #[.int .i64 ((h : Int) + 1), .int .i64 ((h : Int) + 1), .int .i64 ((h : Int) + 1), .int .i64 1]) (heap_alloc_new _ _)) (by simp [Value.oneCell']) (by unfold maxLen; omega) (by omega) (by have := HMW8.out.size; simp; omega) ?_; intro qv' WA hown hgrow _; obtain ⟨qg, qc, rfl⟩ := ownsRow_succ hown; have hMA := (HMW8.out.keep ((Below.refl _ W8).alloc (Nat.le_refl _) (.cells #[.int .i64 ((h : Int) + 1), .int .i64 ((h : Int) + 1), .int .i64 ((h : Int) + 1), .int .i64 1] 37))).growParc hgrow hown; have ca : WA.cell? ⟨w.heap.size + 1 + 1 + 1, 0, none⟩ = some qv := cellH hMA.yard 0; have cf : WA.frozen? ⟨w.heap.size + 1 + 1 + 1, 0, none⟩ = false := freeH hMA.yard 0; have HMA := Go.Lib.hid hMA; clear hMA hown hgrow)
              go_roundw
              case rel => exact ⟨m, hs ++ [(h : Int)], _, _, _, by have := HMK.out; rw [List.length_append, List.length_singleton]; omega, by go_num, Go.Lib.hid ⟨(HMA.out.setYard _).named (by rw [List.length_append, List.length_singleton]; omega) (by rw [List.length_append, List.length_singleton]), fun x hx => by
                rcases List.mem_append.1 hx with h1 | h1
                · exact HH.out.2 x h1
                · have : x = (h : Int) := by simpa using h1
                  omega⟩⟩
              case measure => simp [intOf]
          · as_aux_lemma =>
              go_simp
              have HMW4 := Go.Lib.hid (HMW3.out.keep (W' := (W3.alloc (.cells #[.int .i64 0] 3))) ((Below.refl _ _).alloc (Nat.le_refl _) _))
              have n10W4 := heap_alloc_new W3 (.cells #[.int .i64 0] 3)
              have h10W4 : (W3.alloc (.cells #[.int .i64 0] 3)).heap[W3.heap.size]? = some (.cells #[.int .i64 0] 3 (0, 0)) := n10W4
              clear n10W4
              have h6W4 : (W3.alloc (.cells #[.int .i64 0] 3)).heap[B6]? = some (.cells #[.int .i64 1, .int .i64 (h : Int), .int .i64 (h : Int)] 35 (0, 0)) := (Below.heap_alloc _ _ _ (Array.getElem?_eq_some_iff.1 H6W3.out).1).trans H6W3.out
              obtain ⟨B10, hB10⟩ : ∃ B10, W3.heap.size = B10 := ⟨_, rfl⟩
              rw [hB10] at h10W4 ⊢
              obtain ⟨W4, hqW4⟩ : ∃ W4, (W3.alloc (.cells #[.int .i64 0] 3)) = W4 := ⟨_, rfl⟩
              rw [hqW4] at HMW4 h10W4 h6W4 ⊢
              clear hqW4 hB10
              have H10W4 := Go.Lib.hid h10W4; clear h10W4
              have H6W4 := Go.Lib.hid h6W4; clear h6W4
              refine hK.out _ _ (HGX.out _ _ _ HMW4.out.shelf) ?_
              clear hK K
              refine wpAnyG_ready (rs := [7]) (by kernel_rfl) (by simp) ?_
              refine AllReadyG.cons rfl (fun K hK => ?_) AllReadyG.nil
              refine step_append_lies _ rfl (.tmp 33) (.tmp 38) 25 rfl (w.heap.size + 4) 35 ib (.agg #[.int .i64 0, .int .i64 0, .int .i64 0]) 3 24 Tryz.underlying25 hib hzb0 hzb1 hzb2 rfl (by omega) bv hs.length (bagCells hs) rfl HMW4.out.bags ⟨B6, 0, none⟩ 1 1 [.int .i64 1, .int .i64 (h : Int), .int .i64 (h : Int)] rfl rfl (World.news_of_block (cs := #[.int .i64 1, .int .i64 (h : Int), .int .i64 (h : Int)]) H6W4.out) (by simp [Value.oneCell']) (by omega) (by unfold maxLen; omega) (by omega) HMW4.out.size W4.heap.size rfl ?_
              intro bg bc W5 hown hgrow _ _
              have H10W5 := Go.Lib.hid (grown_other HMW4.out.bags hgrow H10W4.out (by decide))
              have HMW5 := Go.Lib.hid (HMW4.out.growBags hgrow hown)
              clear hown hgrow
              refine hK.out _ _ (HGX.out _ _ _ HMW5.out.shelf) ?_
              clear hK K
              simp only [Act.put, List.setIfInBounds_toArray]
              refine wpAnyG_take0 (i := 12) (v := .pointer (some ⟨w.heap.size + 1 + 1, 1, none⟩)) rfl (Gs.i (by decide) (by decide)) (by kernel_rfl) (by kernel_rfl) (by kernel_rfl) (fun _ _ _ h => h) (.inl ⟨by rfl, fun w _ => by go_simp⟩) (HGX.out _ _ _ HMW5.out.shelf) ?_
              simp only [Act.put]
              refine wpAnyG_ready (rs := [11]) (by kernel_rfl) (by simp) ?_
              refine AllReadyG.cons rfl (fun K hK => ?_) AllReadyG.nil
              refine step_append_lies _ rfl (.tmp 41) (.tmp 42) 22 rfl (w.heap.size + 4) 3 i0 (.int .i64 0) 1 8 Tryz.underlying22 hi hz0 hz1 hz2 rfl (by omega) pv hs.length (List.replicate hs.length (.int .i64 0)) rfl HMW5.out.plan ⟨B10, 0, none⟩ 1 1 [.int .i64 0] rfl rfl (World.news_of_block (cs := #[.int .i64 0]) H10W5.out) (by simp [Value.oneCell']) (by omega) (by unfold maxLen; omega) (by omega) HMW5.out.size W5.heap.size rfl ?_
              intro pg pc W6 hown hgrow _ _
              have HMW6 := Go.Lib.hid (HMW5.out.growPlan hgrow hown)
              clear hown hgrow
              refine hK.out _ _ (HGX.out _ _ _ HMW6.out.shelf) ?_
              clear hK K
              simp only [Act.put]
              refine wpAnyG_ready (rs := [13]) (by kernel_rfl) (by simp) ?_
              refine AllReadyG.cons rfl (fun K hK => ?_) AllReadyG.nil
              have c1 : W6.cell? ⟨w.heap.size + 1 + 1, 1, none⟩ = some bv := cellH HMW6.out.shelf 1
              have c2 : W6.frozen? ⟨w.heap.size + 1 + 1, 1, none⟩ = false := freeH HMW6.out.shelf 1
              go_simp
              clear c1 c2
              have hM := HMW6.out.setBags (.slice (some ⟨bg, 0, none⟩) (hs.length + 1) bc)
              obtain ⟨W7, hq⟩ : ∃ W7, W6.setCell ⟨w.heap.size + 1 + 1, 1, none⟩ (.slice (some ⟨bg, 0, none⟩) (hs.length + 1) bc) = W7 := ⟨_, rfl⟩
              change Mem w _ _ _ _ _ _ _ _ _ _ (W6.setCell ⟨w.heap.size + 1 + 1, 1, none⟩ (.slice (some ⟨bg, 0, none⟩) (hs.length + 1) bc)) at hM
              rw [hq] at hM ⊢
              clear hq
              have HMW7 := Go.Lib.hid hM; clear hM
              have hG : ∀ L, L.getD 13 true = true → Gs w bv pv L W7 := fun L hl => ⟨fun hf => absurd (hl.symm.trans hf) (by decide), fun _ => cellH HMW7.out.shelf 2⟩
              refine hK.out _ _ (hG _ (by kernel_rfl)) ?_
              clear hK K
              refine wpAnyG_take0 (i := 14) (v := .pointer (some ⟨w.heap.size + 1 + 1, 2, none⟩)) rfl (Gs.i (by decide) (by decide)) (by kernel_rfl) (by kernel_rfl) (by kernel_rfl) (fun _ _ _ h => h) (.inl ⟨by rfl, fun w _ => by go_simp⟩) (hG _ (by kernel_rfl)) ?_
              simp only [Act.put, List.setIfInBounds_toArray]
              clear hG
              refine wpAnyG_ready (rs := [15]) (by kernel_rfl) (by simp) ?_
              refine AllReadyG.cons rfl (fun K hK => ?_) AllReadyG.nil
              have c1 : W7.cell? ⟨w.heap.size + 1 + 1, 2, none⟩ = some pv := cellH HMW7.out.shelf 2
              have c2 : W7.frozen? ⟨w.heap.size + 1 + 1, 2, none⟩ = false := freeH HMW7.out.shelf 2
              go_simp
              clear c1 c2
              have hM := HMW7.out.setPlan (.slice (some ⟨pg, 0, none⟩) (hs.length + 1) pc)
              obtain ⟨W8, hq⟩ : ∃ W8, W7.setCell ⟨w.heap.size + 1 + 1, 2, none⟩ (.slice (some ⟨pg, 0, none⟩) (hs.length + 1) pc) = W8 := ⟨_, rfl⟩
              change Mem w _ _ _ _ _ _ _ _ _ _ (W7.setCell ⟨w.heap.size + 1 + 1, 2, none⟩ (.slice (some ⟨pg, 0, none⟩) (hs.length + 1) pc)) at hM
              rw [hq] at hM ⊢
              clear hq
              have HMW8 := Go.Lib.hid hM; clear hM
              refine hK.out _ _ ⟨fun hf => absurd (hf.symm.trans (show _ = true by kernel_rfl)) (by decide), fun hf => absurd (hf.symm.trans (show _ = true by kernel_rfl)) (by decide)⟩ ?_
              clear hK K
              refine wpAnyG_done (by kernel_rfl) ?_ _
              have cy : W8.cell? ⟨w.heap.size + 1 + 1 + 1, 0, none⟩ = some qv := cellH HMW8.out.yard 0
              go_wp2_with (at_builtin; refine wpList_append_own _ rfl _ _ 28 rfl (w.heap.size + 4) 37 ip (.agg #[.int .i64 0, .int .i64 0, .int .i64 0, .int .i64 0]) 4 32 Tryz.underlying28 hip hzp0 hzp1 hzp2 rfl (by decide) _ _ _ rfl (HMW8.out.keep ((Below.refl _ W8).alloc (Nat.le_refl _) (.cells #[.int .i64 ((h : Int) + 1), .int .i64 ((h : Int) + 1), .int .i64 ((h : Int) + 1), .int .i64 1] 37))).parc ⟨W8.heap.size, 0, none⟩ 1 1 [.int .i64 ((h : Int) + 1), .int .i64 ((h : Int) + 1), .int .i64 ((h : Int) + 1), .int .i64 1] rfl rfl (World.news_of_block (cs := #[.int .i64 ((h : Int) + 1), .int .i64 ((h : Int) + 1), .int .i64 ((h : Int) + 1), .int .i64 1]) (heap_alloc_new _ _)) (by simp [Value.oneCell']) (by unfold maxLen; omega) (by omega) (by have := HMW8.out.size; simp; omega) ?_; intro qv' WA hown hgrow _; obtain ⟨qg, qc, rfl⟩ := ownsRow_succ hown; have hMA := (HMW8.out.keep ((Below.refl _ W8).alloc (Nat.le_refl _) (.cells #[.int .i64 ((h : Int) + 1), .int .i64 ((h : Int) + 1), .int .i64 ((h : Int) + 1), .int .i64 1] 37))).growParc hgrow hown; have ca : WA.cell? ⟨w.heap.size + 1 + 1 + 1, 0, none⟩ = some qv := cellH hMA.yard 0; have cf : WA.frozen? ⟨w.heap.size + 1 + 1 + 1, 0, none⟩ = false := freeH hMA.yard 0; have HMA := Go.Lib.hid hMA; clear hMA hown hgrow)
              go_roundw
              case rel => exact ⟨m, hs ++ [(h : Int)], _, _, _, by have := HMK.out; rw [List.length_append, List.length_singleton]; omega, by go_num, Go.Lib.hid ⟨(HMA.out.setYard _).named (by rw [List.length_append, List.length_singleton]; omega) (by rw [List.length_append, List.length_singleton]), fun x hx => by
                rcases List.mem_append.1 hx with h1 | h1
                · exact HH.out.2 x h1
                · have : x = (h : Int) := by simpa using h1
                  omega⟩⟩
              case measure => simp [intOf]
      · as_aux_lemma =>
          go_simp
          have HMW3 := Go.Lib.hid (HM2.out.keep (W' := (W2.alloc (.cells #[.int .i64 0] 3)).drew) (((Below.refl _ _).alloc (Nat.le_refl _) _).drew))
          have n10W3 := heap_alloc_new W2 (.cells #[.int .i64 0] 3)
          have h10W3 : (W2.alloc (.cells #[.int .i64 0] 3)).drew.heap[W2.heap.size]? = some (.cells #[.int .i64 0] 3 (0, 0)) := n10W3
          clear n10W3
          obtain ⟨B10, hB10⟩ : ∃ B10, W2.heap.size = B10 := ⟨_, rfl⟩
          rw [hB10] at h10W3 ⊢
          obtain ⟨W3, hqW3⟩ : ∃ W3, (W2.alloc (.cells #[.int .i64 0] 3)).drew = W3 := ⟨_, rfl⟩
          rw [hqW3] at HMW3 h10W3 ⊢
          clear hqW3 hB10
          have H10W3 := Go.Lib.hid h10W3; clear h10W3
          refine hK.out _ _ (HGX.out _ _ _ HMW3.out.shelf) ?_
          clear hK K
          refine wpAnyG_ready (rs := [6]) (by kernel_rfl) (by simp) ?_
          refine AllReadyG.cons rfl (fun K hK => ?_) AllReadyG.nil
          go_simp
          have HMW4 := Go.Lib.hid (HMW3.out.keep (W' := (W3.alloc (.cells #[.int .i64 1, .int .i64 (h : Int), .int .i64 (h : Int)] 35))) ((Below.refl _ _).alloc (Nat.le_refl _) _))
          have n6W4 := heap_alloc_new W3 (.cells #[.int .i64 1, .int .i64 (h : Int), .int .i64 (h : Int)] 35)
          have h6W4 : (W3.alloc (.cells #[.int .i64 1, .int .i64 (h : Int), .int .i64 (h : Int)] 35)).heap[W3.heap.size]? = some (.cells #[.int .i64 1, .int .i64 (h : Int), .int .i64 (h : Int)] 35 (0, 0)) := n6W4
          clear n6W4
          have h10W4 : (W3.alloc (.cells #[.int .i64 1, .int .i64 (h : Int), .int .i64 (h : Int)] 35)).heap[B10]? = some (.cells #[.int .i64 0] 3 (0, 0)) := (Below.heap_alloc _ _ _ (Array.getElem?_eq_some_iff.1 H10W3.out).1).trans H10W3.out
          obtain ⟨B6, hB6⟩ : ∃ B6, W3.heap.size = B6 := ⟨_, rfl⟩
          rw [hB6] at h6W4 ⊢
          obtain ⟨W4, hqW4⟩ : ∃ W4, (W3.alloc (.cells #[.int .i64 1, .int .i64 (h : Int), .int .i64 (h : Int)] 35)) = W4 := ⟨_, rfl⟩
          rw [hqW4] at HMW4 h6W4 h10W4 ⊢
          clear hqW4 hB6
          have H6W4 := Go.Lib.hid h6W4; clear h6W4
          have H10W4 := Go.Lib.hid h10W4; clear h10W4
          refine hK.out _ _ (HGX.out _ _ _ HMW4.out.shelf) ?_
          clear hK K
          refine wpAnyG_ready (rs := [7]) (by kernel_rfl) (by simp) ?_
          refine AllReadyG.cons rfl (fun K hK => ?_) AllReadyG.nil
          refine step_append_lies _ rfl (.tmp 33) (.tmp 38) 25 rfl (w.heap.size + 4) 35 ib (.agg #[.int .i64 0, .int .i64 0, .int .i64 0]) 3 24 Tryz.underlying25 hib hzb0 hzb1 hzb2 rfl (by omega) bv hs.length (bagCells hs) rfl HMW4.out.bags ⟨B6, 0, none⟩ 1 1 [.int .i64 1, .int .i64 (h : Int), .int .i64 (h : Int)] rfl rfl (World.news_of_block (cs := #[.int .i64 1, .int .i64 (h : Int), .int .i64 (h : Int)]) H6W4.out) (by simp [Value.oneCell']) (by omega) (by unfold maxLen; omega) (by omega) HMW4.out.size W4.heap.size rfl ?_
          intro bg bc W5 hown hgrow _ _
          have H10W5 := Go.Lib.hid (grown_other HMW4.out.bags hgrow H10W4.out (by decide))
          have HMW5 := Go.Lib.hid (HMW4.out.growBags hgrow hown)
          clear hown hgrow
          refine hK.out _ _ (HGX.out _ _ _ HMW5.out.shelf) ?_
          clear hK K
          simp only [Act.put, List.setIfInBounds_toArray]
          refine wpAnyG_take0 (i := 12) (v := .pointer (some ⟨w.heap.size + 1 + 1, 1, none⟩)) rfl (Gs.i (by decide) (by decide)) (by kernel_rfl) (by kernel_rfl) (by kernel_rfl) (fun _ _ _ h => h) (.inl ⟨by rfl, fun w _ => by go_simp⟩) (HGX.out _ _ _ HMW5.out.shelf) ?_
          simp only [Act.put]
          refine wpAnyG_ready (rs := [11]) (by kernel_rfl) (by simp) ?_
          refine AllReadyG.cons rfl (fun K hK => ?_) AllReadyG.nil
          refine step_append_lies _ rfl (.tmp 41) (.tmp 42) 22 rfl (w.heap.size + 4) 3 i0 (.int .i64 0) 1 8 Tryz.underlying22 hi hz0 hz1 hz2 rfl (by omega) pv hs.length (List.replicate hs.length (.int .i64 0)) rfl HMW5.out.plan ⟨B10, 0, none⟩ 1 1 [.int .i64 0] rfl rfl (World.news_of_block (cs := #[.int .i64 0]) H10W5.out) (by simp [Value.oneCell']) (by omega) (by unfold maxLen; omega) (by omega) HMW5.out.size W5.heap.size rfl ?_
          intro pg pc W6 hown hgrow _ _
          have HMW6 := Go.Lib.hid (HMW5.out.growPlan hgrow hown)
          clear hown hgrow
          refine hK.out _ _ (HGX.out _ _ _ HMW6.out.shelf) ?_
          clear hK K
          simp only [Act.put]
          refine wpAnyG_ready (rs := [13]) (by kernel_rfl) (by simp) ?_
          refine AllReadyG.cons rfl (fun K hK => ?_) AllReadyG.nil
          have c1 : W6.cell? ⟨w.heap.size + 1 + 1, 1, none⟩ = some bv := cellH HMW6.out.shelf 1
          have c2 : W6.frozen? ⟨w.heap.size + 1 + 1, 1, none⟩ = false := freeH HMW6.out.shelf 1
          go_simp
          clear c1 c2
          have hM := HMW6.out.setBags (.slice (some ⟨bg, 0, none⟩) (hs.length + 1) bc)
          obtain ⟨W7, hq⟩ : ∃ W7, W6.setCell ⟨w.heap.size + 1 + 1, 1, none⟩ (.slice (some ⟨bg, 0, none⟩) (hs.length + 1) bc) = W7 := ⟨_, rfl⟩
          change Mem w _ _ _ _ _ _ _ _ _ _ (W6.setCell ⟨w.heap.size + 1 + 1, 1, none⟩ (.slice (some ⟨bg, 0, none⟩) (hs.length + 1) bc)) at hM
          rw [hq] at hM ⊢
          clear hq
          have HMW7 := Go.Lib.hid hM; clear hM
          have hG : ∀ L, L.getD 13 true = true → Gs w bv pv L W7 := fun L hl => ⟨fun hf => absurd (hl.symm.trans hf) (by decide), fun _ => cellH HMW7.out.shelf 2⟩
          refine hK.out _ _ (hG _ (by kernel_rfl)) ?_
          clear hK K
          refine wpAnyG_take0 (i := 14) (v := .pointer (some ⟨w.heap.size + 1 + 1, 2, none⟩)) rfl (Gs.i (by decide) (by decide)) (by kernel_rfl) (by kernel_rfl) (by kernel_rfl) (fun _ _ _ h => h) (.inl ⟨by rfl, fun w _ => by go_simp⟩) (hG _ (by kernel_rfl)) ?_
          simp only [Act.put, List.setIfInBounds_toArray]
          clear hG
          refine wpAnyG_ready (rs := [15]) (by kernel_rfl) (by simp) ?_
          refine AllReadyG.cons rfl (fun K hK => ?_) AllReadyG.nil
          have c1 : W7.cell? ⟨w.heap.size + 1 + 1, 2, none⟩ = some pv := cellH HMW7.out.shelf 2
          have c2 : W7.frozen? ⟨w.heap.size + 1 + 1, 2, none⟩ = false := freeH HMW7.out.shelf 2
          go_simp
          clear c1 c2
          have hM := HMW7.out.setPlan (.slice (some ⟨pg, 0, none⟩) (hs.length + 1) pc)
          obtain ⟨W8, hq⟩ : ∃ W8, W7.setCell ⟨w.heap.size + 1 + 1, 2, none⟩ (.slice (some ⟨pg, 0, none⟩) (hs.length + 1) pc) = W8 := ⟨_, rfl⟩
          change Mem w _ _ _ _ _ _ _ _ _ _ (W7.setCell ⟨w.heap.size + 1 + 1, 2, none⟩ (.slice (some ⟨pg, 0, none⟩) (hs.length + 1) pc)) at hM
          rw [hq] at hM ⊢
          clear hq
          have HMW8 := Go.Lib.hid hM; clear hM
          refine hK.out _ _ ⟨fun hf => absurd (hf.symm.trans (show _ = true by kernel_rfl)) (by decide), fun hf => absurd (hf.symm.trans (show _ = true by kernel_rfl)) (by decide)⟩ ?_
          clear hK K
          refine wpAnyG_done (by kernel_rfl) ?_ _
          have cy : W8.cell? ⟨w.heap.size + 1 + 1 + 1, 0, none⟩ = some qv := cellH HMW8.out.yard 0
          go_wp2_with (at_builtin; refine wpList_append_own _ rfl _ _ 28 rfl (w.heap.size + 4) 37 ip (.agg #[.int .i64 0, .int .i64 0, .int .i64 0, .int .i64 0]) 4 32 Tryz.underlying28 hip hzp0 hzp1 hzp2 rfl (by decide) _ _ _ rfl (HMW8.out.keep ((Below.refl _ W8).alloc (Nat.le_refl _) (.cells #[.int .i64 ((h : Int) + 1), .int .i64 ((h : Int) + 1), .int .i64 ((h : Int) + 1), .int .i64 1] 37))).parc ⟨W8.heap.size, 0, none⟩ 1 1 [.int .i64 ((h : Int) + 1), .int .i64 ((h : Int) + 1), .int .i64 ((h : Int) + 1), .int .i64 1] rfl rfl (World.news_of_block (cs := #[.int .i64 ((h : Int) + 1), .int .i64 ((h : Int) + 1), .int .i64 ((h : Int) + 1), .int .i64 1]) (heap_alloc_new _ _)) (by simp [Value.oneCell']) (by unfold maxLen; omega) (by omega) (by have := HMW8.out.size; simp; omega) ?_; intro qv' WA hown hgrow _; obtain ⟨qg, qc, rfl⟩ := ownsRow_succ hown; have hMA := (HMW8.out.keep ((Below.refl _ W8).alloc (Nat.le_refl _) (.cells #[.int .i64 ((h : Int) + 1), .int .i64 ((h : Int) + 1), .int .i64 ((h : Int) + 1), .int .i64 1] 37))).growParc hgrow hown; have ca : WA.cell? ⟨w.heap.size + 1 + 1 + 1, 0, none⟩ = some qv := cellH hMA.yard 0; have cf : WA.frozen? ⟨w.heap.size + 1 + 1 + 1, 0, none⟩ = false := freeH hMA.yard 0; have HMA := Go.Lib.hid hMA; clear hMA hown hgrow)
          go_roundw
          case rel => exact ⟨m, hs ++ [(h : Int)], _, _, _, by have := HMK.out; rw [List.length_append, List.length_singleton]; omega, by go_num, Go.Lib.hid ⟨(HMA.out.setYard _).named (by rw [List.length_append, List.length_singleton]; omega) (by rw [List.length_append, List.length_singleton]), fun x hx => by
            rcases List.mem_append.1 hx with h1 | h1
            · exact HH.out.2 x h1
            · have : x = (h : Int) := by simpa using h1
              omega⟩⟩
          case measure => simp [intOf]
    | zero =>
      rw [show ((0 : Nat) : Int) = 0 from rfl]
      have hlen : hs.length ≤ 5 := by have := HMK.out; omega
      obtain ⟨Ab, Ap, Aq, cb, cp, cq, hMd⟩ := HH.out.1.made hlen HH.out.2
      obtain ⟨N, hN⟩ : ∃ N, hs.length = N := ⟨_, rfl⟩
      rw [hN] at hMd hlen
      have HMD := Go.Lib.hid hMd; clear hMd
      clear hN
      go_wp2_with fail
      go_loopw [8] (fun i W => ∃ q : Nat, q ≤ N ∧ i = .int .i64 q ∧ Go.RowKit.Hid (Made w hs N Ab Ap Aq cb cp cq W)) (fun i _ => N - (intOf i).toNat)
      case atStart => exact ⟨0, by omega, rfl, HMD⟩
      case round =>
        obtain ⟨q, hq, rfl, HD⟩ := hrel
        clear HMD
        have cs : ∀ o, wr.cell? ⟨w.heap.size + 1 + 1, o, none⟩ = #[Value.slice (some ⟨w.heap.size + 1, 0, none⟩) 1 1, .slice Ab N cb, .slice Ap N cp][o]? := HD.out.shelf
        have cy : ∀ o, wr.cell? ⟨w.heap.size + 1 + 1 + 1, o, none⟩ = #[Value.slice Aq N cq, .int .i64 2][o]? := HD.out.yard
        by_cases hlt : q < N
        · go_wp2_with (first
            | (go_at_call 6; refine (made_on (HD.out.keep ((Below.refl _ _).alloc (Nat.le_refl _) (.cells #[.int .i64 (q : Int)] 3))) q wr.heap.size 1 hlt (by simp) (by simp)).mono ?_; rintro e w2 ⟨A2, cap2, rfl, hB2, hI2⟩
               have hD2 := (HD.out.keep ((Below.refl _ _).alloc (Nat.le_refl _) (.cells #[.int .i64 (q : Int)] 3))).keep hB2
               have HD2 := Go.Lib.hid (And.intro hD2 hI2); clear hD2 hI2
               clear cs cy))
          go_loopw [11] (fun i W => ∃ k : Nat, q < k ∧ k ≤ N ∧ i = .int .i64 k ∧ Go.RowKit.Hid (Made w hs N Ab Ap Aq cb cp cq W ∧ Ints W w2.heap.size A2 (onList hs N q).length (fun j => (onList hs N q).getD j 0) ∧ w2.heap.size ≤ W.heap.size)) (fun i _ => N - (intOf i).toNat)
          case atStart => exact ⟨q + 1, by omega, by omega, by go_num, Go.Lib.hid ⟨HD2.out.1, HD2.out.2, Nat.le_refl _⟩⟩
          case round =>
            obtain ⟨k, hqk, hk, rfl, HE⟩ := hrel
            clear HD2 HD hB2
            have cs : ∀ o, wr.cell? ⟨w.heap.size + 1 + 1, o, none⟩ = #[Value.slice (some ⟨w.heap.size + 1, 0, none⟩) 1 1, .slice Ab N cb, .slice Ap N cp][o]? := HE.out.1.shelf
            by_cases hlk : k < N
            · obtain ⟨rM, rQ, rS, hr⟩ : ∃ (rM : Int) (rQ : Nat) (rS : Int), (rM = 2 ∧ rQ = 1 ∧ rS = 1 ∧ hs.getD k 0 ≤ hs.getD q 0) ∨ (rM = 1 ∧ rQ = 0 ∧ rS = 2 ∧ hs.getD q 0 < hs.getD k 0) := by
                by_cases hle : hs.getD k 0 ≤ hs.getD q 0
                · exact ⟨2, 1, 1, .inl ⟨rfl, rfl, rfl, hle⟩⟩
                · exact ⟨1, 0, 2, .inr ⟨rfl, rfl, rfl, by omega⟩⟩
              have HR := Go.Lib.hid hr; clear hr
              go_upto_region 20 with (go_at_call 7; refine (made_must HE.out.1 q k hqk hlk rM (by rcases HR.out with ⟨h1, _, _, h2⟩ | ⟨h1, _, _, h2⟩; exact .inr ⟨h1, h2⟩; exact .inl ⟨h1, h2⟩)).mono ?_; rintro e w3 ⟨rfl, hB3⟩; have hE3 := HE.out.1.keep hB3; have HE3 := Go.Lib.hid (And.intro hE3 (And.intro (HE.out.2.1.keep (fun b hb => hB3.block b (Nat.lt_of_lt_of_le hb HE.out.2.2))) (Nat.le_trans HE.out.2.2 hB3.size))); clear hE3 cs)
              go_cut [14] (fun s14 wx => ∃ z bb pb : Nat, s14 = .pointer (some ⟨z, 0, none⟩) ∧ Go.RowKit.Hid (TwoAt wx (w.heap.size + 1) bb pb z (hs.getD q 0) (hs.getD k 0) ∧ Below w3.heap.size w3 wx))
              case first =>
                have h0N : 0 < N := by omega
                obtain ⟨gb, gp, e1, e2, hSM⟩ := HE3.out.1.shelfMem h0N
                subst e1
                clear e2
                have hqN : (q : Int) < (N : Int) := by omega
                have hkN : (k : Int) < (N : Int) := by omega
                have hz3 := HE3.out.1.size
                have HLS0 := Go.Lib.hid (⟨HE3.out.1.shelf 0, HE3.out.1.shelf 1, hSM.bags.long q (by omega), hSM.bags.lo q (by omega), hSM.bags.hi q (by omega), hSM.bags.long k hlk, hSM.bags.lo k hlk, hSM.bags.hi k hlk, by omega, hSM.bbl⟩ : LS w gb N cb q k (hs.getD q 0) (hs.getD k 0) w3)
                have hgb := hSM.bbl
                clear hSM
                obtain ⟨x, hx⟩ : ∃ x, hs.getD q 0 = x := ⟨_, rfl⟩
                obtain ⟨y, hy⟩ : ∃ y, hs.getD k 0 = y := ⟨_, rfl⟩
                rw [hx, hy] at HLS0
                have HXq := Go.Lib.hid hx
                have HYk := Go.Lib.hid hy
                clear hx hy
                have HLS := Go.Lib.hid (HLS0.out.keep (Below.refl _ w3).drew)
                refine wp_region_held_drew (S := LS w gb N cb q k x y) (by kernel_rfl) HLS.out (fun hS0 => ?_)
                clear hS0
                refine wpAnyH_take (i := 0) (v := .pointer (some ⟨w.heap.size + 1 + 1, 0, none⟩)) rfl (by kernel_rfl) (by kernel_rfl) (by kernel_rfl) (fun _ _ _ h => h) (.inl ⟨by rfl, fun W hSw => by first | (go_simp; done) | (obtain ⟨s0, s1, s2, s3, s4, s5, s6, s7, s8, s9⟩ := hSw; go_simp)⟩) HLS.out ?_
                simp only [Act.put, List.setIfInBounds_toArray]
                refine wpAnyH_take (i := 1) (v := .slice (some ⟨w.heap.size + 1, 0, none⟩) 1 1) rfl (by kernel_rfl) (by kernel_rfl) (by kernel_rfl) (fun _ _ _ h => h) (.inl ⟨by rfl, fun W hSw => by first | (go_simp; done) | (obtain ⟨s0, s1, s2, s3, s4, s5, s6, s7, s8, s9⟩ := hSw; go_simp)⟩) HLS.out ?_
                simp only [Act.put]
                refine wpAnyH_take (i := 2) (v := .pointer (some ⟨w.heap.size + 1 + 1, 1, none⟩)) rfl (by kernel_rfl) (by kernel_rfl) (by kernel_rfl) (fun _ _ _ h => h) (.inl ⟨by rfl, fun W hSw => by first | (go_simp; done) | (obtain ⟨s0, s1, s2, s3, s4, s5, s6, s7, s8, s9⟩ := hSw; go_simp)⟩) HLS.out ?_
                simp only [Act.put]
                refine wpAnyH_take (i := 3) (v := .slice (some ⟨gb, 0, none⟩) N cb) rfl (by kernel_rfl) (by kernel_rfl) (by kernel_rfl) (fun _ _ _ h => h) (.inl ⟨by rfl, fun W hSw => by first | (go_simp; done) | (obtain ⟨s0, s1, s2, s3, s4, s5, s6, s7, s8, s9⟩ := hSw; go_simp)⟩) HLS.out ?_
                simp only [Act.put]
                refine wpAnyH_take (i := 4) (v := .int .i64 q) rfl (by kernel_rfl) (by kernel_rfl) (by kernel_rfl) (fun _ _ _ h => h) (.inl ⟨by rfl, fun W hSw => by first | (go_simp; done) | (obtain ⟨s0, s1, s2, s3, s4, s5, s6, s7, s8, s9⟩ := hSw; go_simp)⟩) HLS.out ?_
                simp only [Act.put]
                refine wpAnyH_take (i := 5) (v := .pointer (some ⟨gb, q * 3, none⟩)) rfl (by kernel_rfl) (by kernel_rfl) (by kernel_rfl) (fun _ _ _ h => h) (.inl ⟨by rfl, fun W hSw => by first | (go_simp; done) | (obtain ⟨s0, s1, s2, s3, s4, s5, s6, s7, s8, s9⟩ := hSw; go_simp)⟩) HLS.out ?_
                simp only [Act.put]
                refine wpAnyH_take (i := 6) (v := .agg #[.int .i64 1, .int .i64 x, .int .i64 x]) rfl (by kernel_rfl) (by kernel_rfl) (by kernel_rfl) (fun _ _ _ h => h) (.inl ⟨by rfl, fun W hSw => by first | (go_simp; done) | (obtain ⟨s0, s1, s2, s3, s4, s5, s6, s7, s8, s9⟩ := hSw; go_simp)⟩) HLS.out ?_
                simp only [Act.put]
                refine wpAnyH_take (i := 7) (v := .pointer (some ⟨w.heap.size + 1 + 1, 1, none⟩)) rfl (by kernel_rfl) (by kernel_rfl) (by kernel_rfl) (fun _ _ _ h => h) (.inl ⟨by rfl, fun W hSw => by first | (go_simp; done) | (obtain ⟨s0, s1, s2, s3, s4, s5, s6, s7, s8, s9⟩ := hSw; go_simp)⟩) HLS.out ?_
                simp only [Act.put]
                refine wpAnyH_take (i := 8) (v := .slice (some ⟨gb, 0, none⟩) N cb) rfl (by kernel_rfl) (by kernel_rfl) (by kernel_rfl) (fun _ _ _ h => h) (.inl ⟨by rfl, fun W hSw => by first | (go_simp; done) | (obtain ⟨s0, s1, s2, s3, s4, s5, s6, s7, s8, s9⟩ := hSw; go_simp)⟩) HLS.out ?_
                simp only [Act.put]
                refine wpAnyH_take (i := 9) (v := .int .i64 k) rfl (by kernel_rfl) (by kernel_rfl) (by kernel_rfl) (fun _ _ _ h => h) (.inl ⟨by rfl, fun W hSw => by first | (go_simp; done) | (obtain ⟨s0, s1, s2, s3, s4, s5, s6, s7, s8, s9⟩ := hSw; go_simp)⟩) HLS.out ?_
                simp only [Act.put]
                refine wpAnyH_take (i := 10) (v := .pointer (some ⟨gb, k * 3, none⟩)) rfl (by kernel_rfl) (by kernel_rfl) (by kernel_rfl) (fun _ _ _ h => h) (.inl ⟨by rfl, fun W hSw => by first | (go_simp; done) | (obtain ⟨s0, s1, s2, s3, s4, s5, s6, s7, s8, s9⟩ := hSw; go_simp)⟩) HLS.out ?_
                simp only [Act.put]
                refine wpAnyH_take (i := 11) (v := .agg #[.int .i64 1, .int .i64 y, .int .i64 y]) rfl (by kernel_rfl) (by kernel_rfl) (by kernel_rfl) (fun _ _ _ h => h) (.inl ⟨by rfl, fun W hSw => by first | (go_simp; done) | (obtain ⟨s0, s1, s2, s3, s4, s5, s6, s7, s8, s9⟩ := hSw; go_simp)⟩) HLS.out ?_
                simp only [Act.put]
                refine wpAnyH_ready (rs := [12, 13, 15]) (by kernel_rfl) (by simp) ?_
                refine (AllReadyH.cons rfl (fun K hK => ?_) (AllReadyH.cons rfl (fun K hK => ?_) (AllReadyH.cons rfl (fun K hK => ?_) AllReadyH.nil)))
                · go_simp
                  have hB' : Below w3.heap.size w3 (w3.alloc (.cells #[.int .i64 1, .int .i64 x, .int .i64 x, .int .i64 1, .int .i64 y, .int .i64 y] 35)).drew := ((Below.refl _ _).alloc (Nat.le_refl _) _).drew
                  have hn := heap_alloc_new w3 (.cells #[.int .i64 1, .int .i64 x, .int .i64 x, .int .i64 1, .int .i64 y, .int .i64 y] 35)
                  have hn' : (w3.alloc (.cells #[.int .i64 1, .int .i64 x, .int .i64 x, .int .i64 1, .int .i64 y, .int .i64 y] 35)).drew.heap[w3.heap.size]? = some (.cells #[.int .i64 1, .int .i64 x, .int .i64 x, .int .i64 1, .int .i64 y, .int .i64 y] 35 (0, 0)) := hn
                  clear hn
                  obtain ⟨bb, hbb⟩ : ∃ bb, w3.heap.size = bb := ⟨_, rfl⟩
                  rw [hbb] at hn' ⊢
                  have hlt' : w3.heap.size ≤ bb := by rw [← hbb]; exact Nat.le_refl _
                  obtain ⟨w3a, hq⟩ : ∃ w3a, (w3.alloc (.cells #[.int .i64 1, .int .i64 x, .int .i64 x, .int .i64 1, .int .i64 y, .int .i64 y] 35)).drew = w3a := ⟨_, rfl⟩
                  rw [hq] at hn' hB' ⊢
                  clear hq hbb
                  have Hbb_w3a := Go.Lib.hid hn'; clear hn'
                  have HBw3a := Go.Lib.hid hB'
                  have HLbb := Go.Lib.hid hlt'
                  clear hB' hlt'
                  have HLS := Go.Lib.hid (HLS0.out.keep HBw3a.out)
                  refine hK.out _ _ HLS.out (fun hS0 => ?_)
                  clear hK K hS0
                  refine wpAnyH_ready (rs := [13, 15]) (by kernel_rfl) (by simp) ?_
                  refine (AllReadyH.cons rfl (fun K hK => ?_) (AllReadyH.cons rfl (fun K hK => ?_) AllReadyH.nil))
                  · go_simp
                    have hB' : Below w3a.heap.size w3a (w3a.alloc (.cells #[.int .i64 0, .int .i64 0] 3)) := (Below.refl _ _).alloc (Nat.le_refl _) _
                    have hn := heap_alloc_new w3a (.cells #[.int .i64 0, .int .i64 0] 3)
                    have hn' : (w3a.alloc (.cells #[.int .i64 0, .int .i64 0] 3)).heap[w3a.heap.size]? = some (.cells #[.int .i64 0, .int .i64 0] 3 (0, 0)) := hn
                    clear hn
                    obtain ⟨pb, hpb⟩ : ∃ pb, w3a.heap.size = pb := ⟨_, rfl⟩
                    rw [hpb] at hn' ⊢
                    have hlt' : w3.heap.size ≤ pb := by rw [← hpb]; exact HBw3a.out.size
                    obtain ⟨w3ab, hq⟩ : ∃ w3ab, (w3a.alloc (.cells #[.int .i64 0, .int .i64 0] 3)) = w3ab := ⟨_, rfl⟩
                    rw [hq] at hn' hB' ⊢
                    clear hq hpb
                    have Hpb_w3ab := Go.Lib.hid hn'; clear hn'
                    have Hbb_w3ab := Go.Lib.hid ((hB'.block _ (Array.getElem?_eq_some_iff.1 Hbb_w3a.out).1).trans Hbb_w3a.out)
                    have HBw3ab := Go.Lib.hid (HBw3a.out.trans (hB'.mono HBw3a.out.size))
                    have HLpb := Go.Lib.hid hlt'
                    clear hB' hlt'
                    have HLS := Go.Lib.hid (HLS0.out.keep HBw3ab.out)
                    refine hK.out _ _ HLS.out (fun hS0 => ?_)
                    clear hK K hS0
                    refine wpAnyH_take (i := 14) (v := .agg #[.slice (some ⟨w.heap.size + 1, 0, none⟩) 1 1, .slice (some ⟨bb, 0, none⟩) 2 2, .slice (some ⟨pb, 0, none⟩) 2 2]) rfl (by kernel_rfl) (by kernel_rfl) (by kernel_rfl) (fun _ _ _ h => h) (.inl ⟨by rfl, fun W hSw => by first | (go_simp; done) | (obtain ⟨s0, s1, s2, s3, s4, s5, s6, s7, s8, s9⟩ := hSw; go_simp)⟩) HLS.out ?_
                    simp only [Act.put, List.getElem_toArray, List.getElem_cons_succ, List.getElem_cons_zero, List.setIfInBounds_toArray, List.set_cons_zero, List.set_cons_succ]
                    refine wpAnyH_ready (rs := [15]) (by kernel_rfl) (by simp) ?_
                    refine (AllReadyH.cons rfl (fun K hK => ?_) AllReadyH.nil)
                    · go_simp
                      have hB' : Below w3ab.heap.size w3ab (w3ab.alloc (.cells #[.slice none 0 0, .slice none 0 0, .slice none 0 0] 27)) := (Below.refl _ _).alloc (Nat.le_refl _) _
                      have hn := heap_alloc_new w3ab (.cells #[.slice none 0 0, .slice none 0 0, .slice none 0 0] 27)
                      have hn' : (w3ab.alloc (.cells #[.slice none 0 0, .slice none 0 0, .slice none 0 0] 27)).heap[w3ab.heap.size]? = some (.cells #[.slice none 0 0, .slice none 0 0, .slice none 0 0] 27 (0, 0)) := hn
                      clear hn
                      obtain ⟨z, hz⟩ : ∃ z, w3ab.heap.size = z := ⟨_, rfl⟩
                      rw [hz] at hn' ⊢
                      have hlt' : w3.heap.size ≤ z := by rw [← hz]; exact HBw3ab.out.size
                      obtain ⟨w3abc, hq⟩ : ∃ w3abc, (w3ab.alloc (.cells #[.slice none 0 0, .slice none 0 0, .slice none 0 0] 27)) = w3abc := ⟨_, rfl⟩
                      rw [hq] at hn' hB' ⊢
                      clear hq hz
                      have Hz_w3abc := Go.Lib.hid hn'; clear hn'
                      have Hbb_w3abc := Go.Lib.hid ((hB'.block _ (Array.getElem?_eq_some_iff.1 Hbb_w3ab.out).1).trans Hbb_w3ab.out)
                      have Hpb_w3abc := Go.Lib.hid ((hB'.block _ (Array.getElem?_eq_some_iff.1 Hpb_w3ab.out).1).trans Hpb_w3ab.out)
                      have HBw3abc := Go.Lib.hid (HBw3ab.out.trans (hB'.mono HBw3ab.out.size))
                      have HLz := Go.Lib.hid hlt'
                      clear hB' hlt'
                      have HLS := Go.Lib.hid (HLS0.out.keep HBw3abc.out)
                      refine hK.out _ _ HLS.out (fun hS0 => ?_)
                      clear hK K hS0
                      refine wpAnyH_ready (rs := [16]) (by kernel_rfl) (by simp) ?_
                      refine AllReadyH.cons rfl (fun K hK => ?_) AllReadyH.nil
                      refine step_store_whole rfl 27 (.tmp 14) (.tmp 105) rfl z #[.slice (some ⟨w.heap.size + 1, 0, none⟩) 1 1, .slice (some ⟨bb, 0, none⟩) 2 2, .slice (some ⟨pb, 0, none⟩) 2 2] rfl rfl Hz_w3abc.out (by kernel_rfl) rfl (by simp [Value.oneCell']) (fun W9 e3 e4 => ?_)
                      have hB9 := HBw3abc.out.trans (e4.below HLz.out HBw3abc.out.size)
                      have hbb := (e4.block _ (Array.getElem?_eq_some_iff.1 Hbb_w3abc.out).1 (fun e => by have h1 := Hbb_w3abc.out; rw [e, Hz_w3abc.out] at h1; simp at h1)).trans Hbb_w3abc.out
                      have hpb := (e4.block _ (Array.getElem?_eq_some_iff.1 Hpb_w3abc.out).1 (fun e => by have h1 := Hpb_w3abc.out; rw [e, Hz_w3abc.out] at h1; simp at h1)).trans Hpb_w3abc.out
                      have HLS := Go.Lib.hid (HLS0.out.keep hB9)
                      refine hK.out _ _ HLS.out (fun hS0 => ?_)
                      clear hK K hS0
                      refine wpAnyH_done (by kernel_rfl) ?_ _
                      have HTw := Go.Lib.hid (And.intro (TwoAt.mk (W := W9) (lb := w.heap.size + 1) (x := x) (y := y) ((hB9.cell (p := ⟨w.heap.size + 1, 0, none⟩) (by show w.heap.size + 1 < _; omega)).trans HE3.out.1.lane) (fun o => cellH hbb o) (fun o => cellH hpb o) (fun o => cellH e3 o) ⟨by have := hB9.size; omega, (Array.getElem?_eq_some_iff.1 hbb).1, (Array.getElem?_eq_some_iff.1 hpb).1, (Array.getElem?_eq_some_iff.1 e3).1⟩) hB9)
                      clear hbb hpb e3 e4 hB9
                      simp only [Act.put, List.getElem_toArray, List.getElem_cons_succ, List.getElem_cons_zero]
                      go_wp2_with fail
                      go_meet
                      exact ⟨z, bb, pb, rfl, by rw [HXq.out, HYk.out]; exact HTw⟩
                  · go_simp
                    have hB' : Below w3a.heap.size w3a (w3a.alloc (.cells #[.slice none 0 0, .slice none 0 0, .slice none 0 0] 27)) := (Below.refl _ _).alloc (Nat.le_refl _) _
                    have hn := heap_alloc_new w3a (.cells #[.slice none 0 0, .slice none 0 0, .slice none 0 0] 27)
                    have hn' : (w3a.alloc (.cells #[.slice none 0 0, .slice none 0 0, .slice none 0 0] 27)).heap[w3a.heap.size]? = some (.cells #[.slice none 0 0, .slice none 0 0, .slice none 0 0] 27 (0, 0)) := hn
                    clear hn
                    obtain ⟨z, hz⟩ : ∃ z, w3a.heap.size = z := ⟨_, rfl⟩
                    rw [hz] at hn' ⊢
                    have hlt' : w3.heap.size ≤ z := by rw [← hz]; exact HBw3a.out.size
                    obtain ⟨w3ac, hq⟩ : ∃ w3ac, (w3a.alloc (.cells #[.slice none 0 0, .slice none 0 0, .slice none 0 0] 27)) = w3ac := ⟨_, rfl⟩
                    rw [hq] at hn' hB' ⊢
                    clear hq hz
                    have Hz_w3ac := Go.Lib.hid hn'; clear hn'
                    have Hbb_w3ac := Go.Lib.hid ((hB'.block _ (Array.getElem?_eq_some_iff.1 Hbb_w3a.out).1).trans Hbb_w3a.out)
                    have HBw3ac := Go.Lib.hid (HBw3a.out.trans (hB'.mono HBw3a.out.size))
                    have HLz := Go.Lib.hid hlt'
                    clear hB' hlt'
                    have HLS := Go.Lib.hid (HLS0.out.keep HBw3ac.out)
                    refine hK.out _ _ HLS.out (fun hS0 => ?_)
                    clear hK K hS0
                    refine wpAnyH_ready (rs := [13]) (by kernel_rfl) (by simp) ?_
                    refine (AllReadyH.cons rfl (fun K hK => ?_) AllReadyH.nil)
                    · go_simp
                      have hB' : Below w3ac.heap.size w3ac (w3ac.alloc (.cells #[.int .i64 0, .int .i64 0] 3)) := (Below.refl _ _).alloc (Nat.le_refl _) _
                      have hn := heap_alloc_new w3ac (.cells #[.int .i64 0, .int .i64 0] 3)
                      have hn' : (w3ac.alloc (.cells #[.int .i64 0, .int .i64 0] 3)).heap[w3ac.heap.size]? = some (.cells #[.int .i64 0, .int .i64 0] 3 (0, 0)) := hn
                      clear hn
                      obtain ⟨pb, hpb⟩ : ∃ pb, w3ac.heap.size = pb := ⟨_, rfl⟩
                      rw [hpb] at hn' ⊢
                      have hlt' : w3.heap.size ≤ pb := by rw [← hpb]; exact HBw3ac.out.size
                      obtain ⟨w3acb, hq⟩ : ∃ w3acb, (w3ac.alloc (.cells #[.int .i64 0, .int .i64 0] 3)) = w3acb := ⟨_, rfl⟩
                      rw [hq] at hn' hB' ⊢
                      clear hq hpb
                      have Hpb_w3acb := Go.Lib.hid hn'; clear hn'
                      have Hbb_w3acb := Go.Lib.hid ((hB'.block _ (Array.getElem?_eq_some_iff.1 Hbb_w3ac.out).1).trans Hbb_w3ac.out)
                      have Hz_w3acb := Go.Lib.hid ((hB'.block _ (Array.getElem?_eq_some_iff.1 Hz_w3ac.out).1).trans Hz_w3ac.out)
                      have HBw3acb := Go.Lib.hid (HBw3ac.out.trans (hB'.mono HBw3ac.out.size))
                      have HLpb := Go.Lib.hid hlt'
                      clear hB' hlt'
                      have HLS := Go.Lib.hid (HLS0.out.keep HBw3acb.out)
                      refine hK.out _ _ HLS.out (fun hS0 => ?_)
                      clear hK K hS0
                      refine wpAnyH_take (i := 14) (v := .agg #[.slice (some ⟨w.heap.size + 1, 0, none⟩) 1 1, .slice (some ⟨bb, 0, none⟩) 2 2, .slice (some ⟨pb, 0, none⟩) 2 2]) rfl (by kernel_rfl) (by kernel_rfl) (by kernel_rfl) (fun _ _ _ h => h) (.inl ⟨by rfl, fun W hSw => by first | (go_simp; done) | (obtain ⟨s0, s1, s2, s3, s4, s5, s6, s7, s8, s9⟩ := hSw; go_simp)⟩) HLS.out ?_
                      simp only [Act.put, List.getElem_toArray, List.getElem_cons_succ, List.getElem_cons_zero, List.setIfInBounds_toArray, List.set_cons_zero, List.set_cons_succ]
                      refine wpAnyH_ready (rs := [16]) (by kernel_rfl) (by simp) ?_
                      refine AllReadyH.cons rfl (fun K hK => ?_) AllReadyH.nil
                      refine step_store_whole rfl 27 (.tmp 14) (.tmp 105) rfl z #[.slice (some ⟨w.heap.size + 1, 0, none⟩) 1 1, .slice (some ⟨bb, 0, none⟩) 2 2, .slice (some ⟨pb, 0, none⟩) 2 2] rfl rfl Hz_w3acb.out (by kernel_rfl) rfl (by simp [Value.oneCell']) (fun W9 e3 e4 => ?_)
                      have hB9 := HBw3acb.out.trans (e4.below HLz.out HBw3acb.out.size)
                      have hbb := (e4.block _ (Array.getElem?_eq_some_iff.1 Hbb_w3acb.out).1 (fun e => by have h1 := Hbb_w3acb.out; rw [e, Hz_w3acb.out] at h1; simp at h1)).trans Hbb_w3acb.out
                      have hpb := (e4.block _ (Array.getElem?_eq_some_iff.1 Hpb_w3acb.out).1 (fun e => by have h1 := Hpb_w3acb.out; rw [e, Hz_w3acb.out] at h1; simp at h1)).trans Hpb_w3acb.out
                      have HLS := Go.Lib.hid (HLS0.out.keep hB9)
                      refine hK.out _ _ HLS.out (fun hS0 => ?_)
                      clear hK K hS0
                      refine wpAnyH_done (by kernel_rfl) ?_ _
                      have HTw := Go.Lib.hid (And.intro (TwoAt.mk (W := W9) (lb := w.heap.size + 1) (x := x) (y := y) ((hB9.cell (p := ⟨w.heap.size + 1, 0, none⟩) (by show w.heap.size + 1 < _; omega)).trans HE3.out.1.lane) (fun o => cellH hbb o) (fun o => cellH hpb o) (fun o => cellH e3 o) ⟨by have := hB9.size; omega, (Array.getElem?_eq_some_iff.1 hbb).1, (Array.getElem?_eq_some_iff.1 hpb).1, (Array.getElem?_eq_some_iff.1 e3).1⟩) hB9)
                      clear hbb hpb e3 e4 hB9
                      simp only [Act.put, List.getElem_toArray, List.getElem_cons_succ, List.getElem_cons_zero]
                      go_wp2_with fail
                      go_meet
                      exact ⟨z, bb, pb, rfl, by rw [HXq.out, HYk.out]; exact HTw⟩
                · go_simp
                  have hB' : Below w3.heap.size w3 (w3.alloc (.cells #[.int .i64 0, .int .i64 0] 3)).drew := ((Below.refl _ _).alloc (Nat.le_refl _) _).drew
                  have hn := heap_alloc_new w3 (.cells #[.int .i64 0, .int .i64 0] 3)
                  have hn' : (w3.alloc (.cells #[.int .i64 0, .int .i64 0] 3)).drew.heap[w3.heap.size]? = some (.cells #[.int .i64 0, .int .i64 0] 3 (0, 0)) := hn
                  clear hn
                  obtain ⟨pb, hpb⟩ : ∃ pb, w3.heap.size = pb := ⟨_, rfl⟩
                  rw [hpb] at hn' ⊢
                  have hlt' : w3.heap.size ≤ pb := by rw [← hpb]; exact Nat.le_refl _
                  obtain ⟨w3b, hq⟩ : ∃ w3b, (w3.alloc (.cells #[.int .i64 0, .int .i64 0] 3)).drew = w3b := ⟨_, rfl⟩
                  rw [hq] at hn' hB' ⊢
                  clear hq hpb
                  have Hpb_w3b := Go.Lib.hid hn'; clear hn'
                  have HBw3b := Go.Lib.hid hB'
                  have HLpb := Go.Lib.hid hlt'
                  clear hB' hlt'
                  have HLS := Go.Lib.hid (HLS0.out.keep HBw3b.out)
                  refine hK.out _ _ HLS.out (fun hS0 => ?_)
                  clear hK K hS0
                  refine wpAnyH_ready (rs := [12, 15]) (by kernel_rfl) (by simp) ?_
                  refine (AllReadyH.cons rfl (fun K hK => ?_) (AllReadyH.cons rfl (fun K hK => ?_) AllReadyH.nil))
                  · go_simp
                    have hB' : Below w3b.heap.size w3b (w3b.alloc (.cells #[.int .i64 1, .int .i64 x, .int .i64 x, .int .i64 1, .int .i64 y, .int .i64 y] 35)) := (Below.refl _ _).alloc (Nat.le_refl _) _
                    have hn := heap_alloc_new w3b (.cells #[.int .i64 1, .int .i64 x, .int .i64 x, .int .i64 1, .int .i64 y, .int .i64 y] 35)
                    have hn' : (w3b.alloc (.cells #[.int .i64 1, .int .i64 x, .int .i64 x, .int .i64 1, .int .i64 y, .int .i64 y] 35)).heap[w3b.heap.size]? = some (.cells #[.int .i64 1, .int .i64 x, .int .i64 x, .int .i64 1, .int .i64 y, .int .i64 y] 35 (0, 0)) := hn
                    clear hn
                    obtain ⟨bb, hbb⟩ : ∃ bb, w3b.heap.size = bb := ⟨_, rfl⟩
                    rw [hbb] at hn' ⊢
                    have hlt' : w3.heap.size ≤ bb := by rw [← hbb]; exact HBw3b.out.size
                    obtain ⟨w3ba, hq⟩ : ∃ w3ba, (w3b.alloc (.cells #[.int .i64 1, .int .i64 x, .int .i64 x, .int .i64 1, .int .i64 y, .int .i64 y] 35)) = w3ba := ⟨_, rfl⟩
                    rw [hq] at hn' hB' ⊢
                    clear hq hbb
                    have Hbb_w3ba := Go.Lib.hid hn'; clear hn'
                    have Hpb_w3ba := Go.Lib.hid ((hB'.block _ (Array.getElem?_eq_some_iff.1 Hpb_w3b.out).1).trans Hpb_w3b.out)
                    have HBw3ba := Go.Lib.hid (HBw3b.out.trans (hB'.mono HBw3b.out.size))
                    have HLbb := Go.Lib.hid hlt'
                    clear hB' hlt'
                    have HLS := Go.Lib.hid (HLS0.out.keep HBw3ba.out)
                    refine hK.out _ _ HLS.out (fun hS0 => ?_)
                    clear hK K hS0
                    refine wpAnyH_take (i := 14) (v := .agg #[.slice (some ⟨w.heap.size + 1, 0, none⟩) 1 1, .slice (some ⟨bb, 0, none⟩) 2 2, .slice (some ⟨pb, 0, none⟩) 2 2]) rfl (by kernel_rfl) (by kernel_rfl) (by kernel_rfl) (fun _ _ _ h => h) (.inl ⟨by rfl, fun W hSw => by first | (go_simp; done) | (obtain ⟨s0, s1, s2, s3, s4, s5, s6, s7, s8, s9⟩ := hSw; go_simp)⟩) HLS.out ?_
                    simp only [Act.put, List.getElem_toArray, List.getElem_cons_succ, List.getElem_cons_zero, List.setIfInBounds_toArray, List.set_cons_zero, List.set_cons_succ]
                    refine wpAnyH_ready (rs := [15]) (by kernel_rfl) (by simp) ?_
                    refine (AllReadyH.cons rfl (fun K hK => ?_) AllReadyH.nil)
                    · go_simp
                      have hB' : Below w3ba.heap.size w3ba (w3ba.alloc (.cells #[.slice none 0 0, .slice none 0 0, .slice none 0 0] 27)) := (Below.refl _ _).alloc (Nat.le_refl _) _
                      have hn := heap_alloc_new w3ba (.cells #[.slice none 0 0, .slice none 0 0, .slice none 0 0] 27)
                      have hn' : (w3ba.alloc (.cells #[.slice none 0 0, .slice none 0 0, .slice none 0 0] 27)).heap[w3ba.heap.size]? = some (.cells #[.slice none 0 0, .slice none 0 0, .slice none 0 0] 27 (0, 0)) := hn
                      clear hn
                      obtain ⟨z, hz⟩ : ∃ z, w3ba.heap.size = z := ⟨_, rfl⟩
                      rw [hz] at hn' ⊢
                      have hlt' : w3.heap.size ≤ z := by rw [← hz]; exact HBw3ba.out.size
                      obtain ⟨w3bac, hq⟩ : ∃ w3bac, (w3ba.alloc (.cells #[.slice none 0 0, .slice none 0 0, .slice none 0 0] 27)) = w3bac := ⟨_, rfl⟩
                      rw [hq] at hn' hB' ⊢
                      clear hq hz
                      have Hz_w3bac := Go.Lib.hid hn'; clear hn'
                      have Hpb_w3bac := Go.Lib.hid ((hB'.block _ (Array.getElem?_eq_some_iff.1 Hpb_w3ba.out).1).trans Hpb_w3ba.out)
                      have Hbb_w3bac := Go.Lib.hid ((hB'.block _ (Array.getElem?_eq_some_iff.1 Hbb_w3ba.out).1).trans Hbb_w3ba.out)
                      have HBw3bac := Go.Lib.hid (HBw3ba.out.trans (hB'.mono HBw3ba.out.size))
                      have HLz := Go.Lib.hid hlt'
                      clear hB' hlt'
                      have HLS := Go.Lib.hid (HLS0.out.keep HBw3bac.out)
                      refine hK.out _ _ HLS.out (fun hS0 => ?_)
                      clear hK K hS0
                      refine wpAnyH_ready (rs := [16]) (by kernel_rfl) (by simp) ?_
                      refine AllReadyH.cons rfl (fun K hK => ?_) AllReadyH.nil
                      refine step_store_whole rfl 27 (.tmp 14) (.tmp 105) rfl z #[.slice (some ⟨w.heap.size + 1, 0, none⟩) 1 1, .slice (some ⟨bb, 0, none⟩) 2 2, .slice (some ⟨pb, 0, none⟩) 2 2] rfl rfl Hz_w3bac.out (by kernel_rfl) rfl (by simp [Value.oneCell']) (fun W9 e3 e4 => ?_)
                      have hB9 := HBw3bac.out.trans (e4.below HLz.out HBw3bac.out.size)
                      have hbb := (e4.block _ (Array.getElem?_eq_some_iff.1 Hbb_w3bac.out).1 (fun e => by have h1 := Hbb_w3bac.out; rw [e, Hz_w3bac.out] at h1; simp at h1)).trans Hbb_w3bac.out
                      have hpb := (e4.block _ (Array.getElem?_eq_some_iff.1 Hpb_w3bac.out).1 (fun e => by have h1 := Hpb_w3bac.out; rw [e, Hz_w3bac.out] at h1; simp at h1)).trans Hpb_w3bac.out
                      have HLS := Go.Lib.hid (HLS0.out.keep hB9)
                      refine hK.out _ _ HLS.out (fun hS0 => ?_)
                      clear hK K hS0
                      refine wpAnyH_done (by kernel_rfl) ?_ _
                      have HTw := Go.Lib.hid (And.intro (TwoAt.mk (W := W9) (lb := w.heap.size + 1) (x := x) (y := y) ((hB9.cell (p := ⟨w.heap.size + 1, 0, none⟩) (by show w.heap.size + 1 < _; omega)).trans HE3.out.1.lane) (fun o => cellH hbb o) (fun o => cellH hpb o) (fun o => cellH e3 o) ⟨by have := hB9.size; omega, (Array.getElem?_eq_some_iff.1 hbb).1, (Array.getElem?_eq_some_iff.1 hpb).1, (Array.getElem?_eq_some_iff.1 e3).1⟩) hB9)
                      clear hbb hpb e3 e4 hB9
                      simp only [Act.put, List.getElem_toArray, List.getElem_cons_succ, List.getElem_cons_zero]
                      go_wp2_with fail
                      go_meet
                      exact ⟨z, bb, pb, rfl, by rw [HXq.out, HYk.out]; exact HTw⟩
                  · go_simp
                    have hB' : Below w3b.heap.size w3b (w3b.alloc (.cells #[.slice none 0 0, .slice none 0 0, .slice none 0 0] 27)) := (Below.refl _ _).alloc (Nat.le_refl _) _
                    have hn := heap_alloc_new w3b (.cells #[.slice none 0 0, .slice none 0 0, .slice none 0 0] 27)
                    have hn' : (w3b.alloc (.cells #[.slice none 0 0, .slice none 0 0, .slice none 0 0] 27)).heap[w3b.heap.size]? = some (.cells #[.slice none 0 0, .slice none 0 0, .slice none 0 0] 27 (0, 0)) := hn
                    clear hn
                    obtain ⟨z, hz⟩ : ∃ z, w3b.heap.size = z := ⟨_, rfl⟩
                    rw [hz] at hn' ⊢
                    have hlt' : w3.heap.size ≤ z := by rw [← hz]; exact HBw3b.out.size
                    obtain ⟨w3bc, hq⟩ : ∃ w3bc, (w3b.alloc (.cells #[.slice none 0 0, .slice none 0 0, .slice none 0 0] 27)) = w3bc := ⟨_, rfl⟩
                    rw [hq] at hn' hB' ⊢
                    clear hq hz
                    have Hz_w3bc := Go.Lib.hid hn'; clear hn'
                    have Hpb_w3bc := Go.Lib.hid ((hB'.block _ (Array.getElem?_eq_some_iff.1 Hpb_w3b.out).1).trans Hpb_w3b.out)
                    have HBw3bc := Go.Lib.hid (HBw3b.out.trans (hB'.mono HBw3b.out.size))
                    have HLz := Go.Lib.hid hlt'
                    clear hB' hlt'
                    have HLS := Go.Lib.hid (HLS0.out.keep HBw3bc.out)
                    refine hK.out _ _ HLS.out (fun hS0 => ?_)
                    clear hK K hS0
                    refine wpAnyH_ready (rs := [12]) (by kernel_rfl) (by simp) ?_
                    refine (AllReadyH.cons rfl (fun K hK => ?_) AllReadyH.nil)
                    · go_simp
                      have hB' : Below w3bc.heap.size w3bc (w3bc.alloc (.cells #[.int .i64 1, .int .i64 x, .int .i64 x, .int .i64 1, .int .i64 y, .int .i64 y] 35)) := (Below.refl _ _).alloc (Nat.le_refl _) _
                      have hn := heap_alloc_new w3bc (.cells #[.int .i64 1, .int .i64 x, .int .i64 x, .int .i64 1, .int .i64 y, .int .i64 y] 35)
                      have hn' : (w3bc.alloc (.cells #[.int .i64 1, .int .i64 x, .int .i64 x, .int .i64 1, .int .i64 y, .int .i64 y] 35)).heap[w3bc.heap.size]? = some (.cells #[.int .i64 1, .int .i64 x, .int .i64 x, .int .i64 1, .int .i64 y, .int .i64 y] 35 (0, 0)) := hn
                      clear hn
                      obtain ⟨bb, hbb⟩ : ∃ bb, w3bc.heap.size = bb := ⟨_, rfl⟩
                      rw [hbb] at hn' ⊢
                      have hlt' : w3.heap.size ≤ bb := by rw [← hbb]; exact HBw3bc.out.size
                      obtain ⟨w3bca, hq⟩ : ∃ w3bca, (w3bc.alloc (.cells #[.int .i64 1, .int .i64 x, .int .i64 x, .int .i64 1, .int .i64 y, .int .i64 y] 35)) = w3bca := ⟨_, rfl⟩
                      rw [hq] at hn' hB' ⊢
                      clear hq hbb
                      have Hbb_w3bca := Go.Lib.hid hn'; clear hn'
                      have Hpb_w3bca := Go.Lib.hid ((hB'.block _ (Array.getElem?_eq_some_iff.1 Hpb_w3bc.out).1).trans Hpb_w3bc.out)
                      have Hz_w3bca := Go.Lib.hid ((hB'.block _ (Array.getElem?_eq_some_iff.1 Hz_w3bc.out).1).trans Hz_w3bc.out)
                      have HBw3bca := Go.Lib.hid (HBw3bc.out.trans (hB'.mono HBw3bc.out.size))
                      have HLbb := Go.Lib.hid hlt'
                      clear hB' hlt'
                      have HLS := Go.Lib.hid (HLS0.out.keep HBw3bca.out)
                      refine hK.out _ _ HLS.out (fun hS0 => ?_)
                      clear hK K hS0
                      refine wpAnyH_take (i := 14) (v := .agg #[.slice (some ⟨w.heap.size + 1, 0, none⟩) 1 1, .slice (some ⟨bb, 0, none⟩) 2 2, .slice (some ⟨pb, 0, none⟩) 2 2]) rfl (by kernel_rfl) (by kernel_rfl) (by kernel_rfl) (fun _ _ _ h => h) (.inl ⟨by rfl, fun W hSw => by first | (go_simp; done) | (obtain ⟨s0, s1, s2, s3, s4, s5, s6, s7, s8, s9⟩ := hSw; go_simp)⟩) HLS.out ?_
                      simp only [Act.put, List.getElem_toArray, List.getElem_cons_succ, List.getElem_cons_zero, List.setIfInBounds_toArray, List.set_cons_zero, List.set_cons_succ]
                      refine wpAnyH_ready (rs := [16]) (by kernel_rfl) (by simp) ?_
                      refine AllReadyH.cons rfl (fun K hK => ?_) AllReadyH.nil
                      refine step_store_whole rfl 27 (.tmp 14) (.tmp 105) rfl z #[.slice (some ⟨w.heap.size + 1, 0, none⟩) 1 1, .slice (some ⟨bb, 0, none⟩) 2 2, .slice (some ⟨pb, 0, none⟩) 2 2] rfl rfl Hz_w3bca.out (by kernel_rfl) rfl (by simp [Value.oneCell']) (fun W9 e3 e4 => ?_)
                      have hB9 := HBw3bca.out.trans (e4.below HLz.out HBw3bca.out.size)
                      have hbb := (e4.block _ (Array.getElem?_eq_some_iff.1 Hbb_w3bca.out).1 (fun e => by have h1 := Hbb_w3bca.out; rw [e, Hz_w3bca.out] at h1; simp at h1)).trans Hbb_w3bca.out
                      have hpb := (e4.block _ (Array.getElem?_eq_some_iff.1 Hpb_w3bca.out).1 (fun e => by have h1 := Hpb_w3bca.out; rw [e, Hz_w3bca.out] at h1; simp at h1)).trans Hpb_w3bca.out
                      have HLS := Go.Lib.hid (HLS0.out.keep hB9)
                      refine hK.out _ _ HLS.out (fun hS0 => ?_)
                      clear hK K hS0
                      refine wpAnyH_done (by kernel_rfl) ?_ _
                      have HTw := Go.Lib.hid (And.intro (TwoAt.mk (W := W9) (lb := w.heap.size + 1) (x := x) (y := y) ((hB9.cell (p := ⟨w.heap.size + 1, 0, none⟩) (by show w.heap.size + 1 < _; omega)).trans HE3.out.1.lane) (fun o => cellH hbb o) (fun o => cellH hpb o) (fun o => cellH e3 o) ⟨by have := hB9.size; omega, (Array.getElem?_eq_some_iff.1 hbb).1, (Array.getElem?_eq_some_iff.1 hpb).1, (Array.getElem?_eq_some_iff.1 e3).1⟩) hB9)
                      clear hbb hpb e3 e4 hB9
                      simp only [Act.put, List.getElem_toArray, List.getElem_cons_succ, List.getElem_cons_zero]
                      go_wp2_with fail
                      go_meet
                      exact ⟨z, bb, pb, rfl, by rw [HXq.out, HYk.out]; exact HTw⟩
                · go_simp
                  have hB' : Below w3.heap.size w3 (w3.alloc (.cells #[.slice none 0 0, .slice none 0 0, .slice none 0 0] 27)).drew := ((Below.refl _ _).alloc (Nat.le_refl _) _).drew
                  have hn := heap_alloc_new w3 (.cells #[.slice none 0 0, .slice none 0 0, .slice none 0 0] 27)
                  have hn' : (w3.alloc (.cells #[.slice none 0 0, .slice none 0 0, .slice none 0 0] 27)).drew.heap[w3.heap.size]? = some (.cells #[.slice none 0 0, .slice none 0 0, .slice none 0 0] 27 (0, 0)) := hn
                  clear hn
                  obtain ⟨z, hz⟩ : ∃ z, w3.heap.size = z := ⟨_, rfl⟩
                  rw [hz] at hn' ⊢
                  have hlt' : w3.heap.size ≤ z := by rw [← hz]; exact Nat.le_refl _
                  obtain ⟨w3c, hq⟩ : ∃ w3c, (w3.alloc (.cells #[.slice none 0 0, .slice none 0 0, .slice none 0 0] 27)).drew = w3c := ⟨_, rfl⟩
                  rw [hq] at hn' hB' ⊢
                  clear hq hz
                  have Hz_w3c := Go.Lib.hid hn'; clear hn'
                  have HBw3c := Go.Lib.hid hB'
                  have HLz := Go.Lib.hid hlt'
                  clear hB' hlt'
                  have HLS := Go.Lib.hid (HLS0.out.keep HBw3c.out)
                  refine hK.out _ _ HLS.out (fun hS0 => ?_)
                  clear hK K hS0
                  refine wpAnyH_ready (rs := [12, 13]) (by kernel_rfl) (by simp) ?_
                  refine (AllReadyH.cons rfl (fun K hK => ?_) (AllReadyH.cons rfl (fun K hK => ?_) AllReadyH.nil))
                  · go_simp
                    have hB' : Below w3c.heap.size w3c (w3c.alloc (.cells #[.int .i64 1, .int .i64 x, .int .i64 x, .int .i64 1, .int .i64 y, .int .i64 y] 35)) := (Below.refl _ _).alloc (Nat.le_refl _) _
                    have hn := heap_alloc_new w3c (.cells #[.int .i64 1, .int .i64 x, .int .i64 x, .int .i64 1, .int .i64 y, .int .i64 y] 35)
                    have hn' : (w3c.alloc (.cells #[.int .i64 1, .int .i64 x, .int .i64 x, .int .i64 1, .int .i64 y, .int .i64 y] 35)).heap[w3c.heap.size]? = some (.cells #[.int .i64 1, .int .i64 x, .int .i64 x, .int .i64 1, .int .i64 y, .int .i64 y] 35 (0, 0)) := hn
                    clear hn
                    obtain ⟨bb, hbb⟩ : ∃ bb, w3c.heap.size = bb := ⟨_, rfl⟩
                    rw [hbb] at hn' ⊢
                    have hlt' : w3.heap.size ≤ bb := by rw [← hbb]; exact HBw3c.out.size
                    obtain ⟨w3ca, hq⟩ : ∃ w3ca, (w3c.alloc (.cells #[.int .i64 1, .int .i64 x, .int .i64 x, .int .i64 1, .int .i64 y, .int .i64 y] 35)) = w3ca := ⟨_, rfl⟩
                    rw [hq] at hn' hB' ⊢
                    clear hq hbb
                    have Hbb_w3ca := Go.Lib.hid hn'; clear hn'
                    have Hz_w3ca := Go.Lib.hid ((hB'.block _ (Array.getElem?_eq_some_iff.1 Hz_w3c.out).1).trans Hz_w3c.out)
                    have HBw3ca := Go.Lib.hid (HBw3c.out.trans (hB'.mono HBw3c.out.size))
                    have HLbb := Go.Lib.hid hlt'
                    clear hB' hlt'
                    have HLS := Go.Lib.hid (HLS0.out.keep HBw3ca.out)
                    refine hK.out _ _ HLS.out (fun hS0 => ?_)
                    clear hK K hS0
                    refine wpAnyH_ready (rs := [13]) (by kernel_rfl) (by simp) ?_
                    refine (AllReadyH.cons rfl (fun K hK => ?_) AllReadyH.nil)
                    · go_simp
                      have hB' : Below w3ca.heap.size w3ca (w3ca.alloc (.cells #[.int .i64 0, .int .i64 0] 3)) := (Below.refl _ _).alloc (Nat.le_refl _) _
                      have hn := heap_alloc_new w3ca (.cells #[.int .i64 0, .int .i64 0] 3)
                      have hn' : (w3ca.alloc (.cells #[.int .i64 0, .int .i64 0] 3)).heap[w3ca.heap.size]? = some (.cells #[.int .i64 0, .int .i64 0] 3 (0, 0)) := hn
                      clear hn
                      obtain ⟨pb, hpb⟩ : ∃ pb, w3ca.heap.size = pb := ⟨_, rfl⟩
                      rw [hpb] at hn' ⊢
                      have hlt' : w3.heap.size ≤ pb := by rw [← hpb]; exact HBw3ca.out.size
                      obtain ⟨w3cab, hq⟩ : ∃ w3cab, (w3ca.alloc (.cells #[.int .i64 0, .int .i64 0] 3)) = w3cab := ⟨_, rfl⟩
                      rw [hq] at hn' hB' ⊢
                      clear hq hpb
                      have Hpb_w3cab := Go.Lib.hid hn'; clear hn'
                      have Hz_w3cab := Go.Lib.hid ((hB'.block _ (Array.getElem?_eq_some_iff.1 Hz_w3ca.out).1).trans Hz_w3ca.out)
                      have Hbb_w3cab := Go.Lib.hid ((hB'.block _ (Array.getElem?_eq_some_iff.1 Hbb_w3ca.out).1).trans Hbb_w3ca.out)
                      have HBw3cab := Go.Lib.hid (HBw3ca.out.trans (hB'.mono HBw3ca.out.size))
                      have HLpb := Go.Lib.hid hlt'
                      clear hB' hlt'
                      have HLS := Go.Lib.hid (HLS0.out.keep HBw3cab.out)
                      refine hK.out _ _ HLS.out (fun hS0 => ?_)
                      clear hK K hS0
                      refine wpAnyH_take (i := 14) (v := .agg #[.slice (some ⟨w.heap.size + 1, 0, none⟩) 1 1, .slice (some ⟨bb, 0, none⟩) 2 2, .slice (some ⟨pb, 0, none⟩) 2 2]) rfl (by kernel_rfl) (by kernel_rfl) (by kernel_rfl) (fun _ _ _ h => h) (.inl ⟨by rfl, fun W hSw => by first | (go_simp; done) | (obtain ⟨s0, s1, s2, s3, s4, s5, s6, s7, s8, s9⟩ := hSw; go_simp)⟩) HLS.out ?_
                      simp only [Act.put, List.getElem_toArray, List.getElem_cons_succ, List.getElem_cons_zero, List.setIfInBounds_toArray, List.set_cons_zero, List.set_cons_succ]
                      refine wpAnyH_ready (rs := [16]) (by kernel_rfl) (by simp) ?_
                      refine AllReadyH.cons rfl (fun K hK => ?_) AllReadyH.nil
                      refine step_store_whole rfl 27 (.tmp 14) (.tmp 105) rfl z #[.slice (some ⟨w.heap.size + 1, 0, none⟩) 1 1, .slice (some ⟨bb, 0, none⟩) 2 2, .slice (some ⟨pb, 0, none⟩) 2 2] rfl rfl Hz_w3cab.out (by kernel_rfl) rfl (by simp [Value.oneCell']) (fun W9 e3 e4 => ?_)
                      have hB9 := HBw3cab.out.trans (e4.below HLz.out HBw3cab.out.size)
                      have hbb := (e4.block _ (Array.getElem?_eq_some_iff.1 Hbb_w3cab.out).1 (fun e => by have h1 := Hbb_w3cab.out; rw [e, Hz_w3cab.out] at h1; simp at h1)).trans Hbb_w3cab.out
                      have hpb := (e4.block _ (Array.getElem?_eq_some_iff.1 Hpb_w3cab.out).1 (fun e => by have h1 := Hpb_w3cab.out; rw [e, Hz_w3cab.out] at h1; simp at h1)).trans Hpb_w3cab.out
                      have HLS := Go.Lib.hid (HLS0.out.keep hB9)
                      refine hK.out _ _ HLS.out (fun hS0 => ?_)
                      clear hK K hS0
                      refine wpAnyH_done (by kernel_rfl) ?_ _
                      have HTw := Go.Lib.hid (And.intro (TwoAt.mk (W := W9) (lb := w.heap.size + 1) (x := x) (y := y) ((hB9.cell (p := ⟨w.heap.size + 1, 0, none⟩) (by show w.heap.size + 1 < _; omega)).trans HE3.out.1.lane) (fun o => cellH hbb o) (fun o => cellH hpb o) (fun o => cellH e3 o) ⟨by have := hB9.size; omega, (Array.getElem?_eq_some_iff.1 hbb).1, (Array.getElem?_eq_some_iff.1 hpb).1, (Array.getElem?_eq_some_iff.1 e3).1⟩) hB9)
                      clear hbb hpb e3 e4 hB9
                      simp only [Act.put, List.getElem_toArray, List.getElem_cons_succ, List.getElem_cons_zero]
                      go_wp2_with fail
                      go_meet
                      exact ⟨z, bb, pb, rfl, by rw [HXq.out, HYk.out]; exact HTw⟩
                  · go_simp
                    have hB' : Below w3c.heap.size w3c (w3c.alloc (.cells #[.int .i64 0, .int .i64 0] 3)) := (Below.refl _ _).alloc (Nat.le_refl _) _
                    have hn := heap_alloc_new w3c (.cells #[.int .i64 0, .int .i64 0] 3)
                    have hn' : (w3c.alloc (.cells #[.int .i64 0, .int .i64 0] 3)).heap[w3c.heap.size]? = some (.cells #[.int .i64 0, .int .i64 0] 3 (0, 0)) := hn
                    clear hn
                    obtain ⟨pb, hpb⟩ : ∃ pb, w3c.heap.size = pb := ⟨_, rfl⟩
                    rw [hpb] at hn' ⊢
                    have hlt' : w3.heap.size ≤ pb := by rw [← hpb]; exact HBw3c.out.size
                    obtain ⟨w3cb, hq⟩ : ∃ w3cb, (w3c.alloc (.cells #[.int .i64 0, .int .i64 0] 3)) = w3cb := ⟨_, rfl⟩
                    rw [hq] at hn' hB' ⊢
                    clear hq hpb
                    have Hpb_w3cb := Go.Lib.hid hn'; clear hn'
                    have Hz_w3cb := Go.Lib.hid ((hB'.block _ (Array.getElem?_eq_some_iff.1 Hz_w3c.out).1).trans Hz_w3c.out)
                    have HBw3cb := Go.Lib.hid (HBw3c.out.trans (hB'.mono HBw3c.out.size))
                    have HLpb := Go.Lib.hid hlt'
                    clear hB' hlt'
                    have HLS := Go.Lib.hid (HLS0.out.keep HBw3cb.out)
                    refine hK.out _ _ HLS.out (fun hS0 => ?_)
                    clear hK K hS0
                    refine wpAnyH_ready (rs := [12]) (by kernel_rfl) (by simp) ?_
                    refine (AllReadyH.cons rfl (fun K hK => ?_) AllReadyH.nil)
                    · go_simp
                      have hB' : Below w3cb.heap.size w3cb (w3cb.alloc (.cells #[.int .i64 1, .int .i64 x, .int .i64 x, .int .i64 1, .int .i64 y, .int .i64 y] 35)) := (Below.refl _ _).alloc (Nat.le_refl _) _
                      have hn := heap_alloc_new w3cb (.cells #[.int .i64 1, .int .i64 x, .int .i64 x, .int .i64 1, .int .i64 y, .int .i64 y] 35)
                      have hn' : (w3cb.alloc (.cells #[.int .i64 1, .int .i64 x, .int .i64 x, .int .i64 1, .int .i64 y, .int .i64 y] 35)).heap[w3cb.heap.size]? = some (.cells #[.int .i64 1, .int .i64 x, .int .i64 x, .int .i64 1, .int .i64 y, .int .i64 y] 35 (0, 0)) := hn
                      clear hn
                      obtain ⟨bb, hbb⟩ : ∃ bb, w3cb.heap.size = bb := ⟨_, rfl⟩
                      rw [hbb] at hn' ⊢
                      have hlt' : w3.heap.size ≤ bb := by rw [← hbb]; exact HBw3cb.out.size
                      obtain ⟨w3cba, hq⟩ : ∃ w3cba, (w3cb.alloc (.cells #[.int .i64 1, .int .i64 x, .int .i64 x, .int .i64 1, .int .i64 y, .int .i64 y] 35)) = w3cba := ⟨_, rfl⟩
                      rw [hq] at hn' hB' ⊢
                      clear hq hbb
                      have Hbb_w3cba := Go.Lib.hid hn'; clear hn'
                      have Hz_w3cba := Go.Lib.hid ((hB'.block _ (Array.getElem?_eq_some_iff.1 Hz_w3cb.out).1).trans Hz_w3cb.out)
                      have Hpb_w3cba := Go.Lib.hid ((hB'.block _ (Array.getElem?_eq_some_iff.1 Hpb_w3cb.out).1).trans Hpb_w3cb.out)
                      have HBw3cba := Go.Lib.hid (HBw3cb.out.trans (hB'.mono HBw3cb.out.size))
                      have HLbb := Go.Lib.hid hlt'
                      clear hB' hlt'
                      have HLS := Go.Lib.hid (HLS0.out.keep HBw3cba.out)
                      refine hK.out _ _ HLS.out (fun hS0 => ?_)
                      clear hK K hS0
                      refine wpAnyH_take (i := 14) (v := .agg #[.slice (some ⟨w.heap.size + 1, 0, none⟩) 1 1, .slice (some ⟨bb, 0, none⟩) 2 2, .slice (some ⟨pb, 0, none⟩) 2 2]) rfl (by kernel_rfl) (by kernel_rfl) (by kernel_rfl) (fun _ _ _ h => h) (.inl ⟨by rfl, fun W hSw => by first | (go_simp; done) | (obtain ⟨s0, s1, s2, s3, s4, s5, s6, s7, s8, s9⟩ := hSw; go_simp)⟩) HLS.out ?_
                      simp only [Act.put, List.getElem_toArray, List.getElem_cons_succ, List.getElem_cons_zero, List.setIfInBounds_toArray, List.set_cons_zero, List.set_cons_succ]
                      refine wpAnyH_ready (rs := [16]) (by kernel_rfl) (by simp) ?_
                      refine AllReadyH.cons rfl (fun K hK => ?_) AllReadyH.nil
                      refine step_store_whole rfl 27 (.tmp 14) (.tmp 105) rfl z #[.slice (some ⟨w.heap.size + 1, 0, none⟩) 1 1, .slice (some ⟨bb, 0, none⟩) 2 2, .slice (some ⟨pb, 0, none⟩) 2 2] rfl rfl Hz_w3cba.out (by kernel_rfl) rfl (by simp [Value.oneCell']) (fun W9 e3 e4 => ?_)
                      have hB9 := HBw3cba.out.trans (e4.below HLz.out HBw3cba.out.size)
                      have hbb := (e4.block _ (Array.getElem?_eq_some_iff.1 Hbb_w3cba.out).1 (fun e => by have h1 := Hbb_w3cba.out; rw [e, Hz_w3cba.out] at h1; simp at h1)).trans Hbb_w3cba.out
                      have hpb := (e4.block _ (Array.getElem?_eq_some_iff.1 Hpb_w3cba.out).1 (fun e => by have h1 := Hpb_w3cba.out; rw [e, Hz_w3cba.out] at h1; simp at h1)).trans Hpb_w3cba.out
                      have HLS := Go.Lib.hid (HLS0.out.keep hB9)
                      refine hK.out _ _ HLS.out (fun hS0 => ?_)
                      clear hK K hS0
                      refine wpAnyH_done (by kernel_rfl) ?_ _
                      have HTw := Go.Lib.hid (And.intro (TwoAt.mk (W := W9) (lb := w.heap.size + 1) (x := x) (y := y) ((hB9.cell (p := ⟨w.heap.size + 1, 0, none⟩) (by show w.heap.size + 1 < _; omega)).trans HE3.out.1.lane) (fun o => cellH hbb o) (fun o => cellH hpb o) (fun o => cellH e3 o) ⟨by have := hB9.size; omega, (Array.getElem?_eq_some_iff.1 hbb).1, (Array.getElem?_eq_some_iff.1 hpb).1, (Array.getElem?_eq_some_iff.1 e3).1⟩) hB9)
                      clear hbb hpb e3 e4 hB9
                      simp only [Act.put, List.getElem_toArray, List.getElem_cons_succ, List.getElem_cons_zero]
                      go_wp2_with fail
                      go_meet
                      exact ⟨z, bb, pb, rfl, by rw [HXq.out, HYk.out]; exact HTw⟩
              case rest =>
                obtain ⟨z, bb, pb, rfl, HTw⟩ := hcut
                have hx := HE3.out.1.rng q (by omega)
                have hy := HE3.out.1.rng k hlk
                have ct : ∀ o, wc.cell? ⟨z, o, none⟩ = #[Value.slice (some ⟨w.heap.size + 1, 0, none⟩) 1 1, .slice (some ⟨bb, 0, none⟩) 2 2, .slice (some ⟨pb, 0, none⟩) 2 2][o]? := HTw.out.1.shelf
                have HX := Go.Lib.hid (And.intro hx hy)
                clear hx hy
                have HB3 := Go.Lib.hid (HE3.out.1.keep HTw.out.2)
                go_upto_region 23 with (first
                  | (go_at_call 8; refine (two_quiet HTw.out.1 HX.out.1 HX.out.2 rQ (by rcases HR.out with ⟨_, h1, _, h2⟩ | ⟨_, h1, _, h2⟩; exact .inl ⟨h1, h2⟩; exact .inr ⟨h1, h2⟩)).mono ?_; rintro e w4 ⟨A4, cap4, rfl, hB4⟩; have hM4 := HB3.out.keep hB4; have HM4 := Go.Lib.hid (And.intro hM4 (HTw.out.2.trans (hB4.mono HTw.out.2.size))); clear hM4 ct hB4; have cy : ∀ o, w4.cell? ⟨w.heap.size + 1 + 1 + 1, o, none⟩ = #[Value.slice Aq N cq, .int .i64 2][o]? := HM4.out.1.yard)
                  | (go_at_call 9; refine (made_stands (HM4.out.1.keep ((Below.refl _ _).alloc (Nat.le_refl _) (.cells #[.int .i64 (q : Int), .int .i64 (k : Int)] 3))) q k w4.heap.size 2 hqk hlk (by simp) (by simp) (by simp) rS (by rcases HR.out with ⟨_, _, h1, h2⟩ | ⟨_, _, h1, h2⟩; exact .inl ⟨h1, h2⟩; exact .inr ⟨h1, h2⟩)).mono ?_; rintro e w5 ⟨rfl, hB5⟩; have hM5 := (HM4.out.1.keep ((Below.refl _ _).alloc (Nat.le_refl _) (.cells #[.int .i64 (q : Int), .int .i64 (k : Int)] 3))).keep hB5; have HB5 := Go.Lib.hid (HM4.out.2.trans (((Below.refl _ _).alloc (Nat.le_refl _) (.cells #[.int .i64 (q : Int), .int .i64 (k : Int)] 3)).trans (hB5.mono (by simp)) |>.mono HM4.out.2.size)); have HM5 := Go.Lib.hid hM5; clear hM5 hB5 cy))
                have HI5 := Go.Lib.hid (HE3.out.2.1.keep (fun b hb => HB5.out.block b (Nat.lt_of_lt_of_le hb HE3.out.2.2)))
                have HZ5 := Go.Lib.hid (Nat.le_trans HE3.out.2.2 HB5.out.size)
                have hls : (onList hs N q).length ≤ 140737488351232 := Nat.le_trans (List.length_filter_le _ _) (by have := els_length ⟨sub (low N) (2 ^ q), sub_lt ⟨low N, low_lt hlen⟩ ⟨2 ^ q, pow_lt32 (by omega)⟩⟩; dsimp only at this; rw [elsI, List.length_map]; omega)
                have HLs := Go.Lib.hid hls; clear hls
                rcases HR.out with ⟨rfl, rfl, rfl, hle⟩ | ⟨rfl, rfl, rfl, hle⟩
                · have HLe := Go.Lib.hid hle; clear hle
                  go_wp2_with (go_at_call 10; refine (at_in A2 _ cap2 w2.heap.size k _ _ HLs.out HI5.out (on_in hlen (by omega) hlk (by omega) HLe.out)).mono ?_; rintro e w6 ⟨v, hv0, rfl, rfl⟩)
                  go_roundw
                  case rel => exact ⟨k + 1, by omega, by omega, by go_num, Go.Lib.hid ⟨HM5.out, HI5.out, HZ5.out⟩⟩
                  case measure => simp [intOf]; omega
                · have HLe := Go.Lib.hid hle; clear hle
                  go_wp2_with (go_at_call 10; refine (at_out A2 _ cap2 w2.heap.size k _ _ HLs.out HI5.out (on_out HLe.out)).mono ?_; rintro e w6 ⟨v, hv0, rfl, rfl⟩)
                  go_roundw
                  case rel => exact ⟨k + 1, by omega, by omega, by go_num, Go.Lib.hid ⟨HM5.out, HI5.out, HZ5.out⟩⟩
                  case measure => simp [intOf]; omega
            · go_wp2
              go_roundw
              case rel => exact ⟨q + 1, by omega, by go_num, Go.Lib.hid HE.out.1⟩
              case measure => simp [intOf]; omega
        · go_wp2_with (go_at_call 11; refine (awake_any _).mono ?_; rintro e w2 ⟨rfl, hB2⟩)
          go_ret
          exact ⟨rfl, HD.out.below.trans (hB2.mono HD.out.below.size)⟩

end Go.Proofs.YtckchahangnfiaaGreatDoor
