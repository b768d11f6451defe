/- A law for regions that draw their order: a load may be taken first though a later operation of the region, which waits for it, writes its cell: what is known of the world (G) hangs on what has come up. The library has it for cells that nobody in the region writes; its lemmas on single operations serve here too. -/
import Derived.Deep.RegionHeld3
import Derived.OrdersHeld
namespace Go.Proofs.YtckchahangnfiaaGreatDoor
open Go

section
variable {P : Program} {ops : Array Oper} {Q : Exit → Act → World → Prop} {md : Region.Mode} {G : Array Bool → World → Prop}

/-- Whatever comes up next, and whatever then: and G holds behind each of them. -/
def wpAnyG (P : Program) (md : Region.Mode) (ops : Array Oper) (Q : Exit → Act → World → Prop) (G : Array Bool → World → Prop) : Nat → Array Bool → Act → World → Prop
  | 0, L, a, w => Region.ready md ops L = [] ∧ Q .normal a w
  | k + 1, L, a, w => (Region.ready md ops L = [] → Q .normal a w) ∧
      ∀ i ∈ Region.ready md ops L, wpOp P ops Q i (fun a' w' => G (L.setIfInBounds i true) w' ∧ wpAnyG P md ops Q G k (L.setIfInBounds i true) a' w') a w

theorem wpAnyG.any {k : Nat} : ∀ {L : Array Bool} {a : Act} {w : World}, wpAnyG P md ops Q G k L a w → wpAny P md ops Q k L a w := by
  induction k with
  | zero => exact fun h => h
  | succ k ih => exact fun h => ⟨h.1, fun i hi => wpOp_mono (fun _ _ h' => ih h'.2) (h.2 i hi)⟩

/-- What is ready although i is not listed waits not for i. -/
theorem waits_not {L : Array Bool} {i j : Nat} {oj : Oper} (hi : i ∈ Region.ready md ops L) (hj : j ∈ Region.ready md ops L) (ho : ops[j]? = some oj) : ∀ e ∈ oj.after, Region.binds md e = true → e.on ≠ i := by
  rintro e he hb rfl
  obtain ⟨_, o', ho', hall⟩ := mem_ready.1 hj
  obtain rfl : o' = oj := Option.some.inj (ho'.symm.trans ho)
  have h1 := hall e he hb
  have h0 := (mem_ready.1 hi).1
  by_cases h' : e.on < L.size
  · simp [h'] at h0 h1
    simp [h0] at h1
  · simp [Array.getElem?_eq_none (Nat.le_of_not_lt h')] at h1

/-- Number i first: it yields v wherever S holds; G says S as long as Ok holds of what has come up; and Ok lasts till i comes up. -/
theorem wpAnyG.first {i : Nat} {oi : Oper} {v : Value} {S : World → Prop} {Ok : Array Bool → Prop} (hi : ops[i]? = some oi)
    (hGS : ∀ L w, G L w → Ok L → S w) (hGi : ∀ L w, G (L.setIfInBounds i true) w → G L w)
    (hOk : ∀ L j oj, Ok L → ops[j]? = some oj → (∀ e ∈ oj.after, Region.binds md e = true → e.on ≠ i) → j ≠ i → Ok (L.setIfInBounds j true))
    (hsel : ∀ (j : Nat) (o : Oper) cs b, ops[j]? = some o → o.op ≠ .select cs b) (hQ : ∀ c a w, Q (.panic c) (a.put oi.dst v) w → Q (.panic c) a w) (k : Nat) :
    ∀ {L : Array Bool} {a : Act} {w : World}, (∀ j oj, ops[j]? = some oj → j ≠ i → L.getD j true = false → (∀ e ∈ oj.after, Region.binds md e = true → e.on ≠ i) → oi.apart ops oj = true) →
      i ∈ Region.ready md ops L → Ok L → YieldsIf P ops S oi v a → G (L.setIfInBounds i true) w →
      wpAnyG P md ops Q G k (L.setIfInBounds i true) (a.put oi.dst v) w → wpAnyG P md ops Q G (k + 1) L a w := by
  induction k with
  | zero =>
    intro L a w _ hr hok hy hG H
    refine ⟨fun h => absurd hr (by simp [h]), fun j hj => ?_⟩
    rcases Decidable.em (j = i) with rfl | hne
    · exact hy.wpOp hi (hGS _ _ (hGi _ _ hG) hok) ⟨hG, H⟩
    · exact absurd (ready_mono hj hne) (by simp [H.1])
  | succ k ih =>
    intro L a w hfree hr hok hy hG H
    refine ⟨fun h => absurd hr (by simp [h]), fun j hj => ?_⟩
    rcases Decidable.em (j = i) with rfl | hne
    · exact hy.wpOp hi (hGS _ _ (hGi _ _ hG) hok) ⟨hG, H⟩
    · obtain ⟨hun, oj, hoj, _⟩ := mem_ready.1 hj
      have hw := waits_not hr hj hoj
      have step := wpOp_putIf hoj (hfree j oj hoj hne hun hw) (fun cs b => hsel i oi cs b hi) (fun cs b => hsel j oj cs b hoj) hQ hy (H.2 j (ready_mono hj hne))
      refine wpOp_mono ?_ step
      rintro a' w' ⟨hy', hg, hrest⟩
      rw [Array.setIfInBounds_comm _ _ (Ne.symm hne)] at hg hrest
      refine ⟨hGi _ _ hg, ih ?_ (ready_mono hr (Ne.symm hne)) (hOk L j oj hok hoj hw hne) hy' hg hrest⟩
      intro m om hm hmi hlm
      refine hfree m om hm hmi ?_
      rcases Decidable.em (j = m) with rfl | hjm
      · exact hun
      · rwa [getD_set_ne true hjm] at hlm

theorem wpAnyG_take {i : Nat} (last : Nat) {oi ol : Oper} {v : Value} {fuel : Nat} {listed : Array Bool} {a : Act} {w : World} {S : World → Prop} (hi : ops[i]? = some oi) (hol : ops[last]? = some ol)
    (hlast : (ol.after.any fun e => Region.binds md e && e.on == i) = true) (hGS : ∀ L w, G L w → L.getD last true = false → S w) (hGi : ∀ L w, G (L.setIfInBounds i true) w → G L w) (_hil : i ≠ last)
    (hs : Region.noSelect ops = true) (hf : Region.free md ops listed i = true) (hr : (Region.ready md ops listed).contains i = true) (hl : listed.getD last true = false)
    (hQ : ∀ c a w, Q (.panic c) (a.put oi.dst v) w → Q (.panic c) a w) (hy : YieldsIf P ops S oi v a) (hG : G (listed.setIfInBounds i true) w)
    (h : wpAnyG P md ops Q G fuel (listed.setIfInBounds i true) (a.put oi.dst v) w) : wpAnyG P md ops Q G (fuel + 1) listed a w :=
  wpAnyG.first (Ok := fun L => L.getD last true = false) hi hGS hGi (fun L j oj hok hoj hw _ => by
    obtain ⟨e, he, h1⟩ := Array.any_eq_true'.1 hlast
    rw [Bool.and_eq_true] at h1
    have hjl : j ≠ last := by
      rintro rfl
      obtain rfl : ol = oj := Option.some.inj (hol.symm.trans hoj)
      exact hw e he h1.1 (by simpa using h1.2)
    rw [getD_set_ne true hjl]
    exact hok) (Region.noSelect_spec hs) hQ fuel (Region.free_spec hi hf) (by simpa using hr) hl hy hG h

theorem wpAnyG_take0 {i : Nat} {oi : Oper} {v : Value} {fuel : Nat} {listed : Array Bool} {a : Act} {w : World} (hi : ops[i]? = some oi)
    (hGi : ∀ L w, G (L.setIfInBounds i true) w → G L w)
    (hs : Region.noSelect ops = true) (hf : Region.free md ops listed i = true) (hr : (Region.ready md ops listed).contains i = true)
    (hQ : ∀ c a w, Q (.panic c) (a.put oi.dst v) w → Q (.panic c) a w) (hy : YieldsIf P ops (fun _ => True) oi v a) (hG : G (listed.setIfInBounds i true) w)
    (h : wpAnyG P md ops Q G fuel (listed.setIfInBounds i true) (a.put oi.dst v) w) : wpAnyG P md ops Q G (fuel + 1) listed a w :=
  wpAnyG.first (Ok := fun _ => True) hi (fun _ _ _ _ => trivial) hGi (fun _ _ _ _ _ _ _ => trivial) (Region.noSelect_spec hs) hQ fuel (Region.free_spec hi hf) (by simpa using hr) trivial hy hG h

/-- Those that may come up now, one by one. -/
def AllReadyG (P : Program) (md : Region.Mode) (ops : Array Oper) (Q : Exit → Act → World → Prop) (G : Array Bool → World → Prop) (fuel : Nat) (listed : Array Bool) (a : Act) (w : World) (rs : List Nat) : Prop :=
  ∀ i ∈ rs, wpOp P ops Q i (fun a' w' => G (listed.setIfInBounds i true) w' ∧ wpAnyG P md ops Q G fuel (listed.setIfInBounds i true) a' w') a w
theorem AllReadyG.nil {fuel : Nat} {listed : Array Bool} {a : Act} {w : World} : AllReadyG P md ops Q G fuel listed a w [] := List.forall_mem_nil _
theorem AllReadyG.cons {fuel : Nat} {listed : Array Bool} {a : Act} {w : World} {i : Nat} {o : Oper} {rs : List Nat} (ho : ops[i]? = some o)
    (h : ∀ K' : Act → World → Prop, Shut (∀ a w, G (listed.setIfInBounds i true) w → wpAnyG P md ops Q G fuel (listed.setIfInBounds i true) a w → K' a w) → if Region.wanted o (yielded ops a.tmps) = true then Oper.wp P o a w K' Q else K' (a.put o.dst undef) w)
    (hs : AllReadyG P md ops Q G fuel listed a w rs) : AllReadyG P md ops Q G fuel listed a w (i :: rs) :=
  List.forall_mem_cons.2 ⟨wpOp_step ho fun K' hK => h K' fun a w hS hW => hK a w ⟨hS, hW⟩, hs⟩
theorem wpAnyG_ready {rs : List Nat} {fuel : Nat} {listed : Array Bool} {a : Act} {w : World} (hr : Region.ready md ops listed = rs) (hne : rs ≠ [])
    (h : AllReadyG P md ops Q G fuel listed a w rs) : wpAnyG P md ops Q G (fuel + 1) listed a w := by
  subst hr
  exact ⟨fun h0 => absurd h0 hne, h⟩
theorem wpAnyG_done {listed : Array Bool} {a : Act} {w : World} (hr : Region.ready md ops listed = []) (h : Q .normal a w) (k : Nat) : wpAnyG P md ops Q G k listed a w := by
  cases k with
  | zero => exact ⟨hr, h⟩
  | succ k => exact ⟨fun _ => h, by simp [hr]⟩
theorem wp_region_G {id : Nat} {a : Act} {w : World} (G : Array Bool → World → Prop) (hm : P.follows .mixedOrders = true)
    (h : wpAnyG P .any ops Q G ops.size (Array.replicate ops.size false) a w.drew) : (Code.region id ops true).wp P Q a w :=
  wp_region_any hm h.any
end

end Go.Proofs.YtckchahangnfiaaGreatDoor
