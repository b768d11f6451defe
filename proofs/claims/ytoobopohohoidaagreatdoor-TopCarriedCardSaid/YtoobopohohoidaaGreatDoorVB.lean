/- VAULT: what is fetched at least, and why what is asked for last goes: plain lists and sets, no program. -/
/- VAULT: what rules send; no rule fetches fewer than can be, and the one that knows what comes just as many. -/
import Derived.Test.YtoobopohohoidaaGreatDoorVA
set_option linter.unusedSimpArgs false
set_option linter.unusedVariables false
namespace Go.Proofs.YtoobopohohoidaaGreatDoor

def minL : List Nat → Nat
  | [] => 0
  | [x] => x
  | x :: y :: l => min x (minL (y :: l))
theorem minL_mem : ∀ {l : List Nat}, l ≠ [] → minL l ∈ l
  | [], h => absurd rfl h
  | [x], _ => by simp [minL]
  | x :: y :: l, _ => by
    have := minL_mem (l := y :: l) (by simp)
    simp only [minL]
    rcases Nat.le_total x (minL (y :: l)) with h | h
    · rw [Nat.min_eq_left h]; simp
    · rw [Nat.min_eq_right h]; exact List.mem_cons_of_mem _ this
theorem minL_le : ∀ {l : List Nat} {x : Nat}, x ∈ l → minL l ≤ x
  | [], _, h => by cases h
  | [y], x, h => by simp at h; subst h; exact Nat.le_refl _
  | y :: z :: l, x, h => by
    simp only [minL]
    rcases List.mem_cons.1 h with rfl | h
    · exact Nat.min_le_left _ _
    · exact Nat.le_trans (Nat.min_le_right _ _) (minL_le h)
theorem minL_snoc : ∀ (l : List Nat) (x : Nat), l ≠ [] → minL (l ++ [x]) = min (minL l) x
  | [], _, h => absurd rfl h
  | [y], x, _ => rfl
  | y :: z :: l, x, _ => by
    have := minL_snoc (z :: l) x (by simp)
    simp only [List.cons_append] at this ⊢
    simp only [minL]
    rw [this, Nat.min_assoc]

/-- How many pieces are fetched at least: P places, calls to come, the office. -/
def fewN (P : Nat) : List Nat → Nat → Nat
  | [], _ => 0
  | p :: t, s => if s.testBit p then fewN P t s else if cnt s < P then 1 + fewN P t (withP s p) else minL ((els s).map fun q => 1 + fewN P t (withP (lessP s q) p))

theorem els_mem {s q : Nat} : q ∈ els s ↔ q < 6 ∧ s.testBit q = true := by simp [els]
theorem with_bit (s p q : Nat) : (withP s p).testBit q = (s.testBit q || decide (p = q)) := by simp [withP, Nat.testBit_or, Nat.testBit_two_pow]
theorem less_bit (s p q : Nat) : (lessP s p).testBit q = (s.testBit q && !decide (p = q)) := by
  simp only [lessP, sub, Nat.testBit_xor, Nat.testBit_and, Nat.testBit_two_pow]
  cases s.testBit q <;> cases decide (p = q) <;> rfl
theorem with_lt' {s p : Nat} (h : s < 64) (hp : p < 6) : withP s p < 64 := with_lt ⟨s, h⟩ ⟨p, hp⟩
theorem less_lt' {s p : Nat} (h : s < 64) (hp : p < 6) : lessP s p < 64 := less_lt ⟨s, h⟩ ⟨p, hp⟩
theorem cnt_with_ : ∀ s : Fin 64, ∀ p : Fin 6, s.1.testBit p.1 = false → cnt (withP s.1 p.1) = cnt s.1 + 1 := by decide +kernel
theorem cnt_less_ : ∀ s : Fin 64, ∀ p : Fin 6, s.1.testBit p.1 = true → cnt (lessP s.1 p.1) + 1 = cnt s.1 := by decide +kernel
theorem cnt_with {s p : Nat} (h : s < 64) (hp : p < 6) (hb : s.testBit p = false) : cnt (withP s p) = cnt s + 1 := cnt_with_ ⟨s, h⟩ ⟨p, hp⟩ hb
theorem cnt_less {s p : Nat} (h : s < 64) (hp : p < 6) (hb : s.testBit p = true) : cnt (lessP s p) + 1 = cnt s := cnt_less_ ⟨s, h⟩ ⟨p, hp⟩ hb
def Sub (s s' : Nat) : Prop := ∀ q, q < 6 → s.testBit q = true → s'.testBit q = true
theorem bit_ext_ : ∀ s s' : Fin 64, (List.range 6).all (fun q => s.1.testBit q == s'.1.testBit q) = true → s.1 = s'.1 := by decide +kernel
theorem bit_ext {s s' : Nat} (h : s < 64) (h' : s' < 64) (hb : ∀ q, q < 6 → s.testBit q = s'.testBit q) : s = s' :=
  bit_ext_ ⟨s, h⟩ ⟨s', h'⟩ (List.all_eq_true.2 fun q hq => by rw [hb q (List.mem_range.1 hq)]; simp)
theorem more_ : ∀ s s' : Fin 64, cnt s.1 < cnt s'.1 → (List.range 6).any (fun q => s'.1.testBit q && !s.1.testBit q) = true := by decide +kernel
theorem more {s s' : Nat} (h : s < 64) (h' : s' < 64) (hc : cnt s < cnt s') : ∃ q, q < 6 ∧ s'.testBit q = true ∧ s.testBit q = false := by
  obtain ⟨q, hq, hb⟩ := List.any_eq_true.1 (more_ ⟨s, h⟩ ⟨s', h'⟩ hc)
  simp at hq hb
  exact ⟨q, hq, hb.1, hb.2⟩
theorem sub_cnt_ : ∀ s s' : Fin 64, (List.range 6).all (fun q => !s.1.testBit q || s'.1.testBit q) = true → cnt s.1 ≤ cnt s'.1 := by decide +kernel
theorem Sub.cnt {s s' : Nat} (hs : Sub s s') (h : s < 64) (h' : s' < 64) : cnt s ≤ cnt s' :=
  sub_cnt_ ⟨s, h⟩ ⟨s', h'⟩ (List.all_eq_true.2 fun q hq => by
    have := hs q (List.mem_range.1 hq)
    cases hb : s.testBit q <;> simp_all)
theorem cnt_pos {s q : Nat} (hq : q < 6) (h : s.testBit q = true) : els s ≠ [] := fun e => by
  have := els_mem.2 ⟨hq, h⟩
  rw [e] at this; cases this

section
variable {P : Nat}

theorem few_hit {p s : Nat} {t : List Nat} (h : s.testBit p = true) : fewN P (p :: t) s = fewN P t s := by rw [fewN, if_pos h]
theorem few_room {p s : Nat} {t : List Nat} (h : s.testBit p = false) (hc : cnt s < P) : fewN P (p :: t) s = 1 + fewN P t (withP s p) := by rw [fewN, if_neg (by simp [h]), if_pos hc]
theorem few_full {p s : Nat} {t : List Nat} (h : s.testBit p = false) (hc : ¬ cnt s < P) : fewN P (p :: t) s = minL ((els s).map fun q => 1 + fewN P t (withP (lessP s q) p)) := by rw [fewN, if_neg (by simp [h]), if_neg hc]
theorem few_le {p s q : Nat} {t : List Nat} (h : s.testBit p = false) (hc : ¬ cnt s < P) (hq : q < 6) (hb : s.testBit q = true) : fewN P (p :: t) s ≤ 1 + fewN P t (withP (lessP s q) p) := by
  rw [few_full h hc]
  exact minL_le (List.mem_map.2 ⟨q, els_mem.2 ⟨hq, hb⟩, rfl⟩)
theorem few_ex {p s : Nat} {t : List Nat} (h : s.testBit p = false) (hc : ¬ cnt s < P) (he : els s ≠ []) : ∃ q, q < 6 ∧ s.testBit q = true ∧ fewN P (p :: t) s = 1 + fewN P t (withP (lessP s q) p) := by
  rw [few_full h hc]
  obtain ⟨q, hq, e⟩ := List.mem_map.1 (minL_mem (l := (els s).map fun q => 1 + fewN P t (withP (lessP s q) p)) (by simpa using he))
  exact ⟨q, (els_mem.1 hq).1, (els_mem.1 hq).2, e.symm⟩
theorem els_ne {s : Nat} (hs : s < 64) (h : 0 < cnt s) : els s ≠ [] := fun e => by rw [cnt, e] at h; exact absurd h (by simp)

/-- Whoever has more in the office does not fetch more. -/
theorem few_mono (hP : 1 ≤ P) : ∀ (t : List Nat) (s s' : Nat), (∀ p ∈ t, p < 6) → s < 64 → s' < 64 → Sub s s' → cnt s' ≤ P → fewN P t s' ≤ fewN P t s
  | [], _, _, _, _, _, _, _ => Nat.le_refl _
  | p :: t, s, s', ht, hs, hs', hsub, hc => by
    have hp : p < 6 := ht p (by simp)
    have ht' : ∀ x ∈ t, x < 6 := fun x hx => ht x (by simp [hx])
    cases h1 : s.testBit p with
    | true => rw [few_hit h1, few_hit (hsub p hp h1)]; exact few_mono hP t s s' ht' hs hs' hsub hc
    | false =>
      have hle := hsub.cnt hs hs'
      cases h2 : s'.testBit p with
      | true =>
        have hlt : cnt s < P := by
          rcases Nat.lt_or_ge (cnt s) P with h | h
          · exact h
          · exfalso
            have hsub2 : Sub (withP s p) s' := fun q hq hb => by
              rw [with_bit] at hb
              rcases Bool.or_eq_true_iff.1 hb with hb | hb
              · exact hsub q hq hb
              · have := of_decide_eq_true hb; subst this; exact h2
            have := hsub2.cnt (with_lt' hs hp) hs'
            rw [cnt_with hs hp h1] at this
            omega
        rw [few_hit h2, few_room h1 hlt]
        have := few_mono hP t (withP s p) s' ht' (with_lt' hs hp) hs' (fun q hq hb => by
          rw [with_bit] at hb
          rcases Bool.or_eq_true_iff.1 hb with hb | hb
          · exact hsub q hq hb
          · have := of_decide_eq_true hb; subst this; exact h2) hc
        omega
      | false =>
        by_cases hlt' : cnt s' < P
        · rw [few_room h2 hlt', few_room h1 (by omega)]
          have := few_mono hP t (withP s p) (withP s' p) ht' (with_lt' hs hp) (with_lt' hs' hp) (fun q hq hb => by
            rw [with_bit] at hb ⊢
            rcases Bool.or_eq_true_iff.1 hb with hb | hb
            · rw [hsub q hq hb]; rfl
            · rw [hb]; simp) (by rw [cnt_with hs' hp h2]; omega)
          omega
        · by_cases hlt : cnt s < P
          · obtain ⟨q, hq, hq1, hq2⟩ := more hs hs' (by omega : cnt s < cnt s')
            rw [few_room h1 hlt]
            refine Nat.le_trans (few_le h2 hlt' hq hq1) ?_
            have hl : cnt (lessP s' q) + 1 = cnt s' := cnt_less hs' hq hq1
            have := few_mono hP t (withP s p) (withP (lessP s' q) p) ht' (with_lt' hs hp) (with_lt' (less_lt' hs' hq) hp) (fun x hx hb => by
              rw [with_bit] at hb
              rw [with_bit, less_bit]
              rcases Bool.or_eq_true_iff.1 hb with hb | hb
              · have hne : q ≠ x := fun e => by subst e; rw [hq2] at hb; cases hb
                rw [hsub x hx hb]; simp [hne]
              · rw [hb]; simp) (by rw [cnt_with (less_lt' hs' hq) hp (by rw [less_bit, h2]; rfl)]; omega)
            omega
          · have hs0 : els s ≠ [] := els_ne hs (by omega)
            obtain ⟨q, hq, hq1, e⟩ := few_ex (P := P) (t := t) h1 hlt hs0
            rw [e]
            refine Nat.le_trans (few_le h2 hlt' hq (hsub q hq hq1)) ?_
            have hl : cnt (lessP s' q) + 1 = cnt s' := cnt_less hs' hq (hsub q hq hq1)
            have := few_mono hP t (withP (lessP s q) p) (withP (lessP s' q) p) ht' (with_lt' (less_lt' hs hq) hp) (with_lt' (less_lt' hs' hq) hp) (fun x hx hb => by
              rw [with_bit, less_bit] at hb ⊢
              rcases Bool.or_eq_true_iff.1 hb with hb | hb
              · obtain ⟨hb1, hb2⟩ := (Bool.and_eq_true_iff).1 hb
                rw [hsub x hx hb1, hb2]; rfl
              · rw [hb]; simp) (by rw [cnt_with (less_lt' hs' hq) hp (by rw [less_bit, h2]; rfl)]; omega)
            omega

/-- One piece makes a difference of one at most. -/
theorem few_lip (hP : 1 ≤ P) (b : Nat) : ∀ (t : List Nat) (s s' : Nat), (∀ p ∈ t, p < 6) → s < 64 → s' < 64 → (∀ q, q < 6 → s'.testBit q = true → s.testBit q = true ∨ q = b) → cnt s ≤ P → cnt s' ≤ P → fewN P t s ≤ 1 + fewN P t s'
  | [], _, _, _, _, _, _, _, _ => by simp [fewN]
  | p :: t, s, s', ht, hs, hs', hd, hc, hc' => by
    have hp : p < 6 := ht p (by simp)
    have ht' : ∀ x ∈ t, x < 6 := fun x hx => ht x (by simp [hx])
    cases h1 : s.testBit p with
    | true =>
      rw [few_hit h1]
      cases h2 : s'.testBit p with
      | true => rw [few_hit h2]; exact few_lip hP b t s s' ht' hs hs' hd hc hc'
      | false =>
        by_cases hlt' : cnt s' < P
        · rw [few_room h2 hlt']
          have := few_lip hP b t s (withP s' p) ht' hs (with_lt' hs' hp) (fun q hq hb => by
            rw [with_bit] at hb
            rcases Bool.or_eq_true_iff.1 hb with hb | hb
            · exact hd q hq hb
            · have := of_decide_eq_true hb; subst this; exact .inl h1) hc (by rw [cnt_with hs' hp h2]; omega)
          omega
        · obtain ⟨q, hq, hq1, e⟩ := few_ex (P := P) (t := t) h2 hlt' (els_ne hs' (by omega))
          rw [e]
          have hl : cnt (lessP s' q) + 1 = cnt s' := cnt_less hs' hq hq1
          have := few_lip hP b t s (withP (lessP s' q) p) ht' hs (with_lt' (less_lt' hs' hq) hp) (fun x hx hb => by
            rw [with_bit, less_bit] at hb
            rcases Bool.or_eq_true_iff.1 hb with hb | hb
            · exact hd x hx (Bool.and_eq_true_iff.1 hb).1
            · have := of_decide_eq_true hb; subst this; exact .inl h1) hc (by rw [cnt_with (less_lt' hs' hq) hp (by rw [less_bit, h2]; rfl)]; omega)
          omega
    | false =>
      cases h2 : s'.testBit p with
      | true =>
        rw [few_hit h2]
        have hpb : p = b := by rcases hd p hp h2 with h | h
                               · rw [h1] at h; cases h
                               · exact h
        by_cases hlt : cnt s < P
        · rw [few_room h1 hlt]
          have := few_mono hP t s' (withP s p) ht' hs' (with_lt' hs hp) (fun q hq hb => by
            rw [with_bit]
            rcases hd q hq hb with h | h
            · rw [h]; rfl
            · rw [h, hpb]; simp) (by rw [cnt_with hs hp h1]; omega)
          omega
        · -- there is one in s that is not in s'
          have hl' : cnt (lessP s' p) + 1 = cnt s' := cnt_less hs' hp h2
          obtain ⟨q, hq, hq1, hq2⟩ := more (less_lt' hs' hp) hs (by omega : cnt (lessP s' p) < cnt s)
          have hqp : q ≠ p := fun e => by subst e; rw [h1] at hq1; cases hq1
          have hq3 : s'.testBit q = false := by
            rw [less_bit] at hq2
            cases h : s'.testBit q
            · rfl
            · rw [h] at hq2; simp at hq2; exact absurd hq2.symm hqp
          refine Nat.le_trans (few_le h1 hlt hq hq1) ?_
          have hl : cnt (lessP s q) + 1 = cnt s := cnt_less hs hq hq1
          have := few_mono hP t s' (withP (lessP s q) p) ht' hs' (with_lt' (less_lt' hs hq) hp) (fun x hx hb => by
            rw [with_bit, less_bit]
            rcases hd x hx hb with h | h
            · have : q ≠ x := fun e => by subst e; rw [hq3] at hb; cases hb
              rw [h]; simp [this]
            · rw [h, hpb]; simp) (by rw [cnt_with (less_lt' hs hq) hp (by rw [less_bit, h1]; rfl)]; omega)
          omega
      | false =>
        -- both miss: the office behind it, at the right
        obtain ⟨T', hT', e, hcT, hTb, hTp⟩ : ∃ T', T' < 64 ∧ fewN P (p :: t) s' = 1 + fewN P t T' ∧ cnt T' ≤ P ∧ (∀ x, x < 6 → T'.testBit x = true → s'.testBit x = true ∨ x = p) ∧ T'.testBit p = true := by
          by_cases hlt' : cnt s' < P
          · exact ⟨withP s' p, with_lt' hs' hp, few_room h2 hlt', by rw [cnt_with hs' hp h2]; omega, fun x _ hb => by
              rw [with_bit] at hb
              rcases Bool.or_eq_true_iff.1 hb with hb | hb
              · exact .inl hb
              · exact .inr (of_decide_eq_true hb).symm, by rw [with_bit]; simp⟩
          · obtain ⟨q, hq, hq1, e⟩ := few_ex (P := P) (t := t) h2 hlt' (els_ne hs' (by omega))
            have hl : cnt (lessP s' q) + 1 = cnt s' := cnt_less hs' hq hq1
            exact ⟨withP (lessP s' q) p, with_lt' (less_lt' hs' hq) hp, e, by rw [cnt_with (less_lt' hs' hq) hp (by rw [less_bit, h2]; rfl)]; omega, fun x _ hb => by
              rw [with_bit, less_bit] at hb
              rcases Bool.or_eq_true_iff.1 hb with hb | hb
              · exact .inl (Bool.and_eq_true_iff.1 hb).1
              · exact .inr (of_decide_eq_true hb).symm, by rw [with_bit]; simp⟩
        rw [e]
        by_cases hlt : cnt s < P
        · rw [few_room h1 hlt]
          have := few_lip hP b t (withP s p) T' ht' (with_lt' hs hp) hT' (fun x hx hb => by
            rw [with_bit]
            rcases hTb x hx hb with h | h
            · rcases hd x hx h with h | h
              · rw [h]; exact .inl rfl
              · exact .inr h
            · rw [h]; simp) (by rw [cnt_with hs hp h1]; omega) hcT
          omega
        · have hlT : cnt (lessP T' p) + 1 = cnt T' := cnt_less hT' hp hTp
          obtain ⟨q, hq, hq1, hq2⟩ := more (less_lt' hT' hp) hs (by omega : cnt (lessP T' p) < cnt s)
          have hqp : p ≠ q := fun e => by subst e; rw [h1] at hq1; cases hq1
          have hq3 : T'.testBit q = false := by
            rw [less_bit] at hq2
            cases h : T'.testBit q
            · rfl
            · rw [h] at hq2; simp at hq2; exact absurd hq2 hqp
          refine Nat.le_trans (few_le h1 hlt hq hq1) ?_
          have hl : cnt (lessP s q) + 1 = cnt s := cnt_less hs hq hq1
          have := few_lip hP b t (withP (lessP s q) p) T' ht' (with_lt' (less_lt' hs hq) hp) hT' (fun x hx hb => by
            rw [with_bit, less_bit]
            have hne : q ≠ x := fun e => by subst e; rw [hq3] at hb; cases hb
            rcases hTb x hx hb with h | h
            · rcases hd x hx h with h | h
              · rw [h]; simp [hne]
              · exact .inr h
            · rw [h]; simp) (by rw [cnt_with (less_lt' hs hq) hp (by rw [less_bit, h1]; rfl)]; omega) hcT
          omega

/-- How many calls come before the next one for a piece. -/
def nx (t : List Nat) (a : Nat) : Nat := t.idxOf a
theorem nx_cons (p : Nat) (t : List Nat) (a : Nat) : nx (p :: t) a = if p = a then 0 else nx t a + 1 := by
  unfold nx
  rw [List.idxOf_cons]
  by_cases h : p = a
  · simp [h]
  · rw [if_neg h, beq_false_of_ne h]; rfl

theorem exch_sets {x p q a : Nat} (hx : x < 64) (hp : p < 6) (hq : q < 6) (ha : a < 6) (hqa : q ≠ a) : withP (lessP (withP x a) q) p = withP (withP (lessP x q) p) a :=
  bit_ext (with_lt' (less_lt' (with_lt' hx ha) hq) hp) (with_lt' (with_lt' (less_lt' hx hq) hp) ha) (fun y _ => by
    simp only [with_bit, less_bit]
    by_cases h1 : q = y
    · subst h1; cases x.testBit q <;> simp [Ne.symm hqa]
    · cases x.testBit y <;> cases decide (a = y) <;> cases decide (p = y) <;> simp [h1])
theorem exch_same {x p a : Nat} (hx : x < 64) (hp : p < 6) (ha : a < 6) (hxa : x.testBit a = false) : withP (lessP (withP x a) a) p = withP x p :=
  bit_ext (with_lt' (less_lt' (with_lt' hx ha) ha) hp) (with_lt' hx hp) (fun y _ => by
    simp only [with_bit, less_bit]
    by_cases h : a = y
    · subst h; simp [hxa]
    · simp [h])

/-- WHAT IS ASKED FOR SOONER IS THE BETTER ONE TO KEEP. -/
theorem few_exch (hP : 1 ≤ P) : ∀ (t : List Nat) (x a b : Nat), (∀ p ∈ t, p < 6) → x < 64 → a < 6 → b < 6 → a ≠ b → x.testBit a = false → x.testBit b = false → cnt x + 1 ≤ P → nx t a ≤ nx t b → fewN P t (withP x a) ≤ fewN P t (withP x b)
  | [], _, _, _, _, _, _, _, _, _, _, _, _ => Nat.le_refl _
  | p :: t, x, a, b, ht, hx, ha, hb, hab, hxa, hxb, hc, hn => by
    have hp : p < 6 := ht p (by simp)
    have ht' : ∀ x ∈ t, x < 6 := fun x hx => ht x (by simp [hx])
    have hca : cnt (withP x a) = cnt x + 1 := cnt_with hx ha hxa
    have hcb : cnt (withP x b) = cnt x + 1 := cnt_with hx hb hxb
    have hpb : p ≠ b := fun e => by
      subst e
      rw [nx_cons, nx_cons, if_pos rfl, if_neg (Ne.symm hab)] at hn
      omega
    by_cases hpa : p = a
    · subst hpa
      have h1 : (withP x p).testBit p = true := by rw [with_bit]; simp
      have h2 : (withP x b).testBit p = false := by rw [with_bit, hxa]; simp [Ne.symm hpb]
      rw [few_hit h1]
      by_cases hlt : cnt (withP x b) < P
      · rw [few_room h2 hlt]
        exact few_lip hP b t _ _ ht' (with_lt' hx hp) (with_lt' (with_lt' hx hb) hp) (fun q _ h => by
          rw [with_bit] at h ⊢
          rw [with_bit] at h
          by_cases hqb : q = b
          · exact .inr hqb
          · left
            cases hxq : x.testBit q <;> simp_all
            rcases h with h | h
            · exact absurd h.symm hqb
            · exact h) (by omega) (by rw [cnt_with (with_lt' hx hb) hp h2]; omega)
      · obtain ⟨q, hq, hq1, e⟩ := few_ex (P := P) (t := t) h2 hlt (els_ne (with_lt' hx hb) (by omega))
        rw [e]
        have hl : cnt (lessP (withP x b) q) + 1 = cnt (withP x b) := cnt_less (with_lt' hx hb) hq hq1
        exact few_lip hP b t _ _ ht' (with_lt' hx hp) (with_lt' (less_lt' (with_lt' hx hb) hq) hp) (fun y _ h => by
          rw [with_bit, less_bit, with_bit] at h
          rw [with_bit]
          by_cases hyb : y = b
          · exact .inr hyb
          · left
            cases hxq : x.testBit y <;> simp_all
            rcases h with ⟨h, _⟩ | h
            · exact absurd h.symm hyb
            · exact h) (by omega) (by rw [cnt_with (less_lt' (with_lt' hx hb) hq) hp (by rw [less_bit, h2]; rfl)]; omega)
    · have hn' : nx t a ≤ nx t b := by rw [nx_cons, nx_cons, if_neg hpa, if_neg hpb] at hn; omega
      cases hxp : x.testBit p with
      | true =>
        rw [few_hit (by rw [with_bit, hxp]; rfl), few_hit (by rw [with_bit, hxp]; rfl)]
        exact few_exch hP t x a b ht' hx ha hb hab hxa hxb hc hn'
      | false =>
        have h1 : (withP x a).testBit p = false := by rw [with_bit, hxp]; simp [Ne.symm hpa]
        have h2 : (withP x b).testBit p = false := by rw [with_bit, hxp]; simp [Ne.symm hpb]
        by_cases hlt : cnt x + 1 < P
        · rw [few_room h1 (by omega), few_room h2 (by omega)]
          have e1 : withP (withP x a) p = withP (withP x p) a := bit_ext (with_lt' (with_lt' hx ha) hp) (with_lt' (with_lt' hx hp) ha) (fun y _ => by simp only [with_bit]; cases x.testBit y <;> cases decide (a = y) <;> cases decide (p = y) <;> rfl)
          have e2 : withP (withP x b) p = withP (withP x p) b := bit_ext (with_lt' (with_lt' hx hb) hp) (with_lt' (with_lt' hx hp) hb) (fun y _ => by simp only [with_bit]; cases x.testBit y <;> cases decide (b = y) <;> cases decide (p = y) <;> rfl)
          rw [e1, e2]
          have := few_exch hP t (withP x p) a b ht' (with_lt' hx hp) ha hb hab (by rw [with_bit, hxa]; simp [hpa]) (by rw [with_bit, hxb]; simp [hpb]) (by rw [cnt_with hx hp hxp]; omega) hn'
          omega
        · obtain ⟨q, hq, hq1, e⟩ := few_ex (P := P) (t := t) h2 (by omega) (els_ne (with_lt' hx hb) (by omega))
          rw [e]
          by_cases hqb : q = b
          · subst hqb
            rw [exch_same hx hp hq hxb]
            have := few_le (P := P) (t := t) h1 (by omega) ha (by rw [with_bit]; simp : (withP x a).testBit a = true)
            rw [exch_same hx hp ha hxa] at this
            exact this
          · have hxq : x.testBit q = true := by
              rw [with_bit] at hq1
              simp [Ne.symm hqb] at hq1
              exact hq1
            have hqa : q ≠ a := fun e => by subst e; rw [hxa] at hxq; cases hxq
            refine Nat.le_trans (few_le h1 (by omega) hq (by rw [with_bit, hxq]; rfl)) ?_
            rw [exch_sets hx hp hq ha hqa, exch_sets hx hp hq hb hqb]
            have hl : cnt (lessP x q) + 1 = cnt x := cnt_less hx hq hxq
            have := few_exch hP t (withP (lessP x q) p) a b ht' (with_lt' (less_lt' hx hq) hp) ha hb hab (by rw [with_bit, less_bit, hxa]; simp [hpa]) (by rw [with_bit, less_bit, hxb]; simp [hpb])
              (by rw [cnt_with (less_lt' hx hq) hp (by rw [less_bit, hxp]; rfl)]; omega) hn'
            omega
end

end Go.Proofs.YtoobopohohoidaaGreatDoor

namespace Go.Proofs.YtoobopohohoidaaGreatDoor

def maskOf (L : List Nat) : Nat := L.foldl withP 0
theorem fold_bit : ∀ (L : List Nat) (s p : Nat), (L.foldl withP s).testBit p = (s.testBit p || decide (p ∈ L))
  | [], s, p => by simp
  | q :: L, s, p => by
    rw [List.foldl_cons, fold_bit L, with_bit]
    by_cases h : p = q
    · simp [h]
    · simp [h, Ne.symm h]
theorem mask_bit (L : List Nat) (p : Nat) : (maskOf L).testBit p = decide (p ∈ L) := by rw [maskOf, fold_bit]; simp
theorem fold_lt : ∀ (L : List Nat) (s : Nat), s < 64 → (∀ p ∈ L, p < 6) → L.foldl withP s < 64
  | [], _, h, _ => h
  | q :: L, s, h, hL => fold_lt L _ (with_lt' h (hL q (by simp))) (fun p hp => hL p (by simp [hp]))
theorem mask_lt {L : List Nat} (hL : ∀ p ∈ L, p < 6) : maskOf L < 64 := fold_lt L 0 (by omega) hL
theorem fold_cnt : ∀ (L : List Nat) (s : Nat), s < 64 → (∀ p ∈ L, p < 6) → L.Nodup → (∀ p ∈ L, s.testBit p = false) → cnt (L.foldl withP s) = cnt s + L.length
  | [], _, _, _, _, _ => rfl
  | q :: L, s, h, hL, hn, hd => by
    rw [List.foldl_cons, fold_cnt L _ (with_lt' h (hL q (by simp))) (fun p hp => hL p (by simp [hp])) (List.nodup_cons.1 hn).2 (fun p hp => by
      rw [with_bit, hd p (by simp [hp])]
      have : q ≠ p := fun e => (List.nodup_cons.1 hn).1 (e ▸ hp)
      simp [this]), cnt_with h (hL q (by simp)) (hd q (by simp)), List.length_cons]
    omega
/-- The pieces in the office, in the order in which they came. -/
structure Line (P : Nat) (L : List Nat) : Prop where
  nodup : L.Nodup
  lt : ∀ p ∈ L, p < 6
  le : L.length ≤ P
theorem Line.cnt {P : Nat} {L : List Nat} (h : Line P L) : cnt (maskOf L) = L.length := by
  rw [maskOf, fold_cnt L 0 (by omega) h.lt h.nodup (fun _ _ => by simp)]
  have : Go.Proofs.YtoobopohohoidaaGreatDoor.cnt 0 = 0 := by decide
  omega
theorem mask_snoc (L : List Nat) (p : Nat) : maskOf (L ++ [p]) = withP (maskOf L) p := by simp [maskOf, List.foldl_append]
theorem Line.mask_erase {P : Nat} {L : List Nat} (h : Line P L) {q : Nat} (hq : q < 6) : maskOf (L.erase q) = lessP (maskOf L) q :=
  bit_ext (mask_lt fun p hp => h.lt p (List.mem_of_mem_erase hp)) (less_lt' (mask_lt h.lt) hq) (fun x _ => by
    rw [less_bit, mask_bit, mask_bit]
    rw [Bool.eq_iff_iff]
    simp only [Bool.and_eq_true, Bool.not_eq_true', decide_eq_true_eq, decide_eq_false_iff_not, h.nodup.mem_erase_iff]
    constructor
    · rintro ⟨h1, h2⟩; exact ⟨h2, Ne.symm h1⟩
    · rintro ⟨h1, h2⟩; exact ⟨Ne.symm h2, h1⟩)
theorem Line.snoc {P : Nat} {L : List Nat} (h : Line P L) {p : Nat} (hp : p < 6) (hn : p ∉ L) (hl : L.length < P) : Line P (L ++ [p]) :=
  ⟨by rw [List.nodup_append]; exact ⟨h.nodup, by simp, fun a ha b hb => by simp at hb; subst hb; exact fun e => hn (e ▸ ha)⟩, fun x hx => by
    rcases List.mem_append.1 hx with hx | hx
    · exact h.lt x hx
    · simp at hx; subst hx; exact hp, by simp; omega⟩
theorem Line.erase {P : Nat} {L : List Nat} (h : Line P L) (q : Nat) : Line P (L.erase q) :=
  ⟨h.nodup.erase q, fun x hx => h.lt x (List.mem_of_mem_erase hx), Nat.le_trans (List.length_erase_le) h.le⟩
theorem Line.swap {P : Nat} {L : List Nat} (h : Line P L) {q p : Nat} (hq : q ∈ L) (hp : p < 6) (hn : p ∉ L.erase q) : Line P (L.erase q ++ [p]) :=
  (h.erase q).snoc hp hn (by rw [List.length_erase_of_mem hq]; have := h.le; have := List.length_pos_of_mem hq; omega)

/-- What is sent at the calls, and how many pieces are fetched: P places; what a rule sends; whether a piece that is asked for counts as one that comes. -/
def sim (P : Nat) (snd : List Nat → List Nat → Nat) (renew : Bool) : List Nat → List Nat → List Int × Nat
  | [], _ => ([], 0)
  | p :: t, L =>
    if p ∈ L then (-1 :: (sim P snd renew t (if renew then L.erase p ++ [p] else L)).1, (sim P snd renew t (if renew then L.erase p ++ [p] else L)).2)
    else if L.length = P then ((snd L t : Int) :: (sim P snd renew t (L.erase (snd L t) ++ [p])).1, (sim P snd renew t (L.erase (snd L t) ++ [p])).2 + 1)
    else (-1 :: (sim P snd renew t (L ++ [p])).1, (sim P snd renew t (L ++ [p])).2 + 1)

theorem few_le_sim {P : Nat} (hP : 1 ≤ P) (snd : List Nat → List Nat → Nat) (renew : Bool) (hs : ∀ L t, Line P L → L.length = P → snd L t ∈ L) : ∀ (t L : List Nat), (∀ p ∈ t, p < 6) → Line P L → fewN P t (maskOf L) ≤ (sim P snd renew t L).2
  | [], _, _, _ => Nat.le_refl _
  | p :: t, L, ht, hL => by
    have hp : p < 6 := ht p (by simp)
    have ht' : ∀ x ∈ t, x < 6 := fun x hx => ht x (by simp [hx])
    rw [sim]
    by_cases h1 : p ∈ L
    · rw [if_pos h1, few_hit (by rw [mask_bit]; simp [h1])]
      cases renew with
      | false => exact few_le_sim hP snd false hs t L ht' hL
      | true =>
        have hn : p ∉ L.erase p := fun h => by rw [hL.nodup.mem_erase_iff] at h; exact h.1 rfl
        have := few_le_sim hP snd true hs t (L.erase p ++ [p]) ht' (hL.swap h1 hp hn)
        rw [mask_snoc, hL.mask_erase hp] at this
        have e : withP (lessP (maskOf L) p) p = maskOf L := bit_ext (with_lt' (less_lt' (mask_lt hL.lt) hp) hp) (mask_lt hL.lt) (fun q _ => by
          rw [with_bit, less_bit]
          by_cases h : p = q
          · subst h; rw [mask_bit]; simp [h1]
          · simp [h])
        rw [e] at this
        exact this
    · have hb : (maskOf L).testBit p = false := by rw [mask_bit]; simp [h1]
      rw [if_neg h1]
      by_cases h2 : L.length = P
      · rw [if_pos h2]
        have hm := hs L t hL h2
        have hn : p ∉ L.erase (snd L t) := fun h => h1 (List.mem_of_mem_erase h)
        have := few_le_sim hP snd renew hs t (L.erase (snd L t) ++ [p]) ht' (hL.swap hm hp hn)
        rw [mask_snoc, hL.mask_erase (hL.lt _ hm)] at this
        have h3 := few_le (P := P) (t := t) hb (by rw [hL.cnt]; omega) (hL.lt _ hm) (by rw [mask_bit]; simp [hm])
        show _ ≤ (sim P snd renew t (L.erase (snd L t) ++ [p])).2 + 1
        omega
      · rw [if_neg h2]
        have hl := hL.le
        have := few_le_sim hP snd renew hs t (L ++ [p]) ht' (hL.snoc hp h1 (by omega))
        rw [mask_snoc] at this
        rw [few_room hb (by rw [hL.cnt]; omega)]
        show _ ≤ (sim P snd renew t (L ++ [p])).2 + 1
        omega

/-- The one that is asked for again last: as the program looks for it. -/
def lateGo (t : List Nat) : List Nat → Int × Int → Int × Int
  | [], r => r
  | q :: l, r => lateGo t l (if r.2 < (nx t q : Int) then ((q : Int), (nx t q : Int)) else r)
theorem late_spec (t : List Nat) : ∀ (l : List Nat) (q0 : Nat), ∃ q, (q = q0 ∨ q ∈ l) ∧ lateGo t l ((q0 : Int), (nx t q0 : Int)) = ((q : Int), (nx t q : Int)) ∧ nx t q0 ≤ nx t q ∧ ∀ q' ∈ l, nx t q' ≤ nx t q
  | [], q0 => ⟨q0, .inl rfl, rfl, Nat.le_refl _, fun _ h => by cases h⟩
  | x :: l, q0 => by
    simp only [lateGo]
    by_cases h : (nx t q0 : Int) < (nx t x : Int)
    · rw [if_pos h]
      obtain ⟨q, h1, h2, h3, h4⟩ := late_spec t l x
      refine ⟨q, .inr ?_, h2, by omega, fun q' hq' => ?_⟩
      · rcases h1 with rfl | h1
        · simp
        · simp [h1]
      · rcases List.mem_cons.1 hq' with rfl | hq'
        · exact h3
        · exact h4 _ hq'
    · rw [if_neg h]
      obtain ⟨q, h1, h2, h3, h4⟩ := late_spec t l q0
      refine ⟨q, ?_, h2, h3, fun q' hq' => ?_⟩
      · rcases h1 with rfl | h1
        · simp
        · simp [h1]
      · rcases List.mem_cons.1 hq' with rfl | hq'
        · omega
        · exact h4 _ hq'
theorem late_first (t l : List Nat) (q0 : Nat) : lateGo t (q0 :: l) (-1, -1) = lateGo t l ((q0 : Int), (nx t q0 : Int)) := by
  simp only [lateGo]
  rw [if_pos (by omega)]
def lateS (L t : List Nat) : Nat := (lateGo t (els (maskOf L)) (-1, -1)).1.toNat
theorem lateS_spec {P : Nat} {L : List Nat} (hL : Line P L) (t : List Nat) (h0 : L ≠ []) : lateS L t ∈ L ∧ (lateGo t (els (maskOf L)) (-1, -1)).1 = (lateS L t : Int) ∧ ∀ q ∈ L, nx t q ≤ nx t (lateS L t) := by
  have hm : ∀ q, q ∈ els (maskOf L) ↔ q ∈ L := fun q => by
    rw [els_mem, mask_bit]
    simp
    exact fun h => hL.lt q h
  obtain ⟨q0, l, e⟩ : ∃ q0 l, els (maskOf L) = q0 :: l := by
    cases h : els (maskOf L) with
    | nil =>
      exfalso
      cases L with
      | nil => exact h0 rfl
      | cons a L => have := (hm a).2 (by simp); rw [h] at this; cases this
    | cons a l => exact ⟨a, l, rfl⟩
  obtain ⟨q, h1, h2, h3, h4⟩ := late_spec t l q0
  have hq : lateS L t = q := by rw [lateS, e, late_first, h2]; simp
  refine ⟨?_, by rw [hq, e, late_first, h2], fun x hx => ?_⟩
  · rw [hq, ← hm, e]
    rcases h1 with rfl | h1
    · simp
    · simp [h1]
  · rw [hq]
    have := (hm x).2 hx
    rw [e] at this
    rcases List.mem_cons.1 this with rfl | hx
    · exact h3
    · exact h4 _ hx

/-- WHAT IS ASKED FOR LAST GOES: no choice fetches fewer. -/
theorem late_best {P : Nat} (hP : 1 ≤ P) : ∀ (t L : List Nat), (∀ p ∈ t, p < 6) → Line P L → (sim P lateS false t L).2 = fewN P t (maskOf L)
  | [], _, _, _ => rfl
  | p :: t, L, ht, hL => by
    have hp : p < 6 := ht p (by simp)
    have ht' : ∀ x ∈ t, x < 6 := fun x hx => ht x (by simp [hx])
    rw [sim]
    by_cases h1 : p ∈ L
    · rw [if_pos h1, few_hit (by rw [mask_bit]; simp [h1])]
      exact late_best hP t L ht' hL
    · have hb : (maskOf L).testBit p = false := by rw [mask_bit]; simp [h1]
      rw [if_neg h1]
      by_cases h2 : L.length = P
      · rw [if_pos h2]
        have h0 : L ≠ [] := fun e => by rw [e] at h2; simp at h2; omega
        obtain ⟨hm, _, hmax⟩ := lateS_spec hL t h0
        have hs6 := hL.lt _ hm
        have hn : p ∉ L.erase (lateS L t) := fun h => h1 (List.mem_of_mem_erase h)
        show (sim P lateS false t (L.erase (lateS L t) ++ [p])).2 + 1 = _
        rw [late_best hP t _ ht' (hL.swap hm hp hn), mask_snoc, hL.mask_erase hs6]
        have hle := few_le (P := P) (t := t) hb (by rw [hL.cnt]; omega) hs6 (by rw [mask_bit]; simp [hm])
        obtain ⟨q, hq, hq1, e⟩ := few_ex (P := P) (t := t) hb (by rw [hL.cnt]; omega) (els_ne (mask_lt hL.lt) (by rw [hL.cnt]; omega))
        rw [mask_bit] at hq1
        have hqL : q ∈ L := of_decide_eq_true hq1
        rw [e]
        rw [e] at hle
        by_cases hqs : q = lateS L t
        · subst hqs; omega
        · -- keep the one that is asked for sooner
          have hX : lessP (lessP (maskOf L) (lateS L t)) q < 64 := less_lt' (less_lt' (mask_lt hL.lt) hs6) hq
          have hX2 : withP (lessP (lessP (maskOf L) (lateS L t)) q) p < 64 := with_lt' hX hp
          have hps : p ≠ lateS L t := fun e => h1 (e ▸ hm)
          have hpq : p ≠ q := fun e => h1 (e ▸ hqL)
          have e1 : withP (lessP (maskOf L) (lateS L t)) p = withP (withP (lessP (lessP (maskOf L) (lateS L t)) q) p) q := bit_ext (with_lt' (less_lt' (mask_lt hL.lt) hs6) hp) (with_lt' hX2 hq) (fun y _ => by
            simp only [with_bit, less_bit]
            by_cases h : q = y
            · subst h; rw [mask_bit]; simp [hqL, Ne.symm hqs]
            · simp [h])
          have e2 : withP (lessP (maskOf L) q) p = withP (withP (lessP (lessP (maskOf L) (lateS L t)) q) p) (lateS L t) := bit_ext (with_lt' (less_lt' (mask_lt hL.lt) hq) hp) (with_lt' hX2 hs6) (fun y _ => by
            simp only [with_bit, less_bit]
            by_cases h : lateS L t = y
            · rw [← h, mask_bit]; simp [hm, hqs]
            · simp [h])
          have hc1 : cnt (lessP (maskOf L) (lateS L t)) + 1 = cnt (maskOf L) := cnt_less (mask_lt hL.lt) hs6 (by rw [mask_bit]; simp [hm])
          have hc2 : cnt (lessP (lessP (maskOf L) (lateS L t)) q) + 1 = cnt (lessP (maskOf L) (lateS L t)) := cnt_less (less_lt' (mask_lt hL.lt) hs6) hq (by rw [less_bit, mask_bit]; simp [hqL, Ne.symm hqs])
          have hc3 : cnt (withP (lessP (lessP (maskOf L) (lateS L t)) q) p) = cnt (lessP (lessP (maskOf L) (lateS L t)) q) + 1 := cnt_with hX hp (by simp only [less_bit]; rw [hb]; rfl)
          have hcL := hL.cnt
          have := few_exch (P := P) hP t (withP (lessP (lessP (maskOf L) (lateS L t)) q) p) q (lateS L t) ht' hX2 hq hs6 hqs (by simp only [with_bit, less_bit]; simp [hpq]) (by simp only [with_bit, less_bit]; simp [hps]) (by omega) (hmax q hqL)
          rw [← e1, ← e2] at this
          omega
      · rw [if_neg h2]
        have hl := hL.le
        show (sim P lateS false t (L ++ [p])).2 + 1 = _
        rw [late_best hP t _ ht' (hL.snoc hp h1 (by omega)), mask_snoc, few_room hb (by rw [hL.cnt]; omega)]
        omega

end Go.Proofs.YtoobopohohoidaaGreatDoor
