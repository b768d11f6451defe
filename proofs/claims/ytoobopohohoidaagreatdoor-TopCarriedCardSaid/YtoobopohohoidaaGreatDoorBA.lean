/- BARROW: plain: jobs, plans, trips. -/
/- BARROW: within, checkMinutes, checkTimes. -/
import Derived.Test.YtoobopohohoidaaGreatDoorVZ
import Derived.Test.YtoobopohohoidaaGreatDoorVE
set_option linter.unusedSimpArgs false
set_option linter.unusedVariables false
namespace Go.Proofs.YtoobopohohoidaaGreatDoor

/-- The calls at which a piece is fetched. -/
def jobsL (P : Nat) (snd : List Nat → List Nat → Nat) (renew : Bool) : List Nat → List Nat → Nat → List Nat
  | [], _, _ => []
  | p :: t, L, c =>
    if p ∈ L then jobsL P snd renew t (if renew then L.erase p ++ [p] else L) (c + 1)
    else if L.length = P then c :: jobsL P snd renew t (L.erase (snd L t) ++ [p]) (c + 1)
    else c :: jobsL P snd renew t (L ++ [p]) (c + 1)
theorem jobs_len (P : Nat) (snd : List Nat → List Nat → Nat) (renew : Bool) : ∀ (t L : List Nat) (c : Nat), (jobsL P snd renew t L c).length = (sim P snd renew t L).2
  | [], _, _ => rfl
  | p :: t, L, c => by
    rw [jobsL, sim]
    by_cases h1 : p ∈ L
    · rw [if_pos h1, if_pos h1]; exact jobs_len P snd renew t _ _
    · rw [if_neg h1, if_neg h1]
      by_cases h2 : L.length = P
      · rw [if_pos h2, if_pos h2, List.length_cons, jobs_len]
      · rw [if_neg h2, if_neg h2, List.length_cons, jobs_len]
theorem jobs_le (P : Nat) (snd : List Nat → List Nat → Nat) (renew : Bool) : ∀ (t L : List Nat) (c : Nat), (jobsL P snd renew t L c).length ≤ t.length
  | [], _, _ => Nat.le_refl _
  | p :: t, L, c => by
    rw [jobsL]
    have h := fun L => jobs_le P snd renew t L (c + 1)
    split
    · exact Nat.le_succ_of_le (h _)
    · split <;> exact Nat.succ_le_succ (h _)

/-- What is behind a number of lists, one behind the other. -/
def offF {α : Type} (f : Nat → List α) (i : Nat) : Nat := ((List.range i).flatMap f).length
theorem offF_zero {α : Type} (f : Nat → List α) : offF f 0 = 0 := rfl
theorem offF_succ {α : Type} (f : Nat → List α) (i : Nat) : offF f (i + 1) = offF f i + (f i).length := by simp [offF, List.range_succ]
theorem flat_split {α : Type} (f : Nat → List α) {i n : Nat} (h : i < n) : ∃ r, (List.range n).flatMap f = (List.range i).flatMap f ++ f i ++ r := by
  induction n with
  | zero => omega
  | succ n ih =>
    rw [List.range_succ, List.flatMap_append]
    by_cases e : i = n
    · subst e; exact ⟨[], by simp⟩
    · obtain ⟨r, hr⟩ := ih (by omega)
      exact ⟨r ++ [n].flatMap f, by rw [hr]; simp⟩
theorem flat_get {α : Type} (f : Nat → List α) {i n j : Nat} (h : i < n) (hj : j < (f i).length) (d : α) : ((List.range n).flatMap f).getD (offF f i + j) d = (f i).getD j d := by
  obtain ⟨r, hr⟩ := flat_split f h
  rw [hr, List.getD_eq_getElem?_getD, List.getD_eq_getElem?_getD, List.append_assoc, List.getElem?_append_right (by unfold offF; omega), List.getElem?_append_left (by unfold offF; omega)]
  congr 2
  unfold offF; omega
theorem flat_lt {α : Type} (f : Nat → List α) {i n j : Nat} (h : i < n) (hj : j < (f i).length) : offF f i + j < ((List.range n).flatMap f).length := by
  obtain ⟨r, hr⟩ := flat_split f h
  rw [hr, List.length_append, List.length_append]; unfold offF; omega

/-- All plans, in lexicographic order. -/
def plansL (load : Nat) : Nat → List (List Nat)
  | 0 => [[]]
  | left + 1 => (List.range (min load (left + 1))).flatMap fun i => (plansL load (left - i)).map ((i + 1) :: ·)
termination_by left => left
decreasing_by omega
theorem plans_zero (load : Nat) : plansL load 0 = [[]] := by rw [plansL]
theorem plans_succ (load left : Nat) : plansL load (left + 1) = (List.range (min load (left + 1))).flatMap fun i => (plansL load (left - i)).map ((i + 1) :: ·) := by rw [plansL]
/-- Each trip takes one piece at least; all pieces are taken. -/
theorem plans_ok (load : Nat) : ∀ (left : Nat) (q : List Nat), q ∈ plansL load left → (∀ x ∈ q, 1 ≤ x ∧ x ≤ load) ∧ q.sum = left := by
  intro left
  induction left using Nat.strongRecOn with
  | ind left ih =>
    intro q hq
    cases left with
    | zero =>
      rw [plans_zero] at hq
      simp at hq; subst hq; simp
    | succ left =>
      rw [plans_succ, List.mem_flatMap] at hq
      obtain ⟨i, hi, hq⟩ := hq
      rw [List.mem_range] at hi
      obtain ⟨r, hr, rfl⟩ := List.mem_map.1 hq
      obtain ⟨h1, h2⟩ := ih (left - i) (by omega) r hr
      refine ⟨fun x hx => ?_, ?_⟩
      · rcases List.mem_cons.1 hx with rfl | hx
        · omega
        · exact h1 x hx
      · rw [List.sum_cons, h2]; omega
theorem plans_first (load : Nat) (hl : 1 ≤ load) : ∀ left, (plansL load left)[0]? = some (List.replicate left 1)
  | 0 => by rw [plans_zero]; rfl
  | left + 1 => by
    have ih := plans_first load hl left
    rw [plans_succ]
    have h := flat_get (fun i => (plansL load (left - i)).map ((i + 1) :: ·)) (i := 0) (n := min load (left + 1)) (j := 0) (by omega) (by
      rw [List.length_map]; exact (List.getElem?_eq_some_iff.1 ih).1) []
    have h2 := flat_lt (fun i => (plansL load (left - i)).map ((i + 1) :: ·)) (i := 0) (n := min load (left + 1)) (j := 0) (by omega) (by
      rw [List.length_map]; exact (List.getElem?_eq_some_iff.1 ih).1)
    simp only [offF_zero, Nat.add_zero] at h h2
    rw [List.getElem?_eq_getElem h2]
    rw [List.getD_eq_getElem?_getD, List.getElem?_eq_getElem h2] at h
    simp only [Option.getD_some] at h
    rw [h, List.getD_eq_getElem?_getD, Nat.sub_zero, List.getElem?_map, ih]
    rfl
theorem len_le_sum : ∀ (q : List Nat), (∀ x ∈ q, 1 ≤ x) → q.length ≤ q.sum
  | [], _ => Nat.le_refl _
  | x :: q, h => by
    have := len_le_sum q (fun y hy => h y (by simp [hy]))
    have := h x (by simp)
    simp; omega

/-- The barrow that is back first. -/
def nxt (b : List Int) : Nat :=
  let i1 := if b.getD 1 0 < b.getD 0 0 then 1 else 0
  let i2 := if b.getD 2 0 < b.getD i1 0 then 2 else i1
  if b.getD 3 0 < b.getD i2 0 then 3 else i2
theorem nxt_lt (b : List Int) : nxt b < 4 := by
  unfold nxt
  dsimp only
  split <;> (try split) <;> (try split) <;> omega
/-- A trip. -/
def backAt (mn : Int) (b : List Int) (k : Int) : Int := max (b.getD (nxt b) 0) k + mn
def sendB (mn : Int) (b : List Int) (k : Int) : List Int := b.set (nxt b) (backAt mn b k)
/-- Which trips are late: jobs are told by when they are due. -/
def tripsL (mn nt : Int) (D : List Int) : List Nat → Nat → List Int → List Bool
  | [], _, _ => []
  | x :: q, done, b => decide (D.getD done 0 < backAt mn b (D.getD (done + x - 1) 0 - nt)) :: tripsL mn nt D q (done + x) (sendB mn b (D.getD (done + x - 1) 0 - nt))
theorem trips_len (mn nt : Int) (D : List Int) : ∀ (q : List Nat) (done : Nat) (b : List Int), (tripsL mn nt D q done b).length = q.length
  | [], _, _ => rfl
  | x :: q, done, b => by rw [tripsL, List.length_cons, trips_len, List.length_cons]
def startB : List Int := [-31, -31, -31, -31]
def inTime (mn nt : Int) (D : List Int) (q : List Nat) : Bool := (tripsL mn nt D q 0 startB).all (!·)
/-- Where barrows are. -/
structure BarOk (b : List Int) (i : Nat) : Prop where
  len : b.length = 4
  low : ∀ j, j < 4 → -31 ≤ b.getD j 0
  high : ∀ j, j < 4 → b.getD j 0 ≤ 99 + 20 * i
theorem bar_start : BarOk startB 0 := ⟨rfl, fun j hj => by
  match j, hj with
  | 0, _ => decide
  | 1, _ => decide
  | 2, _ => decide
  | 3, _ => decide, fun j hj => by
  match j, hj with
  | 0, _ => decide
  | 1, _ => decide
  | 2, _ => decide
  | 3, _ => decide⟩
theorem getD_set_int {q : List Int} {k j : Nat} (h : k < q.length) (x : Int) : (q.set k x).getD j 0 = if k = j then x else q.getD j 0 := by
  rw [List.getD_eq_getElem?_getD, List.getElem?_set, List.getD_eq_getElem?_getD]
  by_cases e : k = j
  · subst e; simp [h]
  · simp [e]
theorem BarOk.send {b : List Int} {i : Nat} (h : BarOk b i) {mn k : Int} (hm : 1 ≤ mn ∧ mn ≤ 20) (hk : -30 ≤ k ∧ k ≤ 99) : BarOk (sendB mn b k) (i + 1) := by
  have hn := nxt_lt b
  have h1 := h.low _ hn
  have h2 := h.high _ hn
  refine ⟨by simp [sendB, h.len], fun j hj => ?_, fun j hj => ?_⟩
  · rw [sendB, getD_set_int (by rw [h.len]; exact hn)]
    have := h.low j hj
    unfold backAt
    split <;> omega
  · rw [sendB, getD_set_int (by rw [h.len]; exact hn)]
    have := h.high j hj
    unfold backAt
    split <;> omega
theorem ones_early (mn nt : Int) (D : List Int) (hm : 1 ≤ mn ∧ mn ≤ nt) (hn : nt ≤ 30) (hD : ∀ j, j < D.length → 0 ≤ D.getD j 0) (h4 : D.length ≤ 4) : inTime mn nt D (List.replicate D.length 1) = true := by
  obtain ⟨n, hnn⟩ : ∃ n, D.length = n := ⟨_, rfl⟩
  rw [hnn] at hD h4 ⊢
  have step : ∀ (b : List Int) (i : Nat), b.length = 4 → i < 4 → (∀ j, j < 4 → b.getD j 0 = -31 ∨ -30 ≤ b.getD j 0 ∧ j < i) → (∀ j, i ≤ j → j < 4 → b.getD j 0 = -31) → (∀ j, j < i → -30 ≤ b.getD j 0) → nxt b = i := by
    intro b i _ hi _ h1 h2
    unfold nxt
    match i, hi with
    | 0, _ =>
      have a0 := h1 0 (by omega) (by omega)
      have a1 := h1 1 (by omega) (by omega)
      have a2 := h1 2 (by omega) (by omega)
      have a3 := h1 3 (by omega) (by omega)
      simp only [a0, a1, a2, a3, Int.lt_irrefl, if_false]
    | 1, _ =>
      have a0 := h2 0 (by omega)
      have a1 := h1 1 (by omega) (by omega)
      have a2 := h1 2 (by omega) (by omega)
      have a3 := h1 3 (by omega) (by omega)
      have : (-31 : Int) < b.getD 0 0 := by omega
      simp only [a1, this, if_true, a2, a3, Int.lt_irrefl, if_false]
    | 2, _ =>
      have a0 := h2 0 (by omega)
      have a1 := h2 1 (by omega)
      have a2 := h1 2 (by omega) (by omega)
      have a3 := h1 3 (by omega) (by omega)
      have e : ∀ j, j = 0 ∨ j = 1 → (-31 : Int) < b.getD j 0 := by rintro j (rfl | rfl) <;> omega
      have : (-31 : Int) < b.getD (if b.getD 1 0 < b.getD 0 0 then 1 else 0) 0 := e _ (by split <;> simp)
      simp only [a2, this, if_true, a3, Int.lt_irrefl, if_false]
    | 3, _ =>
      have a0 := h2 0 (by omega)
      have a1 := h2 1 (by omega)
      have a2 := h2 2 (by omega)
      have a3 := h1 3 (by omega) (by omega)
      have e : ∀ j, j = 0 ∨ j = 1 ∨ j = 2 → (-31 : Int) < b.getD j 0 := by rintro j (rfl | rfl | rfl) <;> omega
      have : (-31 : Int) < b.getD (if b.getD 2 0 < b.getD (if b.getD 1 0 < b.getD 0 0 then 1 else 0) 0 then 2 else (if b.getD 1 0 < b.getD 0 0 then 1 else 0)) 0 := e _ (by split <;> (try split) <;> simp)
      simp only [a3, this, if_true]
  have main : ∀ (d i : Nat) (b : List Int), i + d = n → b.length = 4 → (∀ j, i ≤ j → j < 4 → b.getD j 0 = -31) → (∀ j, j < i → -30 ≤ b.getD j 0) → (tripsL mn nt D (List.replicate d 1) i b).all (!·) = true := by
    intro d
    induction d with
    | zero => intro i b _ _ _ _; rfl
    | succ d ih =>
      intro i b hi hb h1 h2
      have hx : nxt b = i := step b i hb (by omega) (fun j hj => by
        by_cases h : j < i
        · exact .inr ⟨h2 j h, h⟩
        · exact .inl (h1 j (by omega) hj)) h1 h2
      have hdi := hD i (by omega)
      have hbi := h1 i (Nat.le_refl _) (by omega)
      rw [List.replicate_succ, tripsL, List.all_cons]
      have e1 : i + 1 - 1 = i := by omega
      rw [e1]
      have hbk : backAt mn b (D.getD i 0 - nt) = D.getD i 0 - nt + mn := by
        unfold backAt; rw [hx, hbi]; omega
      rw [hbk]
      have : decide (D.getD i 0 < D.getD i 0 - nt + mn) = false := by simp; omega
      rw [this]
      simp only [Bool.not_false, Bool.true_and]
      refine ih (i + 1) _ (by omega) (by simp [sendB, hb]) (fun j hj hj4 => ?_) (fun j hj => ?_)
      · rw [sendB, getD_set_int (by rw [hx]; omega), hx, if_neg (by omega)]; exact h1 j (by omega) hj4
      · rw [sendB, getD_set_int (by rw [hx]; omega), hx, hbk]
        split
        · omega
        · exact h2 j (by omega)
  exact main n 0 startB (by omega) rfl (fun j _ hj => by
    match j, hj with
    | 0, _ => rfl
    | 1, _ => rfl
    | 2, _ => rfl
    | 3, _ => rfl) (fun j hj => by omega)

end Go.Proofs.YtoobopohohoidaaGreatDoor

namespace Go.Proofs.YtoobopohohoidaaGreatDoor
open Go.RowKit

theorem bwithin_yes (x a b : Int) (w : World) (h1 : a ≤ x) (h2 : x ≤ b) :
    Calls Tryz.prog 62 #[.int .i64 x, .int .i64 a, .int .i64 b] w fun e w' => e = .returned (.bool true) ∧ w = w' := by
  go_enter Tryz.func62, Tryz.ntmps62
  go_wp2
  go_ret
  exact ⟨rfl, rfl⟩

theorem bcheckMinutes_yes (A : Option Addr) (n cap B : Nat) (f : Nat → Int) (w : World) (hn : n ≤ 99) (h : Ints w B A n f) (hf : ∀ j, j < n → 1 ≤ f j ∧ f j ≤ 20) :
    Calls Tryz.prog 63 #[.slice A n cap] w fun e w' => e = .returned (.int .i64 0) ∧ w = w' := by
  have HF := Go.Lib.hid hf
  clear hf
  go_enter Tryz.func63, Tryz.ntmps63
  go_wp2
  go_loop [7] (fun i => ∃ k : Nat, k ≤ n ∧ i = .int .i64 k) (fun i => n - (intOf i).toNat)
  case atStart => exact ⟨0, Nat.zero_le _, rfl⟩
  case round =>
    obtain ⟨k, hk, rfl⟩ := hrel
    by_cases hlt : k < n
    · obtain ⟨ad, rfl, hb, hc⟩ := h (by omega)
      have hcell := hc k hlt
      clear hc hb h
      obtain ⟨h1, h2⟩ := HF.out k hlt
      go_wp2_with (go_at_call 62; refine (bwithin_yes _ _ _ _ h1 h2).mono ?_; rintro e w' ⟨rfl, rfl⟩)
      go_round
      case rel => exact ⟨k + 1, by omega, by go_num⟩
      case measure => simp [intOf]; omega
    · go_wp2
      go_ret
      exact ⟨rfl, rfl⟩

/-- Times of calls. -/
structure TimesOk (τ : List Nat) : Prop where
  le : ∀ x ∈ τ, x ≤ 99
  up : ∀ i j, i ≤ j → j < τ.length → τ.getD i 0 ≤ τ.getD j 0

set_option maxHeartbeats 1000000 in
theorem bcheckTimes_yes (A : Option Addr) (τ : List Nat) (n cap B : Nat) (w : World) (hn9 : n ≤ 99) (hτ : TimesOk τ) (hn : τ.length = n) (h : Ints w B A n (ofL τ)) :
    Calls Tryz.prog 61 #[.slice A n cap, .int .i64 n] w fun e w' => e = .returned (.int .i64 0) ∧ w = w' := by
  have HL := Go.Lib.hid hτ; clear hτ
  have HN := Go.Lib.hid hn; clear hn
  go_enter Tryz.func61, Tryz.ntmps61
  go_wp2
  go_loop [5, 18] (fun least i => ∃ k m : Nat, k ≤ n ∧ i = .int .i64 k ∧ least = .int .i64 m ∧ m ≤ 99 ∧ Hid (∀ j, k ≤ j → j < n → m ≤ τ.getD j 0)) (fun _ i => n - (intOf i).toNat)
  case atStart => exact ⟨0, 0, Nat.zero_le _, rfl, rfl, by omega, Go.Lib.hid fun _ _ _ => Nat.zero_le _⟩
  case round =>
    obtain ⟨k, m, hk, rfl, rfl, hm, HM⟩ := hrel
    by_cases hlt : k < n
    · obtain ⟨ad, rfl, hb, hc⟩ := h (by omega)
      have hcell := hc k hlt
      clear hc hb h
      obtain ⟨p, hp1, hp2, hp3⟩ := ofL_mem (l := τ) (j := k) (by rw [HN.out]; exact hlt)
      have hp4 : τ.getD k 0 = p := by rw [List.getD_eq_getElem?_getD, hp3]; rfl
      rw [hp2] at hcell
      have hp9 : p ≤ 99 := HL.out.le p hp1
      have hmp : m ≤ p := by have := HM.out k (Nat.le_refl _) hlt; omega
      have hnext : ∀ j, k + 1 ≤ j → j < n → p ≤ τ.getD j 0 := fun j h1 h2 => by
        have := HL.out.up k j (by omega) (by rw [HN.out]; exact h2)
        omega
      have HX := Go.Lib.hid hnext; clear hnext
      have HP := Go.Lib.hid (And.intro hp1 (And.intro hp2 (And.intro hp3 hp4))); clear hp1 hp2 hp3 hp4
      go_wp2_with (go_at_call 62; refine (bwithin_yes _ _ _ _ (by omega) (by omega)).mono ?_; rintro e w' ⟨rfl, rfl⟩)
      go_round
      case rel => exact ⟨k + 1, p, by omega, by go_num, by go_num, by omega, HX⟩
      case measure => simp [intOf]; omega
    · go_wp2
      go_ret
      exact ⟨rfl, rfl⟩

end Go.Proofs.YtoobopohohoidaaGreatDoor
