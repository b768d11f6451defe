/- VAULT: what T8 asks of the vault. -/
import Derived.Test.YtoobopohohoidaaGreatDoorVYlow
import Derived.Test.YtoobopohohoidaaGreatDoorVYold
import Derived.Test.YtoobopohohoidaaGreatDoorVYstale
import Derived.Test.YtoobopohohoidaaGreatDoorVYlate
set_option linter.unusedSimpArgs false
set_option linter.unusedVariables false
namespace Go.Proofs.YtoobopohohoidaaGreatDoor
open Go.RowKit Go.Maps Go.Shelf

/-- The rules, by their numbers. -/
def ruleS : Nat → List Nat → List Nat → Nat
  | 0 => lowS
  | 1 => oldS
  | 2 => oldS
  | _ => lateS
def ruleN (r : Nat) : Bool := r == 2
theorem rule_mem {P : Nat} (r : Nat) {L : List Nat} (u : List Nat) (hL : Line P L) (h : L ≠ []) : ruleS r L u ∈ L := by
  unfold ruleS
  split
  · exact lowS_mem u hL h
  · exact oldS_mem u h
  · exact oldS_mem u h
  · exact lateS_mem u hL h
/-- No rule fetches fewer than the best choices. -/
theorem rule_least {P : Nat} (hP : 1 ≤ P) (r : Nat) {t L : List Nat} (ht : ∀ p ∈ t, p < 6) (hL : Line P L) : fewN P t (maskOf L) ≤ (sim P (ruleS r) (ruleN r) t L).2 :=
  few_le_sim hP (ruleS r) (ruleN r) (fun L t hL he => rule_mem r t hL (fun e => by rw [e] at he; simp at he; omega)) t L ht hL
/-- RuleLate fetches as few. -/
theorem rule_late {P : Nat} (hP : 1 ≤ P) {t L : List Nat} (ht : ∀ p ∈ t, p < 6) (hL : Line P L) : (sim P (ruleS 3) (ruleN 3) t L).2 = fewN P t (maskOf L) := late_best hP t L ht hL
/-- What Run gives, by whatever rule. -/
def RunOk (r P : Nat) (t L : List Nat) (m : Nat) (w : World) (e : Ending) (w' : World) : Prop :=
  ∃ (A : Option Addr) (c : Nat), e = .returned (.tuple #[.slice A m c, .int .i64 (sim P (ruleS r) (ruleN r) t L).2, .int .i64 0]) ∧ Below w.heap.size w w' ∧ Ints w' w'.heap.size A m (fun j => (sim P (ruleS r) (ruleN r) t L).1.getD j 0)
theorem vRun_any (r P N sc B : Nat) (L : List Nat) (C : List (List Nat)) (t : List Nat) (n m : Nat) (sA cA tA : Option Addr) (cc tc : Nat) (w : World) (hr : r < 4) (hV : VaultOk P N L C) (ht : TruthOk C t) (hn : L.length = n) (hm : C.length = m) (hmc : m ≤ tc) (hB : B ≤ w.heap.size)
    (h : Ints w B sA n (ofL L)) (hR : Rows w B cA C) (hT : Ints w B tA m (ofL t)) :
    Calls Tryz.prog 60 #[.agg (vVal P N sA n sc cA m cc), .slice tA m tc, .int .i64 r] w (RunOk r P t L m w) := by
  match r, hr with
  | 0, _ => exact vRun_low P N sc B L C t n m sA cA tA cc tc w hV ht hn hm hmc hB h hR hT
  | 1, _ => exact vRun_old P N sc B L C t n m sA cA tA cc tc w hV ht hn hm hmc hB h hR hT
  | 2, _ => exact vRun_stale P N sc B L C t n m sA cA tA cc tc w hV ht hn hm hmc hB h hR hT
  | 3, _ => exact vRun_late P N sc B L C t n m sA cA tA cc tc w hV ht hn hm hmc hB h hR hT

end Go.Proofs.YtoobopohohoidaaGreatDoor
