/- VAULT: for run: what the rules send, once more; the state of a run. -/
import Derived.Test.YtoobopohohoidaaGreatDoorVW
set_option linter.unusedSimpArgs false
set_option linter.unusedVariables false
namespace Go.Proofs.YtoobopohohoidaaGreatDoor
open Go.RowKit Go.Maps Go.Shelf

theorem Line.mono {P Q : Nat} {L : List Nat} (h : Line P L) (hPQ : P ≤ Q) : Line Q L := ⟨h.nodup, h.lt, Nat.le_trans h.le hPQ⟩
def lowS (L : List Nat) (_ : List Nat) : Nat := tz (maskOf L)
def oldS (L : List Nat) (_ : List Nat) : Nat := L.getD 0 0
theorem oldS_mem {L : List Nat} (u : List Nat) (h : L ≠ []) : oldS L u ∈ L := by
  cases L with
  | nil => exact absurd rfl h
  | cons a L => simp [oldS]
theorem tz_bit : ∀ s : Fin 64, s.1 ≠ 0 → tz s.1 < 6 ∧ s.1.testBit (tz s.1) = true := by decide +kernel
theorem lowS_mem {P : Nat} {L : List Nat} (u : List Nat) (hL : Line P L) (h : L ≠ []) : lowS L u ∈ L := by
  have hm := mask_lt hL.lt
  have h0 : maskOf L ≠ 0 := fun e => by
    cases L with
    | nil => exact h rfl
    | cons a L =>
      have := mask_bit (a :: L) a
      rw [e] at this
      simp at this
  have := (tz_bit ⟨maskOf L, hm⟩ h0).2
  dsimp only at this
  rw [mask_bit] at this
  show tz (maskOf L) ∈ L
  simpa using this
theorem lateS_mem {P : Nat} {L : List Nat} (u : List Nat) (hL : Line P L) (h : L ≠ []) : lateS L u ∈ L := (lateS_spec hL u h).1

theorem send_low (L u : List Nat) (A : Option Addr) (n cap B : Nat) (w : World) (hL : Line 4 L) (_h0 : L ≠ []) (_hu : u.length = n) (_hn : n ≤ 8) (_hI : Ints w B A n (ofL u)) (_hB : B ≤ w.heap.size) :
    Calls Tryz.prog 142 #[.agg #[], .agg (dC (maskOf L) L (.slice A n cap))] w fun e w' => e = .returned (.int .i64 (lowS L u)) ∧ Below w.heap.size w w' := vlow_any L _ w hL
theorem send_old (L u : List Nat) (A : Option Addr) (n cap B : Nat) (w : World) (_hL : Line 4 L) (_h0 : L ≠ []) (_hu : u.length = n) (_hn : n ≤ 8) (_hI : Ints w B A n (ofL u)) (_hB : B ≤ w.heap.size) :
    Calls Tryz.prog 141 #[.agg #[], .agg (dC (maskOf L) L (.slice A n cap))] w fun e w' => e = .returned (.int .i64 (oldS L u)) ∧ Below w.heap.size w w' := vold_any L _ w
theorem send_late (L u : List Nat) (A : Option Addr) (n cap B : Nat) (w : World) (hL : Line 4 L) (h0 : L ≠ []) (hu : u.length = n) (hn : n ≤ 8) (hI : Ints w B A n (ofL u)) (hB : B ≤ w.heap.size) :
    Calls Tryz.prog 143 #[.agg #[], .agg (dC (maskOf L) L (.slice A n cap))] w fun e w' => e = .returned (.int .i64 (lateS L u)) ∧ Below w.heap.size w w' := by
  rw [← (lateS_spec hL u h0).2.1]
  exact vlate_any L u A n cap B w hL hu hn hI hB

/-- Where a run stands: k calls have come. -/
structure RunAt (P : Nat) (snd : List Nat → List Nat → Nat) (renew : Bool) (t L0 : List Nat) (k : Nat) (L : List Nat) (pre : List Int) (f : Nat) : Prop where
  line : Line P L
  len : pre.length = k
  few : f ≤ k
  sent : (sim P snd renew t L0).1 = pre ++ (sim P snd renew (t.drop k) L).1
  fetched : (sim P snd renew t L0).2 = f + (sim P snd renew (t.drop k) L).2
theorem RunAt.start {P : Nat} {snd : List Nat → List Nat → Nat} {renew : Bool} {t L0 : List Nat} (h : Line P L0) : RunAt P snd renew t L0 0 L0 [] 0 := ⟨h, rfl, Nat.le_refl _, rfl, by simp⟩
theorem RunAt.hit {P : Nat} {snd : List Nat → List Nat → Nat} {renew : Bool} {t L0 : List Nat} {k : Nat} {L : List Nat} {pre : List Int} {f p : Nat} (h : RunAt P snd renew t L0 k L pre f) (hd : t.drop k = p :: t.drop (k + 1)) (hp : p ∈ L) (hp6 : p < 6) :
    RunAt P snd renew t L0 (k + 1) (if renew then L.erase p ++ [p] else L) (pre ++ [-1]) f := by
  have hn : p ∉ L.erase p := fun hx => by rw [h.line.nodup.mem_erase_iff] at hx; exact hx.1 rfl
  refine ⟨?_, by simp [h.len], by have := h.few; omega, ?_, ?_⟩
  · cases renew with
    | false => exact h.line
    | true => exact h.line.swap hp hp6 hn
  · rw [h.sent, hd, sim, if_pos hp]; simp
  · rw [h.fetched, hd, sim, if_pos hp]
theorem RunAt.full {P : Nat} {snd : List Nat → List Nat → Nat} {renew : Bool} {t L0 : List Nat} {k : Nat} {L : List Nat} {pre : List Int} {f p : Nat} (h : RunAt P snd renew t L0 k L pre f) (hd : t.drop k = p :: t.drop (k + 1)) (hp : p ∉ L) (hp6 : p < 6) (hl : L.length = P) (hs : snd L (t.drop (k + 1)) ∈ L) :
    RunAt P snd renew t L0 (k + 1) (L.erase (snd L (t.drop (k + 1))) ++ [p]) (pre ++ [(snd L (t.drop (k + 1)) : Int)]) (f + 1) := by
  refine ⟨h.line.swap hs hp6 (fun hx => hp (List.mem_of_mem_erase hx)), by simp [h.len], by have := h.few; omega, ?_, ?_⟩
  · rw [h.sent, hd, sim, if_neg hp, if_pos hl]; simp
  · rw [h.fetched, hd, sim, if_neg hp, if_pos hl]; omega
theorem RunAt.room {P : Nat} {snd : List Nat → List Nat → Nat} {renew : Bool} {t L0 : List Nat} {k : Nat} {L : List Nat} {pre : List Int} {f p : Nat} (h : RunAt P snd renew t L0 k L pre f) (hd : t.drop k = p :: t.drop (k + 1)) (hp : p ∉ L) (hp6 : p < 6) (hl : L.length < P) :
    RunAt P snd renew t L0 (k + 1) (L ++ [p]) (pre ++ [-1]) (f + 1) := by
  refine ⟨h.line.snoc hp6 hp hl, by simp [h.len], by have := h.few; omega, ?_, ?_⟩
  · rw [h.sent, hd, sim, if_neg hp, if_neg (by omega)]; simp
  · rw [h.fetched, hd, sim, if_neg hp, if_neg (by omega)]; omega

theorem RunAt.done {P : Nat} {snd : List Nat → List Nat → Nat} {renew : Bool} {t L0 : List Nat} {L : List Nat} {pre : List Int} {f m : Nat} (h : RunAt P snd renew t L0 m L pre f) (hm : t.length = m) : (sim P snd renew t L0).1 = pre ∧ (sim P snd renew t L0).2 = f := by
  have e : t.drop m = [] := by rw [← hm, List.drop_length]
  have h1 := h.sent
  have h2 := h.fetched
  rw [e] at h1 h2
  exact ⟨by rw [h1]; simp [sim], by rw [h2]; simp [sim]⟩

/-- The memory of a run. -/
structure RunMem (VV PV : Array Value) (m k z : Nat) (L : List Nat) (pre : List Int) (w W : World) : Prop where
  vault : W.heap[z]? = some (.cells VV 58 (0, 0))
  porter : W.heap[z + 1]? = some (.cells PV 176 (0, 0))
  made : MadeAt (z + 2) m k pre W
  desk : ∃ R : Value, R.oneCell' = true ∧ W.heap[z + 3]? = some (.cells (dC (maskOf L) L R) 56 (0, 0))
  turn : Turn (fun b => z ≤ b) w W

theorem results_cw_tmp {P : Program} {fn : Func} {a b : Tmp} {ty : TypeId} (h : fn.results = #[.cell a ty, .tmp b]) {tmps : Array Value} {w : World} {g : Nat} {t : TypeId} {cs : Array Value} {fr : Nat × Nat} {d : TypeDesc} (hx : tmps.getD a undef = .pointer (some ⟨g, 0, none⟩)) (hg : w.heap[g]? = some (.cells cs t fr))
    (hu : P.underlying ty = some d) (hd : d.isRow = true) (hi : (P.info? ty).map (·.size) = some cs.size) : (results fn tmps).run P w = .ok (.tuple #[.agg cs, tmps.getD b undef]) w := by
  have hl := loadVar_whole hg hu hd hi
  have hx' : tmps[a]?.getD undef = .pointer (some ⟨g, 0, none⟩) := by simpa using hx
  simp [results, h, hx', asAddr, hl]
/-- What is sent is stored. -/
theorem RunMem.store {VV PV : Array Value} {m k z : Nat} {L : List Nat} {pre : List Int} {w W : World} (h : RunMem VV PV m k z L pre w W) (hk : k < m) (hm : m ≤ 8) (x : Int) (hz : z ≤ W.heap.size) : RunMem VV PV m (k + 1) z L (pre ++ [x]) w (W.setCell ⟨z + 2, k, none⟩ (.int .i64 x)) := by
  obtain ⟨q, h1, h2, h3⟩ := h.made
  have hT : Turn (fun b => b = z + 2) W (W.setCell ⟨z + 2, k, none⟩ (.int .i64 x)) := Turn.of_but ((But.refl _ W).set k _)
  obtain ⟨R, hR, hd⟩ := h.desk
  exact ⟨hT.heap h.vault (by omega), hT.heap h.porter (by omega), ⟨q.set k x, by rw [← chV_set (by omega) (by omega)]; exact setH h1 k (.int .i64 x), by simp [h2], take_set' (by omega) h3 x⟩, ⟨R, hR, hT.heap hd (by omega)⟩, h.turn.trans (hT.mono fun b _ hb => by omega)⟩
/-- .. once more. -/
theorem RunMem.again {VV PV : Array Value} {m k z : Nat} {L : List Nat} {pre : List Int} {w W : World} {y : Int} (h : RunMem VV PV m (k + 1) z L (pre ++ [y]) w W) (hp : pre.length = k) (hk : k < m) (hm : m ≤ 8) (x : Int) : RunMem VV PV m (k + 1) z L (pre ++ [x]) w (W.setCell ⟨z + 2, k, none⟩ (.int .i64 x)) := by
  obtain ⟨q, h1, h2, h3⟩ := h.made
  have hT : Turn (fun b => b = z + 2) W (W.setCell ⟨z + 2, k, none⟩ (.int .i64 x)) := Turn.of_but ((But.refl _ W).set k _)
  obtain ⟨R, hR, hd⟩ := h.desk
  exact ⟨hT.heap h.vault (by omega), hT.heap h.porter (by omega), ⟨q.set k x, by rw [← chV_set (by omega) (by omega)]; exact setH h1 k (.int .i64 x), by simp [h2], take_set' (by omega) (take_less h3 hp) x⟩, ⟨R, hR, hT.heap hd (by omega)⟩, h.turn.trans (hT.mono fun b _ hb => by omega)⟩
/-- The desk turns. -/
theorem RunMem.turned {VV PV : Array Value} {m k z : Nat} {L L' : List Nat} {pre : List Int} {w W W' : World} (h : RunMem VV PV m k z L pre w W) (hT : Turn (fun b => b = z + 3) W W') {R : Value} (hR : R.oneCell' = true) (hd : W'.heap[z + 3]? = some (.cells (dC (maskOf L') L' R) 56 (0, 0))) : RunMem VV PV m k z L' pre w W' :=
  ⟨hT.heap h.vault (by omega), hT.heap h.porter (by omega), h.made.keep hT (by omega), ⟨R, hR, hd⟩, h.turn.trans (hT.mono fun b _ hb => by omega)⟩
theorem RunMem.kept {VV PV : Array Value} {m k z : Nat} {L : List Nat} {pre : List Int} {w W W' : World} (h : RunMem VV PV m k z L pre w W) (hT : Turn (fun _ => False) W W') : RunMem VV PV m k z L pre w W' :=
  let ⟨R, hR, hd⟩ := h.desk
  ⟨hT.heap h.vault (fun h => h), hT.heap h.porter (fun h => h), h.made.keep hT (fun h => h), ⟨R, hR, hT.heap hd (fun h => h)⟩, h.turn.trans (hT.mono fun _ _ h => h.elim)⟩

theorem heaps4 (w : World) (A B C D : Array Value) (tA tB tC tD : TypeId) :
    ((((w.alloc (.cells A tA)).alloc (.cells B tB)).alloc (.cells C tC)).alloc (.cells D tD)).heap[w.heap.size]? = some (.cells A tA (0, 0)) ∧ ((((w.alloc (.cells A tA)).alloc (.cells B tB)).alloc (.cells C tC)).alloc (.cells D tD)).heap[w.heap.size + 1]? = some (.cells B tB (0, 0)) ∧
      ((((w.alloc (.cells A tA)).alloc (.cells B tB)).alloc (.cells C tC)).alloc (.cells D tD)).heap[w.heap.size + 2]? = some (.cells C tC (0, 0)) ∧ ((((w.alloc (.cells A tA)).alloc (.cells B tB)).alloc (.cells C tC)).alloc (.cells D tD)).heap[w.heap.size + 3]? = some (.cells D tD (0, 0)) ∧
      (∀ T, Turn T w ((((w.alloc (.cells A tA)).alloc (.cells B tB)).alloc (.cells C tC)).alloc (.cells D tD))) ∧ ((((w.alloc (.cells A tA)).alloc (.cells B tB)).alloc (.cells C tC)).alloc (.cells D tD)).heap.size = w.heap.size + 4 := by
  obtain ⟨h1, h2, h3, hz⟩ := heaps3 w A B C tA tB tC
  have h4 := heap_alloc_new (((w.alloc (.cells A tA)).alloc (.cells B tB)).alloc (.cells C tC)) (.cells D tD)
  rw [hz] at h4
  exact ⟨heap_old _ h1, heap_old _ h2, heap_old _ h3, h4, fun T => ((((Turn.refl T w).alloc _).alloc _).alloc _).alloc _, by simp⟩

end Go.Proofs.YtoobopohohoidaaGreatDoor

namespace Go.Proofs.YtoobopohohoidaaGreatDoor
open Go.RowKit Go.Maps Go.Shelf
/-- The calls that come. -/
def restA (ad : Addr) (k m : Nat) : Option Addr := if m = k + 1 then some ad else some (ad.add (k + 1))
theorem rest_run (ad : Addr) (k m tc : Nat) (hk : k < m) (hm : m ≤ tc) (w : World) :
    (Instr.sliceAt 22 (.slice (some ad) m tc) (some (.int .i64 ((k : Int) + 1))) (some (.int .i64 m)) (some (.int .i64 m))).run Tryz.prog w = .ok (.slice (restA ad k m) (m - (k + 1)) (m - (k + 1))) w := by
  have h1 : (0 : Int) ≤ m := by omega
  have h2 : (m : Int) ≤ tc := by omega
  have h3 : (0 : Int) ≤ (k : Int) + 1 := by omega
  have h4 : (k : Int) + 1 ≤ m := by omega
  have h5 : ((k : Int) + 1).toNat = k + 1 := by omega
  simp [Instr.sliceAt, Instr.slice, Instr.sliceBounds, go_sem, h1, h2, h3, h4, h5]
  unfold restA
  split
  · rfl
  · first | rfl | simp [Addr.add]
theorem rest_ints {w : World} {B m k : Nat} {ad : Addr} {t : List Nat} (hm : t.length = m) (hk : k < m) (hB : ad.block < B) (h : ∀ j, j < m → w.cell? (ad.add j) = some (.int .i64 (ofL t j))) : Ints w B (restA ad k m) (m - (k + 1)) (ofL (t.drop (k + 1))) := by
  intro h0
  unfold restA
  rw [if_neg (by omega)]
  refine ⟨_, rfl, by rw [block_add]; exact hB, fun j hj => ?_⟩
  have e : (ad.add (k + 1)).add j = ad.add (k + 1 + j) := by
    unfold Addr.add
    simp [Nat.add_assoc]
  rw [e, h _ (by omega)]
  simp [ofL]
end Go.Proofs.YtoobopohohoidaaGreatDoor
