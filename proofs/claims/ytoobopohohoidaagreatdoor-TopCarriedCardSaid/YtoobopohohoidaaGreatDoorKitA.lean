/- THE KIT: Either, KeepInts, Mixed. -/
/- THE KIT: CallsOf. -/
import Derived.Test.YtoobopohohoidaaGreatDoorTinG
import Derived.Test.YtoobopohohoidaaGreatDoorRng
import Derived.Test.YtoobopohohoidaaGreatDoorVE
import Derived.Laws.AppendOwn
import Derived.OwnWalk
set_option linter.unusedSimpArgs false
set_option linter.unusedVariables false
namespace Go.Proofs.YtoobopohohoidaaGreatDoor
open Go.RowKit

theorem info_intK : (Tryz.prog.info? 3).map (fun i => (i.zero, i.size, i.bytes)) = some (some (.int .i64 0), 1, 8) := by kernel_rfl
theorem Only.turn {tb : Nat} {w w' : World} (h : Only tb w w') : Turn (fun b => b = tb) w w' := ⟨by rw [h.size]; exact Nat.le_refl _, h.os, h.tape, h.output, fun b _ hn => h.block b hn⟩

set_option maxRecDepth 100000 in
set_option maxHeartbeats 2000000 in
theorem either_any (B tb g n cap : Nat) (ad : Addr) (f : Nat → Int) (w : World) (hgm : g < 4611686018427387904) (h1 : 1 ≤ n) (hn : n ≤ 1048576) (hne : ad.block ≠ tb) (hc : ∀ j, j < n → w.cell? (ad.add j) = some (.int .i64 (f j))) (h : TinAt w B tb g) :
    Calls Tryz.prog 12 #[.pointer (some ⟨tb, 0, none⟩), .slice (some ad) n cap] w fun e w' => ∃ j, j < n ∧ e = .returned (.int .i64 (f j)) ∧ Only tb w w' ∧ TinAt w' B tb (g + 1) := by
  have HC := Go.Lib.hid hc
  have HT := Go.Lib.hid h
  clear hc h
  go_enter Tryz.func12, Tryz.ntmps12
  go_wp2_with (first
    | (go_at_call 11; refine (upto_any B tb g _ _ hgm (by omega) (by omega) HT.out).mono ?_; rintro e w1 ⟨v, hv, rfl, ho, ht⟩
       have hvn : v < n := by omega
       have hvc : w1.cell? (ad.add v) = some (.int .i64 (f v)) := by rw [ho.cell (by rw [block_add]; exact hne)]; exact HC.out v hvn))
  go_ret
  exact ⟨v, hvn, rfl, ho, ht⟩

set_option maxRecDepth 100000 in
set_option maxHeartbeats 4000000 in
theorem keepInts_any (m cap : Nat) (ad : Addr) (f : Nat → Int) (w : World) (hm : m ≤ 99) (hc : ∀ j, j < m → w.cell? (ad.add j) = some (.int .i64 (f j))) :
    Calls Tryz.prog 25 #[.slice (some ad) m cap] w fun e w' => ∃ (A : Option Addr) (c : Nat), m ≤ c ∧ e = .returned (.slice A m c) ∧ Below w.heap.size w w' ∧ Ints w' w'.heap.size A m f ∧ (∀ ad, A = some ad → w.heap.size ≤ ad.block) := by
  obtain ⟨i0, hi, hz0, hz1, hz2⟩ := info_parts info_intK
  have hown : (w.alloc (.cells #[] 3)).ownsRow w.heap.size 3 1 (.slice (some ⟨w.heap.size, 0, none⟩) 0 0) 0 [] := ⟨rfl, .inr ⟨w.heap.size, 0, #[], rfl, Nat.le_refl _, heap_alloc_new w _, by omega, by unfold maxLen; omega, rfl, rfl⟩⟩
  have HOWN := Go.Lib.hid hown
  have HC := Go.Lib.hid (show ∀ j u, ((List.range m).map fun j => Value.int .i64 (f j))[j]? = some u → (w.alloc (.cells #[] 3)).cell? (ad.add j) = some u from fun j u h => by
    rw [List.getElem?_map] at h
    obtain ⟨x, hx, rfl⟩ := Option.map_eq_some_iff.1 h
    obtain ⟨h1, h2⟩ := List.getElem?_eq_some_iff.1 hx
    simp at h1 h2
    subst h2
    exact cell_alloc_l _ (hc _ h1))
  clear hc hown
  go_enter Tryz.func25, Tryz.ntmps25
  go_wp2_with (first | (at_builtin; refine wpList_append_own _ rfl _ _ 22 rfl w.heap.size 3 i0 (.int .i64 0) 1 8 Tryz.underlying22 hi hz0 hz1 hz2 rfl (by decide) _ _ _ rfl HOWN.out ad m cap ((List.range m).map fun j => Value.int .i64 (f j)) rfl (by simp) HC.out (by intro u hu; obtain ⟨j, _, rfl⟩ := List.mem_map.1 hu; rfl) (by unfold maxLen; omega) (by omega) (by simp) ?_; intro v' w1 hown' hgrow hnil; obtain ⟨hlen, hor⟩ := id hown'))
  have hBl : Below w.heap.size w w1 := ((Below.refl w.heap.size w).alloc (Nat.le_refl _) (.cells #[] 3)).grown hgrow (by simp) fun j ej => by
    have ej' : some w.heap.size = some j := ej
    cases ej'
    exact Nat.le_refl _
  rw [Nat.zero_add] at hor
  rcases hor with ⟨rfl, h0⟩ | ⟨g, cap', cur, rfl, hg1, hg2, hg3, hg4, hg5, hg6⟩
  · exact ⟨rfl, _, results_tmp rfl _ _ _, none, 0, by omega, by subst h0; rfl, hBl, (fun h => by omega), fun _ h => by cases h⟩
  · refine ⟨rfl, _, results_tmp rfl _ _ _, some ⟨g, 0, none⟩, cap', hg3, rfl, hBl, fun _ => ⟨⟨g, 0, none⟩, rfl, (Array.getElem?_eq_some_iff.1 hg2).1, fun j hj => ?_⟩, fun ad h => by cases h; exact hg1⟩
    have e1 : (⟨g, 0, none⟩ : Addr).add j = ⟨g, j, none⟩ := by simp [Addr.add]; omega
    rw [e1, cellH hg2]
    have e2 : (List.take (m * 1) cur.toList)[j]? = some (.int .i64 (f j)) := by
      rw [hg6]; simp [hj]
    rw [List.getElem?_take_of_lt (by omega)] at e2
    simpa using e2

/-- The numbers that are mixed so far. -/
structure Mix (i : Nat) (f : Nat → Nat) : Prop where
  lt : ∀ j, j < i → f j < i
  inj : ∀ a b, a < i → b < i → f a = f b → a = b
def mixF (f : Nat → Nat) (i k : Nat) : Nat → Nat := fun j => if j = k then i else if j = i then f k else f j
theorem Mix.next {i k : Nat} {f : Nat → Nat} (h : Mix i f) (hk : k ≤ i) : Mix (i + 1) (mixF f i k) := by
  constructor
  · intro j hj
    unfold mixF
    split
    · omega
    · split
      · have := h.lt k (by omega); omega
      · have := h.lt j (by omega); omega
  · intro a b ha hb e
    unfold mixF at e
    by_cases a1 : a = k
    · by_cases b1 : b = k
      · omega
      · rw [if_pos a1, if_neg b1] at e
        by_cases b2 : b = i
        · rw [if_pos b2] at e; have := h.lt k (by omega); omega
        · rw [if_neg b2] at e; have := h.lt b (by omega); omega
    · rw [if_neg a1] at e
      by_cases b1 : b = k
      · rw [if_pos b1] at e
        by_cases a2 : a = i
        · rw [if_pos a2] at e; have := h.lt k (by omega); omega
        · rw [if_neg a2] at e; have := h.lt a (by omega); omega
      · rw [if_neg b1] at e
        by_cases a2 : a = i
        · rw [if_pos a2] at e
          by_cases b2 : b = i
          · omega
          · rw [if_neg b2] at e; have := h.inj k b (by omega) (by omega) e; omega
        · rw [if_neg a2] at e
          by_cases b2 : b = i
          · rw [if_pos b2] at e; have := h.inj a k (by omega) (by omega) e; omega
          · rw [if_neg b2] at e; exact h.inj a b (by omega) (by omega) e
/-- A row of numbers. -/
def fxV (n : Nat) (f : Nat → Nat) : Array Value := ((List.range n).map fun j => Value.int .i64 (f j)).toArray
theorem fxV_get {n j : Nat} (f : Nat → Nat) (hj : j < n) : (fxV n f)[j]? = some (.int .i64 (f j)) := by simp [fxV, hj]
theorem fxV_set {n i k : Nat} (f : Nat → Nat) (hi : i < n) (hk : k ≤ i) : ((fxV n f).setIfInBounds i (.int .i64 (f k))).setIfInBounds k (.int .i64 i) = fxV n (mixF f i k) := by
  apply Array.ext_getElem?
  intro j
  by_cases hj : j < n
  · by_cases h1 : k = j
    · subst h1; simp [fxV, mixF, hj, Array.getElem?_setIfInBounds]
    · have h1' : ¬ j = k := fun h => h1 h.symm
      by_cases h2 : i = j
      · subst h2; simp [fxV, mixF, hj, Array.getElem?_setIfInBounds, h1, h1']
      · have h2' : ¬ j = i := fun h => h2 h.symm
        simp [fxV, mixF, hj, Array.getElem?_setIfInBounds, h1, h1', h2, h2']
  · have hk' : ¬ k = j := by omega
    have hi' : ¬ i = j := by omega
    simp [fxV, hj, Array.getElem?_setIfInBounds, hk', hi']

theorem madeN (w : World) (n : Nat) (hn : n ≤ 99) : (Instr.makeSlice 22 (.int .i64 n) (.int .i64 n)).run Tryz.prog w = .ok (.slice (some ⟨w.heap.size, 0, none⟩) n n) (w.alloc (.cells (fxV n fun _ => 0) 3)) := by
  obtain ⟨i0, hi, hz0, hz1, hz2⟩ := info_parts info_intK
  have := run_makeSlice (P := Tryz.prog) w 22 3 i0 (.int .i64 0) Tryz.underlying22 hi hz0 .i64 .i64 n n (by omega) (by omega) (by rw [hz1]; omega) (by rw [hz2]; omega) (by omega)
  rw [hz1] at this
  have e : madeCells (Value.int .i64 0).cells (Int.toNat n * 1) = fxV n fun _ => 0 := by
    have e1 : Int.toNat (n : Int) * 1 = n := by omega
    rw [e1]
    apply Array.ext_getElem?
    intro j
    by_cases hj : j < n
    · rw [fxV_get _ hj]
      have e2 : (Value.int .i64 0).cells = #[.int .i64 0] := rfl
      rw [e2]
      simp [madeCells, hj, Nat.mod_one]
    · have h1 : (madeCells (Value.int .i64 0).cells n)[j]? = none := by simp [madeCells]; omega
      have h2 : (fxV n fun _ => 0)[j]? = none := by simp [fxV]; omega
      rw [h1, h2]
  rw [e] at this
  simpa using this

set_option maxRecDepth 100000 in
set_option maxHeartbeats 4000000 in
theorem mixed_any (B tb g n : Nat) (w : World) (hgm : g < 4611686018427387000) (hn : n ≤ 99) (h : TinAt w B tb g) :
    Calls Tryz.prog 24 #[.pointer (some ⟨tb, 0, none⟩), .int .i64 n] w fun e w' => ∃ f, Mix n f ∧ e = .returned (.slice (some ⟨w.heap.size, 0, none⟩) n n) ∧ w'.heap[w.heap.size]? = some (.cells (fxV n f) 3 (0, 0)) ∧ Turn (fun b => b = tb) w w' ∧ TinAt w' B tb (g + n) := by
  have hmk := fun w => madeN w n hn
  have hBt : B ≤ tb := let ⟨_, _, _, _, _, h, _⟩ := h; h
  have htb := h.lt
  have hT1 : TinAt (w.alloc (.cells (fxV n fun _ => 0) 3)) B tb g := h.keep fun b hb => Below.heap_alloc _ _ _ (by omega)
  have HT1 := Go.Lib.hid hT1
  clear hT1 h
  go_enter Tryz.func24, Tryz.ntmps24
  go_wp2
  go_loopw [6] (fun ii wr => ∃ (i : Nat) (f : Nat → Nat), i ≤ n ∧ ii = .int .i64 i ∧ Hid (Mix i f) ∧ Hid (wr.heap[w.heap.size]? = some (.cells (fxV n f) 3 (0, 0))) ∧ Hid (Turn (fun b => b = tb) w wr) ∧ Hid (TinAt wr B tb (g + i))) (fun ii _ => n - (intOf ii).toNat)
  case atStart => exact ⟨0, fun _ => 0, Nat.zero_le _, rfl, Go.Lib.hid ⟨fun j hj => by omega, fun a b ha => by omega⟩, Go.Lib.hid (heap_alloc_new w _), Go.Lib.hid ((Turn.refl _ w).alloc _), HT1⟩
  case round =>
    obtain ⟨i, f, hi, rfl, HX, HC, HT, HA⟩ := hrel
    by_cases hlt : i < n
    · go_wp2_with (first
        | (go_at_call 11; refine (upto_any B tb (g + i) _ _ (by omega) (by omega) (by omega) HA.out).mono ?_; rintro e w1 ⟨k, hk, rfl, ho, ht⟩
           have hki : k ≤ i := by omega
           have hc1 : w1.heap[w.heap.size]? = some (.cells (fxV n f) 3 (0, 0)) := (ho.block _ (by omega)).trans HC.out
           have ck : w1.cell? ⟨w.heap.size, k, none⟩ = some (.int .i64 (f k)) := (cellH hc1 k).trans (fxV_get f (by omega))
           have ci : w1.cell? ⟨w.heap.size, i, none⟩ = some (.int .i64 (f i)) := (cellH hc1 i).trans (fxV_get f hlt)
           have fi : w1.frozen? ⟨w.heap.size, i, none⟩ = false := freeH hc1 i
           have fk : w1.frozen? ⟨w.heap.size, k, none⟩ = false := freeH hc1 k
           have ck2 : ∃ v, (w1.setCell ⟨w.heap.size, i, none⟩ (.int .i64 (f k))).cell? ⟨w.heap.size, k, none⟩ = some v := ⟨_, (cellH (setH hc1 i (.int .i64 (f k))) k).trans (Array.getElem?_eq_getElem (by simp [fxV]; omega))⟩
           obtain ⟨v2, ck2⟩ := ck2
           have fk2 : (w1.setCell ⟨w.heap.size, i, none⟩ (.int .i64 (f k))).frozen? ⟨w.heap.size, k, none⟩ = false := freeH (setH hc1 i _) k
           have hkn : (k : Int) < n := by omega
           have hin : (i : Int) < n := by omega
           have HC1 := Go.Lib.hid hc1
           clear hc1))
      have hb1 : Turn (fun b => b = w.heap.size) w1 ((w1.setCell ⟨w.heap.size, i, none⟩ (.int .i64 (f k))).setCell ⟨w.heap.size, k, none⟩ (.int .i64 i)) := (Turn.of_but ((But.refl w.heap.size w1).set i _)).trans (Turn.of_but ((But.refl w.heap.size _).set k _))
      have hh := setH (setH HC1.out i (.int .i64 (f k))) k (.int .i64 i)
      rw [fxV_set f hlt hki] at hh
      refine ⟨⟨i + 1, mixF f i k, by omega, by go_num, Go.Lib.hid (HX.out.next hki), Go.Lib.hid hh, Go.Lib.hid ?_, Go.Lib.hid (ht.keep fun b hb => hb1.block b (by have := ht.lt; omega) (by omega))⟩, by simp [intOf]; omega⟩
      exact ((HT.out.trans (Only.turn ho)).mono (T' := fun b => b = tb ∨ b = w.heap.size) fun b _ hb => .inl hb).trans (hb1.mono fun b _ hb => .inr hb) |>.mono fun b hb h => by omega
    · have hkn : i = n := by omega
      have HK := Go.Lib.hid hkn; clear hkn
      go_wp2
      go_ret
      obtain rfl := HK.out
      exact ⟨f, HX.out, rfl, HC.out, HT.out, HA.out⟩

end Go.Proofs.YtoobopohohoidaaGreatDoor

namespace Go.Proofs.YtoobopohohoidaaGreatDoor
open Go.RowKit

theorem Turn.heap' {T : Nat → Prop} {w w' : World} {b : Nat} {x : Obj} (h : Turn T w w') (hb : w.heap[b]? = some x) (hn : ¬ T b) : w'.heap[b]? = some x := (h.block b (Array.getElem?_eq_some_iff.1 hb).1 hn).trans hb
/-- The pieces of a call so far. -/
structure Sofar (f : Nat → Nat) (k : Nat) (pl : List Nat) : Prop where
  sorted : pl.Pairwise (· < ·)
  lt : ∀ x ∈ pl, x < k
  ne : f 0 < k → pl ≠ []
theorem Sofar.start {f : Nat → Nat} : Sofar f 0 [] := ⟨List.Pairwise.nil, fun _ h => (by cases h), fun h => by omega⟩
theorem Sofar.more {f : Nat → Nat} {k : Nat} {pl : List Nat} (h : Sofar f k pl) : Sofar f (k + 1) (pl ++ [k]) :=
  ⟨List.pairwise_append.2 ⟨h.sorted, List.pairwise_singleton _ _, fun a ha b hb => by simp at hb; subst hb; exact h.lt a ha⟩, fun x hx => by
    rcases List.mem_append.1 hx with hx | hx
    · have := h.lt x hx; omega
    · simp at hx; omega, fun _ => by simp⟩
theorem Sofar.less {f : Nat → Nat} {k : Nat} {pl : List Nat} (h : Sofar f k pl) (h0 : f 0 ≠ k) : Sofar f (k + 1) pl := ⟨h.sorted, fun x hx => by have := h.lt x hx; omega, fun hf => h.ne (by omega)⟩
theorem Sofar.len {f : Nat → Nat} {k : Nat} {pl : List Nat} (h : Sofar f k pl) {m : Nat} (hk : k ≤ m) : pl.length ≤ m := by
  have := sorted_len pl k 0 h.sorted (fun p hp => ⟨Nat.zero_le _, h.lt p hp⟩)
  omega
theorem Sofar.done {f : Nat → Nat} {n : Nat} {pl : List Nat} (h : Sofar f n pl) (hf : f 0 < n) : CallOk n pl := ⟨h.ne hf, h.sorted, h.lt⟩

theorem own_turn {T : Nat → Prop} {W W' : World} {base e size n : Nat} {v : Value} {xs : List Value} (h : W.ownsRow base e size v n xs) (hT : Turn T W W') (hn : ∀ b, base ≤ b → ¬ T b) : W'.ownsRow base e size v n xs := by
  rcases h with ⟨h0, h | ⟨g, cap, cur, h1, h2, h3, h4⟩⟩
  · exact ⟨h0, .inl h⟩
  · exact ⟨h0, .inr ⟨g, cap, cur, h1, h2, hT.heap' h3 (hn _ h2), h4⟩⟩
/-- A list of calls so far. -/
def CallsAt (N n : Nat) (v : Value) (C : List (List Nat)) (W : World) : Prop :=
  ∃ xs, W.ownsRow N 22 1 v C.length xs ∧ (∀ l ∈ C, CallOk n l) ∧ ∀ i, i < C.length → ∃ r, xs[i]? = some r ∧ W.ownsRow N 3 1 r (C.getD i []).length ((C.getD i []).map fun x : Nat => Value.int .i64 (x : Int))
theorem CallsAt.keep {T : Nat → Prop} {N n : Nat} {v : Value} {C : List (List Nat)} {W W' : World} (h : CallsAt N n v C W) (hT : Turn T W W') (hn : ∀ b, N ≤ b → ¬ T b) : CallsAt N n v C W' := by
  obtain ⟨xs, h1, h2, h3⟩ := h
  refine ⟨xs, own_turn h1 hT hn, h2, fun i hi => ?_⟩
  obtain ⟨r, h4, h5⟩ := h3 i hi
  exact ⟨r, h4, own_turn h5 hT hn⟩
theorem own_form {W : World} {base e size n : Nat} {v : Value} {xs : List Value} (h : W.ownsRow base e size v n xs) : ∃ A cap, v = .slice A n cap := by
  rcases h.2 with ⟨rfl, h0⟩ | ⟨g, cap, cur, rfl, _⟩
  · exact ⟨none, 0, by rw [h0]⟩
  · exact ⟨_, _, rfl⟩
theorem own_one {W : World} {base e size n : Nat} {v : Value} {xs : List Value} (h : W.ownsRow base e size v n xs) : v.oneCell' = true := by
  rcases h.2 with ⟨rfl, _⟩ | ⟨g, cap, cur, rfl, _⟩ <;> rfl
theorem own_base {W : World} {base base' e size n : Nat} {v : Value} {xs : List Value} (h : W.ownsRow base e size v n xs) (hb : base' ≤ base) : W.ownsRow base' e size v n xs := by
  rcases h with ⟨h0, h | ⟨g, cap, cur, h1, h2, h3⟩⟩
  · exact ⟨h0, .inl h⟩
  · exact ⟨h0, .inr ⟨g, cap, cur, h1, Nat.le_trans hb h2, h3⟩⟩
theorem CallsAt.more {N n : Nat} {v v' lv : Value} {C : List (List Nat)} {pl : List Nat} {xs : List Value} {W w4 : World} {o : Obj} (h1 : W.ownsRow N 22 1 v C.length xs) (h2 : ∀ l ∈ C, CallOk n l)
    (h3 : ∀ i, i < C.length → ∃ r, xs[i]? = some r ∧ W.ownsRow N 3 1 r (C.getD i []).length ((C.getD i []).map fun x : Nat => Value.int .i64 (x : Int))) (hp : CallOk n pl) (hl : W.ownsRow N 3 1 lv pl.length (pl.map fun x : Nat => Value.int .i64 (x : Int)))
    (hown : w4.ownsRow N 22 1 v' (C.length + 1) (xs ++ [lv])) (hg : (W.alloc o).grownBy w4 v.ownBlock) : CallsAt N n v' (C ++ [pl]) w4 := by
  have hxl : xs.length = C.length := by have := h1.1; omega
  have hk : ∀ r k ys, W.ownsRow N 3 1 r k ys → w4.ownsRow N 3 1 r k ys := fun r k ys h => (h.alloc o).kept hg (own_other (h.alloc o) (h1.alloc o) (by decide))
  refine ⟨xs ++ [lv], by simpa using hown, fun l hl => ?_, fun i hi => ?_⟩
  · rcases List.mem_append.1 hl with hl | hl
    · exact h2 l hl
    · simp at hl; subst hl; exact hp
  · by_cases hc : i < C.length
    · obtain ⟨r, h4, h5⟩ := h3 i hc
      have e1 : (C ++ [pl]).getD i [] = C.getD i [] := by rw [List.getD_eq_getElem?_getD, List.getElem?_append_left hc, ← List.getD_eq_getElem?_getD]
      rw [e1]
      exact ⟨r, by rw [List.getElem?_append_left (by omega)]; exact h4, hk _ _ _ h5⟩
    · have e0 : i = C.length := by simp at hi; omega
      subst e0
      have e1 : (C ++ [pl]).getD C.length [] = pl := by simp
      rw [e1]
      exact ⟨lv, by rw [← hxl]; simp, hk _ _ _ hl⟩
theorem info_rows : (Tryz.prog.info? 22).map (fun i => (i.zero, i.size, i.bytes)) = some (some (.slice none 0 0), 1, 24) := by kernel_rfl
/-- What CallsOf gives. -/
def CallsPost (B tb g calls n : Nat) (w : World) (e : Ending) (w' : World) : Prop :=
  ∃ (v : Value) (C : List (List Nat)) (g' : Nat), e = .returned v ∧ C.length ≤ calls ∧ g' ≤ g + 1 + C.length * (n + 2) ∧ CallsAt w.heap.size n v C w' ∧ Turn (fun b => b = tb) w w' ∧ TinAt w' B tb g'
theorem ordI {W wi : World} {z n : Nat} {f : Nat → Nat} (h : W.heap[z]? = some (.cells (fxV n f) 3 (0, 0))) (hB : Below W.heap.size W wi) (_hz : z < W.heap.size) : Ints wi (z + 1) (some ⟨z, 0, none⟩) n (fun j => (f j : Int)) := fun _ => ⟨⟨z, 0, none⟩, rfl, by show z < z + 1; omega, fun j hj => by
  have e1 : (⟨z, 0, none⟩ : Addr).add j = ⟨z, j, none⟩ := by simp [Addr.add]; omega
  rw [e1, cellH ((hB.block z (Array.getElem?_eq_some_iff.1 h).1).trans h), fxV_get f hj]⟩

set_option maxRecDepth 100000 in
set_option maxHeartbeats 4000000 in
theorem callsOf_any (B tb g calls each n : Nat) (w : World) (hgm : g < 4611686018427300000) (hc : calls ≤ 99) (he : 1 ≤ each) (he9 : each ≤ 99) (hn1 : 1 ≤ n) (hn : n ≤ 99) (h : TinAt w B tb g) :
    Calls Tryz.prog 26 #[.pointer (some ⟨tb, 0, none⟩), .int .i64 calls, .int .i64 n, .int .i64 each] w (CallsPost B tb g calls n w) := by
  obtain ⟨i0, hi, hz0, hz1, hz2⟩ := info_parts info_intK
  obtain ⟨i1, hj, hy0, hy1, hy2⟩ := info_parts info_rows
  have hBt : B ≤ tb := let ⟨_, _, _, _, _, h, _⟩ := h; h
  have htb := h.lt
  have HT := Go.Lib.hid h
  clear h
  go_enter Tryz.func26, Tryz.ntmps26
  go_wp2_with (first
    | (go_at_call 11; refine (upto_any B tb g _ _ (by omega) (by omega) (by omega) HT.out).mono ?_; rintro e w0 ⟨M, hM, rfl, ho0, ht0⟩))
  go_loopw [9, 10] (fun ov iv wr => ∃ (i g' : Nat) (C : List (List Nat)), i + C.length = M ∧ iv = .int .i64 i ∧ Hid (g' ≤ g + 1 + C.length * (n + 2)) ∧ Hid (CallsAt w.heap.size n ov C wr) ∧ Hid (Turn (fun b => b = tb) w wr) ∧ Hid (TinAt wr B tb g')) (fun ov iv _ => (intOf iv).toNat)
  case atStart =>
    exact ⟨M, g + 1, [], by simp, rfl, Go.Lib.hid (by simp), Go.Lib.hid ⟨[], World.ownsRow_nil _ _ _ _, fun _ h => (by cases h), fun i hi => by simp at hi⟩, Go.Lib.hid (Only.turn ho0), Go.Lib.hid ht0⟩
  case round =>
    obtain ⟨i, g', C, hiM, rfl, HG, HCA, HTU, HTI⟩ := hrel
    obtain ⟨wo, hwo⟩ : ∃ wo, wr = wo := ⟨_, rfl⟩
    rw [hwo] at HCA HTU HTI
    rw [hwo]
    clear hwo
    by_cases hlt : 0 < i
    · have hCl : C.length ≤ 99 := by omega
      have hg' := HG.out
      have hgb : C.length * (n + 2) ≤ 99 * 101 := Nat.mul_le_mul hCl (by omega)
      have hi1 : (i : Int) > 0 := by omega
      go_wp2_with (first
        | (go_at_call 24; go_must (refine (mixed_any B tb g' n _ (by omega) hn HTI.out).mono ?_; rintro e w1 ⟨f, hmix, rfl, hrow, hT1, ht1⟩)))
      refine (rarely_any B tb (g' + n) 3 _ (by omega) (by omega) (by omega) ht1).mono ?_
      rintro e w2 ⟨b, rfl, ho2, ht2⟩
      have hzt : tb < wo.heap.size := Nat.lt_of_lt_of_le htb HTU.out.size
      cases b with
      | true =>
        go_wp2_with (first
          | (go_at_call 13; refine (within_any B tb (g' + n + 1) 1 _ _ (by omega) (by omega) (by omega) (by omega) (by omega) ht2).mono ?_; rintro e w3 ⟨mn, hm1, hm2, rfl, ho3, ht3⟩))
        · have HORD := Go.Lib.hid (show w3.heap[wo.heap.size]? = some (.cells (fxV n f) 3 (0, 0)) from (ho3.block _ (by omega)).trans ((ho2.block _ (by omega)).trans hrow))
          have hz3 : wo.heap.size < w3.heap.size := (Array.getElem?_eq_some_iff.1 HORD.out).1
          go_loopw [13, 14] (fun lv pv wr => ∃ (k : Nat) (pl : List Nat), k ≤ n ∧ pv = .int .i64 k ∧ Hid (wr.ownsRow w3.heap.size 3 1 lv pl.length (pl.map fun x : Nat => Value.int .i64 (x : Int))) ∧ Hid (Sofar f k pl) ∧ Hid (Below w3.heap.size w3 wr)) (fun lv pv _ => n - (intOf pv).toNat)
          case atStart => exact ⟨0, [], Nat.zero_le _, rfl, Go.Lib.hid (World.ownsRow_nil _ _ _ _), Go.Lib.hid Sofar.start, Go.Lib.hid (Below.refl _ _)⟩
          case round =>
            obtain ⟨k, pl, hk, rfl, HROW, HSO, HBI⟩ := hrel
            by_cases hk2 : k < n
            · have hkn : (k : Int) < n := by omega
              go_wp2_with fail
              refine (at_any (some ⟨wo.heap.size, 0, none⟩) n n (wo.heap.size + 1) k (fun j => (f j : Int)) wr (by omega) (ordI HORD.out HBI.out (by omega))).mono ?_
              rintro e wj ⟨v, rfl, hv1, hv2, rfl⟩
              by_cases hvm : v < mn
              · have hd : decide (v < mn) = true := by simp; omega
                have hpl : pl.length ≤ 99 := HSO.out.len (by omega)
                have hzw := HBI.out.size
                dsimp only
                go_wp2_with (first | (at_builtin; refine wpList_append_own _ rfl _ _ 22 rfl w3.heap.size 3 i0 (.int .i64 0) 1 8 Tryz.underlying22 hi hz0 hz1 hz2 rfl (by decide) _ _ _ rfl (HROW.out.alloc _) ⟨wr.heap.size, 0, none⟩ 1 1 [.int .i64 (k : Int)] rfl rfl (cell_one_new _ _ _) (by simp [Value.oneCell']) (by unfold maxLen; omega) (by omega) (by simp; omega) ?_; intro v' w4 hown' hgrow _))
                exact ⟨⟨k + 1, pl ++ [k], by omega, by go_num, Go.Lib.hid (by simpa using hown'), Go.Lib.hid HSO.out.more, Go.Lib.hid (own_grown HBI.out (Nat.le_refl _) HROW.out hgrow)⟩, by simp [intOf]; omega⟩
              · have hd : decide (v < mn) = false := by simp; omega
                have hne : f 0 ≠ k := fun e0 => by
                  by_cases hv : ∃ q : Nat, v = q
                  · obtain ⟨q, rfl⟩ := hv
                    obtain ⟨h1, h2⟩ := hv1 q rfl
                    have h3 := hmix.inj q 0 h1 (by omega) (by omega)
                    omega
                  · have := (hv2 fun q hq => hv ⟨q, hq⟩).2 0 (by omega)
                    exact this (by omega)
                go_wp2
                exact ⟨⟨k + 1, pl, by omega, by go_num, HROW, Go.Lib.hid (HSO.out.less hne), HBI⟩, by simp [intOf]; omega⟩
            · have hkn2 : k = n := by omega
              have HKN := Go.Lib.hid hkn2
              clear hkn2
              have hTX : Turn (fun b => b = tb) wo w3 := ((hT1.trans (Only.turn ho2)).trans (Only.turn ho3))
              have hTr : Turn (fun b => b = tb) wo wr := hTX.trans (Turn.of_below' HBI.out _)
              have hCr := HCA.out.keep hTr (fun b hb h => by omega)
              obtain ⟨xs, hx1, hx2, hx3⟩ := id hCr
              have hxs : xs.length ≤ 99 := by have := hx1.1; omega
              have HX1 := Go.Lib.hid hx1
              obtain ⟨Al, cl, rfl⟩ := own_form HROW.out
              have hlv := own_base HROW.out (show w.heap.size ≤ w3.heap.size from Nat.le_trans HTU.out.size hTX.size)
              have h1c := own_one hlv
              have hzr : w.heap.size ≤ wr.heap.size := Nat.le_trans HTU.out.size hTr.size
              have hCl9 : C.length + 1 ≤ 100 := by omega
              clear hx1
              go_wp2_with (first | (at_builtin; go_must (refine wpList_append_own _ rfl _ _ 23 rfl w.heap.size 22 i1 (.slice none 0 0) 1 24 Tryz.underlying23 hj hy0 hy1 hy2 rfl (by decide) _ _ _ rfl (HX1.out.alloc _) ⟨wr.heap.size, 0, none⟩ 1 1 [_] rfl rfl (cell_one_new _ _ _) (by intro u hu; simp at hu; subst hu; exact h1c) (by unfold maxLen; omega) (by omega) (by simp; omega) ?_; intro v' w4 hown' hgrow _)))
              have hB4 : Below w.heap.size wr w4 := own_grown (Below.refl _ _) hzr HX1.out hgrow
              have hf0 : f 0 < n := hmix.lt 0 (by omega)
              have hpl : CallOk n pl := by
                have h9 := HKN.out
                subst h9
                exact HSO.out.done hf0
              have hT4 : Turn (fun b => b = tb) w w4 := ((HTU.out.trans hTr).mono (T' := fun b => b = tb ∨ w.heap.size ≤ b) fun b _ h => .inl h).trans ((Turn.of_below hB4).mono fun b _ h => .inr h) |>.mono fun b hb h => by omega
              have hT5 : TinAt w4 B tb (g' + n + 1 + 1) := ht3.keep fun b hb => (hB4.block b (by omega)).trans (HBI.out.block b (by have := ht3.lt; omega))
              have hgx : (g' + n + 1 + 1) ≤ g + 1 + (C ++ [pl]).length * (n + 2) := by
                rw [List.length_append, List.length_singleton, Nat.add_mul]
                omega
              exact ⟨⟨i - 1, (g' + n + 1 + 1), C ++ [pl], by simp; omega, by congr 1; omega, Go.Lib.hid hgx, Go.Lib.hid (CallsAt.more HX1.out hx2 hx3 hpl hlv hown' hgrow), Go.Lib.hid hT4, Go.Lib.hid hT5⟩, by simp [intOf]; omega⟩
        · have HORD := Go.Lib.hid (show w3.heap[wo.heap.size]? = some (.cells (fxV n f) 3 (0, 0)) from (ho3.block _ (by omega)).trans ((ho2.block _ (by omega)).trans hrow))
          have hz3 : wo.heap.size < w3.heap.size := (Array.getElem?_eq_some_iff.1 HORD.out).1
          go_loopw [13, 14] (fun lv pv wr => ∃ (k : Nat) (pl : List Nat), k ≤ n ∧ pv = .int .i64 k ∧ Hid (wr.ownsRow w3.heap.size 3 1 lv pl.length (pl.map fun x : Nat => Value.int .i64 (x : Int))) ∧ Hid (Sofar f k pl) ∧ Hid (Below w3.heap.size w3 wr)) (fun lv pv _ => n - (intOf pv).toNat)
          case atStart => exact ⟨0, [], Nat.zero_le _, rfl, Go.Lib.hid (World.ownsRow_nil _ _ _ _), Go.Lib.hid Sofar.start, Go.Lib.hid (Below.refl _ _)⟩
          case round =>
            obtain ⟨k, pl, hk, rfl, HROW, HSO, HBI⟩ := hrel
            by_cases hk2 : k < n
            · have hkn : (k : Int) < n := by omega
              go_wp2_with fail
              refine (at_any (some ⟨wo.heap.size, 0, none⟩) n n (wo.heap.size + 1) k (fun j => (f j : Int)) wr (by omega) (ordI HORD.out HBI.out (by omega))).mono ?_
              rintro e wj ⟨v, rfl, hv1, hv2, rfl⟩
              by_cases hvm : v < mn
              · have hd : decide (v < mn) = true := by simp; omega
                have hpl : pl.length ≤ 99 := HSO.out.len (by omega)
                have hzw := HBI.out.size
                dsimp only
                go_wp2_with (first | (at_builtin; refine wpList_append_own _ rfl _ _ 22 rfl w3.heap.size 3 i0 (.int .i64 0) 1 8 Tryz.underlying22 hi hz0 hz1 hz2 rfl (by decide) _ _ _ rfl (HROW.out.alloc _) ⟨wr.heap.size, 0, none⟩ 1 1 [.int .i64 (k : Int)] rfl rfl (cell_one_new _ _ _) (by simp [Value.oneCell']) (by unfold maxLen; omega) (by omega) (by simp; omega) ?_; intro v' w4 hown' hgrow _))
                exact ⟨⟨k + 1, pl ++ [k], by omega, by go_num, Go.Lib.hid (by simpa using hown'), Go.Lib.hid HSO.out.more, Go.Lib.hid (own_grown HBI.out (Nat.le_refl _) HROW.out hgrow)⟩, by simp [intOf]; omega⟩
              · have hd : decide (v < mn) = false := by simp; omega
                have hne : f 0 ≠ k := fun e0 => by
                  by_cases hv : ∃ q : Nat, v = q
                  · obtain ⟨q, rfl⟩ := hv
                    obtain ⟨h1, h2⟩ := hv1 q rfl
                    have h3 := hmix.inj q 0 h1 (by omega) (by omega)
                    omega
                  · have := (hv2 fun q hq => hv ⟨q, hq⟩).2 0 (by omega)
                    exact this (by omega)
                go_wp2
                exact ⟨⟨k + 1, pl, by omega, by go_num, HROW, Go.Lib.hid (HSO.out.less hne), HBI⟩, by simp [intOf]; omega⟩
            · have hkn2 : k = n := by omega
              have HKN := Go.Lib.hid hkn2
              clear hkn2
              have hTX : Turn (fun b => b = tb) wo w3 := ((hT1.trans (Only.turn ho2)).trans (Only.turn ho3))
              have hTr : Turn (fun b => b = tb) wo wr := hTX.trans (Turn.of_below' HBI.out _)
              have hCr := HCA.out.keep hTr (fun b hb h => by omega)
              obtain ⟨xs, hx1, hx2, hx3⟩ := id hCr
              have hxs : xs.length ≤ 99 := by have := hx1.1; omega
              have HX1 := Go.Lib.hid hx1
              obtain ⟨Al, cl, rfl⟩ := own_form HROW.out
              have hlv := own_base HROW.out (show w.heap.size ≤ w3.heap.size from Nat.le_trans HTU.out.size hTX.size)
              have h1c := own_one hlv
              have hzr : w.heap.size ≤ wr.heap.size := Nat.le_trans HTU.out.size hTr.size
              have hCl9 : C.length + 1 ≤ 100 := by omega
              clear hx1
              go_wp2_with (first | (at_builtin; go_must (refine wpList_append_own _ rfl _ _ 23 rfl w.heap.size 22 i1 (.slice none 0 0) 1 24 Tryz.underlying23 hj hy0 hy1 hy2 rfl (by decide) _ _ _ rfl (HX1.out.alloc _) ⟨wr.heap.size, 0, none⟩ 1 1 [_] rfl rfl (cell_one_new _ _ _) (by intro u hu; simp at hu; subst hu; exact h1c) (by unfold maxLen; omega) (by omega) (by simp; omega) ?_; intro v' w4 hown' hgrow _)))
              have hB4 : Below w.heap.size wr w4 := own_grown (Below.refl _ _) hzr HX1.out hgrow
              have hf0 : f 0 < n := hmix.lt 0 (by omega)
              have hpl : CallOk n pl := by
                have h9 := HKN.out
                subst h9
                exact HSO.out.done hf0
              have hT4 : Turn (fun b => b = tb) w w4 := ((HTU.out.trans hTr).mono (T' := fun b => b = tb ∨ w.heap.size ≤ b) fun b _ h => .inl h).trans ((Turn.of_below hB4).mono fun b _ h => .inr h) |>.mono fun b hb h => by omega
              have hT5 : TinAt w4 B tb (g' + n + 1 + 1) := ht3.keep fun b hb => (hB4.block b (by omega)).trans (HBI.out.block b (by have := ht3.lt; omega))
              have hgx : (g' + n + 1 + 1) ≤ g + 1 + (C ++ [pl]).length * (n + 2) := by
                rw [List.length_append, List.length_singleton, Nat.add_mul]
                omega
              exact ⟨⟨i - 1, (g' + n + 1 + 1), C ++ [pl], by simp; omega, by congr 1; omega, Go.Lib.hid hgx, Go.Lib.hid (CallsAt.more HX1.out hx2 hx3 hpl hlv hown' hgrow), Go.Lib.hid hT4, Go.Lib.hid hT5⟩, by simp [intOf]; omega⟩
      | false =>
        have HORD := Go.Lib.hid (show w2.heap[wo.heap.size]? = some (.cells (fxV n f) 3 (0, 0)) from (ho2.block _ (by omega)).trans hrow)
        have hz3 : wo.heap.size < w2.heap.size := (Array.getElem?_eq_some_iff.1 HORD.out).1
        go_wp2
        go_loopw [13, 14] (fun lv pv wr => ∃ (k : Nat) (pl : List Nat), k ≤ n ∧ pv = .int .i64 k ∧ Hid (wr.ownsRow w2.heap.size 3 1 lv pl.length (pl.map fun x : Nat => Value.int .i64 (x : Int))) ∧ Hid (Sofar f k pl) ∧ Hid (Below w2.heap.size w2 wr)) (fun lv pv _ => n - (intOf pv).toNat)
        case atStart => exact ⟨0, [], Nat.zero_le _, rfl, Go.Lib.hid (World.ownsRow_nil _ _ _ _), Go.Lib.hid Sofar.start, Go.Lib.hid (Below.refl _ _)⟩
        case round =>
          obtain ⟨k, pl, hk, rfl, HROW, HSO, HBI⟩ := hrel
          by_cases hk2 : k < n
          · have hkn : (k : Int) < n := by omega
            go_wp2_with fail
            refine (at_any (some ⟨wo.heap.size, 0, none⟩) n n (wo.heap.size + 1) k (fun j => (f j : Int)) wr (by omega) (ordI HORD.out HBI.out (by omega))).mono ?_
            rintro e wj ⟨v, rfl, hv1, hv2, rfl⟩
            by_cases hvm : v < (1 : Int)
            · have hd : decide (v < (1 : Int)) = true := by simp; omega
              have hpl : pl.length ≤ 99 := HSO.out.len (by omega)
              have hzw := HBI.out.size
              dsimp only
              go_wp2_with (first | (at_builtin; refine wpList_append_own _ rfl _ _ 22 rfl w2.heap.size 3 i0 (.int .i64 0) 1 8 Tryz.underlying22 hi hz0 hz1 hz2 rfl (by decide) _ _ _ rfl (HROW.out.alloc _) ⟨wr.heap.size, 0, none⟩ 1 1 [.int .i64 (k : Int)] rfl rfl (cell_one_new _ _ _) (by simp [Value.oneCell']) (by unfold maxLen; omega) (by omega) (by simp; omega) ?_; intro v' w4 hown' hgrow _))
              exact ⟨⟨k + 1, pl ++ [k], by omega, by go_num, Go.Lib.hid (by simpa using hown'), Go.Lib.hid HSO.out.more, Go.Lib.hid (own_grown HBI.out (Nat.le_refl _) HROW.out hgrow)⟩, by simp [intOf]; omega⟩
            · have hd : decide (v < (1 : Int)) = false := by simp; omega
              have hne : f 0 ≠ k := fun e0 => by
                by_cases hv : ∃ q : Nat, v = q
                · obtain ⟨q, rfl⟩ := hv
                  obtain ⟨h1, h2⟩ := hv1 q rfl
                  have h3 := hmix.inj q 0 h1 (by omega) (by omega)
                  omega
                · have := (hv2 fun q hq => hv ⟨q, hq⟩).2 0 (by omega)
                  exact this (by omega)
              go_wp2
              exact ⟨⟨k + 1, pl, by omega, by go_num, HROW, Go.Lib.hid (HSO.out.less hne), HBI⟩, by simp [intOf]; omega⟩
          · have hkn2 : k = n := by omega
            have HKN := Go.Lib.hid hkn2
            clear hkn2
            have hTX : Turn (fun b => b = tb) wo w2 := hT1.trans (Only.turn ho2)
            have hTr : Turn (fun b => b = tb) wo wr := hTX.trans (Turn.of_below' HBI.out _)
            have hCr := HCA.out.keep hTr (fun b hb h => by omega)
            obtain ⟨xs, hx1, hx2, hx3⟩ := id hCr
            have hxs : xs.length ≤ 99 := by have := hx1.1; omega
            have HX1 := Go.Lib.hid hx1
            obtain ⟨Al, cl, rfl⟩ := own_form HROW.out
            have hlv := own_base HROW.out (show w.heap.size ≤ w2.heap.size from Nat.le_trans HTU.out.size hTX.size)
            have h1c := own_one hlv
            have hzr : w.heap.size ≤ wr.heap.size := Nat.le_trans HTU.out.size hTr.size
            have hCl9 : C.length + 1 ≤ 100 := by omega
            clear hx1
            go_wp2_with (first | (at_builtin; go_must (refine wpList_append_own _ rfl _ _ 23 rfl w.heap.size 22 i1 (.slice none 0 0) 1 24 Tryz.underlying23 hj hy0 hy1 hy2 rfl (by decide) _ _ _ rfl (HX1.out.alloc _) ⟨wr.heap.size, 0, none⟩ 1 1 [_] rfl rfl (cell_one_new _ _ _) (by intro u hu; simp at hu; subst hu; exact h1c) (by unfold maxLen; omega) (by omega) (by simp; omega) ?_; intro v' w4 hown' hgrow _)))
            have hB4 : Below w.heap.size wr w4 := own_grown (Below.refl _ _) hzr HX1.out hgrow
            have hf0 : f 0 < n := hmix.lt 0 (by omega)
            have hpl : CallOk n pl := by
              have h9 := HKN.out
              subst h9
              exact HSO.out.done hf0
            have hT4 : Turn (fun b => b = tb) w w4 := ((HTU.out.trans hTr).mono (T' := fun b => b = tb ∨ w.heap.size ≤ b) fun b _ h => .inl h).trans ((Turn.of_below hB4).mono fun b _ h => .inr h) |>.mono fun b hb h => by omega
            have hT5 : TinAt w4 B tb (g' + n + 1) := ht2.keep fun b hb => (hB4.block b (by omega)).trans (HBI.out.block b (by have := ht2.lt; omega))
            have hgx : (g' + n + 1) ≤ g + 1 + (C ++ [pl]).length * (n + 2) := by
              rw [List.length_append, List.length_singleton, Nat.add_mul]
              omega
            exact ⟨⟨i - 1, (g' + n + 1), C ++ [pl], by simp; omega, by congr 1; omega, Go.Lib.hid hgx, Go.Lib.hid (CallsAt.more HX1.out hx2 hx3 hpl hlv hown' hgrow), Go.Lib.hid hT4, Go.Lib.hid hT5⟩, by simp [intOf]; omega⟩
    · have hi0 : i = 0 := by omega
      have hgt : ¬ ((i : Int) > 0) := by omega
      have HI0 := Go.Lib.hid hi0
      clear hi0
      go_wp2_with fail
      go_ret
      have h9 := HI0.out
      exact ⟨_, C, g', rfl, by omega, HG.out, HCA.out, HTU.out, HTI.out⟩

end Go.Proofs.YtoobopohohoidaaGreatDoor
