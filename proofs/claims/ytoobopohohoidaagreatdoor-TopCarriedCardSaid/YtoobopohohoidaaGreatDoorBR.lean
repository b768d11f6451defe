/- TopCarried states that no rule gives the barrows fewer jobs than the best choices fetch pieces, that the rule which knows what comes gives them just as many, and that with a barrow for each job, and calls known long enough before, nothing is late: for every input the law returns true, and the input reads as it did.
   CONDITIONS: the variable errors.errorType is laid as the program's text lays it (the card ties it). -/
import Derived.Test.YtoobopohohoidaaGreatDoorBQ
import Derived.Test.YtoobopohohoidaaGreatDoorBO
import Derived.Test.YtoobopohohoidaaGreatDoorRows
import Derived.Test.YtoobopohohoidaaGreatDoorCards
import Derived.Test.YtoobopohohoidaaGreatDoorTie
import Derived.ChangeSame
import Derived.ChangeVars
import Derived.ChangeSlices
import Derived.JoinedOf
import Derived.RowKit
import Derived.RowKitTokens
import Derived.LaidLaws
import Derived.LaidHandle
import Derived.Stop.Joined
import Derived.Carry
import Derived.SizedLaws
import Derived.SevenTiedAt
set_option linter.unusedSimpArgs false
set_option linter.unusedVariables false
namespace Go.Proofs.YtoobopohohoidaaGreatDoor
open Go.RowKit Go.Maps Go.Shelf

/-- Another rule. -/
def withR (d : HaulD) (r : Nat) : HaulD := { d with r := r }
abbrev hCr (d : HaulD) (r : Nat) : Array Value := #[.int .i64 d.P, .int .i64 d.N, .slice d.sA d.n d.sc, .slice d.cA d.m d.cc, .slice d.tA d.m d.tc, .int .i64 r, .slice d.xA d.m d.xc, .int .i64 d.nt, .int .i64 d.ld, .int .i64 d.br, .int .i64 d.t1, .int .i64 d.t2]
theorem HaulOk.withR {d : HaulD} (h : HaulOk d) {r : Nat} (hr : r < 4) : HaulOk (withR d r) := ⟨h.vault, h.truth, h.times, h.ln, h.cm, h.tm, h.mc, hr, h.nt, h.ld, h.br, h.tr⟩
theorem HaulAt.withR {d : HaulD} {B : Nat} {W : World} (h : HaulAt d B W) (r : Nat) : HaulAt (withR d r) B W := ⟨h.start, h.calls, h.truth, h.times⟩
/-- A barrow for each job, and notice. -/
def withX (d : HaulD) (r nt : Nat) : HaulD := { d with r := r, br := 4, nt := nt }
theorem HaulOk.withX {d : HaulD} (h : HaulOk d) {r : Nat} (hr : r < 4) {nt : Nat} (hn : nt ≤ 30) : HaulOk (withX d r nt) := ⟨h.vault, h.truth, h.times, h.ln, h.cm, h.tm, h.mc, hr, hn, h.ld, ⟨by show 1 ≤ 4; omega, by show 4 ≤ 4; omega⟩, h.tr⟩
theorem HaulAt.withX {d : HaulD} {B : Nat} {W : World} (h : HaulAt d B W) (r nt : Nat) : HaulAt (withX d r nt) B W := ⟨h.start, h.calls, h.truth, h.times⟩
theorem jobs_withR {d : HaulD} (hd : HaulOk d) (r : Nat) : fewN d.P d.t (maskOf d.L) ≤ (jobsD (withR d r)).length ∧ (r = 3 → (jobsD (withR d r)).length = fewN d.P d.t (maskOf d.L)) ∧ (jobsD (withR d r)).length ≤ 8 := by
  have e : (jobsD (withR d r)).length = (sim d.P (ruleS r) (ruleN r) d.t d.L).2 := jobs_len _ _ _ _ _ _
  have ht := hd.truth.lt hd.vault
  refine ⟨by rw [e]; exact rule_least hd.vault.p1 r ht hd.vault.line, fun h => by rw [e, h]; exact rule_late hd.vault.p1 ht hd.vault.line, ?_⟩
  have h1 := jobs_le d.P (ruleS r) (ruleN r) d.t d.L 0
  have h2 := hd.truth.len
  have h3 := hd.vault.calls
  exact Nat.le_trans h1 (by omega)
theorem jobs_withX (d : HaulD) (r nt : Nat) : jobsD (withX d r nt) = jobsD (withR d r) := rfl

set_option maxRecDepth 100000 in
set_option maxHeartbeats 16000000 in
theorem carried_any (A : Option Addr) (n cap : Nat) (f : Nat → Int) (w : World) (hn : n ≤ 140737488351232) (h : Ints w w.heap.size A n f) :
    Calls Tryz.prog 3 #[.slice A n cap] w fun e w' => e = .returned (.bool true) ∧ Below w.heap.size w w' := by
  have HN := Go.Lib.hid (newTin_any A n cap f w hn h)
  clear hn h
  go_enter Tryz.func3, Tryz.ntmps3
  go_wp2_with (first
    | (go_at_call 5; refine HN.out.mono ?_; rintro e w1 ⟨rfl, hB1, hz1, ht1⟩
       have HH := Go.Lib.hid (haulOf_any w.heap.size w.heap.size 0 7 w1 (by omega) (by omega) ht1)
       have HB1 := Go.Lib.hid (And.intro hB1 hz1)
       clear hB1 hz1 ht1)
    | (go_at_call 4; refine HH.out.mono ?_; rintro e w2 ⟨d, rfl, hd, hdm, hat, hT2⟩
       have HD := Go.Lib.hid (And.intro hd (And.intro hat hT2))
       clear hd hdm hat hT2))
  obtain ⟨z, hz⟩ : ∃ z, w2.heap.size = z := ⟨_, rfl⟩
  have h0 : (w2.alloc (.cells (hCr d d.r) 29)).heap[w2.heap.size]? = some (.cells (hCr d d.r) 29 (0, 0)) := heap_alloc_new w2 _
  have hBz : Below w2.heap.size w2 (w2.alloc (.cells (hCr d d.r) 29)) := (Below.refl w2.heap.size w2).alloc (Nat.le_refl _) _
  have hat := HD.out.2.1.below hBz (Nat.le_refl _)
  have hzW : (w2.alloc (.cells (hCr d d.r) 29)).heap.size = w2.heap.size + 1 := by simp
  obtain ⟨W, hW⟩ : ∃ W, w2.alloc (.cells (hCr d d.r) 29) = W := ⟨_, rfl⟩
  rw [hW] at h0 hBz hat hzW
  change Calls _ _ _ (w2.alloc (.cells (hCr d d.r) 29)) _
  rw [hW]
  clear hW
  refine (vBest_any d.P d.N d.sc w2.heap.size d.L d.C d.t d.n d.m d.sA d.cA d.tA d.cc d.tc W HD.out.1.vault HD.out.1.truth HD.out.1.ln HD.out.1.cm (by omega) hat.start hat.calls hat.truth).mono ?_
  rintro e w3 ⟨A2, c2, rfl, hB3, hI3⟩
  have HQ3 := Go.Lib.hid ((hB3.block w2.heap.size (by omega)).trans h0)
  have HB3 := Go.Lib.hid (hBz.trans (hB3.mono (by omega)))
  have HJ := Go.Lib.hid (fun r : Nat => jobs_withR HD.out.1 r)
  obtain ⟨le, hle⟩ : ∃ le, fewN d.P d.t (maskOf d.L) = le := ⟨_, rfl⟩
  rw [hle] at HJ ⊢
  have hle8 : le ≤ 8 := by have := HJ.out 0; omega
  have hdr := HD.out.1.r4
  rw [hz] at HQ3 HB3 HD ⊢
  clear h0 hBz hat hzW hB3 hI3 hle
  go_wp2_with fail
  go_loopw [7] (fun iv wr => ∃ (r rr : Nat), r ≤ 4 ∧ rr < 4 ∧ iv = .int .i64 r ∧ Hid (wr.heap[z]? = some (.cells (hCr d rr) 29 (0, 0))) ∧ Hid (Below z w2 wr)) (fun iv _ => 4 - (intOf iv).toNat)
  case atStart => exact ⟨0, d.r, by omega, hdr, rfl, HQ3, HB3⟩
  case round =>
    obtain ⟨r, rr, hr4, hrr, rfl, HQR, HBR⟩ := hrel
    have cq := cells_of HQR.out
    have fq : ∀ o, wr.frozen? ⟨z, o, none⟩ = false := fun o => freeH HQR.out o
    by_cases hlt : r < 4
    · go_wp2_with fail
      have hQ5 : (wr.setCell ⟨z, 5, none⟩ (.int .i64 r)).heap[z]? = some (.cells (hCr d r) 29 (0, 0)) := setH HQR.out 5 (.int .i64 r)
      have hT5 : Turn (fun b => b = z) wr (wr.setCell ⟨z, 5, none⟩ (.int .i64 r)) := Turn.of_but ((But.refl z wr).set 5 _)
      obtain ⟨W5, hW5⟩ : ∃ W5, wr.setCell ⟨z, 5, none⟩ (.int .i64 r) = W5 := ⟨_, rfl⟩
      rw [hW5] at hQ5 hT5 ⊢
      clear hW5 cq fq
      have hat5 : HaulAt d z W5 := by
        have h := HD.out.2.1
        exact (h.below HBR.out (Nat.le_refl _)).keep fun b hb => hT5.block b (by have := HBR.out.size; omega) (by omega)
      have hz5 : z < W5.heap.size := (Array.getElem?_eq_some_iff.1 hQ5).1
      have hBz5 : Below z w2 W5 := HBR.out.trans (hT5.below (fun b hb h => by omega) (by have := HBR.out.size; omega))
      refine (bJobs_any (withR d r) z W5 (HD.out.1.withR hlt) (by omega) (hat5.withR r)).mono ?_
      rintro e w6 ⟨A6, c6, rfl, hI6, hB6⟩
      have HL := HJ.out r
      have hjx : ∀ nt, jobsD (withX d r nt) = jobsD (withR d r) := fun nt => jobs_withX d r nt
      have HJX := Go.Lib.hid hjx
      clear hjx
      obtain ⟨k, hk⟩ : ∃ k, (jobsD (withR d r)).length = k := ⟨_, rfl⟩
      rw [hk] at HL ⊢
      obtain ⟨hl1, hl2, hl3⟩ := HL
      have HK := Go.Lib.hid hk
      have HQ6 := Go.Lib.hid ((hB6.block z hz5).trans hQ5)
      have HB6 := Go.Lib.hid (And.intro (hat5.below hB6 (by omega)) (And.intro (hBz5.trans (hB6.mono (by omega))) hz5))
      have HBW := Go.Lib.hid hB6
      have hz6 := hB6.size
      clear hQ5 hT5 hat5 hBz5 hI6 hB6 hk
      have cq := cells_of HQ6.out
      have fq : ∀ o, w6.frozen? ⟨z, o, none⟩ = false := fun o => freeH HQ6.out o
      by_cases h3 : r = 3
      · have hl4 := hl2 h3
        subst h3
        by_cases hk4 : k ≤ 4
        · go_wp2_with fail
          have x0 := heap_alloc_new w6 (.cells (hCr d 3) 29)
          have x1 := heap_old (.cells (hCr d 3) 29) HQ6.out
          have hTx : ∀ T, Turn T w6 (w6.alloc (.cells (hCr d 3) 29)) := fun T => (Turn.refl T w6).alloc _
          have hzx : (w6.alloc (.cells (hCr d 3) 29)).heap.size = w6.heap.size + 1 := by simp
          obtain ⟨Wx, hWx⟩ : ∃ Wx, w6.alloc (.cells (hCr d 3) 29) = Wx := ⟨_, rfl⟩
          change Code.wp _ _ _ _ (w6.alloc (.cells (hCr d 3) 29))
          rw [hWx] at x0 x1 hTx hzx ⊢
          clear hWx cq fq
          obtain ⟨y, hy⟩ : ∃ y, w6.heap.size = y := ⟨_, rfl⟩
          rw [hy] at x0 hzx ⊢
          have cn : Wx.cell? ⟨z, 7, none⟩ = some (.int .i64 d.nt) := cellH x1 7
          have ct : Wx.cell? ⟨z, 11, none⟩ = some (.int .i64 d.t2) := cellH x1 11
          have ca : Wx.cell? ⟨y, 7, none⟩ = some (.int .i64 d.nt) := cellH x0 7
          have cb : Wx.cell? ⟨y, 9, none⟩ = some (.int .i64 d.br) := cellH x0 9
          have fy : ∀ o, Wx.frozen? ⟨y, o, none⟩ = false := fun o => freeH x0 o
          have HX := Go.Lib.hid (And.intro x0 (And.intro x1 hTx))
          have hyz : z ≠ y := by omega
          clear x0 x1 hTx
          go_region
          obtain ⟨m, hm⟩ : ∃ m, max d.nt d.t2 = m := ⟨_, rfl⟩
          have hmi : (if d.nt < d.t2 then (d.t2 : Int) else (d.nt : Int)) = (m : Int) := by rw [← hm]; split <;> omega
          have htr := HD.out.1.tr
          have hnt := HD.out.1.nt
          have hm30 : m ≤ 30 ∧ d.t2 ≤ m := by omega
          rw [hmi]
          clear hm hmi cn ct ca cb fy
          have hx2 : ((Wx.setCell ⟨y, 9, none⟩ (.int .i64 4)).setCell ⟨y, 7, none⟩ (.int .i64 m)).drew.heap[y]? = some (.cells (hC (withX d 3 m)) 29 (0, 0)) := setH (setH HX.out.1 9 (.int .i64 4)) 7 (.int .i64 m)
          have hTX : Turn (fun b => b = y) Wx ((Wx.setCell ⟨y, 9, none⟩ (.int .i64 4)).setCell ⟨y, 7, none⟩ (.int .i64 m)).drew := (Turn.of_but (((But.refl y Wx).set 9 _).set 7 _)).trans ((Turn.refl _ _).drew)
          obtain ⟨X2, hX2⟩ : ∃ X2, ((Wx.setCell ⟨y, 9, none⟩ (.int .i64 4)).setCell ⟨y, 7, none⟩ (.int .i64 m)).drew = X2 := ⟨_, rfl⟩
          rw [hX2] at hx2 hTX ⊢
          clear hX2
          have hx2z := hTX.heap HX.out.2.1 (by omega)
          have hTX6 : Turn (fun b => w6.heap.size ≤ b) w6 X2 := (HX.out.2.2 _).trans (hTX.mono fun b _ h => by omega)
          have hzX := hTX6.size
          have hat2 := HB6.out.1.keep (W' := X2) fun b hb => hTX6.block b (by omega) (by omega)
          have HCT := Go.Lib.hid (bCount_any (withX d 3 m) d.t2 z X2 (HD.out.1.withX hlt hm30.1) rfl ⟨by omega, by omega⟩ hm30.2 (by rw [HJX.out, HK.out]; exact hk4) (by omega) (hat2.withX 3 m))
          have HQX := Go.Lib.hid hx2z
          have HYX := Go.Lib.hid hx2
          have HBX := Go.Lib.hid (HB6.out.2.1.trans (hTX6.below (fun b hb h => by omega) (by omega)))
          have cz : X2.cell? ⟨z, 11, none⟩ = some (.int .i64 d.t2) := cellH hx2z 11
          clear hx2 hTX hx2z hTX6 hat2 htr hnt hm30
          go_wp2_with (first
            | (with_reducible refine wpList_load_whole rfl 29 (.tmp 10) rfl y rfl HYX.out Tryz.underlying29 rfl (by kernel_rfl) ?_)
            | (go_at_call 8; refine HCT.out.mono ?_; rintro e w9 ⟨v, rfl, hv, hB9⟩
               have HQ9 := Go.Lib.hid ((hB9.block z (by omega)).trans HQX.out)
               have HB9 := Go.Lib.hid (HBX.out.trans (hB9.mono (by omega)))
               have hvi : ¬ (v : Int) < 1 := by omega
               clear hB9 cz))
          exact ⟨⟨3 + 1, 3, by omega, by omega, rfl, HQ9, HB9⟩, by simp [intOf]⟩
        · go_wp2_with fail
          exact ⟨⟨3 + 1, 3, by omega, by omega, rfl, HQ6, Go.Lib.hid HB6.out.2.1⟩, by simp [intOf]⟩
      · have h3i : ¬ (r : Int) = 3 := by omega
        by_cases hk4 : k ≤ 4
        · go_wp2_with fail
          have x0 := heap_alloc_new w6 (.cells (hCr d r) 29)
          have x1 := heap_old (.cells (hCr d r) 29) HQ6.out
          have hTx : ∀ T, Turn T w6 (w6.alloc (.cells (hCr d r) 29)) := fun T => (Turn.refl T w6).alloc _
          have hzx : (w6.alloc (.cells (hCr d r) 29)).heap.size = w6.heap.size + 1 := by simp
          obtain ⟨Wx, hWx⟩ : ∃ Wx, w6.alloc (.cells (hCr d r) 29) = Wx := ⟨_, rfl⟩
          change Code.wp _ _ _ _ (w6.alloc (.cells (hCr d r) 29))
          rw [hWx] at x0 x1 hTx hzx ⊢
          clear hWx cq fq
          obtain ⟨y, hy⟩ : ∃ y, w6.heap.size = y := ⟨_, rfl⟩
          rw [hy] at x0 hzx ⊢
          have cn : Wx.cell? ⟨z, 7, none⟩ = some (.int .i64 d.nt) := cellH x1 7
          have ct : Wx.cell? ⟨z, 11, none⟩ = some (.int .i64 d.t2) := cellH x1 11
          have ca : Wx.cell? ⟨y, 7, none⟩ = some (.int .i64 d.nt) := cellH x0 7
          have cb : Wx.cell? ⟨y, 9, none⟩ = some (.int .i64 d.br) := cellH x0 9
          have fy : ∀ o, Wx.frozen? ⟨y, o, none⟩ = false := fun o => freeH x0 o
          have HX := Go.Lib.hid (And.intro x0 (And.intro x1 hTx))
          have hyz : z ≠ y := by omega
          clear x0 x1 hTx
          go_region
          obtain ⟨m, hm⟩ : ∃ m, max d.nt d.t2 = m := ⟨_, rfl⟩
          have hmi : (if d.nt < d.t2 then (d.t2 : Int) else (d.nt : Int)) = (m : Int) := by rw [← hm]; split <;> omega
          have htr := HD.out.1.tr
          have hnt := HD.out.1.nt
          have hm30 : m ≤ 30 ∧ d.t2 ≤ m := by omega
          rw [hmi]
          clear hm hmi cn ct ca cb fy
          have hx2 : ((Wx.setCell ⟨y, 9, none⟩ (.int .i64 4)).setCell ⟨y, 7, none⟩ (.int .i64 m)).drew.heap[y]? = some (.cells (hC (withX d r m)) 29 (0, 0)) := setH (setH HX.out.1 9 (.int .i64 4)) 7 (.int .i64 m)
          have hTX : Turn (fun b => b = y) Wx ((Wx.setCell ⟨y, 9, none⟩ (.int .i64 4)).setCell ⟨y, 7, none⟩ (.int .i64 m)).drew := (Turn.of_but (((But.refl y Wx).set 9 _).set 7 _)).trans ((Turn.refl _ _).drew)
          obtain ⟨X2, hX2⟩ : ∃ X2, ((Wx.setCell ⟨y, 9, none⟩ (.int .i64 4)).setCell ⟨y, 7, none⟩ (.int .i64 m)).drew = X2 := ⟨_, rfl⟩
          rw [hX2] at hx2 hTX ⊢
          clear hX2
          have hx2z := hTX.heap HX.out.2.1 (by omega)
          have hTX6 : Turn (fun b => w6.heap.size ≤ b) w6 X2 := (HX.out.2.2 _).trans (hTX.mono fun b _ h => by omega)
          have hzX := hTX6.size
          have hat2 := HB6.out.1.keep (W' := X2) fun b hb => hTX6.block b (by omega) (by omega)
          have HCT := Go.Lib.hid (bCount_any (withX d r m) d.t2 z X2 (HD.out.1.withX hlt hm30.1) rfl ⟨by omega, by omega⟩ hm30.2 (by rw [HJX.out, HK.out]; exact hk4) (by omega) (hat2.withX r m))
          have HQX := Go.Lib.hid hx2z
          have HYX := Go.Lib.hid hx2
          have HBX := Go.Lib.hid (HB6.out.2.1.trans (hTX6.below (fun b hb h => by omega) (by omega)))
          have cz : X2.cell? ⟨z, 11, none⟩ = some (.int .i64 d.t2) := cellH hx2z 11
          clear hx2 hTX hx2z hTX6 hat2 htr hnt hm30
          go_wp2_with (first
            | (with_reducible refine wpList_load_whole rfl 29 (.tmp 10) rfl y rfl HYX.out Tryz.underlying29 rfl (by kernel_rfl) ?_)
            | (go_at_call 8; refine HCT.out.mono ?_; rintro e w9 ⟨v, rfl, hv, hB9⟩
               have HQ9 := Go.Lib.hid ((hB9.block z (by omega)).trans HQX.out)
               have HB9 := Go.Lib.hid (HBX.out.trans (hB9.mono (by omega)))
               have hvi : ¬ (v : Int) < 1 := by omega
               clear hB9 cz))
          exact ⟨⟨r + 1, r, by omega, hlt, by go_num, HQ9, HB9⟩, by simp [intOf]; omega⟩
        · go_wp2_with fail
          exact ⟨⟨r + 1, r, by omega, hlt, by go_num, HQ6, Go.Lib.hid HB6.out.2.1⟩, by simp [intOf]; omega⟩
    · have e4 : r = 4 := by omega
      subst e4
      clear cq fq
      go_wp2_with (go_at_call 9; refine (carriedAwake_any _).mono ?_; rintro e w9 ⟨rfl, hB9⟩)
      go_ret
      have hz1 := HB1.out.2
      have hb1 := HB1.out.1
      have hb2 : Below w.heap.size w w2 := hb1.trans (HD.out.2.2.below (fun b hb h => by omega) (by omega))
      exact ⟨rfl, hb2.trans ((HBR.out.mono (by have := hb2.size; omega)).trans (hB9.mono (by have := hb2.size; have := HBR.out.size; omega)))⟩

end Go.Proofs.YtoobopohohoidaaGreatDoor

namespace Go.Proofs.YtoobopohohoidaaGreatDoor
open Go.ChangeShapes Go.WideShapes Go.RowKit

theorem ownKnobNone : ownKnob Tryz.prog.godebug = none := by kernel_rfl
theorem laidOutAll : laidOutB Tryz.prog = true := by kernel_rfl
theorem bytesInt : Tryz.prog.bytesOf 3 = 8 := by kernel_rfl
theorem cellsInt : Tryz.prog.cellsOf 3 = 1 := by kernel_rfl

/-- A world that meets the condition. -/
noncomputable def laidWorld (os : Os) : World :=
  let w0 := World.holding Tryz.prog os ⟨#[], #[], []⟩
  { w0 with heap := w0.heap.modify 0 fun
      | .cells _ t frozen => .cells #[.iface 184 (.agg #[.pointer (some ⟨1, 91, none⟩)])] t frozen
      | o => o }
theorem laidWorld_met (os : Os) (args : Array Value) : laidMetH Tryz.prog [("errors.errorType", Rows.laid_errors_errorType)] ((laidWorld os).forCall (fun _ _ => 0) ⟨#[], args, []⟩).memory :=
  laidMetH_of_parts (laidMet_nil _ _) (by kernel_rfl)

theorem none_calls (w : World) : Calls Tryz.prog 3 #[.slice none 0 0] w fun e w' => e = .returned (.bool true) ∧ Below w.heap.size w w' :=
  carried_any none 0 0 (fun _ => 0) w (by omega) (fun h => absurd h (by omega))

set_option maxRecDepth 100000 in
theorem carried_lifted (os : Os) (started : os.Started) (H : Type) (enc : TypeId × Value → H) :
    ReturnsInHanded {} Tryz.checked os 3 .any (fun w args => (Rows.topCarriedSpec.pre enc Tryz.prog Tryz.f3 [] false w args ∧ laidMetH Tryz.prog [("errors.errorType", Rows.laid_errors_errorType)] w) ∧ sizedMet enc Tryz.prog Tryz.f3 (OpenSpec.ofChange Rows.topCarriedSpec) false w args)
      (Rows.topCarriedSpec.post enc Tryz.prog Tryz.f3 false true false false) := by
  refine returnsInHanded_of_change_and (C := Tryz.checked) (X := fun w _ => laidMetH Tryz.prog [("errors.errorType", Rows.laid_errors_errorType)] w) (fun _ _ _ hh h => h.of_heap hh) ownKnobNone started (by kernel_rfl) Tryz.func3
    (ChangeSpec.witness_at (enc := enc) (C := Tryz.checked) (os := os) (X := fun w _ => laidMetH Tryz.prog [("errors.errorType", Rows.laid_errors_errorType)] w) false (laidWorld os) #[.slice none 0 0] 8 rfl (by kernel_rfl) (by kernel_rfl) (by kernel_rfl) (by kernel_rfl) (by kernel_rfl) (laidWorld_met os _)) ?_
  intro W base args ds gs before hval0 hW _ hsz0 hL _
  have hsz : (DataW.weightsEach Tryz.prog (Tryz.f3.params.toList ++ Rows.topCarriedSpec.plain.varTypes Tryz.prog) (ds ++ gs)).all (· ≤ reachBytes) = true := hsz0
  clear hsz0
  have hval : ∀ (j : Nat) t v, Tryz.f3.params[j]? = some t → args[j]? = some v → Value.okWide Tryz.prog W .any base t v := hval0
  have hW' := hW
  obtain ⟨p, q, hA0, hV0, rfl, hfz, hnd⟩ := hW
  have hA : DataW.TrodAll enc Tryz.prog W 0 (fun _ => true) true Tryz.f3.params.toList args.toList ds p := hA0
  have hV : DataW.TrodVars enc Tryz.prog W (fun _ => true) [] gs q := hV0
  rw [Tryz.params3] at hA hval hsz
  obtain ⟨v0, d0, rfl, rfl, h0⟩ := trodAll_one hA
  obtain ⟨rfl, rfl⟩ : gs = [] ∧ q = [] := by
    cases gs with
    | nil => exact ⟨rfl, hV⟩
    | cons g r => exact absurd hV (by intro h; cases h)
  obtain ⟨a0, len, cap, rfl⟩ := okWide_slice Tryz.underlying22 (hval 0 22 v0 rfl rfl)
  have h0k := h0
  obtain ⟨fuel, hf⟩ := h0
  simp only [List.append_nil] at hW'
  have hlt : ∀ x ∈ p, x.block < W.heap.size := fun x hx => by simpa using hW'.lt x hx
  have hargs : ∀ (W' : World), Below W.heap.size W W' → DataW.Trod enc Tryz.prog W' 0 (fun b => decide (b < W.heap.size)) true 22 (.slice a0 len cap) d0 p :=
    fun W' hn => Below.trod laidOutAll (by kernel_rfl) (of_decide_eq_true (by kernel_rfl)) h0k hn hlt
  have hcalls : Calls Tryz.prog 3 #[.slice a0 len cap] W fun e w' => e = .returned (.bool true) ∧ Below W.heap.size W w' := by
    rcases open_ints Tryz.underlying22 Tryz.underlying3 cellsInt hf with ⟨hcs, hx⟩ | ⟨a, len', cap', zs, hcs, _, hl, hm, hz, hx, hcell, hwz⟩
    · simp [Value.cells] at hcs
      obtain ⟨rfl, rfl, rfl⟩ := hcs
      exact none_calls W
    · simp [Value.cells] at hcs
      obtain ⟨rfl, rfl, rfl⟩ := hcs
      simp only [Prod.mk.injEq] at hx
      obtain ⟨rfl, rfl⟩ := hx
      simp only [if_true] at hz
      refine carried_any (some a) len cap (fun j => zs.getD j 0) W ?_ (fun h0 => ⟨a, rfl, ?_, fun j hj => hcell j (by omega)⟩)
      · have := sized_slice hsz (j := 0) (t := 22) (e := 3) rfl rfl Tryz.underlying22
        rw [bytesInt] at this
        simp only [lits, List.length_map, List.length_take, List.length_drop, reachBytes] at this
        omega
      · obtain ⟨b, off, spot⟩ := a
        exact hlt (.cell b off) (MemPlace.mem_row.2 ⟨0, by omega, by simp⟩)
  have e1 : Rows.topCarriedSpec.fn H ([d0] ++ []) = { results := [.lit (.bool true)], args := [d0] } := by simp [Rows.topCarriedSpec]
  refine hcalls.mono fun e W' ⟨he, hB⟩ => ?_
  subst he
  refine ⟨_, rfl, _, _, _, [], p, [], hW', ?_, ?_, ?_, hB.frame _, fun h => by cases h⟩
  · rw [e1]; exact trodAll_mk1 (shut_bool Tryz.underlying4 true)
  · rw [e1]; exact trodAll_mk1 (hargs W' hB)
  · rw [e1]; rfl

theorem topCarried_said : Rows.TopCarriedSaid :=
  OpenClaim.holds_of_wide 3 Tryz.f3 rfl rfl rfl rfl rfl rfl rfl ⟨rfl, rfl, rfl, rfl, rfl⟩ rfl rfl rfl rfl rfl (by kernel_rfl) Tryz.func3 (by kernel_rfl)
    (of_decide_eq_true (by kernel_rfl)) (by unfold Func.isWrapper; rw [if_neg (of_decide_eq_false (by kernel_rfl))]; exact ⟨rfl, rfl⟩)
    (fun os started H enc _ => carried_lifted os started H enc)

theorem topCarried_card : Rows.TopCarriedCardSaid :=
  Claim7.holds_tied_plain_at .later [] [.handle] true _ true
    topCarried_said (fun _ h => by cases h) (by kernel_rfl) (fun _ h => by cases h) topCarried_row_tie rfl ⟨rfl, rfl⟩ (by kernel_rfl) rfl
    (fun f fn hf hfn => by
      obtain rfl : f = 3 := Option.some.inj ((show Tryz.prog.funcNamed "gladstone/gladstonetop.TopCarried" = some 3 by kernel_rfl).symm.trans hf) |>.symm
      obtain rfl : fn = Tryz.f3 := (Option.some.inj (Tryz.func3.symm.trans hfn)).symm
      exact ⟨by kernel_rfl, fun j t ht => by
        rw [Tryz.params3] at ht
        have h3 : t = 22 := by
          rcases j with _ | j
          · simpa using ht.symm
          · simp at ht
        subst h3
        exact (show Tryz.prog.wantsStandIn 22 = false by kernel_rfl)⟩)
    (by kernel_rfl)

end Go.Proofs.YtoobopohohoidaaGreatDoor
