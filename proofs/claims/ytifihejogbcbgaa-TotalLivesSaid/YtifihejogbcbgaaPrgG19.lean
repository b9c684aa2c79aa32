/- The program's Check and Cells: in every world. -/
import Derived.Test.YtifihejogbcbgaaFee
import Derived.Test.YtifihejogbcbgaaPrg16
import Derived.Test.YtifihejogbcbgaaPrgA17
import Derived.Test.YtifihejogbcbgaaPrgF19
import Derived.Test.YtifihejogbcbgaaRefD19
import Derived.Test.YtifihejogbcbgaaRefE19
namespace Go.Proofs.Ytifihejogbcbgaa
open Go.RowKit

set_option maxRecDepth 100000 in
set_option maxHeartbeats 8000000 in
theorem pcheck19_any (a1 a2 a3 a4 : Option Addr) (c1 c2 c3 c4 : Nat) (ks cs fs : List Int) (l : List Row18) (w : World) (h1 : Ints w.heap.size w a1 ks) (h2 : Ints w.heap.size w a2 cs) (h3 : Ints w.heap.size w a3 fs) (h4 : RowsIn w.heap.size w a4 l)
    (n1 : ks.length ≤ 1000000) (_ : cs.length ≤ 1000000) (n3 : fs.length ≤ 1000000) (n4 : l.length ≤ 1000000) :
    Calls Try.prog 16 #[rulesVal a1 a2 a3 a4 ks.length c1 cs.length c2 fs.length c3 l.length c4] w fun e w' => e = .returned (.int .i64 (rulesE ks cs fs l)) ∧ Below w.heap.size w w' := by
  obtain ⟨W0, hW0⟩ : ∃ W, W = w.alloc (.cells #[.slice a1 ks.length c1, .slice a2 cs.length c2, .slice a3 fs.length c3, .slice a4 l.length c4] 25) := ⟨_, rfl⟩
  have hb0 : Below w.heap.size w W0 := by rw [hW0]; exact lit16 w _
  have k0 := heap_alloc_new w (.cells #[.slice a1 ks.length c1, .slice a2 cs.length c2, .slice a3 fs.length c3, .slice a4 l.length c4] 25)
  rw [← hW0] at k0
  have HB0 := Lib.hid hb0
  have HS : Hid (∀ V, Below W0.heap.size W0 V → V.cell? ⟨w.heap.size, 0, none⟩ = some (.slice a1 ks.length c1) ∧ V.cell? ⟨w.heap.size, 1, none⟩ = some (.slice a2 cs.length c2) ∧ V.cell? ⟨w.heap.size, 2, none⟩ = some (.slice a3 fs.length c3) ∧ V.cell? ⟨w.heap.size, 3, none⟩ = some (.slice a4 l.length c4)) := Lib.hid fun V hV => by
    have k1 := old_obj hV k0
    exact ⟨cell_of (j := 0) k1 rfl, cell_of (j := 1) k1 rfl, cell_of (j := 2) k1 rfl, cell_of (j := 3) k1 rfl⟩
  have HG : Hid (∀ V, Below W0.heap.size W0 V → Calls Try.prog 12 #[.slice a4 l.length c4] V fun e w' => e = .returned (.bool (!gapB l)) ∧ Below V.heap.size V w') := Lib.hid fun V h => pwhole19_any a4 c4 l V (rowsIn_step (rowsIn_step h4 hb0) h) n4
  have HQ : Hid (∀ V, Below W0.heap.size W0 V → Calls Try.prog 31 #[.slice a1 ks.length c1] V fun e w' => e = .returned (.int .i64 (asksE ks)) ∧ Below V.heap.size V w') := Lib.hid fun V h => (pcheck16_any a1 c1 ks _ V ((h1.below (hb0.trans (h.mono hb0.size))).up (hb0.trans (h.mono hb0.size)).size) n1).mono (by rintro e w' ⟨rfl, rfl⟩; exact ⟨rfl, Below.refl _ _⟩)
  have HC : Hid (∀ V, Below W0.heap.size W0 V → Calls Try.prog 32 #[.slice a2 cs.length c2] V fun e w' => e = .returned (.int .i64 (cutsE cs)) ∧ Below V.heap.size V w') := Lib.hid fun V h => (pcheck17_any a2 c2 cs _ V ((h2.below (hb0.trans (h.mono hb0.size))).up (hb0.trans (h.mono hb0.size)).size)).mono (by rintro e w' ⟨rfl, m, rfl⟩; exact ⟨rfl, drawn_below (Below.refl _ _) m⟩)
  have HF : Hid (∀ V, Below W0.heap.size W0 V → Calls Try.prog 33 #[.slice a3 fs.length c3] V fun e w' => e = .returned (.int .i64 (checkE fs)) ∧ Below V.heap.size V w') := Lib.hid fun V h => (fcheck_any a3 c3 fs V (by omega) ((h3.below (hb0.trans (h.mono hb0.size))).up (hb0.trans (h.mono hb0.size)).size))
  have HE : Hid (∀ x, rulesB ks cs fs l = x → rulesE ks cs fs l = if x = true then 36 else 0) := Lib.hid fun x h => by unfold rulesE; rw [h]
  have HB : Hid (rulesB ks cs fs l = (asksE ks != 0 || cutsE cs != 0 || checkE fs != 0 || gapB l)) := Lib.hid rfl
  have ha := asks_two ks
  have hc := cuts_two cs
  have hf := check_two fs
  clear h1 h2 h3 h4 hb0 k0
  unfold rulesVal
  generalize rulesE ks cs fs l = E at *
  generalize rulesB ks cs fs l = B at *
  generalize asksE ks = x1 at *
  generalize cutsE cs = x2 at *
  generalize checkE fs = x3 at *
  generalize gapB l = gp at *
  go_enter Try.func16, Try.ntmps16
  go_upto_region 1 with fail
  rw [← hW0]
  clear hW0
  obtain ⟨p0, p1, p2, p3⟩ := HS.out _ (Below.refl _ _)
  have BX := Lib.hid (Below.refl W0.heap.size W0)
  have HV := Lib.hid (HE.out _ HB.out)
  clear HE HB
  rcases ha with rfl | rfl <;> rcases hc with rfl | rfl <;> rcases hf with rfl | rfl <;> cases gp
  all_goals
    go_wp2_with (first
      | (go_at_call 31; refine (HQ.out _ BX.out).mono ?_; rintro e w5 ⟨rfl, hb⟩; have BY := Lib.hid (BX.out.trans (hb.mono BX.out.size)); clear BX hb; have BX := BY; clear BY; obtain ⟨p0, p1, p2, p3⟩ := HS.out _ BX.out)
      | (go_at_call 32; refine (HC.out _ BX.out).mono ?_; rintro e w6 ⟨rfl, hb⟩; have BY := Lib.hid (BX.out.trans (hb.mono BX.out.size)); clear BX hb; have BX := BY; clear BY; obtain ⟨p0, p1, p2, p3⟩ := HS.out _ BX.out)
      | (go_at_call 33; refine (HF.out _ BX.out).mono ?_; rintro e w7 ⟨rfl, hb⟩; have BY := Lib.hid (BX.out.trans (hb.mono BX.out.size)); clear BX hb; have BX := BY; clear BY; obtain ⟨p0, p1, p2, p3⟩ := HS.out _ BX.out)
      | (go_at_call 12; refine (HG.out _ BX.out).mono ?_; rintro e w8 ⟨rfl, hb⟩; have BY := Lib.hid (BX.out.trans (hb.mono BX.out.size)); clear BX hb; have BX := BY; clear BY; obtain ⟨p0, p1, p2, p3⟩ := HS.out _ BX.out))
    go_ret
    exact ⟨by rw [HV.out]; rfl, HB0.out.trans (BX.out.mono HB0.out.size)⟩
theorem index19 (ad : Nat → Option Addr) (cs : Nat → Nat) (R : Nat → List Row18) {c : Nat} (hc : c < 8) (w : World) : (Instr.index 61 (.agg (sl8 ad cs R)) (.int .i64 (c : Int))).run Try.prog w = .ok (.slice (ad c) (R c).length (cs c)) w := by
  rcases (by omega : c = 0 ∨ c = 1 ∨ c = 2 ∨ c = 3 ∨ c = 4 ∨ c = 5 ∨ c = 6 ∨ c = 7) with rfl | rfl | rfl | rfl | rfl | rfl | rfl | rfl
  all_goals kernel_rfl
theorem cnt19_set (l : List Row18) {c : Nat} (hc : c < 8) : (cnt19 l c 0).setIfInBounds c (.int .i64 (cellTo l c l.length : Nat)) = cnt19 l (c + 1) 0 := by
  rcases (by omega : c = 0 ∨ c = 1 ∨ c = 2 ∨ c = 3 ∨ c = 4 ∨ c = 5 ∨ c = 6 ∨ c = 7) with rfl | rfl | rfl | rfl | rfl | rfl | rfl | rfl <;> simp [cnt19, eight19, cntAt19, cellTo]
set_option maxRecDepth 100000 in
set_option maxHeartbeats 8000000 in
theorem pcells19_any (a : Option Addr) (cap : Nat) (l : List Row18) (w : World) (hx : RowsIn w.heap.size w a l) (hn : l.length ≤ 1000000) :
    Calls Try.prog 10 #[.slice a l.length cap] w fun e w' => e = .returned (.tuple #[.agg #[.int .i64 (cellV l 0), .int .i64 (cellV l 1), .int .i64 (cellV l 2), .int .i64 (cellV l 3), .int .i64 (cellV l 4), .int .i64 (cellV l 5), .int .i64 (cellV l 6), .int .i64 (cellV l 7)], .int .i64 (tabE l)]) ∧ Below w.heap.size w w' := by
  have HX := Lib.hid hx
  have HC : Hid (∀ W, Below w.heap.size w W → Calls Try.prog 18 #[.slice a l.length cap] W fun e w' => e = .returned (.int .i64 (tabE l)) ∧ Below W.heap.size W w') := Lib.hid fun W h => pcheck18_any a cap l W (rowsIn_step HX.out h) hn
  by_cases hT : ¬ TabOk l
  · have HV := Lib.hid (cellv_no hT)
    rw [tab_no hT] at HC ⊢
    clear hx hT
    rw [HV.out 0, HV.out 1, HV.out 2, HV.out 3, HV.out 4, HV.out 5, HV.out 6, HV.out 7]
    go_enter Try.func10, Try.ntmps10
    go_upto_region 3 with (go_at_call 18; refine (HC.out _ (zeros19 w).below).mono ?_; rintro e w2 ⟨rfl, hb⟩; have h0 := (zeros19 w).step hb; clear hb)
    obtain ⟨⟨c0, c1, c2, c3, c4, c5, c6, c7⟩, _⟩ := eight_cells19 h0.now
    obtain ⟨⟨d0, d1, d2, d3, d4, d5, d6, d7⟩, f0, f1, f2, f3, f4, f5, f6, f7⟩ := eight_cells19 h0.out
    have H0 := Lib.hid h0
    clear h0
    go_wp2
    refine bodyPost_ret (results_row19 rfl _ _ w.heap.size _ _ _ _ _ _ _ _ _ _ rfl (stored19 H0.out.out)) rfl ?_
    exact ⟨rfl, below19 H0.out.below (Nat.le_refl _) _ _ _ _ _ _ _ _⟩
  have hT := Decidable.not_not.1 hT
  have HV := Lib.hid (cellv_yes hT)
  rw [tab_yes hT] at HC
  have h20 := hT.2.1
  rw [HV.out 0, HV.out 1, HV.out 2, HV.out 3, HV.out 4, HV.out 5, HV.out 6, HV.out 7]
  have HE : Hid (tabE l = 0) := Lib.hid (by unfold tabE; rw [if_pos hT])
  rw [HE.out]
  have HY : Hid (∀ W, Below w.heap.size w W → Calls Try.prog 28 #[.slice a l.length cap] W fun e w' => ∃ (a0 a1 a2 a3 a4 a5 a6 a7 : Option Addr) (n0 n1 n2 n3 n4 n5 n6 n7 : Nat) (k0 k1 k2 k3 k4 k5 k6 k7 : Nat), e = .returned (.agg #[.slice a0 n0 k0, .slice a1 n1 k1, .slice a2 n2 k2, .slice a3 n3 k3, .slice a4 n4 k4, .slice a5 n5 k5, .slice a6 n6 k6, .slice a7 n7 k7]) ∧ (∃ ad cs, (sl8 ad cs fun c => rowsTo l c l.length) = #[.slice a0 n0 k0, .slice a1 n1 k1, .slice a2 n2 k2, .slice a3 n3 k3, .slice a4 n4 k4, .slice a5 n5 k5, .slice a6 n6 k6, .slice a7 n7 k7] ∧ ∀ c, c < 8 → Els rowElt 0 w'.heap.size w' (ad c) (rowsTo l c l.length) ∧ (rowsTo l c l.length).length ≤ cs c) ∧ Below W.heap.size W w') := Lib.hid fun W h => pbycell19_lit a cap l W (rowsIn_step HX.out h) (by omega)
  clear hx hT
  go_enter Try.func10, Try.ntmps10
  go_upto_region 5 with (go_at_call 18; refine (HC.out _ (zeros19 w).below).mono ?_; rintro e w2 ⟨rfl, hb⟩; have h0 := (zeros19 w).step hb; clear hb)
  rw [← cnt19_start l] at h0
  have H0 := Lib.hid h0
  clear h0
  go_wp2_with (go_at_call 28; refine (HY.out _ H0.out.below).mono ?_; rintro e w4 ⟨a0, a1, a2, a3, a4, a5, a6, a7, n0, n1, n2, n3, n4, n5, n6, n7, k0, k1, k2, k3, k4, k5, k6, k7, rfl, ⟨ad, cs, hl, _⟩, hb⟩; have H4 := Lib.hid (H0.out.step hb); have HIX : Hid (∀ c : Nat, c < 8 → ∀ V, (Instr.index 61 (.agg #[.slice a0 n0 k0, .slice a1 n1 k1, .slice a2 n2 k2, .slice a3 n3 k3, .slice a4 n4 k4, .slice a5 n5 k5, .slice a6 n6 k6, .slice a7 n7 k7]) (.int .i64 (c : Int))).run Try.prog V = .ok (.slice (ad c) (cellTo l c l.length) (cs c)) V) := Lib.hid (fun c hc V => by rw [← hl, index19 _ _ _ hc V, rows_len]); clear hl hb H0)
  go_loopw [16] (fun s16 wr => ∃ c : Nat, s16 = .int .i64 c ∧ c ≤ 8 ∧ Hid (Cnt19 w wr (w.heap.size + 1) (cnt19 l c 0))) (fun s16 _ => 8 - (intOf s16).toNat)
  case atStart => exact ⟨0, rfl, Nat.zero_le _, H4⟩
  case round =>
    clear H4
    obtain ⟨c, rfl, hc, HN⟩ := hrel
    by_cases hcl : c < 8
    · have j1 : decide ((c : Int) < 8) = true := decide_eq_true (by omega)
      have hc1 : c + 1 ≤ 8 := hcl
      have g1 : (c : Int) < 8 := by omega
      have g0 : (0 : Int) ≤ (c : Int) := by omega
      have hix := HIX.out c hcl
      have d0 := cell_of HN.out.now (cnt19_has l 0 hcl)
      have fz := frozen_of_row wr (w.heap.size + 1) c _ _ HN.out.now
      have HN5 : Hid (Cnt19 w (wr.setCell ⟨w.heap.size + 1, c, none⟩ (.int .i64 (cellTo l c l.length : Nat))) (w.heap.size + 1) (cnt19 l (c + 1) 0)) := Lib.hid (by
        have := HN.out.store (by omega) c (.int .i64 (cellTo l c l.length : Nat))
        rw [cnt19_set l hcl] at this
        exact this)
      have HLE := cell_le l c l.length
      clear hcl
      generalize cellTo l c l.length = n at *
      go_wp2
      go_roundw
      case rel => exact ⟨c + 1, by first | rfl | go_num, hc1, HN5⟩
      case measure => first | (simp [intOf]; omega) | simp [intOf]
    · obtain rfl : c = 8 := by omega
      have j1 : decide (((8 : Nat) : Int) < 8) = false := rfl
      have h0 := HN.out
      rw [cnt19_all] at h0
      obtain ⟨⟨c0, c1, c2, c3, c4, c5, c6, c7⟩, _⟩ := eight_cells19 h0.now
      obtain ⟨⟨d0, d1, d2, d3, d4, d5, d6, d7⟩, f0, f1, f2, f3, f4, f5, f6, f7⟩ := eight_cells19 h0.out
      have H0 := Lib.hid h0
      clear h0
      go_wp2
      refine bodyPost_ret (results_row19 rfl _ _ w.heap.size _ _ _ _ _ _ _ _ _ _ rfl (stored19 H0.out.out)) rfl ?_
      exact ⟨rfl, below19 H0.out.below (Nat.le_refl _) _ _ _ _ _ _ _ _⟩
end Go.Proofs.Ytifihejogbcbgaa
