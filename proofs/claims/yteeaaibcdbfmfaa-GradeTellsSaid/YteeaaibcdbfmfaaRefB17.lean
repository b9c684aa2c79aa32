/- The document's Count: for all slices of numbers, in every world. -/
import Derived.Test.YteeaaibcdbfmfaaRefA17
import Derived.Test.YteeaaibcdbfmfaaArr17
import Derived.Test.YteeaaibcdbfmfaaRs16
namespace Go.Proofs.Yteeaaibcdbfmfaa
open Go.RowKit

/-- The two blocks of an array that is under way, and how it goes on. -/
structure Cnt17 (w W : World) (g : Nat) (cs : Array Value) : Prop where
  now : W.heap[g]? = some (.cells cs 36 (0, 0))
  out : W.heap[w.heap.size]? = some (.cells (four17 0 0 0 0) 36 (0, 0))
  below : Below w.heap.size w W
theorem Cnt17.step {w W W' : World} {g : Nat} {cs : Array Value} (h : Cnt17 w W g cs) (hb : Below W.heap.size W W') : Cnt17 w W' g cs :=
  ⟨old_obj hb h.now, old_obj hb h.out, h.below.trans (hb.mono h.below.size)⟩
theorem Cnt17.store {w W : World} {g : Nat} {cs : Array Value} (h : Cnt17 w W g cs) (hg : w.heap.size < g) (k : Nat) (v : Value) : Cnt17 w (W.setCell ⟨g, k, none⟩ v) g (cs.setIfInBounds k v) :=
  ⟨heap_setCell_same W g k _ _ v h.now, by rw [heap_setCell_other W ⟨g, k, none⟩ w.heap.size v (by simp; omega)]; exact h.out, h.below.setCell (p := ⟨g, k, none⟩) (by show w.heap.size ≤ g; omega) v⟩
theorem pow_dbl (k : Nat) : 2 ^ (k + 1) = 2 * 2 ^ k := by rw [Nat.pow_succ]; omega
theorem zeros17 (w : World) (m : Nat) : Cnt17 w (((w.alloc (.cells #[.int .i64 0, .int .i64 0, .int .i64 0, .int .i64 0] 36)).alloc (.cells #[.int .i64 0, .int .i64 0, .int .i64 0, .int .i64 0] 36)).drewN m) (w.heap.size + 1) (four17 0 0 0 0) :=
  ⟨(two_new17 w _ _ m).2, (two_new17 w _ _ m).1, drawn_below (((Below.refl _ w).alloc (Nat.le_refl _) _).alloc ((Below.refl _ w).alloc (Nat.le_refl _) _).size _) m⟩
set_option maxRecDepth 100000 in
set_option maxHeartbeats 4000000 in
theorem rcount17_any (a : Option Addr) (cap : Nat) (ks : List Int) (b : Option Addr) (cap' : Nat) (xs : List Int) (w : World) (hx : Ints w.heap.size w a ks) (hn : ks.length ≤ 1000000) (hf : Ints w.heap.size w b xs) (hn2 : xs.length ≤ 1000000) :
    Calls Try.prog 15 #[.slice a ks.length cap, .slice b xs.length cap'] w fun e w' => e = .returned (.tuple #[.agg #[.int .i64 (cntV ks xs 0), .int .i64 (cntV ks xs 1), .int .i64 (cntV ks xs 2), .int .i64 (cntV ks xs 3)], .int .i64 (cntE ks xs)]) ∧ Below w.heap.size w w' := by
  have HX := Lib.hid hx
  have HF := Lib.hid hf
  have HQ : Hid (∀ W, Below w.heap.size w W → Calls Try.prog 25 #[.slice a ks.length cap] W fun e w' => e = .returned (.int .i64 (asksE ks)) ∧ ∃ m, w' = W.drewN m) := Lib.hid fun W h => rcheck16_any a cap ks _ W ((HX.out.below h).up h.size) hn
  have HC : Hid (∀ W, Below w.heap.size w W → Calls Try.prog 13 #[.slice b xs.length cap'] W fun e w' => e = .returned (.int .i64 (cutsE xs)) ∧ ∃ m, w' = W.drewN m) := Lib.hid fun W h => rcheck17_any b cap' xs _ W ((HF.out.below h).up h.size) hn2
  clear hx hf
  by_cases hA : ¬ Asks ks
  · have HV := Lib.hid (cnt_no (asks := ks) (l := xs) fun q => hA q.1)
    rw [asks_no hA] at HQ
    clear hA
    rw [HV.out.1, HV.out.2 0, HV.out.2 1, HV.out.2 2, HV.out.2 3]
    go_enter Try.func15, Try.ntmps15
    go_upto_region 3 with (go_at_call 25; refine (HQ.out _ (zeros17 w 0).below).mono ?_; rintro e w2 ⟨rfl, m2, rfl⟩)
    have h0 := zeros17 w m2
    obtain ⟨W, hW⟩ : ∃ W, W = ((w.alloc (.cells #[.int .i64 0, .int .i64 0, .int .i64 0, .int .i64 0] 36)).alloc (.cells #[.int .i64 0, .int .i64 0, .int .i64 0, .int .i64 0] 36)).drewN m2 := ⟨_, rfl⟩
    rw [← hW] at h0 ⊢
    clear hW
    obtain ⟨⟨c0, c1, c2, c3⟩, _⟩ := four_cells17 h0.now
    obtain ⟨⟨d0, d1, d2, d3⟩, f0, f1, f2, f3⟩ := four_cells17 h0.out
    have H0 := Lib.hid h0
    clear h0
    go_wp2
    refine bodyPost_ret (results_row17 rfl _ _ w.heap.size _ _ _ _ _ _ rfl (stored17 H0.out.out)) rfl ?_
    exact ⟨rfl, below17 H0.out.below (Nat.le_refl _) _ _ _ _⟩
  have hA := Decidable.not_not.1 hA
  rw [asks_yes hA] at HQ
  have HA := Lib.hid hA
  by_cases hC : ¬ Cuts xs
  · have HV := Lib.hid (cnt_no (asks := ks) (l := xs) fun q => hC q.2)
    rw [cuts_no hC] at HC
    clear hA hC
    rw [HV.out.1, HV.out.2 0, HV.out.2 1, HV.out.2 2, HV.out.2 3]
    go_enter Try.func15, Try.ntmps15
    go_upto_region 3 with (first
      | (go_at_call 25; refine (HQ.out _ (zeros17 w 0).below).mono ?_; rintro e w2 ⟨rfl, m2, rfl⟩)
      | (go_at_call 13; refine (HC.out _ (zeros17 w m2).below).mono ?_; rintro e w3 ⟨rfl, m3, rfl⟩))
    have h0 := zeros17 w (m2 + m3)
    obtain ⟨W, hW⟩ : ∃ W, W = ((w.alloc (.cells #[.int .i64 0, .int .i64 0, .int .i64 0, .int .i64 0] 36)).alloc (.cells #[.int .i64 0, .int .i64 0, .int .i64 0, .int .i64 0] 36)).drewN (m2 + m3) := ⟨_, rfl⟩
    rw [← hW] at h0 ⊢
    clear hW
    obtain ⟨⟨c0, c1, c2, c3⟩, _⟩ := four_cells17 h0.now
    obtain ⟨⟨d0, d1, d2, d3⟩, f0, f1, f2, f3⟩ := four_cells17 h0.out
    have H0 := Lib.hid h0
    clear h0
    go_wp2
    refine bodyPost_ret (results_row17 rfl _ _ w.heap.size _ _ _ _ _ _ rfl (stored17 H0.out.out)) rfl ?_
    exact ⟨rfl, below17 H0.out.below (Nat.le_refl _) _ _ _ _⟩
  have hC := Decidable.not_not.1 hC
  rw [cuts_yes hC] at HC
  have HCU := Lib.hid hC
  have HV := Lib.hid (cnt_yes hA hC)
  have HS : Hid (∀ W (k : Nat), Below w.heap.size w W → k ≤ 256 → Calls Try.prog 26 #[.slice a ks.length cap, .int .i64 (k : Int)] W fun e w' => e = .returned (.tuple #[.int .i64 (scoreV ks k), .int .i64 (failE ks k)]) ∧ Below W.heap.size W w') := Lib.hid fun W k h hk =>
    rscore16_any a cap ks (k : Int) W ((HX.out.below h).up h.size) hn (WalkArith.wf_i64 (by omega))
  have HG : Hid (∀ W (s : Int), Below w.heap.size w W → Calls Try.prog 21 #[.slice b xs.length cap', .int .i64 s] W fun e w' => e = .returned (.int .i64 (gradeN xs s : Int)) ∧ W = w') := Lib.hid fun W s h => rgrade17_any b cap' xs s _ W ((HF.out.below h).up h.size) HCU.out.1
  rw [HV.out.1, HV.out.2 0, HV.out.2 1, HV.out.2 2, HV.out.2 3]
  have h8 := hA.2.1
  clear hA hC
  go_enter Try.func15, Try.ntmps15
  go_upto_region 4 with (first
    | (go_at_call 25; refine (HQ.out _ (zeros17 w 0).below).mono ?_; rintro e w2 ⟨rfl, m2, rfl⟩)
    | (go_at_call 13; refine (HC.out _ (zeros17 w m2).below).mono ?_; rintro e w3 ⟨rfl, m3, rfl⟩))
  have h0 := zeros17 w (m2 + m3)
  obtain ⟨W, hW⟩ : ∃ W, W = ((w.alloc (.cells #[.int .i64 0, .int .i64 0, .int .i64 0, .int .i64 0] 36)).alloc (.cells #[.int .i64 0, .int .i64 0, .int .i64 0, .int .i64 0] 36)).drewN (m2 + m3) := ⟨_, rfl⟩
  rw [← hW] at h0 ⊢
  clear hW
  have H0 := Lib.hid h0
  clear h0
  go_wp2
  go_loopw [7, 8] (fun s7 s8 wr => ∃ i P : Nat, s7 = .int .i64 (P : Int) ∧ s8 = .int .i64 i ∧ wr = W ∧ i ≤ ks.length ∧ Hid (2 ^ i = P)) (fun _ i _ => 9 - (intOf i).toNat)
  case atStart => exact ⟨0, 1, rfl, rfl, rfl, by omega, Lib.hid rfl⟩
  case round =>
    obtain ⟨i, P, rfl, rfl, rfl, hi, hP⟩ := hrel
    by_cases hlt : i < ks.length
    · have i1 : decide ((i : Int) < (ks.length : Int)) = true := decide_eq_true (by omega)
      have i1' : decide (i < ks.length) = true := decide_eq_true hlt
      have i9 : i < 9 := by omega
      have hle : P ≤ 256 := by have := pow_small (n := i) (by omega); rw [hP.out] at this; exact this
      have e1 : IntKind.i64.wrap (2 * (P : Int)) = ((2 * P : Nat) : Int) := by rw [IntWalk.i64_in _ (by omega)]; omega
      have HP2 : Hid (2 ^ (i + 1) = 2 * P) := Lib.hid (by rw [pow_dbl, hP.out])
      have hi1 : i + 1 ≤ ks.length := hlt
      obtain ⟨P2, hP2⟩ : ∃ P2, 2 * P = P2 := ⟨_, rfl⟩
      rw [hP2] at e1 HP2
      clear hle hlt hP2
      go_wp2
      go_roundw
      case rel => exact ⟨i + 1, P2, by first | rfl | trivial, by go_num, by first | rfl | trivial, hi1, HP2⟩
      case measure => simp [intOf]; omega
    · obtain rfl : i = ks.length := by omega
      have i1 : decide ((ks.length : Int) < (ks.length : Int)) = false := decide_eq_false (by omega)
      have hle : P ≤ 256 := by have := pow_small h8; rw [hP.out] at this; exact this
      go_wp2
      go_loopw [9, 10, 11] (fun s9 _ _ wr => ∃ k : Nat, s9 = .int .i64 k ∧ k ≤ P ∧ Hid (Cnt17 w wr (w.heap.size + 1) (cnt17 ks xs k))) (fun k _ _ _ => P - (intOf k).toNat)
      case atStart => exact ⟨0, rfl, by omega, H0⟩
      case round =>
        clear H0
        obtain ⟨k, rfl, hk, HN⟩ := hrel
        by_cases hlt : k < P
        · have i2 : decide ((k : Int) < (P : Int)) = true := decide_eq_true (by omega)
          have i2' : decide (k < P) = true := decide_eq_true hlt
          have hs := HS.out wr k HN.out.below (by omega)
          obtain ⟨g, hg⟩ : ∃ g, gradeN xs (scoreV ks (k : Int)) = g := ⟨_, rfl⟩
          have hg4 : g < 4 := by rw [← hg]; exact grade_lt _ _
          have HG2 : Hid (∀ V, Below w.heap.size w V → Calls Try.prog 21 #[.slice b xs.length cap', .int .i64 (scoreV ks (k : Int))] V fun e w' => e = .returned (.int .i64 (g : Int)) ∧ V = w') := Lib.hid fun V h => by
            have := HG.out V (scoreV ks (k : Int)) h
            rw [hg] at this
            exact this
          have hst := cnt17_step ks xs k hg
          have hcs := cnt17_has ks xs k hg4
          have hle2 := cnt_le ks xs g k
          obtain ⟨C, hC⟩ : ∃ C : Int, ((cntTo ks xs g k : Nat) : Int) = C := ⟨_, rfl⟩
          rw [hC] at hst hcs
          have e3 : IntKind.i64.wrap (C + 1) = C + 1 := IntWalk.i64_in _ (by omega)
          have HST := Lib.hid hst
          have HCS := Lib.hid hcs
          have hk1 : k + 1 ≤ P := hlt
          have g1 : (g : Int) < 4 := by omega
          have g0 : (0 : Int) ≤ (g : Int) := by omega
          generalize scoreV ks (k : Int) = s at *
          generalize failE ks (k : Int) = E at *
          clear hst hcs hlt hC hg hle2
          go_upto_region 13 with (go_at_call 26; refine hs.mono ?_; rintro e w4 ⟨rfl, hb4⟩; have HN4 := Lib.hid (HN.out.step hb4); clear hb4)
          have d0 := cell_of HN4.out.now HCS.out
          have fz := frozen_of_row w4 (w.heap.size + 1) g _ _ HN4.out.now
          have HN5 : Hid (Cnt17 w (w4.setCell ⟨w.heap.size + 1, g, none⟩ (.int .i64 (C + 1))) (w.heap.size + 1) (cnt17 ks xs (k + 1))) := Lib.hid (by
            have := HN4.out.store (by omega) g (.int .i64 (C + 1))
            rw [HST.out] at this
            exact this)
          have hg5 := HG2.out w4 HN4.out.below
          clear hs
          go_wp2_with (go_at_call 21; refine hg5.mono ?_; rintro e w5 ⟨rfl, rfl⟩)
          go_roundw
          case rel => exact ⟨k + 1, by go_num, hk1, HN5⟩
          case measure => simp [intOf]; omega
        · obtain rfl : k = P := by omega
          have i2 : decide ((k : Int) < (k : Int)) = false := decide_eq_false (by omega)
          have h0 := HN.out
          unfold cnt17 at h0
          obtain ⟨⟨c0, c1, c2, c3⟩, _⟩ := four_cells17 h0.now
          obtain ⟨⟨d0, d1, d2, d3⟩, f0, f1, f2, f3⟩ := four_cells17 h0.out
          have H0 := Lib.hid h0
          clear h0
          go_wp2
          refine bodyPost_ret (results_row17 rfl _ _ w.heap.size _ _ _ _ _ _ rfl (stored17 H0.out.out)) rfl ?_
          exact ⟨by rw [hP.out]; rfl, below17 H0.out.below (Nat.le_refl _) _ _ _ _⟩
end Go.Proofs.Yteeaaibcdbfmfaa
