/- The program's tally, Count and Reached; all that the walks want of grade. -/
import Derived.Test.YteeaaibcdbfmfaaPrgA17
import Derived.Test.YteeaaibcdbfmfaaPrh16
import Derived.Test.YteeaaibcdbfmfaaRefB17
import Derived.Test.YteeaaibcdbfmfaaWake17
namespace Go.Proofs.Yteeaaibcdbfmfaa
open Go.RowKit

/-- A result that lies in a block. -/
theorem results_one17 {fn : Func} {p : Tmp} {T : TypeId} (h : fn.results = #[.cell p T]) (tmps : Array Value) (w : World) (g : Nat) (v : Value)
    (hp : tmps.getD p undef = .pointer (some ⟨g, 0, none⟩)) (hl : (loadVar T ⟨g, 0, none⟩).run Try.prog w = .ok v w) :
    (results fn tmps).run Try.prog w = .ok v w := by
  have hp' : tmps[p]?.getD undef = .pointer (some ⟨g, 0, none⟩) := by simpa using hp
  simp only [results, h]
  simp [hp', asAddr, hl]
theorem four_load17 {w : World} {g : Nat} {x y z u : Value} (h : w.heap[g]? = some (.cells #[x, y, z, u] 36 (0, 0))) : (loadVar 36 ⟨g, 0, none⟩).run Try.prog w = .ok (.agg #[x, y, z, u]) w :=
  run_loadVar_row (P := Try.prog) w g _ 36 #[x, y, z, u] (0, 0) _ h Try.underlying36 rfl (by kernel_rfl)

theorem shl17 {n P : Nat} (h : n ≤ 8) (hP : 2 ^ n = P) : wrap64 ((2 : Int) ^ n) = (P : Int) := by
  subst hP
  rcases (by omega : n = 0 ∨ n = 1 ∨ n = 2 ∨ n = 3 ∨ n = 4 ∨ n = 5 ∨ n = 6 ∨ n = 7 ∨ n = 8) with rfl | rfl | rfl | rfl | rfl | rfl | rfl | rfl | rfl 
  all_goals (rw [wrap64]; omega)
abbrev scaleF (b off cap : Nat) : Value := .func (.func 20) #[.slice (some ⟨b, off, none⟩) 3 cap] #[]
set_option maxRecDepth 100000 in
set_option maxHeartbeats 4000000 in
theorem ptally17_any (a : Option Addr) (cap : Nat) (ks : List Int) (b off cap' : Nat) (xs : List Int) (w : World) (hA : Asks ks) (hx : Ints w.heap.size w a ks) (hB : b < w.heap.size) (hc : ∀ j, j < 3 → w.cell? ⟨b, off + j, none⟩ = some (.int .i64 (numAt xs j))) :
    Calls Try.prog 24 #[.slice a ks.length cap, scaleF b off cap'] w fun e w' => e = .returned (.agg #[.int .i64 (cntTo ks xs 0 (2 ^ ks.length) : Nat), .int .i64 (cntTo ks xs 1 (2 ^ ks.length) : Nat), .int .i64 (cntTo ks xs 2 (2 ^ ks.length) : Nat), .int .i64 (cntTo ks xs 3 (2 ^ ks.length) : Nat)]) ∧ Below w.heap.size w w' := by
  have HX := Lib.hid hx
  have h8 := hA.2.1
  have HS : Hid (∀ W (k : Nat), Below w.heap.size w W → Calls Try.prog 30 #[.slice a ks.length cap, .int .i64 (k : Int)] W fun e w' => e = .returned (.tuple #[.int .i64 (scoreV ks k), .int .i64 (failE ks k)]) ∧ Below W.heap.size W w') := Lib.hid fun W k h =>
    pscore16_any a cap ks (k : Int) W ((HX.out.below h).up h.size) (by omega)
  have HG : Hid (∀ W (s : Int), Below w.heap.size w W → Calls Try.prog 20 #[.slice (some ⟨b, off, none⟩) 3 cap', .int .i64 s] W fun e w' => e = .returned (.int .i64 (gradeN xs s : Int)) ∧ W = w') := Lib.hid fun W s h =>
    pgrade17_any b off cap' xs s W fun j hj => (h.cell (p := ⟨b, off + j, none⟩) hB).trans (hc j hj)
  obtain ⟨P, hP⟩ : ∃ P : Nat, 2 ^ ks.length = P := ⟨_, rfl⟩
  have hP8 : P ≤ 256 := by have := pow_small h8; rw [hP] at this; exact this
  have hsh := shl17 h8 hP
  rw [hP]
  clear hA hx hc
  have n0 : (0 : Int) ≤ (ks.length : Int) := by omega
  have n8 : ks.length < 64 := by omega
  go_enter Try.func24, Try.ntmps24
  go_upto_block 0 with fail
  have h0 : Cnt17 w ((w.alloc (.cells #[.int .i64 0, .int .i64 0, .int .i64 0, .int .i64 0] 36)).alloc (.cells #[.int .i64 0, .int .i64 0, .int .i64 0, .int .i64 0] 36)) (w.heap.size + 1) (cnt17 ks xs 0) := zeros17 w 0
  obtain ⟨W, hW⟩ : ∃ W, W = (w.alloc (.cells #[.int .i64 0, .int .i64 0, .int .i64 0, .int .i64 0] 36)).alloc (.cells #[.int .i64 0, .int .i64 0, .int .i64 0, .int .i64 0] 36) := ⟨_, rfl⟩
  rw [← hW] at h0 ⊢
  rw [hsh]
  clear hW hsh
  have H0 := Lib.hid h0
  clear h0 hP
  go_wp2
  go_loopw [12] (fun s12 wr => ∃ k : Nat, s12 = .int .i64 k ∧ k ≤ P ∧ Hid (Cnt17 w wr (w.heap.size + 1) (cnt17 ks xs k))) (fun k _ => P - (intOf k).toNat)
  case atStart => exact ⟨0, rfl, by omega, H0⟩
  case round =>
    clear H0
    obtain ⟨k, rfl, hk, HN⟩ := hrel
    by_cases hlt : k < P
    · have i2 : decide ((k : Int) < (P : Int)) = true := decide_eq_true (by omega)
      have i2' : decide (k < P) = true := decide_eq_true hlt
      have hs := HS.out wr k HN.out.below
      obtain ⟨g, hg⟩ : ∃ g, gradeN xs (scoreV ks (k : Int)) = g := ⟨_, rfl⟩
      have hg4 : g < 4 := by rw [← hg]; exact grade_lt _ _
      have HG2 : Hid (∀ V, Below w.heap.size w V → Calls Try.prog 20 #[.slice (some ⟨b, off, none⟩) 3 cap', .int .i64 (scoreV ks (k : Int))] V fun e w' => e = .returned (.int .i64 (g : Int)) ∧ V = w') := Lib.hid fun V h => by
        have := HG.out V (scoreV ks (k : Int)) h
        rw [hg] at this
        exact this
      have hst := cnt17_step ks xs k hg
      have hcs := cnt17_has ks xs k hg4
      have hle2 := cnt_le ks xs g k
      obtain ⟨C, hC⟩ : ∃ C : Int, ((cntTo ks xs g k : Nat) : Int) = C := ⟨_, rfl⟩
      rw [hC] at hst hcs
      have e3 : IntKind.i64.wrap (C + 1) = C + 1 := IntWalk.i64_in _ (by omega)
      have HST := Lib.hid hst
      have HCS := Lib.hid hcs
      have hk1 : k + 1 ≤ P := hlt
      have g1 : (g : Int) < 4 := by omega
      have g0 : (0 : Int) ≤ (g : Int) := by omega
      generalize scoreV ks (k : Int) = s at *
      generalize failE ks (k : Int) = E at *
      clear hst hcs hlt hC hg hle2
      go_upto_region 6 with (go_at_call 30; refine hs.mono ?_; rintro e w4 ⟨rfl, hb4⟩; have HN4 := Lib.hid (HN.out.step hb4); clear hb4)
      have d0 := cell_of HN4.out.now HCS.out
      have fz := frozen_of_row w4 (w.heap.size + 1) g _ _ HN4.out.now
      have HN5 : Hid (Cnt17 w (w4.setCell ⟨w.heap.size + 1, g, none⟩ (.int .i64 (C + 1))) (w.heap.size + 1) (cnt17 ks xs (k + 1))) := Lib.hid (by
        have := HN4.out.store (by omega) g (.int .i64 (C + 1))
        rw [HST.out] at this
        exact this)
      have hg5 := HG2.out w4 HN4.out.below
      clear hs
      go_wp2_with (go_at_call 20; refine hg5.mono ?_; rintro e w5 ⟨rfl, rfl⟩)
      go_roundw
      case rel => exact ⟨k + 1, by go_num, hk1, HN5⟩
      case measure => simp [intOf]; omega
    · obtain rfl : k = P := by omega
      have i2 : decide ((k : Int) < (k : Int)) = false := decide_eq_false (by omega)
      have h0 := HN.out
      unfold cnt17 at h0
      obtain ⟨⟨c0, c1, c2, c3⟩, _⟩ := four_cells17 h0.now
      obtain ⟨⟨d0, d1, d2, d3⟩, f0, f1, f2, f3⟩ := four_cells17 h0.out
      have H0 := Lib.hid h0
      clear h0
      go_wp2
      refine bodyPost_ret (results_one17 rfl _ _ w.heap.size _ rfl (four_load17 (stored17 H0.out.out))) rfl ?_
      exact ⟨rfl, below17 H0.out.below (Nat.le_refl _) _ _ _ _⟩

set_option maxRecDepth 100000 in
set_option maxHeartbeats 4000000 in
theorem pcount17_any (a : Option Addr) (cap : Nat) (ks : List Int) (b : Option Addr) (cap' : Nat) (xs : List Int) (w : World) (hx : Ints w.heap.size w a ks) (hn : ks.length ≤ 1000000) (hf : Ints w.heap.size w b xs) :
    Calls Try.prog 14 #[.slice a ks.length cap, .slice b xs.length cap'] w fun e w' => e = .returned (.tuple #[.agg #[.int .i64 (cntV ks xs 0), .int .i64 (cntV ks xs 1), .int .i64 (cntV ks xs 2), .int .i64 (cntV ks xs 3)], .int .i64 (cntE ks xs)]) ∧ Below w.heap.size w w' := by
  have HX := Lib.hid hx
  have HF := Lib.hid hf
  have hz := (Below.refl w.heap.size w).alloc (Nat.le_refl _) (.cells #[.int .i64 0, .int .i64 0, .int .i64 0, .int .i64 0] 36)
  have hzo : (w.alloc (.cells #[.int .i64 0, .int .i64 0, .int .i64 0, .int .i64 0] 36)).heap[w.heap.size]? = some (.cells (four17 0 0 0 0) 36 (0, 0)) := heap_alloc_new w _
  have HZ := Lib.hid hz
  have HZO := Lib.hid hzo
  have HQ : Hid (Calls Try.prog 17 #[.slice a ks.length cap] (w.alloc (.cells #[.int .i64 0, .int .i64 0, .int .i64 0, .int .i64 0] 36)) fun e w' => e = .returned (.int .i64 (asksE ks)) ∧ (w.alloc (.cells #[.int .i64 0, .int .i64 0, .int .i64 0, .int .i64 0] 36)) = w') := Lib.hid (pcheck16_any a cap ks _ _ (HX.out.below hz) hn)
  have HC : Hid (Calls Try.prog 12 #[.slice b xs.length cap'] (w.alloc (.cells #[.int .i64 0, .int .i64 0, .int .i64 0, .int .i64 0] 36)) fun e w' => e = .returned (.int .i64 (cutsE xs)) ∧ ∃ m, w' = (w.alloc (.cells #[.int .i64 0, .int .i64 0, .int .i64 0, .int .i64 0] 36)).drewN m) := Lib.hid (pcheck17_any b cap' xs _ _ (HF.out.below hz))
  clear hx hf hz hzo
  by_cases hA : ¬ Asks ks
  · have HV := Lib.hid (cnt_no (asks := ks) (l := xs) fun q => hA q.1)
    rw [asks_no hA] at HQ
    clear hA
    rw [HV.out.1, HV.out.2 0, HV.out.2 1, HV.out.2 2, HV.out.2 3]
    go_enter Try.func14, Try.ntmps14
    go_upto_region 3 with (go_at_call 17; refine HQ.out.mono ?_; rintro e w2 ⟨rfl, rfl⟩)
    obtain ⟨W, hW⟩ : ∃ W, W = w.alloc (.cells #[.int .i64 0, .int .i64 0, .int .i64 0, .int .i64 0] 36) := ⟨_, rfl⟩
    rw [← hW] at HZ HZO ⊢
    clear hW HQ HC
    obtain ⟨⟨d0, d1, d2, d3⟩, f0, f1, f2, f3⟩ := four_cells17 HZO.out
    go_wp2
    refine bodyPost_ret (results_row17 rfl _ _ w.heap.size _ _ _ _ _ _ rfl (stored17 HZO.out)) rfl ?_
    exact ⟨rfl, below17 HZ.out (Nat.le_refl _) _ _ _ _⟩
  have hA := Decidable.not_not.1 hA
  rw [asks_yes hA] at HQ
  by_cases hC : ¬ Cuts xs
  · have HV := Lib.hid (cnt_no (asks := ks) (l := xs) fun q => hC q.2)
    rw [cuts_no hC] at HC
    clear hA hC
    rw [HV.out.1, HV.out.2 0, HV.out.2 1, HV.out.2 2, HV.out.2 3]
    go_enter Try.func14, Try.ntmps14
    go_upto_region 6 with (first
      | (go_at_call 17; refine HQ.out.mono ?_; rintro e w2 ⟨rfl, rfl⟩)
      | (go_at_call 12; refine HC.out.mono ?_; rintro e w3 ⟨rfl, m3, rfl⟩))
    obtain ⟨W, hW⟩ : ∃ W, W = (w.alloc (.cells #[.int .i64 0, .int .i64 0, .int .i64 0, .int .i64 0] 36)).drewN m3 := ⟨_, rfl⟩
    have HZ2 : Hid (Below w.heap.size w W) := Lib.hid (by rw [hW]; exact drawn_below HZ.out m3)
    have HZ3 : Hid (W.heap[w.heap.size]? = some (.cells (four17 0 0 0 0) 36 (0, 0))) := Lib.hid (by rw [hW]; exact HZO.out)
    rw [← hW]
    clear hW HQ HC HZ HZO
    obtain ⟨⟨d0, d1, d2, d3⟩, f0, f1, f2, f3⟩ := four_cells17 HZ3.out
    go_wp2
    refine bodyPost_ret (results_row17 rfl _ _ w.heap.size _ _ _ _ _ _ rfl (stored17 HZ3.out)) rfl ?_
    exact ⟨rfl, below17 HZ2.out (Nat.le_refl _) _ _ _ _⟩
  have hC := Decidable.not_not.1 hC
  rw [cuts_yes hC] at HC
  have HV := Lib.hid (cnt_yes hA hC)
  obtain ⟨b0, off, rfl, hc⟩ : ∃ b0 off, b = some ⟨b0, off, none⟩ ∧ b0 < w.heap.size ∧ ∀ j, j < 3 → w.cell? ⟨b0, off + j, none⟩ = some (.int .i64 (numAt xs j)) := by
    have h3 := hC.1
    rcases HF.out with h | ⟨b0, off, h, hB, hc⟩
    · rw [h] at h3; cases h3
    · exact ⟨b0, off, h, hB, fun j hj => hc j (by omega)⟩
  have HT : Hid (∀ W, Below w.heap.size w W → Calls Try.prog 24 #[.slice a ks.length cap, scaleF b0 off cap'] W fun e w' => e = .returned (.agg #[.int .i64 (cntTo ks xs 0 (2 ^ ks.length) : Nat), .int .i64 (cntTo ks xs 1 (2 ^ ks.length) : Nat), .int .i64 (cntTo ks xs 2 (2 ^ ks.length) : Nat), .int .i64 (cntTo ks xs 3 (2 ^ ks.length) : Nat)]) ∧ Below W.heap.size W w') := Lib.hid fun W h =>
    ptally17_any a cap ks b0 off cap' xs W hA ((HX.out.below h).up h.size) (by have := h.size; omega) fun j hj => (h.cell (p := ⟨b0, off + j, none⟩) hc.1).trans (hc.2 j hj)
  have hmf : ∀ (fn : Fn) (first cap : Array Value) (w : World), (Instr.makeFunc fn first cap).run Try.prog w = .ok (.func fn first cap) w := fun _ _ _ _ => rfl
  rw [HV.out.1, HV.out.2 0, HV.out.2 1, HV.out.2 2, HV.out.2 3]
  rw [hC.1] at HC ⊢
  clear hA hC hc
  generalize cntTo ks xs 0 (2 ^ ks.length) = n0 at *
  generalize cntTo ks xs 1 (2 ^ ks.length) = n1 at *
  generalize cntTo ks xs 2 (2 ^ ks.length) = n2 at *
  generalize cntTo ks xs 3 (2 ^ ks.length) = n3 at *
  go_enter Try.func14, Try.ntmps14
  go_upto_region 7 with (first
    | (go_at_call 17; refine HQ.out.mono ?_; rintro e w2 ⟨rfl, rfl⟩)
    | (go_at_call 12; refine HC.out.mono ?_; rintro e w3 ⟨rfl, m3, rfl⟩))
  obtain ⟨W, hW⟩ : ∃ W, W = (w.alloc (.cells #[.int .i64 0, .int .i64 0, .int .i64 0, .int .i64 0] 36)).drewN m3 := ⟨_, rfl⟩
  have hz2 : Below w.heap.size w W := by rw [hW]; exact drawn_below HZ.out m3
  have HZ2 := Lib.hid hz2
  have HZ3 : Hid (W.heap[w.heap.size]? = some (.cells (four17 0 0 0 0) 36 (0, 0))) := Lib.hid (by rw [hW]; exact HZO.out)
  have ht := HT.out W hz2
  rw [← hW]
  clear hW HQ HC HZ HZO hz2
  go_wp2_with (go_at_call 24; refine ht.mono ?_; rintro e w4 ⟨rfl, hb4⟩; have HZ4 := Lib.hid (old_obj hb4 HZ3.out); have HB4 := Lib.hid (HZ2.out.trans (hb4.mono HZ2.out.size)); obtain ⟨⟨d0, d1, d2, d3⟩, f0, f1, f2, f3⟩ := four_cells17 HZ4.out; clear hb4)
  refine bodyPost_ret (results_row17 rfl _ _ w.heap.size _ _ _ _ _ _ rfl (stored17 HZ4.out)) rfl ?_
  exact ⟨rfl, below17 HB4.out (Nat.le_refl _) _ _ _ _⟩

def fourb17 (a b c d : Bool) : Array Value := #[.bool a, .bool b, .bool c, .bool d]
theorem two_fours17 (w : World) (o o' : Obj) : ((w.alloc o).alloc o').heap[w.heap.size]? = some o ∧ ((w.alloc o).alloc o').heap[w.heap.size + 1]? = some o' :=
  ⟨heap_alloc2_old w o o', heap_alloc2_new w o o'⟩
theorem four_cellsb17 {w : World} {g : Nat} {t : TypeId} {a b c d : Bool} (h : w.heap[g]? = some (.cells (fourb17 a b c d) t (0, 0))) :
    (w.cell? ⟨g, 0, none⟩ = some (.bool a) ∧ w.cell? ⟨g, 1, none⟩ = some (.bool b) ∧ w.cell? ⟨g, 2, none⟩ = some (.bool c) ∧ w.cell? ⟨g, 3, none⟩ = some (.bool d)) ∧
    w.frozen? ⟨g, 0, none⟩ = false ∧ w.frozen? ⟨g, 1, none⟩ = false ∧ w.frozen? ⟨g, 2, none⟩ = false ∧ w.frozen? ⟨g, 3, none⟩ = false :=
  ⟨⟨cell_of (j := 0) h rfl, cell_of (j := 1) h rfl, cell_of (j := 2) h rfl, cell_of (j := 3) h rfl⟩, frozen_of_row w g 0 _ _ h, frozen_of_row w g 1 _ _ h, frozen_of_row w g 2 _ _ h, frozen_of_row w g 3 _ _ h⟩
theorem results_rowb17 {fn : Func} {p u : Tmp} (h : fn.results = #[.cell p 41, .tmp u]) (tmps : Array Value) (w : World) (g : Nat) (t : TypeId) (c0 c1 c2 c3 : Value) (fr : Nat × Nat)
    (hp : tmps.getD p undef = .pointer (some ⟨g, 0, none⟩)) (hg : w.heap[g]? = some (.cells #[c0, c1, c2, c3] t fr)) :
    (results fn tmps).run Try.prog w = .ok (.tuple #[.agg #[c0, c1, c2, c3], tmps.getD u undef]) w :=
  results_row_slot h tmps w g _ hp (run_loadVar_row (P := Try.prog) w g t 41 #[c0, c1, c2, c3] fr _ hg Try.underlying41 rfl (by kernel_rfl))
/-- The block of the answers behind k grades. -/
structure Rea17 (w W : World) (g : Nat) (a b c d : Bool) : Prop where
  now : W.heap[g]? = some (.cells (fourb17 a b c d) 41 (0, 0))
  out : W.heap[w.heap.size]? = some (.cells (fourb17 false false false false) 41 (0, 0))
  below : Below w.heap.size w W
theorem Rea17.put {w W : World} {g : Nat} {a b c d a' b' c' d' : Bool} (h : Rea17 w W g a b c d) (hg : w.heap.size < g) (k : Nat) (v : Value) (he : (fourb17 a b c d).setIfInBounds k v = fourb17 a' b' c' d') : Rea17 w (W.setCell ⟨g, k, none⟩ v) g a' b' c' d' :=
  ⟨by rw [← he]; exact heap_setCell_same W g k _ _ v h.now, by rw [heap_setCell_other W ⟨g, k, none⟩ w.heap.size v (by simp; omega)]; exact h.out, h.below.setCell (p := ⟨g, k, none⟩) (by show w.heap.size ≤ g; omega) v⟩
set_option maxRecDepth 100000 in
set_option maxHeartbeats 4000000 in
theorem preached17_any (a : Option Addr) (cap : Nat) (ks : List Int) (b : Option Addr) (cap' : Nat) (xs : List Int) (w : World) (hx : Ints w.heap.size w a ks) (hn : ks.length ≤ 1000000) (hf : Ints w.heap.size w b xs) :
    Calls Try.prog 16 #[.slice a ks.length cap, .slice b xs.length cap'] w fun e w' => e = .returned (.tuple #[.agg #[.bool (decide (0 < cntV ks xs 0)), .bool (decide (0 < cntV ks xs 1)), .bool (decide (0 < cntV ks xs 2)), .bool (decide (0 < cntV ks xs 3))], .int .i64 (cntE ks xs)]) ∧ Below w.heap.size w w' := by
  have hz := (Below.refl w.heap.size w).alloc (Nat.le_refl _) (.cells #[.bool false, .bool false, .bool false, .bool false] 41)
  have HZ := Lib.hid hz
  have HZO : Hid ((w.alloc (.cells #[.bool false, .bool false, .bool false, .bool false] 41)).heap[w.heap.size]? = some (.cells (fourb17 false false false false) 41 (0, 0))) := Lib.hid (heap_alloc_new w _)
  have HC := Lib.hid (pcount17_any a cap ks b cap' xs (w.alloc (.cells #[.bool false, .bool false, .bool false, .bool false] 41)) ((hx.below hz).up hz.size) hn ((hf.below hz).up hz.size))
  clear hx hf hz
  generalize cntV ks xs 0 = n0 at *
  generalize cntV ks xs 1 = n1 at *
  generalize cntV ks xs 2 = n2 at *
  generalize cntV ks xs 3 = n3 at *
  generalize cntE ks xs = E at *
  go_enter Try.func16, Try.ntmps16
  go_wp2_with (go_at_call 14; refine HC.out.mono ?_; rintro e w1 ⟨rfl, hb1⟩; have HZ1 := Lib.hid (old_obj hb1 HZO.out); have HB1 := Lib.hid (HZ.out.trans (hb1.mono HZ.out.size)); clear hb1)
  obtain ⟨G, hG⟩ : ∃ G, w1.heap.size + 1 = G := ⟨_, rfl⟩
  have hGw : w.heap.size < G := by have := HB1.out.size; omega
  have h0 : Rea17 w ((w1.alloc (.cells #[.int .i64 n0, .int .i64 n1, .int .i64 n2, .int .i64 n3] 36)).alloc (.cells #[.bool false, .bool false, .bool false, .bool false] 41)) G false false false false := by
    have hb2 := (HB1.out.alloc HB1.out.size (.cells #[.int .i64 n0, .int .i64 n1, .int .i64 n2, .int .i64 n3] 36))
    have hb3 := (Below.refl w1.heap.size w1).alloc (Nat.le_refl _) (.cells #[.int .i64 n0, .int .i64 n1, .int .i64 n2, .int .i64 n3] 36)
    exact ⟨by rw [← hG]; exact (two_fours17 w1 _ _).2, old_obj (hb3.alloc hb3.size _) HZ1.out, hb2.alloc hb2.size _⟩
  obtain ⟨W, hW⟩ : ∃ W, W = (w1.alloc (.cells #[.int .i64 n0, .int .i64 n1, .int .i64 n2, .int .i64 n3] 36)).alloc (.cells #[.bool false, .bool false, .bool false, .bool false] 41) := ⟨_, rfl⟩
  rw [← hW] at h0 ⊢
  rw [hG]
  clear hW hG HC HZ HZO HZ1 HB1
  have H0 := Lib.hid h0
  clear h0
  have i0 : ∀ w, (Instr.index 36 (.agg #[.int .i64 n0, .int .i64 n1, .int .i64 n2, .int .i64 n3]) (.int .i64 0)).run Try.prog w = .ok (.int .i64 n0) w := fun _ => by kernel_rfl
  have i1 : ∀ w, (Instr.index 36 (.agg #[.int .i64 n0, .int .i64 n1, .int .i64 n2, .int .i64 n3]) (.int .i64 1)).run Try.prog w = .ok (.int .i64 n1) w := fun _ => by kernel_rfl
  have i2 : ∀ w, (Instr.index 36 (.agg #[.int .i64 n0, .int .i64 n1, .int .i64 n2, .int .i64 n3]) (.int .i64 2)).run Try.prog w = .ok (.int .i64 n2) w := fun _ => by kernel_rfl
  have i3 : ∀ w, (Instr.index 36 (.agg #[.int .i64 n0, .int .i64 n1, .int .i64 n2, .int .i64 n3]) (.int .i64 3)).run Try.prog w = .ok (.int .i64 n3) w := fun _ => by kernel_rfl
  go_loopw [18] (fun s18 wr => (s18 = .int .i64 0 ∧ Hid (Rea17 w wr G false false false false)) ∨ (s18 = .int .i64 1 ∧ Hid (Rea17 w wr G (decide (0 < n0)) false false false)) ∨ (s18 = .int .i64 2 ∧ Hid (Rea17 w wr G (decide (0 < n0)) (decide (0 < n1)) false false)) ∨ (s18 = .int .i64 3 ∧ Hid (Rea17 w wr G (decide (0 < n0)) (decide (0 < n1)) (decide (0 < n2)) false)) ∨ (s18 = .int .i64 4 ∧ Hid (Rea17 w wr G (decide (0 < n0)) (decide (0 < n1)) (decide (0 < n2)) (decide (0 < n3))))) (fun k _ => 4 - (intOf k).toNat)
  case atStart => exact Or.inl ⟨rfl, H0⟩
  case round =>
    clear H0
    rcases hrel with ⟨rfl, H⟩ | ⟨rfl, H⟩ | ⟨rfl, H⟩ | ⟨rfl, H⟩ | ⟨rfl, H⟩
    · obtain ⟨⟨c0, c1, c2, c3⟩, f0, f1, f2, f3⟩ := four_cellsb17 H.out.now
      have H2 : Hid (Rea17 w (wr.setCell ⟨G, 0, none⟩ (.bool (decide (0 < n0)))) G (decide (0 < n0)) false false false) := Lib.hid (H.out.put hGw 0 _ rfl)
      go_wp2
      go_roundw
      case rel => exact Or.inr (Or.inl ⟨rfl, H2⟩)
      case measure => simp [intOf]
    · obtain ⟨⟨c0, c1, c2, c3⟩, f0, f1, f2, f3⟩ := four_cellsb17 H.out.now
      have H2 : Hid (Rea17 w (wr.setCell ⟨G, 1, none⟩ (.bool (decide (0 < n1)))) G (decide (0 < n0)) (decide (0 < n1)) false false) := Lib.hid (H.out.put hGw 1 _ rfl)
      go_wp2
      go_roundw
      case rel => exact Or.inr (Or.inr (Or.inl ⟨rfl, H2⟩))
      case measure => simp [intOf]
    · obtain ⟨⟨c0, c1, c2, c3⟩, f0, f1, f2, f3⟩ := four_cellsb17 H.out.now
      have H2 : Hid (Rea17 w (wr.setCell ⟨G, 2, none⟩ (.bool (decide (0 < n2)))) G (decide (0 < n0)) (decide (0 < n1)) (decide (0 < n2)) false) := Lib.hid (H.out.put hGw 2 _ rfl)
      go_wp2
      go_roundw
      case rel => exact Or.inr (Or.inr (Or.inr (Or.inl ⟨rfl, H2⟩)))
      case measure => simp [intOf]
    · obtain ⟨⟨c0, c1, c2, c3⟩, f0, f1, f2, f3⟩ := four_cellsb17 H.out.now
      have H2 : Hid (Rea17 w (wr.setCell ⟨G, 3, none⟩ (.bool (decide (0 < n3)))) G (decide (0 < n0)) (decide (0 < n1)) (decide (0 < n2)) (decide (0 < n3))) := Lib.hid (H.out.put hGw 3 _ rfl)
      go_wp2
      go_roundw
      case rel => exact Or.inr (Or.inr (Or.inr (Or.inr (⟨rfl, H2⟩))))
      case measure => simp [intOf]
    · obtain ⟨⟨c0, c1, c2, c3⟩, _⟩ := four_cellsb17 H.out.now
      obtain ⟨⟨d0, d1, d2, d3⟩, f0, f1, f2, f3⟩ := four_cellsb17 H.out.out
      go_wp2
      refine bodyPost_ret (results_rowb17 rfl _ _ w.heap.size _ _ _ _ _ _ rfl (stored17 H.out.out)) rfl ?_
      exact ⟨rfl, below17 H.out.below (Nat.le_refl _) _ _ _ _⟩

theorem grade17 : Grade17S where
  check a cap xs w _ hx _ := (pcheck17_any a cap xs _ w hx).mono fun _ _ ⟨he, m, hm⟩ => ⟨he, by rw [hm]; exact drawn_below (Below.refl _ _) m⟩
  of a cap xs m w _ hx _ _ := pof17_any a cap xs m w hx
  span a cap xs g w _ hx _ _ := pspan17_any a cap xs g w hx
  count a cap ks b cap' xs w _ hx hn _ hf _ := pcount17_any a cap ks b cap' xs w hx hn hf
  reached a cap ks b cap' xs w _ hx hn _ hf _ := preached17_any a cap ks b cap' xs w hx hn hf
end Go.Proofs.Yteeaaibcdbfmfaa
