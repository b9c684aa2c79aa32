/- The walk of TotalTells, from what is wanted of total's functions (written by mk_tells19.py). -/
import Derived.Test.YtifihejogbcbgaaMRefF19
namespace Go.Proofs.Ytifihejogbcbgaa
open Go.RowKit

set_option maxRecDepth 100000 in
set_option maxHeartbeats 16000000 in
theorem totalTells_from (H : Total19) (HK : TotalC19) (w : World) (a1 a2 a3 a4 : Option Addr) (c1 c2 c3 c4 : Nat) (ks cs fs : List Int) (l : List Row18)
    (h1 : Ints w.heap.size w a1 ks) (h2 : Ints w.heap.size w a2 cs) (h3 : Ints w.heap.size w a3 fs) (h4 : RowsIn w.heap.size w a4 l) (hc1 : ks.length ≤ c1) (hc2 : cs.length ≤ c2) (hc3 : fs.length ≤ c3) (hc4 : l.length ≤ c4) :
    Calls Try.prog 3 #[rulesVal a1 a2 a3 a4 ks.length c1 cs.length c2 fs.length c3 l.length c4] w fun e w' => e = .returned (.bool true) ∧ Below w.heap.size w w' := by
  obtain ⟨W0, hW0⟩ : ∃ W, W = w.alloc (.cells #[.slice a1 ks.length c1, .slice a2 cs.length c2, .slice a3 fs.length c3, .slice a4 l.length c4] 25) := ⟨_, rfl⟩
  have hb0 : Below w.heap.size w W0 := by rw [hW0]; exact lit16 w _
  have h0 := heap_alloc_new w (.cells #[.slice a1 ks.length c1, .slice a2 cs.length c2, .slice a3 fs.length c3, .slice a4 l.length c4] 25)
  rw [← hW0] at h0
  have HB0 := Lib.hid hb0
  have HAW : Hid (∀ W, Calls Try.prog 7 #[] W fun e w' => e = .returned (.bool true) ∧ Below W.heap.size W w') := Lib.hid fun W => awake19 H HK W
  have p0 : W0.cell? ⟨w.heap.size, 0, none⟩ = some (.slice a1 ks.length c1) := cell_of (j := 0) h0 rfl
  have p1 : W0.cell? ⟨w.heap.size, 1, none⟩ = some (.slice a2 cs.length c2) := cell_of (j := 1) h0 rfl
  have p2 : W0.cell? ⟨w.heap.size, 2, none⟩ = some (.slice a3 fs.length c3) := cell_of (j := 2) h0 rfl
  have p3 : W0.cell? ⟨w.heap.size, 3, none⟩ = some (.slice a4 l.length c4) := cell_of (j := 3) h0 rfl
  have HX := Lib.hid (rowsIn_step h4 hb0)
  have I1 := Lib.hid ((h1.below hb0).up hb0.size)
  have I2 := Lib.hid ((h2.below hb0).up hb0.size)
  have I3 := Lib.hid ((h3.below hb0).up hb0.size)
  clear h1 h2 h3 h4
  by_cases hl0 : 60 < l.length
  · have e0 : decide (60 < (l.length : Int)) = true := decide_eq_true (by omega)
    have e0' : decide (60 < l.length) = true := decide_eq_true hl0
    clear hb0 h0 H HK
    unfold rulesVal
    go_enter Try.func3, Try.ntmps3
    go_upto_region 1 with fail
    rw [← hW0]
    clear hW0
    go_wp2_with (go_at_call 7; refine (HAW.out _).mono ?_; rintro e w2 ⟨rfl, hb⟩; have HB := Lib.hid (HB0.out.trans (hb.mono HB0.out.size)); clear hb)
    go_ret
    exact ⟨rfl, HB.out⟩
  have e0 : decide (60 < (l.length : Int)) = false := decide_eq_false (by omega)
  have e0' : decide (60 < l.length) = false := decide_eq_false hl0
  by_cases hl1 : 60 < ks.length
  · have e1 : decide (60 < (ks.length : Int)) = true := decide_eq_true (by omega)
    have e1' : decide (60 < ks.length) = true := decide_eq_true hl1
    clear hb0 h0 H HK
    unfold rulesVal
    go_enter Try.func3, Try.ntmps3
    go_upto_region 1 with fail
    rw [← hW0]
    clear hW0
    go_wp2_with (go_at_call 7; refine (HAW.out _).mono ?_; rintro e w2 ⟨rfl, hb⟩; have HB := Lib.hid (HB0.out.trans (hb.mono HB0.out.size)); clear hb)
    go_ret
    exact ⟨rfl, HB.out⟩
  have e1 : decide (60 < (ks.length : Int)) = false := decide_eq_false (by omega)
  have e1' : decide (60 < ks.length) = false := decide_eq_false hl1
  by_cases hl2 : 60 < cs.length
  · have e2 : decide (60 < (cs.length : Int)) = true := decide_eq_true (by omega)
    have e2' : decide (60 < cs.length) = true := decide_eq_true hl2
    clear hb0 h0 H HK
    unfold rulesVal
    go_enter Try.func3, Try.ntmps3
    go_upto_region 1 with fail
    rw [← hW0]
    clear hW0
    go_wp2_with (go_at_call 7; refine (HAW.out _).mono ?_; rintro e w2 ⟨rfl, hb⟩; have HB := Lib.hid (HB0.out.trans (hb.mono HB0.out.size)); clear hb)
    go_ret
    exact ⟨rfl, HB.out⟩
  have e2 : decide (60 < (cs.length : Int)) = false := decide_eq_false (by omega)
  have e2' : decide (60 < cs.length) = false := decide_eq_false hl2
  by_cases hl3 : 60 < fs.length
  · have e3 : decide (60 < (fs.length : Int)) = true := decide_eq_true (by omega)
    have e3' : decide (60 < fs.length) = true := decide_eq_true hl3
    clear hb0 h0 H HK
    unfold rulesVal
    go_enter Try.func3, Try.ntmps3
    go_upto_region 1 with fail
    rw [← hW0]
    clear hW0
    go_wp2_with (go_at_call 7; refine (HAW.out _).mono ?_; rintro e w2 ⟨rfl, hb⟩; have HB := Lib.hid (HB0.out.trans (hb.mono HB0.out.size)); clear hb)
    go_ret
    exact ⟨rfl, HB.out⟩
  have e3 : decide (60 < (fs.length : Int)) = false := decide_eq_false (by omega)
  have e3' : decide (60 < fs.length) = false := decide_eq_false hl3
  have hn4 : l.length ≤ 1000000 := by omega
  have hn1 : ks.length ≤ 1000000 := by omega
  have hn2 : cs.length ≤ 1000000 := by omega
  have hn3 : fs.length ≤ 1000000 := by omega
  have hdl : Hid ((deadV l).length ≤ 1000000) := Lib.hid (by
    unfold deadV
    split
    · have := dead_len l l.length; omega
    · simp)
  have M0 := Lib.hid h0
  have HG : Hid (∀ W, Below W0.heap.size W0 W → Calls Try.prog 8 #[.slice a4 l.length c4] W fun e w' => e = .returned (.tuple #[factVal (gapF l), .bool (gapB l)]) ∧ Below W.heap.size W w') := Lib.hid fun W h => H.gap a4 c4 l W hc4 (rowsIn_step HX.out h) hn4
  have HG2 : Hid (∀ W, Below W0.heap.size W0 W → Calls Try.prog 9 #[.slice a4 l.length c4] W fun e w' => e = .returned (.tuple #[factVal (gapF l), .bool (gapB l)]) ∧ Below W.heap.size W w') := Lib.hid fun W h => rgap19_any a4 c4 l W (rowsIn_step HX.out h) hn4
  have HC : Hid (∀ W, Below W0.heap.size W0 W → Calls Try.prog 10 #[.slice a4 l.length c4] W fun e w' => e = .returned (.tuple #[.agg #[.int .i64 (cellV l 0), .int .i64 (cellV l 1), .int .i64 (cellV l 2), .int .i64 (cellV l 3), .int .i64 (cellV l 4), .int .i64 (cellV l 5), .int .i64 (cellV l 6), .int .i64 (cellV l 7)], .int .i64 (tabE l)]) ∧ Below W.heap.size W w') := Lib.hid fun W h => H.cells a4 c4 l W hc4 (rowsIn_step HX.out h) hn4
  have HC2 : Hid (∀ W, Below W0.heap.size W0 W → Calls Try.prog 11 #[.slice a4 l.length c4] W fun e w' => e = .returned (.tuple #[.agg #[.int .i64 (cellV l 0), .int .i64 (cellV l 1), .int .i64 (cellV l 2), .int .i64 (cellV l 3), .int .i64 (cellV l 4), .int .i64 (cellV l 5), .int .i64 (cellV l 6), .int .i64 (cellV l 7)], .int .i64 (tabE l)]) ∧ Below W.heap.size W w') := Lib.hid fun W h => rcells19_any a4 c4 l W (rowsIn_step HX.out h) hn4
  have HW : Hid (∀ W, Below W0.heap.size W0 W → Calls Try.prog 12 #[.slice a4 l.length c4] W fun e w' => e = .returned (.bool (!gapB l)) ∧ Below W.heap.size W w') := Lib.hid fun W h => H.whole a4 c4 l W hc4 (rowsIn_step HX.out h) hn4
  have HD : Hid (∀ W, Below W0.heap.size W0 W → Calls Try.prog 14 #[.slice a4 l.length c4] W fun e w' => ∃ b c, e = .returned (.slice b (deadV l).length c) ∧ (deadV l).length ≤ c ∧ Ints w'.heap.size w' b (deadV l) ∧ Below W.heap.size W w') := Lib.hid fun W h => H.dead a4 c4 l W hc4 (rowsIn_step HX.out h) hn4
  have HD2 : Hid (∀ W, Below W0.heap.size W0 W → Calls Try.prog 15 #[.slice a4 l.length c4] W fun e w' => ∃ b c, e = .returned (.slice b (deadV l).length c) ∧ (deadV l).length ≤ c ∧ Ints w'.heap.size w' b (deadV l) ∧ Below W.heap.size W w') := Lib.hid fun W h => rdead19_any a4 c4 l W hc4 (rowsIn_step HX.out h) hn4
  have HK1 : Hid (∀ W, Below W0.heap.size W0 W → Calls Try.prog 16 #[rulesVal a1 a2 a3 a4 ks.length c1 cs.length c2 fs.length c3 l.length c4] W fun e w' => e = .returned (.int .i64 (rulesE ks cs fs l)) ∧ Below W.heap.size W w') := Lib.hid fun W h => HK.check a1 a2 a3 a4 c1 c2 c3 c4 ks cs fs l W ((I1.out.below h).up h.size) ((I2.out.below h).up h.size) ((I3.out.below h).up h.size) (rowsIn_step HX.out h) hc1 hc2 hc3 hc4 hn1 hn2 hn3 hn4
  have HK2 : Hid (∀ W, Below W0.heap.size W0 W → Calls Try.prog 17 #[rulesVal a1 a2 a3 a4 ks.length c1 cs.length c2 fs.length c3 l.length c4] W fun e w' => e = .returned (.int .i64 (rulesE ks cs fs l)) ∧ Below W.heap.size W w') := Lib.hid fun W h => rcheck19_any a1 a2 a3 a4 c1 c2 c3 c4 ks cs fs l W ((I1.out.below h).up h.size) ((I2.out.below h).up h.size) ((I3.out.below h).up h.size) (rowsIn_step HX.out h) hn1 hn2 hn4
  have HP : Hid (∀ V, Below W0.heap.size W0 V → V.cell? ⟨w.heap.size, 0, none⟩ = some (.slice a1 ks.length c1) ∧ V.cell? ⟨w.heap.size, 1, none⟩ = some (.slice a2 cs.length c2) ∧ V.cell? ⟨w.heap.size, 2, none⟩ = some (.slice a3 fs.length c3) ∧ V.cell? ⟨w.heap.size, 3, none⟩ = some (.slice a4 l.length c4)) := Lib.hid fun V hV => by
    have k0 := old_obj hV M0.out
    exact ⟨cell_of (j := 0) k0 rfl, cell_of (j := 1) k0 rfl, cell_of (j := 2) k0 rfl, cell_of (j := 3) k0 rfl⟩
  clear hb0 h0 H HK hl0 hl1 hl2 hl3 hn1 hn2 hn3 hn4 hc1 hc2 hc3 hc4 HX I1 I2 I3
  unfold rulesVal at *
  generalize gapF l = G at *
  generalize gapB l = gp at *
  generalize tabE l = te at *
  generalize rulesE ks cs fs l = re at *
  generalize deadV l = ds at *
  generalize cellV l 0 = x0 at *
  generalize cellV l 1 = x1 at *
  generalize cellV l 2 = x2 at *
  generalize cellV l 3 = x3 at *
  generalize cellV l 4 = x4 at *
  generalize cellV l 5 = x5 at *
  generalize cellV l 6 = x6 at *
  generalize cellV l 7 = x7 at *
  obtain ⟨gg, gv, gn⟩ := G
  unfold factVal at *
  try dsimp only at *
  go_enter Try.func3, Try.ntmps3
  go_upto_region 1 with fail
  rw [← hW0]
  clear hW0
  have B0 := Lib.hid (Below.refl W0.heap.size W0)
  go_upto_region 4 with (go_at_call 8; refine (HG.out _ B0.out).mono ?_; rintro e w1 ⟨rfl, hb⟩; have B1 := Lib.hid (B0.out.trans (hb.mono B0.out.size)); clear hb)
  obtain ⟨V1, hV1⟩ : ∃ V, V = w1.alloc (.cells #[.int .i64 gg, .bool gv, .int .i64 gn] 28) := ⟨_, rfl⟩
  have m1 := heap_alloc_new w1 (.cells #[.int .i64 gg, .bool gv, .int .i64 gn] 28)
  have B2 : Hid (Below W0.heap.size W0 V1) := Lib.hid (by rw [hV1]; exact B1.out.trans ((lit16 w1 _).mono B1.out.size))
  rw [← hV1] at m1 ⊢
  clear hV1
  generalize w1.heap.size = gf at *
  have M1 := Lib.hid m1
  clear m1
  obtain ⟨p0, p1, p2, p3⟩ := HP.out _ B2.out
  go_upto_region 5 with (go_at_call 9; refine (HG2.out _ B2.out).mono ?_; rintro e w2 ⟨rfl, hb⟩; have B3 := Lib.hid (B2.out.trans (hb.mono B2.out.size)); have M1 := Lib.hid (old_obj hb M1.out); clear hb)
  obtain ⟨V2, hV2⟩ : ∃ V, V = w2.alloc (.cells #[.int .i64 gg, .bool gv, .int .i64 gn] 31) := ⟨_, rfl⟩
  have m2 := heap_alloc_new w2 (.cells #[.int .i64 gg, .bool gv, .int .i64 gn] 31)
  have B4 : Hid (Below W0.heap.size W0 V2) := Lib.hid (by rw [hV2]; exact B3.out.trans ((lit16 w2 _).mono B3.out.size))
  have n1 := old_obj (lit16 w2 (.cells #[.int .i64 gg, .bool gv, .int .i64 gn] 31)) M1.out
  rw [← hV2] at n1 m2 ⊢
  clear hV2
  have M1 := Lib.hid n1
  clear n1
  generalize w2.heap.size = gg2 at *
  have M2 := Lib.hid m2
  clear m2
  obtain ⟨p0, p1, p2, p3⟩ := HP.out _ B4.out
  go_upto_region 6 with (go_at_call 10; refine (HC.out _ B4.out).mono ?_; rintro e w3 ⟨rfl, hb⟩; have B5 := Lib.hid (B4.out.trans (hb.mono B4.out.size)); have M1 := Lib.hid (old_obj hb M1.out); have M2 := Lib.hid (old_obj hb M2.out); clear hb)
  obtain ⟨V3, hV3⟩ : ∃ V, V = w3.alloc (.cells #[.int .i64 x0, .int .i64 x1, .int .i64 x2, .int .i64 x3, .int .i64 x4, .int .i64 x5, .int .i64 x6, .int .i64 x7] 34) := ⟨_, rfl⟩
  have m3 := heap_alloc_new w3 (.cells #[.int .i64 x0, .int .i64 x1, .int .i64 x2, .int .i64 x3, .int .i64 x4, .int .i64 x5, .int .i64 x6, .int .i64 x7] 34)
  have B6 : Hid (Below W0.heap.size W0 V3) := Lib.hid (by rw [hV3]; exact B5.out.trans ((lit16 w3 _).mono B5.out.size))
  have n1 := old_obj (lit16 w3 (.cells #[.int .i64 x0, .int .i64 x1, .int .i64 x2, .int .i64 x3, .int .i64 x4, .int .i64 x5, .int .i64 x6, .int .i64 x7] 34)) M1.out
  have n2 := old_obj (lit16 w3 (.cells #[.int .i64 x0, .int .i64 x1, .int .i64 x2, .int .i64 x3, .int .i64 x4, .int .i64 x5, .int .i64 x6, .int .i64 x7] 34)) M2.out
  rw [← hV3] at n1 n2 m3 ⊢
  clear hV3
  have M1 := Lib.hid n1
  clear n1
  have M2 := Lib.hid n2
  clear n2
  generalize w3.heap.size = gn2 at *
  have M3 := Lib.hid m3
  clear m3
  obtain ⟨p0, p1, p2, p3⟩ := HP.out _ B6.out
  go_upto_region 7 with (go_at_call 11; refine (HC2.out _ B6.out).mono ?_; rintro e w4 ⟨rfl, hb⟩; have B7 := Lib.hid (B6.out.trans (hb.mono B6.out.size)); have M1 := Lib.hid (old_obj hb M1.out); have M2 := Lib.hid (old_obj hb M2.out); have M3 := Lib.hid (old_obj hb M3.out); clear hb)
  obtain ⟨V4, hV4⟩ : ∃ V, V = w4.alloc (.cells #[.int .i64 x0, .int .i64 x1, .int .i64 x2, .int .i64 x3, .int .i64 x4, .int .i64 x5, .int .i64 x6, .int .i64 x7] 34) := ⟨_, rfl⟩
  have m4 := heap_alloc_new w4 (.cells #[.int .i64 x0, .int .i64 x1, .int .i64 x2, .int .i64 x3, .int .i64 x4, .int .i64 x5, .int .i64 x6, .int .i64 x7] 34)
  have B8 : Hid (Below W0.heap.size W0 V4) := Lib.hid (by rw [hV4]; exact B7.out.trans ((lit16 w4 _).mono B7.out.size))
  have n1 := old_obj (lit16 w4 (.cells #[.int .i64 x0, .int .i64 x1, .int .i64 x2, .int .i64 x3, .int .i64 x4, .int .i64 x5, .int .i64 x6, .int .i64 x7] 34)) M1.out
  have n2 := old_obj (lit16 w4 (.cells #[.int .i64 x0, .int .i64 x1, .int .i64 x2, .int .i64 x3, .int .i64 x4, .int .i64 x5, .int .i64 x6, .int .i64 x7] 34)) M2.out
  have n3 := old_obj (lit16 w4 (.cells #[.int .i64 x0, .int .i64 x1, .int .i64 x2, .int .i64 x3, .int .i64 x4, .int .i64 x5, .int .i64 x6, .int .i64 x7] 34)) M3.out
  rw [← hV4] at n1 n2 n3 m4 ⊢
  clear hV4
  have M1 := Lib.hid n1
  clear n1
  have M2 := Lib.hid n2
  clear n2
  have M3 := Lib.hid n3
  clear n3
  generalize w4.heap.size = gm at *
  have M4 := Lib.hid m4
  clear m4
  have HS : Hid (∀ V, Below V4.heap.size V4 V → (V.cell? ⟨w.heap.size, 0, none⟩ = some (.slice a1 ks.length c1) ∧ V.cell? ⟨w.heap.size, 1, none⟩ = some (.slice a2 cs.length c2) ∧ V.cell? ⟨w.heap.size, 2, none⟩ = some (.slice a3 fs.length c3) ∧ V.cell? ⟨w.heap.size, 3, none⟩ = some (.slice a4 l.length c4)) ∧ (V.cell? ⟨gf, 0, none⟩ = some (.int .i64 gg) ∧ V.cell? ⟨gf, 1, none⟩ = some (.bool gv) ∧ V.cell? ⟨gf, 2, none⟩ = some (.int .i64 gn)) ∧ (V.cell? ⟨gg2, 0, none⟩ = some (.int .i64 gg) ∧ V.cell? ⟨gg2, 1, none⟩ = some (.bool gv) ∧ V.cell? ⟨gg2, 2, none⟩ = some (.int .i64 gn)) ∧ (V.cell? ⟨gn2, 0, none⟩ = some (.int .i64 x0) ∧ V.cell? ⟨gn2, 1, none⟩ = some (.int .i64 x1) ∧ V.cell? ⟨gn2, 2, none⟩ = some (.int .i64 x2) ∧ V.cell? ⟨gn2, 3, none⟩ = some (.int .i64 x3) ∧ V.cell? ⟨gn2, 4, none⟩ = some (.int .i64 x4) ∧ V.cell? ⟨gn2, 5, none⟩ = some (.int .i64 x5) ∧ V.cell? ⟨gn2, 6, none⟩ = some (.int .i64 x6) ∧ V.cell? ⟨gn2, 7, none⟩ = some (.int .i64 x7)) ∧ (V.cell? ⟨gm, 0, none⟩ = some (.int .i64 x0) ∧ V.cell? ⟨gm, 1, none⟩ = some (.int .i64 x1) ∧ V.cell? ⟨gm, 2, none⟩ = some (.int .i64 x2) ∧ V.cell? ⟨gm, 3, none⟩ = some (.int .i64 x3) ∧ V.cell? ⟨gm, 4, none⟩ = some (.int .i64 x4) ∧ V.cell? ⟨gm, 5, none⟩ = some (.int .i64 x5) ∧ V.cell? ⟨gm, 6, none⟩ = some (.int .i64 x6) ∧ V.cell? ⟨gm, 7, none⟩ = some (.int .i64 x7))) := Lib.hid fun V hV => by
    have k0 := old_obj hV (old_obj B8.out M0.out)
    have k1 := old_obj hV M1.out
    have k2 := old_obj hV M2.out
    have k3 := old_obj hV M3.out
    have k4 := old_obj hV M4.out
    exact ⟨⟨cell_of (j := 0) k0 rfl, cell_of (j := 1) k0 rfl, cell_of (j := 2) k0 rfl, cell_of (j := 3) k0 rfl⟩, ⟨cell_of (j := 0) k1 rfl, cell_of (j := 1) k1 rfl, cell_of (j := 2) k1 rfl⟩, ⟨cell_of (j := 0) k2 rfl, cell_of (j := 1) k2 rfl, cell_of (j := 2) k2 rfl⟩, ⟨cell_of (j := 0) k3 rfl, cell_of (j := 1) k3 rfl, cell_of (j := 2) k3 rfl, cell_of (j := 3) k3 rfl, cell_of (j := 4) k3 rfl, cell_of (j := 5) k3 rfl, cell_of (j := 6) k3 rfl, cell_of (j := 7) k3 rfl⟩, ⟨cell_of (j := 0) k4 rfl, cell_of (j := 1) k4 rfl, cell_of (j := 2) k4 rfl, cell_of (j := 3) k4 rfl, cell_of (j := 4) k4 rfl, cell_of (j := 5) k4 rfl, cell_of (j := 6) k4 rfl, cell_of (j := 7) k4 rfl⟩⟩
  have BX := Lib.hid (Below.refl V4.heap.size V4).drew
  have SX := Lib.hid (HS.out _ BX.out)
  have E8 := same_eight19 x0 x1 x2 x3 x4 x5 x6 x7
  clear M0 M1 M2 M3 M4
  go_region_held3 (fun V => (V.cell? ⟨w.heap.size, 0, none⟩ = some (.slice a1 ks.length c1) ∧ V.cell? ⟨w.heap.size, 1, none⟩ = some (.slice a2 cs.length c2) ∧ V.cell? ⟨w.heap.size, 2, none⟩ = some (.slice a3 fs.length c3) ∧ V.cell? ⟨w.heap.size, 3, none⟩ = some (.slice a4 l.length c4)) ∧ (V.cell? ⟨gf, 0, none⟩ = some (.int .i64 gg) ∧ V.cell? ⟨gf, 1, none⟩ = some (.bool gv) ∧ V.cell? ⟨gf, 2, none⟩ = some (.int .i64 gn)) ∧ (V.cell? ⟨gg2, 0, none⟩ = some (.int .i64 gg) ∧ V.cell? ⟨gg2, 1, none⟩ = some (.bool gv) ∧ V.cell? ⟨gg2, 2, none⟩ = some (.int .i64 gn)) ∧ (V.cell? ⟨gn2, 0, none⟩ = some (.int .i64 x0) ∧ V.cell? ⟨gn2, 1, none⟩ = some (.int .i64 x1) ∧ V.cell? ⟨gn2, 2, none⟩ = some (.int .i64 x2) ∧ V.cell? ⟨gn2, 3, none⟩ = some (.int .i64 x3) ∧ V.cell? ⟨gn2, 4, none⟩ = some (.int .i64 x4) ∧ V.cell? ⟨gn2, 5, none⟩ = some (.int .i64 x5) ∧ V.cell? ⟨gn2, 6, none⟩ = some (.int .i64 x6) ∧ V.cell? ⟨gn2, 7, none⟩ = some (.int .i64 x7)) ∧ (V.cell? ⟨gm, 0, none⟩ = some (.int .i64 x0) ∧ V.cell? ⟨gm, 1, none⟩ = some (.int .i64 x1) ∧ V.cell? ⟨gm, 2, none⟩ = some (.int .i64 x2) ∧ V.cell? ⟨gm, 3, none⟩ = some (.int .i64 x3) ∧ V.cell? ⟨gm, 4, none⟩ = some (.int .i64 x4) ∧ V.cell? ⟨gm, 5, none⟩ = some (.int .i64 x5) ∧ V.cell? ⟨gm, 6, none⟩ = some (.int .i64 x6) ∧ V.cell? ⟨gm, 7, none⟩ = some (.int .i64 x7))) (first
    | exact SX.out
    | assumption) (first
    | (go_at_call 12; refine (HW.out _ (B8.out.trans (BX.out.mono B8.out.size))).mono ?_; rintro e u1 ⟨rfl, hb⟩; have BX := Lib.hid (BX.out.trans (hb.mono BX.out.size)); have SX := Lib.hid (HS.out _ BX.out); clear hb)
    | (go_at_call 14; refine (HD.out _ (B8.out.trans (BX.out.mono B8.out.size))).mono ?_; rintro e u1 ⟨d1, k1, rfl, _, hi, hb⟩; have J1 := Lib.hid hi; have BX := Lib.hid (BX.out.trans (hb.mono BX.out.size)); have SX := Lib.hid (HS.out _ BX.out); clear hb hi)
    | (go_at_call 15; refine (HD2.out _ (B8.out.trans (BX.out.mono B8.out.size))).mono ?_; rintro e u2 ⟨d2, k2, rfl, _, hi, hb⟩; have J2 := Lib.hid hi; have J3 := Lib.hid ((J1.out.below hb).up hb.size); have BX := Lib.hid (BX.out.trans (hb.mono BX.out.size)); have SX := Lib.hid (HS.out _ BX.out); clear hb hi)
    | (go_at_call 13; refine (same_any _ _ _ _ ds ds _ (by have := hdl.out; omega) J3.out J2.out).mono ?_; rintro e u3 ⟨rfl, hb⟩; have BX := Lib.hid (BX.out.trans (hb.mono BX.out.size)); have SX := Lib.hid (HS.out _ BX.out); clear hb)
    | (go_at_call 16; refine (HK1.out _ (B8.out.trans (BX.out.mono B8.out.size))).mono ?_; rintro e u4 ⟨rfl, hb⟩; have BX := Lib.hid (BX.out.trans (hb.mono BX.out.size)); have SX := Lib.hid (HS.out _ BX.out); clear hb)
    | (go_at_call 17; refine (HK2.out _ (B8.out.trans (BX.out.mono B8.out.size))).mono ?_; rintro e u5 ⟨rfl, hb⟩; have BX := Lib.hid (BX.out.trans (hb.mono BX.out.size)); have SX := Lib.hid (HS.out _ BX.out); clear hb)
    | (go_at_call 7; refine (HAW.out _).mono ?_; rintro e u6 ⟨rfl, hb⟩; have BX := Lib.hid (BX.out.trans (hb.mono BX.out.size)); have SX := Lib.hid (HS.out _ BX.out); clear hb))
  all_goals
    go_wp2
    go_ret
    have BZ := B8.out.trans (BX.out.mono B8.out.size)
    exact ⟨by first | rfl | simp, HB0.out.trans (BZ.mono HB0.out.size)⟩
end Go.Proofs.Ytifihejogbcbgaa
