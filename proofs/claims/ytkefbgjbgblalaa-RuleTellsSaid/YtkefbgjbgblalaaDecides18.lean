/- The walk of RuleDecides, from what is wanted of rule's functions. -/
import Derived.Test.YtkefbgjbgblalaaWake18
namespace Go.Proofs.Ytkefbgjbgblalaa
open Go.RowKit

set_option maxRecDepth 100000 in
set_option maxHeartbeats 8000000 in
theorem ruleDecides_from (H : Rule18) (w : World) (a : Option Addr) (cap : Nat) (l : List Row18) (_ : l.length ≤ maxLen) (hx : RowsIn w.heap.size w a l) (hcap : l.length ≤ cap) (f : Fact18) :
    Calls Try.prog 4 #[.slice a l.length cap, factVal f] w fun e w' => e = .returned (.bool true) ∧ Below w.heap.size w w' := by
  obtain ⟨W0, hW0⟩ : ∃ W, W = w.alloc (.cells #[.int .i64 f.g, .bool f.v, .int .i64 f.n] 25) := ⟨_, rfl⟩
  have hb0 : Below w.heap.size w W0 := by rw [hW0]; exact lit16 w _
  have h1 := heap_alloc_new w (.cells #[.int .i64 f.g, .bool f.v, .int .i64 f.n] 25)
  rw [← hW0] at h1
  have HB0 := Lib.hid hb0
  have HAW : Hid (∀ W, Calls Try.prog 14 #[] W fun e w' => e = .returned (.bool true) ∧ Below W.heap.size W w') := Lib.hid fun W => awake18 H W
  by_cases hl : 100 < l.length
  · have e1 : decide (100 < (l.length : Int)) = true := decide_eq_true (by omega)
    have e1' : decide (100 < l.length) = true := decide_eq_true hl
    clear hl hx hcap h1 hb0
    obtain ⟨fg, fv, fn⟩ := f
    dsimp only at *
    go_enter Try.func4, Try.ntmps4
    go_upto_region 1 with fail
    rw [← hW0]
    clear hW0
    go_wp2_with (go_at_call 14; refine (HAW.out _).mono ?_; rintro e w2 ⟨rfl, hb⟩; have HB := Lib.hid (HB0.out.trans (hb.mono HB0.out.size)); clear hb)
    go_ret
    exact ⟨rfl, HB.out⟩
  have e1 : decide (100 < (l.length : Int)) = false := decide_eq_false (by omega)
  have e1' : decide (100 < l.length) = false := decide_eq_false hl
  have hn : l.length ≤ 1000000 := by omega
  have HX := Lib.hid (rowsIn_step hx hb0)
  have H1 : Hid (∀ W, Below W0.heap.size W0 W → Calls Try.prog 15 #[.slice a l.length cap, factVal f] W fun e w' => e = .returned (.tuple #[.int .i64 (decWay l f), .int .i64 (decAt l f), .int .i64 (decE l f)]) ∧ Below W.heap.size W w') := Lib.hid fun W h => H.decide a cap l f W hcap (rowsIn_step HX.out h) hn
  have H2 : Hid (∀ W, Below W0.heap.size W0 W → Calls Try.prog 16 #[.slice a l.length cap, factVal f] W fun e w' => e = .returned (.tuple #[.int .i64 (decWay l f), .int .i64 (decAt l f), .int .i64 (decE l f)]) ∧ Below W.heap.size W w') := Lib.hid fun W h => rdecide18_any a cap l f W (rowsIn_step HX.out h) hn
  have H3 : Hid (∀ W, Below W0.heap.size W0 W → Calls Try.prog 17 #[.slice a l.length cap] W fun e w' => e = .returned (.int .i64 (tabE l)) ∧ Below W.heap.size W w') := Lib.hid fun W h => H.check a cap l W hcap (rowsIn_step HX.out h) hn
  have H4 : Hid (∀ W, Below W0.heap.size W0 W → Calls Try.prog 18 #[.slice a l.length cap] W fun e w' => e = .returned (.int .i64 (tabE l)) ∧ Below W.heap.size W w') := Lib.hid fun W h => rcheck18_any a cap l W (rowsIn_step HX.out h) hn
  have H5 : Hid (∀ W, Calls Try.prog 11 #[factVal f] W fun e w' => e = .returned (factVal f) ∧ Below W.heap.size W w') := Lib.hid fun W => of18_any f W
  have H6 : Hid (∀ W, Below W0.heap.size W0 W → Calls Try.prog 20 #[.slice a l.length cap, factVal f] W fun e w' => ∃ b c, e = .returned (.slice b (fitsV l f).length c) ∧ (fitsV l f).length ≤ c ∧ Ints w'.heap.size w' b (fitsV l f) ∧ Below W.heap.size W w') := Lib.hid fun W h => H.all a cap l f W hcap (rowsIn_step HX.out h) hn
  have H7 : Hid (∀ W, Below W0.heap.size W0 W → Calls Try.prog 21 #[.slice a l.length cap, factVal f] W fun e w' => ∃ b c, e = .returned (.slice b (fitsV l f).length c) ∧ (fitsV l f).length ≤ c ∧ Ints w'.heap.size w' b (fitsV l f) ∧ Below W.heap.size W w') := Lib.hid fun W h => rfits18_any a cap l f W (rowsIn_step HX.out h) hn
  have HL : Hid ((fitsV l f).length ≤ 1000000) := Lib.hid (by
    unfold fitsV
    split
    · have := fits_len l f l.length; omega
    · simp)
  clear H hl hx hcap hn
  generalize fitsV l f = fs at *
  generalize decWay l f = x1 at *
  generalize decAt l f = x2 at *
  generalize decE l f = x3 at *
  generalize tabE l = x4 at *
  obtain ⟨fg, fv, fn⟩ := f
  dsimp only at *
  have HS : Hid (∀ V, Below W0.heap.size W0 V → V.cell? ⟨w.heap.size, 0, none⟩ = some (.int .i64 fg) ∧ V.cell? ⟨w.heap.size, 1, none⟩ = some (.bool fv) ∧ V.cell? ⟨w.heap.size, 2, none⟩ = some (.int .i64 fn)) := Lib.hid fun V hV => by
    have k1 := old_obj hV h1
    exact ⟨cell_of (j := 0) k1 rfl, cell_of (j := 1) k1 rfl, cell_of (j := 2) k1 rfl⟩
  obtain ⟨c0, c1, c2⟩ := HS.out W0 (Below.refl _ _)
  clear h1 hb0
  go_enter Try.func4, Try.ntmps4
  go_upto_region 1 with fail
  rw [← hW0]
  clear hW0
  go_upto_region 4 with (go_at_call 15; refine (H1.out _ (Below.refl _ _)).mono ?_; rintro e w1 ⟨rfl, hb⟩; have BX := Lib.hid hb; clear hb)
  clear c0 c1 c2
  obtain ⟨c0, c1, c2⟩ := HS.out _ BX.out
  go_upto_region 5 with (first
    | (go_at_call 11; refine (H5.out _).mono ?_; rintro e w2 ⟨rfl, hb⟩; have BX := Lib.hid (BX.out.trans (hb.mono BX.out.size)); clear hb)
    | (go_at_call 16; refine (H2.out _ BX.out).mono ?_; rintro e w3 ⟨rfl, hb⟩; have BX := Lib.hid (BX.out.trans (hb.mono BX.out.size)); clear hb))
  clear c0 c1 c2
  have BX := Lib.hid (BX.out.trans ((Below.refl w3.heap.size w3).drew.mono BX.out.size))
  have SX := Lib.hid (HS.out _ BX.out)
  go_region_held3 (fun V => V.cell? ⟨w.heap.size, 0, none⟩ = some (.int .i64 fg) ∧ V.cell? ⟨w.heap.size, 1, none⟩ = some (.bool fv) ∧ V.cell? ⟨w.heap.size, 2, none⟩ = some (.int .i64 fn)) (first
    | exact SX.out
    | assumption) (first
    | (go_at_call 17; refine (H3.out _ BX.out).mono ?_; rintro e w4 ⟨rfl, hb⟩; have BX := Lib.hid (BX.out.trans (hb.mono BX.out.size)); have SX := Lib.hid (HS.out _ BX.out); clear hb)
    | (go_at_call 18; refine (H4.out _ BX.out).mono ?_; rintro e w5 ⟨rfl, hb⟩; have BX := Lib.hid (BX.out.trans (hb.mono BX.out.size)); have SX := Lib.hid (HS.out _ BX.out); clear hb)
    | (go_at_call 20; refine (H6.out _ BX.out).mono ?_; rintro e w6 ⟨ba, ca, rfl, _, hi, hb⟩; have IA := Lib.hid hi; have BX := Lib.hid (BX.out.trans (hb.mono BX.out.size)); have SX := Lib.hid (HS.out _ BX.out); clear hb hi)
    | (go_at_call 11; refine (H5.out _).mono ?_; rintro e w7 ⟨rfl, hb⟩; have IB := Lib.hid (IA.out.step hb); have BX := Lib.hid (BX.out.trans (hb.mono BX.out.size)); have SX := Lib.hid (HS.out _ BX.out); clear hb)
    | (go_at_call 21; refine (H7.out _ BX.out).mono ?_; rintro e w8 ⟨bb, cb, rfl, _, hi, hb⟩; have IC := Lib.hid (And.intro (IB.out.step hb) hi); have BX := Lib.hid (BX.out.trans (hb.mono BX.out.size)); have SX := Lib.hid (HS.out _ BX.out); clear hb hi)
    | (go_at_call 19; refine (same_any ba bb ca cb fs fs _ (by have := HL.out; omega) IC.out.1 IC.out.2).mono ?_; rintro e w9 ⟨rfl, hb⟩; have BX := Lib.hid (BX.out.trans (hb.mono BX.out.size)); have SX := Lib.hid (HS.out _ BX.out); clear hb)
    | (go_at_call 14; refine (HAW.out _).mono ?_; rintro e w10 ⟨rfl, hb⟩; have BX := Lib.hid (BX.out.trans (hb.mono BX.out.size)); have SX := Lib.hid (HS.out _ BX.out); clear hb))
  all_goals
    go_wp2
    go_ret
    exact ⟨by first | rfl | simp, HB0.out.trans (BX.out.mono HB0.out.size)⟩
end Go.Proofs.Ytkefbgjbgblalaa
