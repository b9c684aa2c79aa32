/- The walk of TotalGap, from what is wanted of rule's and total's functions. -/
import Derived.Test.YtifihejogbcbgaaMRefF19
namespace Go.Proofs.Ytifihejogbcbgaa
open Go.RowKit

set_option maxRecDepth 100000 in
set_option maxHeartbeats 8000000 in
theorem totalGap_from (R : Rule19) (H : Total19) (HK : TotalC19) (w : World) (a : Option Addr) (cap : Nat) (l : List Row18) (_ : l.length ≤ maxLen) (hx : RowsIn w.heap.size w a l) (hcap : l.length ≤ cap) (f : Fact18) :
    Calls Try.prog 4 #[.slice a l.length cap, factVal f] w fun e w' => e = .returned (.bool true) ∧ Below w.heap.size w w' := by
  obtain ⟨W0, hW0⟩ : ∃ W, W = w.alloc (.cells #[.int .i64 f.g, .bool f.v, .int .i64 f.n] 28) := ⟨_, rfl⟩
  have hb0 : Below w.heap.size w W0 := by rw [hW0]; exact lit16 w _
  have h1 := heap_alloc_new w (.cells #[.int .i64 f.g, .bool f.v, .int .i64 f.n] 28)
  rw [← hW0] at h1
  have HB0 := Lib.hid hb0
  have HAW : Hid (∀ W, Calls Try.prog 7 #[] W fun e w' => e = .returned (.bool true) ∧ Below W.heap.size W w') := Lib.hid fun W => awake19 H HK W
  by_cases hl : 60 < l.length
  · have e1 : decide (60 < (l.length : Int)) = true := decide_eq_true (by omega)
    have e1' : decide (60 < l.length) = true := decide_eq_true hl
    clear hl hx hcap h1 hb0 R H HK
    obtain ⟨fg, fv, fn⟩ := f
    dsimp only at *
    go_enter Try.func4, Try.ntmps4
    go_upto_region 1 with fail
    rw [← hW0]
    clear hW0
    go_wp2_with (go_at_call 7; refine (HAW.out _).mono ?_; rintro e w2 ⟨rfl, hb⟩; have HB := Lib.hid (HB0.out.trans (hb.mono HB0.out.size)); clear hb)
    go_ret
    exact ⟨rfl, HB.out⟩
  have e1 : decide (60 < (l.length : Int)) = false := decide_eq_false (by omega)
  have e1' : decide (60 < l.length) = false := decide_eq_false hl
  have hn : l.length ≤ 1000000 := by omega
  have HX := Lib.hid (rowsIn_step hx hb0)
  have HS : Hid (∀ V, Below W0.heap.size W0 V → V.cell? ⟨w.heap.size, 0, none⟩ = some (.int .i64 f.g) ∧ V.cell? ⟨w.heap.size, 1, none⟩ = some (.bool f.v) ∧ V.cell? ⟨w.heap.size, 2, none⟩ = some (.int .i64 f.n)) := Lib.hid fun V hV => by
    have k1 := old_obj hV h1
    exact ⟨cell_of (j := 0) k1 rfl, cell_of (j := 1) k1 rfl, cell_of (j := 2) k1 rfl⟩
  have HC : Hid (∀ W, Below W0.heap.size W0 W → Calls Try.prog 18 #[.slice a l.length cap] W fun e w' => e = .returned (.int .i64 (tabE l)) ∧ Below W.heap.size W w') := Lib.hid fun W h => R.check a cap l W hcap (rowsIn_step HX.out h) hn
  have HF : Hid (∀ f W, Calls Try.prog 20 #[factVal f] W fun e w' => e = .returned (.int .i64 (factE f)) ∧ Below W.heap.size W w') := Lib.hid fun f W => R.fact f W
  have HD : Hid (∀ f W, Below W0.heap.size W0 W → Calls Try.prog 19 #[.slice a l.length cap, factVal f] W fun e w' => e = .returned (.tuple #[.int .i64 (decWay l f), .int .i64 (decAt l f), .int .i64 (decE l f)]) ∧ Below W.heap.size W w') := Lib.hid fun f W h => R.decide a cap l f W hcap (rowsIn_step HX.out h) hn
  have HG : Hid (∀ W, Below W0.heap.size W0 W → Calls Try.prog 8 #[.slice a l.length cap] W fun e w' => e = .returned (.tuple #[factVal (gapF l), .bool (gapB l)]) ∧ Below W.heap.size W w') := Lib.hid fun W h => H.gap a cap l W hcap (rowsIn_step HX.out h) hn
  have HW : Hid (∀ W, Below W0.heap.size W0 W → Calls Try.prog 12 #[.slice a l.length cap] W fun e w' => e = .returned (.bool (!gapB l)) ∧ Below W.heap.size W w') := Lib.hid fun W h => H.whole a cap l W hcap (rowsIn_step HX.out h) hn
  by_cases hT : ¬ TabOk l
  · rw [tab_no hT] at HC
    clear hl hx hcap h1 hb0 R H HK hT hn
    obtain ⟨fg, fv, fn⟩ := f
    dsimp only at *
    go_enter Try.func4, Try.ntmps4
    go_upto_region 1 with fail
    rw [← hW0]
    clear hW0
    go_wp2_with (first
      | (go_at_call 18; refine (HC.out _ (Below.refl _ _)).mono ?_; rintro e w1 ⟨rfl, hb⟩; have BX := Lib.hid hb; clear hb)
      | (go_at_call 7; refine (HAW.out _).mono ?_; rintro e w2 ⟨rfl, hb⟩; have BY := Lib.hid (BX.out.trans (hb.mono BX.out.size)); clear hb))
    go_ret
    exact ⟨rfl, HB0.out.trans (BY.out.mono HB0.out.size)⟩
  have hT := Decidable.not_not.1 hT
  rw [tab_yes hT] at HC
  rcases gap_says hT with ⟨g0, g1, g2⟩ | ⟨g0, g1⟩
  · rw [g0] at HG HW
    have HD2 : Hid (∀ W, Below W0.heap.size W0 W → Calls Try.prog 19 #[.slice a l.length cap, factVal (gapF l)] W fun e w' => (∃ x y, e = .returned (.tuple #[.int .i64 x, .int .i64 y, .int .i64 36])) ∧ Below W.heap.size W w') := Lib.hid fun W h => (HD.out (gapF l) W h).mono (by rintro e w' ⟨rfl, hb⟩; exact ⟨⟨_, _, by rw [g1]⟩, hb⟩)
    have HF2 := Lib.hid (HF.out (gapF l))
    rw [g2] at HF2
    clear hl hx hcap h1 hb0 R H HK hT hn HD HF g0 g1 g2
    generalize gapF l = G at *
    obtain ⟨fg, fv, fn⟩ := f
    obtain ⟨gg, gv, gn⟩ := G
    dsimp only at *
    go_enter Try.func4, Try.ntmps4
    go_upto_region 1 with fail
    rw [← hW0]
    clear hW0
    go_upto_region 4 with (first
      | (go_at_call 18; refine (HC.out _ (Below.refl _ _)).mono ?_; rintro e w1 ⟨rfl, hb⟩; have BX := Lib.hid hb; clear hb)
      | (go_at_call 8; refine (HG.out _ BX.out).mono ?_; rintro e w2 ⟨rfl, hb⟩; have BY := Lib.hid (BX.out.trans (hb.mono BX.out.size)); clear hb))
    obtain ⟨V, hV⟩ : ∃ V, V = w2.alloc (.cells #[.int .i64 gg, .bool gv, .int .i64 gn] 28) := ⟨_, rfl⟩
    have k1 := heap_alloc_new w2 (.cells #[.int .i64 gg, .bool gv, .int .i64 gn] 28)
    have BV : Hid (Below W0.heap.size W0 V) := Lib.hid (by rw [hV]; exact BY.out.trans ((lit16 w2 _).mono BY.out.size))
    rw [← hV] at k1 ⊢
    clear hV
    generalize w2.heap.size = g5 at *
    have HK1 : Hid (∀ U, Below V.heap.size V U → U.cell? ⟨g5, 0, none⟩ = some (.int .i64 gg) ∧ U.cell? ⟨g5, 1, none⟩ = some (.bool gv) ∧ U.cell? ⟨g5, 2, none⟩ = some (.int .i64 gn)) := Lib.hid fun U hU => by
      have k1 := old_obj hU k1
      exact ⟨cell_of (j := 0) k1 rfl, cell_of (j := 1) k1 rfl, cell_of (j := 2) k1 rfl⟩
    obtain ⟨c0, c1, c2⟩ := HK1.out _ (Below.refl _ _)
    clear k1
    go_wp2_with (first
      | (go_at_call 19; refine (HD2.out _ BV.out).mono ?_; rintro e w3 ⟨⟨x, y, rfl⟩, hb⟩; have B3 := Lib.hid (BV.out.trans (hb.mono BV.out.size)); obtain ⟨d0, d1, d2⟩ := HK1.out _ hb; clear hb)
      | (go_at_call 20; refine (HF2.out _).mono ?_; rintro e w4 ⟨rfl, hb⟩; have B4 := Lib.hid (B3.out.trans (hb.mono B3.out.size)); clear hb)
      | (go_at_call 12; refine (HW.out _ B4.out).mono ?_; rintro e w5 ⟨rfl, hb⟩; have B5 := Lib.hid (B4.out.trans (hb.mono B4.out.size)); clear hb)
      | (go_at_call 7; refine (HAW.out _).mono ?_; rintro e w6 ⟨rfl, hb⟩; have B6 := Lib.hid (B5.out.trans (hb.mono B5.out.size)); clear hb))
    go_ret
    exact ⟨rfl, HB0.out.trans (B6.out.mono HB0.out.size)⟩
  · rw [g0] at HG HW
    have hcase : (decE l f = 0) ∨ (factE f = 2) := by
      by_cases q : FactOk f
      · exact Or.inl (g1 f q)
      · exact Or.inr (fact_no q)
    have HD2 := Lib.hid (HD.out f)
    have HF2 := Lib.hid (HF.out f)
    clear hl hx hcap hb0 R H HK hT hn HD HF g0 g1
    generalize gapF l = G at *
    have HFE := Lib.hid hcase
    generalize decE l f = xe at *
    generalize decWay l f = xw at *
    generalize decAt l f = xa at *
    generalize factE f = xf at *
    obtain ⟨gg, gv, gn⟩ := G
    obtain ⟨fg, fv, fn⟩ := f
    dsimp only at *
    clear h1
    go_enter Try.func4, Try.ntmps4
    go_upto_region 1 with fail
    rw [← hW0]
    clear hW0
    go_upto_region 4 with (first
      | (go_at_call 18; refine (HC.out _ (Below.refl _ _)).mono ?_; rintro e w1 ⟨rfl, hb⟩; have BX := Lib.hid hb; clear hb)
      | (go_at_call 8; refine (HG.out _ BX.out).mono ?_; rintro e w2 ⟨rfl, hb⟩; have BY := Lib.hid (BX.out.trans (hb.mono BX.out.size)); clear hb))
    obtain ⟨V, hV⟩ : ∃ V, V = w2.alloc (.cells #[.int .i64 gg, .bool gv, .int .i64 gn] 28) := ⟨_, rfl⟩
    have BV : Hid (Below W0.heap.size W0 V) := Lib.hid (by rw [hV]; exact BY.out.trans ((lit16 w2 _).mono BY.out.size))
    rw [← hV]
    clear hV
    obtain ⟨c0, c1, c2⟩ := HS.out _ BV.out
    have hxe : xe = 0 ∨ (xe ≠ 0 ∧ xf = 2) := by
      rcases hcase with q | q
      · exact Or.inl q
      · by_cases z : xe = 0
        · exact Or.inl z
        · exact Or.inr ⟨z, q⟩
    clear hcase HFE
    rcases hxe with rfl | ⟨hz, rfl⟩
    · go_wp2_with (first
        | (go_at_call 19; refine (HD2.out _ BV.out).mono ?_; rintro e w3 ⟨rfl, hb⟩; have B3 := Lib.hid (BV.out.trans (hb.mono BV.out.size)); clear hb)
        | (go_at_call 12; refine (HW.out _ B3.out).mono ?_; rintro e w5 ⟨rfl, hb⟩; have B5 := Lib.hid (B3.out.trans (hb.mono B3.out.size)); clear hb)
        | (go_at_call 7; refine (HAW.out _).mono ?_; rintro e w6 ⟨rfl, hb⟩; have B6 := Lib.hid (B5.out.trans (hb.mono B5.out.size)); clear hb))
      go_ret
      exact ⟨rfl, HB0.out.trans (B6.out.mono HB0.out.size)⟩
    · have hz' : (xe == 0) = false := by rw [beq_eq_false_iff_ne]; exact hz
      clear hz
      go_wp2_with (first
        | (go_at_call 19; refine (HD2.out _ BV.out).mono ?_; rintro e w3 ⟨rfl, hb⟩; have B3 := Lib.hid (BV.out.trans (hb.mono BV.out.size)); obtain ⟨d0, d1, d2⟩ := HS.out _ B3.out; clear hb)
        | (go_at_call 20; refine (HF2.out _).mono ?_; rintro e w4 ⟨rfl, hb⟩; have B4 := Lib.hid (B3.out.trans (hb.mono B3.out.size)); clear hb)
        | (go_at_call 12; refine (HW.out _ B4.out).mono ?_; rintro e w5 ⟨rfl, hb⟩; have B5 := Lib.hid (B4.out.trans (hb.mono B4.out.size)); clear hb)
        | (go_at_call 7; refine (HAW.out _).mono ?_; rintro e w6 ⟨rfl, hb⟩; have B6 := Lib.hid (B5.out.trans (hb.mono B5.out.size)); clear hb))
      go_ret
      exact ⟨rfl, HB0.out.trans (B6.out.mono HB0.out.size)⟩
end Go.Proofs.Ytifihejogbcbgaa
