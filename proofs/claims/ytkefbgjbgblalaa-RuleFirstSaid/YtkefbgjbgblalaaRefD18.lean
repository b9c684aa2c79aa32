/- The document's Decide, and the law's own facts and rows: in every world. -/
import Derived.Test.YtkefbgjbgblalaaRefC18
namespace Go.Proofs.Ytkefbgjbgblalaa
open Go.RowKit

set_option maxHeartbeats 4000000 in
theorem rdecide18_any (a : Option Addr) (cap : Nat) (l : List Row18) (f : Fact18) (w : World) (hx : RowsIn w.heap.size w a l) (hn : l.length ≤ 1000000) :
    Calls Try.prog 16 #[.slice a l.length cap, factVal f] w fun e w' => e = .returned (.tuple #[.int .i64 (decWay l f), .int .i64 (decAt l f), .int .i64 (decE l f)]) ∧ Below w.heap.size w w' := by
  obtain ⟨W0, hW0⟩ : ∃ W, W = w.alloc (.cells #[.int .i64 f.g, .bool f.v, .int .i64 f.n] 31) := ⟨_, rfl⟩
  have hb0 : Below w.heap.size w W0 := by rw [hW0]; exact lit16 w _
  have hf0 : W0.heap[w.heap.size]? = some (.cells #[.int .i64 f.g, .bool f.v, .int .i64 f.n] 31 (0, 0)) := by rw [hW0]; exact fact_box18 w f
  have HX := Lib.hid (rowsIn_step hx hb0)
  have HB0 := Lib.hid hb0
  have HF0 := Lib.hid hf0
  have HC : Hid (∀ W, Below W0.heap.size W0 W → Calls Try.prog 18 #[.slice a l.length cap] W fun e w' => e = .returned (.int .i64 (tabE l)) ∧ Below W.heap.size W w') := Lib.hid fun W h => rcheck18_any a cap l W (rowsIn_step HX.out h) hn
  have HG : Hid (∀ W, Calls Try.prog 10 #[factVal f] W fun e w' => e = .returned (.int .i64 (factE f)) ∧ Below W.heap.size W w') := Lib.hid fun W => rfact18_any f W
  have HM : Hid (∀ W, Below W0.heap.size W0 W → Calls Try.prog 21 #[.slice a l.length cap, factVal f] W fun e w' => ∃ b c, e = .returned (.slice b (fitsV l f).length c) ∧ (fitsV l f).length ≤ c ∧ Ints w'.heap.size w' b (fitsV l f) ∧ Below W.heap.size W w') := Lib.hid fun W h => rfits18_any a cap l f W (rowsIn_step HX.out h) hn
  clear hx hb0 hf0
  have HFB : Hid (∀ W, Below W0.heap.size W0 W → W.cell? ⟨w.heap.size, 0, none⟩ = some (.int .i64 f.g) ∧ W.cell? ⟨w.heap.size, 1, none⟩ = some (.bool f.v) ∧ W.cell? ⟨w.heap.size, 2, none⟩ = some (.int .i64 f.n)) := Lib.hid fun W h => by
    have hfb := old_obj h HF0.out
    exact ⟨cell_of (j := 0) hfb rfl, cell_of (j := 1) hfb rfl, cell_of (j := 2) hfb rfl⟩
  by_cases hA : ¬ TabOk l
  · have HV := Lib.hid (dec_no (f := f) hA)
    rw [tab_no hA] at HC
    clear hA
    generalize decWay l f = x1 at *
    generalize decAt l f = x2 at *
    generalize decE l f = x3 at *
    obtain ⟨fg, fv, fn⟩ := f
    dsimp only at *
    go_enter Try.func16, Try.ntmps16
    go_upto_region 1 with fail
    rw [← hW0]
    clear hW0
    go_wp2_with (go_at_call 18; refine (HC.out _ (Below.refl _ _)).mono ?_; rintro e w2 ⟨rfl, hb⟩; have HB2 := Lib.hid (HB0.out.trans (hb.mono HB0.out.size)); clear hb)
    go_ret3
    exact ⟨by rw [HV.out.1, HV.out.2.1, HV.out.2.2]; rfl, HB2.out⟩
  have hA := Decidable.not_not.1 hA
  rw [tab_yes hA] at HC
  by_cases hF : ¬ FactOk f
  · have HV := Lib.hid (dec_fact hA hF)
    rw [fact_no hF] at HG
    clear hA hF
    generalize decWay l f = x1 at *
    generalize decAt l f = x2 at *
    generalize decE l f = x3 at *
    obtain ⟨fg, fv, fn⟩ := f
    dsimp only at *
    go_enter Try.func16, Try.ntmps16
    go_upto_region 1 with fail
    rw [← hW0]
    clear hW0
    go_wp2_with (first
      | (go_at_call 18; refine (HC.out _ (Below.refl _ _)).mono ?_; rintro e w2 ⟨rfl, hb⟩; have HB2 := Lib.hid hb; obtain ⟨x0, x1, x2⟩ := HFB.out _ hb; clear hb)
      | (go_at_call 10; refine (HG.out _).mono ?_; rintro e w3 ⟨rfl, hb⟩; have HB3 := Lib.hid (HB2.out.trans (hb.mono HB2.out.size)); clear hb))
    go_ret3
    exact ⟨by rw [HV.out.1, HV.out.2.1, HV.out.2.2]; rfl, HB0.out.trans (HB3.out.mono HB0.out.size)⟩
  have hF := Decidable.not_not.1 hF
  rw [fact_yes hF] at HG
  have hV : fitsV l f = fitsTo l f l.length := if_pos hA
  rcases first_fits l f l.length with ⟨h1, h2⟩ | ⟨i, t, h1, h2, _, h4⟩
  · have HV := Lib.hid (dec_none hA hF h1)
    rw [hV, h2] at HM
    clear hA hF hV h1 h2
    generalize decWay l f = x1 at *
    generalize decAt l f = x2 at *
    generalize decE l f = x3 at *
    obtain ⟨fg, fv, fn⟩ := f
    dsimp only at *
    go_enter Try.func16, Try.ntmps16
    go_upto_region 1 with fail
    rw [← hW0]
    clear hW0
    go_wp2_with (first
      | (go_at_call 18; refine (HC.out _ (Below.refl _ _)).mono ?_; rintro e w2 ⟨rfl, hb⟩; have HB2 := Lib.hid hb; obtain ⟨x0, x1, x2⟩ := HFB.out _ hb; clear hb)
      | (go_at_call 10; refine (HG.out _).mono ?_; rintro e w3 ⟨rfl, hb⟩; have HB3 := Lib.hid (HB2.out.trans (hb.mono HB2.out.size)); clear hb x0 x1 x2; obtain ⟨x0, x1, x2⟩ := HFB.out _ HB3.out)
      | (go_at_call 21; refine (HM.out _ HB3.out).mono ?_; rintro e w4 ⟨qb, qc, rfl, _, _, hb⟩; have HB4 := Lib.hid (HB3.out.trans (hb.mono HB3.out.size)); clear hb))
    go_ret3
    exact ⟨by rw [HV.out.1, HV.out.2.1, HV.out.2.2]; rfl, HB0.out.trans (HB4.out.mono HB0.out.size)⟩
  · have HV := Lib.hid (dec_some hA hF h1)
    rw [hV, h4] at HM
    have hn1 : (((t.length + 1 : Nat) : Int) == 0) = false := by rw [beq_eq_false_iff_ne]; omega
    have i1 : (0 : Int) < ((t.length + 1 : Nat) : Int) := by omega
    have i2 : (i : Int) < (l.length : Int) := by omega
    have i3 : (0 : Int) ≤ (i : Int) := by omega
    have HI := Lib.hid h2
    clear hA hF hV h1 h2 h4
    generalize decWay l f = x1 at *
    generalize decAt l f = x2 at *
    generalize decE l f = x3 at *
    obtain ⟨fg, fv, fn⟩ := f
    dsimp only [List.length_cons] at *
    go_enter Try.func16, Try.ntmps16
    go_upto_region 1 with fail
    rw [← hW0]
    clear hW0
    go_upto_region 8 with (first
      | (go_at_call 18; refine (HC.out _ (Below.refl _ _)).mono ?_; rintro e w2 ⟨rfl, hb⟩; have HB2 := Lib.hid hb; obtain ⟨x0, x1, x2⟩ := HFB.out _ hb; clear hb)
      | (go_at_call 10; refine (HG.out _).mono ?_; rintro e w3 ⟨rfl, hb⟩; have HB3 := Lib.hid (HB2.out.trans (hb.mono HB2.out.size)); clear hb x0 x1 x2; obtain ⟨x0, x1, x2⟩ := HFB.out _ HB3.out)
      | (go_at_call 21; refine (HM.out _ HB3.out).mono ?_; rintro e w4 ⟨qb, qc, rfl, _, hi, hb⟩; have HB4 := Lib.hid (HB3.out.trans (hb.mono HB3.out.size)); have HI4 := Lib.hid hi; clear hb hi))
    rcases HI4.out with h | ⟨b2, o2, rfl, _, hc2⟩
    · cases h
    have k0 : w4.cell? ⟨b2, o2, none⟩ = some (.int .i64 (i : Int)) := hc2 0 (by simp)
    obtain ⟨b, off, rfl, _, _, _, _, _, c4⟩ := rows_at18 (rowsIn_step HX.out HB4.out) HI.out
    clear hc2
    go_quiet (fail)
    go_wp2
    go_ret3
    exact ⟨by rw [HV.out.1, HV.out.2.1, HV.out.2.2]; rfl, HB0.out.trans ((drawn_below HB4.out _).mono HB0.out.size)⟩
/-- One result that lies in a block of cells. -/
theorem results_one18 {fn : Func} {p : Tmp} {T : TypeId} (h : fn.results = #[.cell p T]) (tmps : Array Value) (w : World) (g : Nat) (v : Value)
    (hp : tmps.getD p undef = .pointer (some ⟨g, 0, none⟩)) (hl : (loadVar T ⟨g, 0, none⟩).run Try.prog w = .ok v w) :
    (results fn tmps).run Try.prog w = .ok v w := by
  have hp' : tmps[p]?.getD undef = .pointer (some ⟨g, 0, none⟩) := by simpa using hp
  simp only [results, h]
  simp [hp', asAddr, hl]
theorem fact_load18 {w : World} {g : Nat} {x y z : Value} (h : w.heap[g]? = some (.cells #[x, y, z] 31 (0, 0))) : (loadVar 31 ⟨g, 0, none⟩).run Try.prog w = .ok (.agg #[x, y, z]) w :=
  run_loadVar_row (P := Try.prog) w g _ 31 #[x, y, z] (0, 0) _ h Try.underlying31 rfl (by kernel_rfl)
/-- The law's facts as the document's. -/
theorem of18_any (f : Fact18) (w : World) : Calls Try.prog 11 #[factVal f] w fun e w' => e = .returned (factVal f) ∧ Below w.heap.size w w' := by
  have h0 := heap_alloc2_old w (.cells #[.int .i64 f.g, .bool f.v, .int .i64 f.n] 25) (.cells #[.int .i64 0, .bool false, .int .i64 0] 31)
  have h1 := heap_alloc2_new w (.cells #[.int .i64 f.g, .bool f.v, .int .i64 f.n] 25) (.cells #[.int .i64 0, .bool false, .int .i64 0] 31)
  have hb := ((Below.refl _ w).alloc (Nat.le_refl _) (.cells #[.int .i64 f.g, .bool f.v, .int .i64 f.n] 25)).alloc ((Below.refl _ w).alloc (Nat.le_refl _) _).size (.cells #[.int .i64 0, .bool false, .int .i64 0] 31)
  obtain ⟨fg, fv, fn⟩ := f
  dsimp only at *
  go_enter Try.func11, Try.ntmps11
  go_upto_region 1 with fail
  obtain ⟨W, hW⟩ : ∃ W, W = (w.alloc (.cells #[.int .i64 fg, .bool fv, .int .i64 fn] 25)).alloc (.cells #[.int .i64 0, .bool false, .int .i64 0] 31) := ⟨_, rfl⟩
  rw [← hW] at h0 h1 hb ⊢
  clear hW
  have c0 := cell_of (j := 0) h0 rfl
  have c1 := cell_of (j := 1) h0 rfl
  have c2 := cell_of (j := 2) h0 rfl
  obtain ⟨d0, d1, d2, f0, f1, f2⟩ := three_cells h1
  have H1 := Lib.hid h1
  have HB := Lib.hid hb
  clear h0 h1 hb
  go_wp2
  refine bodyPost_ret (results_one18 rfl _ _ (w.heap.size + 1) _ rfl (fact_load18 (three_stored H1.out _ _ _))) rfl ?_
  exact ⟨rfl, three_below HB.out (by omega) _ _ _⟩
/-- The law's two rows. -/
theorem two18_any (w : World) : Calls Try.prog 24 #[] w fun e w' => ∃ a, e = .returned (.slice a 2 2) ∧ RowsIn w'.heap.size w' a [⟨15, 3, 0, 99, 5⟩, ⟨15, 3, 0, 1000000000000, 1⟩] ∧ Below w.heap.size w w' := by
  go_enter Try.func24, Try.ntmps24
  go_wp2
  go_ret
  refine ⟨_, rfl, ?_, lit16 w _⟩
  refine Or.inr ⟨w.heap.size, 0, rfl, Nat.zero_le _, by simp, fun j u hj => lit_cell w _ _ j u ?_⟩
  rw [← Array.getElem?_toList]
  exact hj
end Go.Proofs.Ytkefbgjbgblalaa
