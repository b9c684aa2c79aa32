/- The program's Gap and Whole: for every table, in every world. -/
import Derived.Test.YtifihejogbcbgaaMPrgC19
import Derived.Test.YtifihejogbcbgaaMRefB19
namespace Go.Proofs.Ytifihejogbcbgaa
open Go.RowKit

structure Pres19 (w W : World) : Prop where
  below : Below w.heap.size w W
  obj : W.heap[w.heap.size]? = some (.cells #[.int .i64 0, .bool false, .int .i64 0] 28 (0, 0))
theorem Pres19.step {w W V : World} (h : Pres19 w W) (hb : Below W.heap.size W V) : Pres19 w V := ⟨h.below.trans (hb.mono h.below.size), old_obj hb h.obj⟩
theorem pres19_start (w : World) : Pres19 w (w.alloc (.cells #[.int .i64 0, .bool false, .int .i64 0] 28)) := ⟨lit16 w _, heap_alloc_new w _⟩
theorem tab_ptr19 {B : Nat} {w : World} {a : Option Addr} {l : List Row18} (h : RowsIn B w a l) (hT : TabOk l) : ∃ b off, a = some ⟨b, off, none⟩ := by
  rcases h with h | ⟨b, off, ha, _⟩
  · have := rowElt.cells_len l
    rw [h] at this
    have h0 := hT.1
    have h1 : rowElt.k = 5 := rfl
    rw [h1] at this
    simp at this
    omega
  · exact ⟨b, off, ha⟩
set_option maxRecDepth 100000 in
set_option maxHeartbeats 8000000 in
theorem pgap19_any (a : Option Addr) (cap : Nat) (l : List Row18) (w : World) (hx : RowsIn w.heap.size w a l) (hn : l.length ≤ 1000000) :
    Calls Try.prog 8 #[.slice a l.length cap] w fun e w' => e = .returned (.tuple #[factVal (gapF l), .bool (gapB l)]) ∧ Below w.heap.size w w' := by
  obtain ⟨W0, hW0⟩ : ∃ W, W = w.alloc (.cells #[.int .i64 0, .bool false, .int .i64 0] 28) := ⟨_, rfl⟩
  have hr0 : Pres19 w W0 := by rw [hW0]; exact pres19_start w
  have HX := Lib.hid (rowsIn_step hx hr0.below)
  have R0 := Lib.hid hr0
  have HC : Hid (∀ W, Below W0.heap.size W0 W → Calls Try.prog 18 #[.slice a l.length cap] W fun e w' => e = .returned (.int .i64 (tabE l)) ∧ Below W.heap.size W w') := Lib.hid fun W h => pcheck18_any a cap l W (rowsIn_step HX.out h) hn
  by_cases hT : ¬ TabOk l
  · have HV : Hid (gapF l = zeroF ∧ gapB l = true) := Lib.hid ⟨if_neg hT, if_neg hT⟩
    rw [tab_no hT] at HC
    rw [HV.out.1, HV.out.2]
    clear hx hr0 hT
    go_enter Try.func8, Try.ntmps8
    go_upto_region 1 with fail
    rw [← hW0]
    clear hW0
    go_upto_region 2 with (go_at_call 18; refine (HC.out _ (Below.refl _ _)).mono ?_; rintro e w1 ⟨rfl, hb⟩; have R1 := Lib.hid (R0.out.step hb); clear hb)
    obtain ⟨d0, d1, d2, f0, f1, f2⟩ := three_cells R1.out.obj
    go_wp2
    refine bodyPost_ret (results_row_slot rfl _ _ w.heap.size _ rfl (pfact_load19 (three_stored R1.out.obj _ _ _))) rfl ?_
    exact ⟨rfl, three_below R1.out.below (Nat.le_refl _) _ _ _⟩
  have hT := Decidable.not_not.1 hT
  have HT := Lib.hid hT
  have HV : Hid (gapF l = (gapTo l 8).getD zeroF ∧ gapB l = (gapTo l 8).isSome) := Lib.hid ⟨if_pos hT, if_pos hT⟩
  rw [tab_yes hT] at HC
  have h20 := hT.2.1
  have HOK : Hid (∀ r, r ∈ l → RowOk r) := Lib.hid fun r hr => tab_mem hT hr
  obtain ⟨b, off, rfl⟩ := tab_ptr19 hx hT
  have HFF : Hid (∀ W, Below W0.heap.size W0 W → Calls Try.prog 23 #[.slice (some ⟨b, off, none⟩) l.length cap] W fun e w' => ∃ g, e = .returned (freeF g) ∧ Free19 w' g l ∧ Below W.heap.size W w') := Lib.hid fun W h => pfree19_any b off cap l W (rowsIn_step HX.out h) (by omega)
  clear hx hr0 hT
  go_enter Try.func8, Try.ntmps8
  go_upto_region 1 with fail
  rw [← hW0]
  clear hW0
  have hsub := Below.refl W0.heap.size W0
  go_upto_region 4 with (first
    | (go_at_call 18; refine (HC.out _ hsub).mono ?_; rintro e w1 ⟨rfl, hb⟩; have B1 := Lib.hid hb; clear hb)
    | (go_at_call 23; refine (HFF.out _ B1.out).mono ?_; rintro e w2 ⟨g, rfl, hf, hb⟩; have B2 := Lib.hid (B1.out.trans (hb.mono B1.out.size)); have HFR := Lib.hid hf; clear hb hf))
  clear hsub
  have HRE : Hid (∀ c : Nat, c < 8 → ∀ V, Below w2.heap.size w2 V → Calls Try.prog 45 #[.int .i64 (c : Int), .int .i64 0, .pointer (some ⟨g, 0, none⟩)] V fun e w' => ∃ F, e = .returned (.int .i64 F) ∧ Reach19 l c 0 F ∧ Below V.heap.size V w') := Lib.hid fun c hc V hV =>
    preach19_any g l c hc 0 (by omega) (by omega) V (HFR.out.step hV) HOK.out (by omega)
  go_wp2
  go_loopw [13] (fun s13 wr => ∃ c : Nat, s13 = .int .i64 c ∧ c ≤ 8 ∧ Hid (Below w2.heap.size w2 wr) ∧ Hid (gapTo l c = none)) (fun s13 _ => 8 - (intOf s13).toNat)
  case atStart => exact ⟨0, rfl, Nat.zero_le _, Lib.hid (Below.refl _ _), Lib.hid rfl⟩
  case round =>
    obtain ⟨c, rfl, hc, BR, HG⟩ := hrel
    by_cases hlt : c < 8
    · have i1 : decide ((c : Int) < 8) = true := decide_eq_true (by omega)
      have hc1 : c + 1 ≤ 8 := hlt
      have HR := Lib.hid (HRE.out c hlt _ BR.out)
      have HFC : Hid (∀ F V, Calls Try.prog 24 #[.int .i64 (c : Int), .int .i64 F] V fun e w' => e = .returned (factVal (cellF c F)) ∧ Below V.heap.size V w') := Lib.hid fun F V => pfacts19_any c hlt F V
      have HST : Hid (∀ F, Reach19 l c 0 F → gapTo l (c + 1) = if F ≤ 1000000000000 then some (cellF c F) else none) := Lib.hid fun F hF => gap_step HT.out hlt hF HG.out
      clear hlt
      go_upto_region 8 with (go_at_call 45; refine HR.out.mono ?_; rintro e w3 ⟨F, rfl, hF, hb⟩; have HF := Lib.hid hF; have B3 := Lib.hid (BR.out.trans (hb.mono BR.out.size)); clear hF hb)
      have hst := HST.out F HF.out
      by_cases q : F ≤ 1000000000000
      · have d1 : decide (F ≤ 1000000000000) = true := decide_eq_true q
        rw [if_pos q] at hst
        have hgs := gap_keep hst hc1
        have HGS : Hid (gapF l = cellF c F ∧ gapB l = true) := Lib.hid ⟨by rw [HV.out.1, hgs]; rfl, by rw [HV.out.2, hgs]; rfl⟩
        have HFC2 := Lib.hid (HFC.out F)
        clear hst hgs q HFC
        generalize cellF c F = cf at *
        obtain ⟨cg, cv, cn⟩ := cf
        try dsimp only at *
        go_upto_region 9 with fail
        go_wp2_with (go_at_call 24; refine (HFC2.out _).mono ?_; rintro e w5 ⟨rfl, hb⟩; have R5 := Lib.hid ((R0.out.step (B2.out.trans (B3.out.mono B2.out.size))).step hb); obtain ⟨d0, dd1, d2, f0, f1, f2⟩ := three_cells R5.out.obj; clear hb)
        refine bodyPost_ret (results_row_slot rfl _ _ w.heap.size _ rfl (pfact_load19 (three_stored R5.out.obj _ _ _))) rfl ?_
        exact ⟨by rw [HGS.out.1, HGS.out.2] <;> rfl, three_below R5.out.below (Nat.le_refl _) _ _ _⟩
      · have d1 : decide (F ≤ 1000000000000) = false := decide_eq_false q
        rw [if_neg q] at hst
        have HGN := Lib.hid hst
        clear hst q
        go_wp2
        go_roundw
        case rel => exact ⟨c + 1, by first | rfl | go_num, hc1, B3, HGN⟩
        case measure => first | (simp [intOf]; omega) | simp [intOf]
    · obtain rfl : c = 8 := by omega
      have HGS : Hid (gapF l = zeroF ∧ gapB l = false) := Lib.hid ⟨by rw [HV.out.1, HG.out]; rfl, by rw [HV.out.2, HG.out]; rfl⟩
      have i1 : decide (((8 : Nat) : Int) < 8) = false := rfl
      have R5 := Lib.hid (R0.out.step (B2.out.trans (BR.out.mono B2.out.size)))
      obtain ⟨d0, dd1, d2, f0, f1, f2⟩ := three_cells R5.out.obj
      go_wp2
      refine bodyPost_ret (results_row_slot rfl _ _ w.heap.size _ rfl (pfact_load19 (three_stored R5.out.obj _ _ _))) rfl ?_
      exact ⟨by rw [HGS.out.1, HGS.out.2] <;> rfl, three_below R5.out.below (Nat.le_refl _) _ _ _⟩
set_option maxHeartbeats 2000000 in
theorem pwhole19_any (a : Option Addr) (cap : Nat) (l : List Row18) (w : World) (hx : RowsIn w.heap.size w a l) (hn : l.length ≤ 1000000) :
    Calls Try.prog 12 #[.slice a l.length cap] w fun e w' => e = .returned (.bool (!gapB l)) ∧ Below w.heap.size w w' := by
  have HG := Lib.hid (pgap19_any a cap l w hx hn)
  clear hx
  generalize gapB l = x at *
  generalize gapF l = f at *
  obtain ⟨fg, fv, fn⟩ := f
  cases x
  all_goals
    go_enter Try.func12, Try.ntmps12
    go_wp2_with (go_at_call 8; refine HG.out.mono ?_; rintro e w2 ⟨rfl, hb⟩; have HB := Lib.hid hb; clear hb)
    go_ret
    exact ⟨rfl, HB.out.alloc HB.out.size _⟩
end Go.Proofs.Ytifihejogbcbgaa
