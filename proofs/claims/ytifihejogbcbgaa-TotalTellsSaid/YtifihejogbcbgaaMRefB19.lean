/- The document's Gap: for every table, in every world. -/
import Derived.Test.YtifihejogbcbgaaRefA19
namespace Go.Proofs.Ytifihejogbcbgaa
open Go.RowKit

theorem gap_keep {l : List Row18} {k j : Nat} {f : Fact18} (h : gapTo l k = some f) (hj : k ≤ j) : gapTo l j = some f := by
  induction j with
  | zero => obtain rfl : k = 0 := by omega
            exact h
  | succ j ih =>
    rcases (by omega : k ≤ j ∨ k = j + 1) with q | q
    · rw [gapTo, ih q]
    · rw [← q]; exact h
theorem gap_step_some {l : List Row18} {c : Nat} (h : gapTo l c = none) (hb : 0 ≤ bestC l c) : gapTo l (c + 1) = some (cellF c (bestC l c)) := by rw [gapTo, h]; exact if_pos hb
theorem gap_step_none {l : List Row18} {c : Nat} (h : gapTo l c = none) (hb : ¬ 0 ≤ bestC l c) : gapTo l (c + 1) = none := by rw [gapTo, h]; exact if_neg hb
theorem best_small {m : List Int} {p : Int → Bool} {k : Nat} (hk : k ≤ m.length) (h : ∀ a, a ∈ m → 0 ≤ a ∧ a ≤ 1000000000000) : -1 ≤ bestTo m p k ∧ bestTo m p k ≤ 1000000000000 := by
  rcases best_no (p := p) (fun a ha => (h a ha).1) hk with ⟨h1, _⟩ | ⟨h1, _, h3⟩
  · omega
  · have := h _ h3; omega
/-- The result's block. -/
structure Res19 (w W : World) : Prop where
  below : Below w.heap.size w W
  obj : W.heap[w.heap.size]? = some (.cells #[.int .i64 0, .bool false, .int .i64 0] 31 (0, 0))
theorem Res19.step {w W V : World} (h : Res19 w W) (hb : Below W.heap.size W V) : Res19 w V := ⟨h.below.trans (hb.mono h.below.size), old_obj hb h.obj⟩
theorem res19_start (w : World) : Res19 w (w.alloc (.cells #[.int .i64 0, .bool false, .int .i64 0] 31)) := ⟨lit16 w _, heap_alloc_new w _⟩
set_option maxRecDepth 100000 in
set_option maxHeartbeats 8000000 in
theorem rgap19_any (a : Option Addr) (cap : Nat) (l : List Row18) (w : World) (hx : RowsIn w.heap.size w a l) (hn : l.length ≤ 1000000) :
    Calls Try.prog 9 #[.slice a l.length cap] w fun e w' => e = .returned (.tuple #[factVal (gapF l), .bool (gapB l)]) ∧ Below w.heap.size w w' := by
  obtain ⟨W0, hW0⟩ : ∃ W, W = w.alloc (.cells #[.int .i64 0, .bool false, .int .i64 0] 31) := ⟨_, rfl⟩
  have hr0 : Res19 w W0 := by rw [hW0]; exact res19_start w
  have HX := Lib.hid (rowsIn_step hx hr0.below)
  have R0 := Lib.hid hr0
  have HC : Hid (∀ W, Below W0.heap.size W0 W → Calls Try.prog 25 #[.slice a l.length cap] W fun e w' => e = .returned (.int .i64 (tabE l)) ∧ Below W.heap.size W w') := Lib.hid fun W h => rcheck18_any a cap l W (rowsIn_step HX.out h) hn
  by_cases hT : ¬ TabOk l
  · have HV : Hid (gapF l = zeroF ∧ gapB l = true) := Lib.hid ⟨if_neg hT, if_neg hT⟩
    rw [tab_no hT] at HC
    rw [HV.out.1, HV.out.2]
    clear hx hr0 hT
    go_enter Try.func9, Try.ntmps9
    go_upto_region 1 with fail
    rw [← hW0]
    clear hW0
    go_upto_region 2 with (go_at_call 25; refine (HC.out _ (Below.refl _ _)).mono ?_; rintro e w1 ⟨rfl, hb⟩; have R1 := Lib.hid (R0.out.step hb); clear hb)
    obtain ⟨d0, d1, d2, f0, f1, f2⟩ := three_cells R1.out.obj
    go_wp2
    refine bodyPost_ret (results_row_slot rfl _ _ w.heap.size _ rfl (fact_load18 (three_stored R1.out.obj _ _ _))) rfl ?_
    exact ⟨rfl, three_below R1.out.below (Nat.le_refl _) _ _ _⟩
  have hT := Decidable.not_not.1 hT
  have HT := Lib.hid hT
  have HV : Hid (gapF l = (gapTo l 8).getD zeroF ∧ gapB l = (gapTo l 8).isSome) := Lib.hid ⟨if_pos hT, if_pos hT⟩
  rw [tab_yes hT] at HC
  have HA : Hid (∀ W, Below W0.heap.size W0 W → Calls Try.prog 21 #[.slice a l.length cap] W fun e w' => ∃ b c, e = .returned (.slice b (amtL l).length c) ∧ (amtL l).length ≤ c ∧ Ints w'.heap.size w' b (amtL l) ∧ Below W.heap.size W w') := Lib.hid fun W h => ramounts19_any a cap l W (rowsIn_step HX.out h) HT.out
  have HF : Hid (∀ f W, Below W0.heap.size W0 W → Calls Try.prog 26 #[.slice a l.length cap, factVal f] W fun e w' => e = .returned (.bool (fitsB l f)) ∧ Below W.heap.size W w') := Lib.hid fun f W h => rfits19_any a cap l f W (rowsIn_step HX.out h) hn
  have HM : Hid (∀ x, x ∈ amtL l → 0 ≤ x ∧ x ≤ 1000000000000) := Lib.hid (amt_in hT (Nat.le_refl _))
  have HML : Hid ((amtL l).length ≤ 41) := Lib.hid (by have := amt_len l l.length; have := hT.2.1; unfold amtL; omega)
  clear hx hr0 hT
  go_enter Try.func9, Try.ntmps9
  go_upto_region 1 with fail
  rw [← hW0]
  clear hW0
  have hsub := Below.refl W0.heap.size W0
  go_upto_region 4 with (first
    | (go_at_call 25; refine (HC.out _ hsub).mono ?_; rintro e w1 ⟨rfl, hb⟩; have B1 := Lib.hid hb; clear hb)
    | (go_at_call 21; refine (HA.out _ B1.out).mono ?_; rintro e w2 ⟨mb, mc, rfl, _, hi, hb⟩; have B2 := Lib.hid (B1.out.trans (hb.mono B1.out.size)); have I2 := Lib.hid hi; clear hb hi))
  clear hsub
  go_wp2
  go_loopw [5] (fun s5 wr => ∃ c : Nat, s5 = .int .i64 c ∧ c ≤ 8 ∧ Hid (Below w2.heap.size w2 wr) ∧ Hid (gapTo l c = none)) (fun s5 _ => 8 - (intOf s5).toNat)
  case atStart => exact ⟨0, rfl, Nat.zero_le _, Lib.hid (Below.refl _ _), Lib.hid rfl⟩
  case round =>
    obtain ⟨c, rfl, hc, BR, HG⟩ := hrel
    by_cases hlt : c < 8
    · have i1 : decide ((c : Int) < 8) = true := decide_eq_true (by omega)
      have hc1 : c + 1 ≤ 8 := hlt
      go_wp2
      go_loopw [6, 7] (fun s6 s7 wx => ∃ (k : Nat) (B : Int), s6 = .int .i64 B ∧ s7 = .int .i64 k ∧ k ≤ (amtL l).length ∧ Hid (Below w2.heap.size w2 wx) ∧ Hid (B = bestTo (amtL l) (gapP l c) k)) (fun _ s7 _ => (amtL l).length - (intOf s7).toNat)
      case atStart => exact ⟨0, -1, rfl, rfl, Nat.zero_le _, BR, Lib.hid rfl⟩
      case round =>
        clear BR
        obtain ⟨k, B, rfl, rfl, hk, BX, HB⟩ := hrel
        by_cases hlk : k < (amtL l).length
        · have j1 : decide ((k : Int) < ((amtL l).length : Int)) = true := decide_eq_true (by omega)
          have j1' : decide (k < (amtL l).length) = true := decide_eq_true hlk
          have j2 : (k : Int) < ((amtL l).length : Int) := by omega
          have j3 : (0 : Int) ≤ (k : Int) := by omega
          have hk1 : k + 1 ≤ (amtL l).length := hlk
          have hml := HML.out
          rcases I2.out with h | ⟨bb, oo, rfl, _, hcc⟩
          · exfalso; rw [h] at hlk; simp at hlk
          have HN : Hid (∀ V, Below w2.heap.size w2 V → V.cell? ⟨bb, oo + k, none⟩ = some (.int .i64 (numAt (amtL l) k))) := Lib.hid fun V hV => by
            have h := hcc k hlk
            exact (hV.cell (p := ⟨bb, oo + k, none⟩) (World.block_lt_of_cell? w2 _ h)).trans h
          have x0 := HN.out _ BX.out
          have hstep : bestTo (amtL l) (gapP l c) (k + 1) = if gapP l c (numAt (amtL l) k) = true ∧ (bestTo (amtL l) (gapP l c) k < 0 ∨ numAt (amtL l) k < bestTo (amtL l) (gapP l c) k) then numAt (amtL l) k else bestTo (amtL l) (gapP l c) k := rfl
          rw [← HB.out] at hstep
          have hfc := rfacts19_any c hlt (numAt (amtL l) k)
          have hff := HF.out (cellF c (numAt (amtL l) k))
          have hgp : gapP l c (numAt (amtL l) k) = !fitsB l (cellF c (numAt (amtL l) k)) := rfl
          rw [hgp] at hstep
          have HSTEP := Lib.hid hstep
          have HFC := Lib.hid hfc
          have HFF := Lib.hid hff
          clear hcc hstep hfc hff hgp hlk
          generalize fitsB l (cellF c (numAt (amtL l) k)) = F at *
          generalize cellF c (numAt (amtL l) k) = cf at *
          generalize numAt (amtL l) k = m at *
          obtain ⟨cg, cv, cn⟩ := cf
          try dsimp only at *
          have cases4 : F = true ∨ (F = false ∧ decide (B < 0) = true) ∨ (F = false ∧ decide (B < 0) = false ∧ decide (m < B) = true) ∨ (F = false ∧ decide (B < 0) = false ∧ decide (m < B) = false) := by
            cases F with
            | true => exact Or.inl rfl
            | false =>
              by_cases q1 : B < 0
              · exact Or.inr (Or.inl ⟨rfl, decide_eq_true q1⟩)
              · by_cases q2 : m < B
                · exact Or.inr (Or.inr (Or.inl ⟨rfl, decide_eq_false q1, decide_eq_true q2⟩))
                · exact Or.inr (Or.inr (Or.inr ⟨rfl, decide_eq_false q1, decide_eq_false q2⟩))
          have HBAD := fun (e : B = bestTo (amtL l) (gapP l c) (k + 1)) => Lib.hid e
          rcases cases4 with rfl | ⟨rfl, q1⟩ | ⟨rfl, q1, q2⟩ | ⟨rfl, q1, q2⟩
          · have HR : Hid (B = bestTo (amtL l) (gapP l c) (k + 1)) := Lib.hid (by rw [HSTEP.out, if_neg (by simp)])
            go_wp2_with (first
              | (go_at_call 27; refine (HFC.out _).mono ?_; rintro e w3 ⟨rfl, hb⟩; have BY := Lib.hid (BX.out.trans (hb.mono BX.out.size)); clear hb)
              | (go_at_call 26; refine (HFF.out _ (B2.out.trans (BY.out.mono B2.out.size))).mono ?_; rintro e w4 ⟨rfl, hb⟩; have BZ := Lib.hid (BY.out.trans (hb.mono BY.out.size)); clear hb))
            go_roundw
            case rel => exact ⟨k + 1, B, rfl, by first | rfl | go_num, hk1, BZ, HR⟩
            case measure => first | (simp [intOf]; omega) | simp [intOf]
          · have HR : Hid (m = bestTo (amtL l) (gapP l c) (k + 1)) := Lib.hid (by rw [HSTEP.out, if_pos ⟨rfl, Or.inl (of_decide_eq_true q1)⟩])
            go_wp2_with (first
              | (go_at_call 27; refine (HFC.out _).mono ?_; rintro e w3 ⟨rfl, hb⟩; have BY := Lib.hid (BX.out.trans (hb.mono BX.out.size)); clear hb)
              | (go_at_call 26; refine (HFF.out _ (B2.out.trans (BY.out.mono B2.out.size))).mono ?_; rintro e w4 ⟨rfl, hb⟩; have BZ := Lib.hid (BY.out.trans (hb.mono BY.out.size)); have x1 := HN.out _ BZ.out; clear hb))
            go_roundw
            case rel => exact ⟨k + 1, m, rfl, by first | rfl | go_num, hk1, BZ, HR⟩
            case measure => first | (simp [intOf]; omega) | simp [intOf]
          · have HR : Hid (m = bestTo (amtL l) (gapP l c) (k + 1)) := Lib.hid (by rw [HSTEP.out, if_pos ⟨rfl, Or.inr (of_decide_eq_true q2)⟩])
            go_wp2_with (first
              | (go_at_call 27; refine (HFC.out _).mono ?_; rintro e w3 ⟨rfl, hb⟩; have BY := Lib.hid (BX.out.trans (hb.mono BX.out.size)); clear hb)
              | (go_at_call 26; refine (HFF.out _ (B2.out.trans (BY.out.mono B2.out.size))).mono ?_; rintro e w4 ⟨rfl, hb⟩; have BZ := Lib.hid (BY.out.trans (hb.mono BY.out.size)); have x1 := HN.out _ BZ.out; clear hb))
            go_roundw
            case rel => exact ⟨k + 1, m, rfl, by first | rfl | go_num, hk1, BZ, HR⟩
            case measure => first | (simp [intOf]; omega) | simp [intOf]
          · have HR : Hid (B = bestTo (amtL l) (gapP l c) (k + 1)) := Lib.hid (by rw [HSTEP.out, if_neg (by rintro ⟨_, z | z⟩; exact of_decide_eq_false q1 z; exact of_decide_eq_false q2 z)])
            go_wp2_with (first
              | (go_at_call 27; refine (HFC.out _).mono ?_; rintro e w3 ⟨rfl, hb⟩; have BY := Lib.hid (BX.out.trans (hb.mono BX.out.size)); clear hb)
              | (go_at_call 26; refine (HFF.out _ (B2.out.trans (BY.out.mono B2.out.size))).mono ?_; rintro e w4 ⟨rfl, hb⟩; have BZ := Lib.hid (BY.out.trans (hb.mono BY.out.size)); have x1 := HN.out _ BZ.out; clear hb))
            go_roundw
            case rel => exact ⟨k + 1, B, rfl, by first | rfl | go_num, hk1, BZ, HR⟩
            case measure => first | (simp [intOf]; omega) | simp [intOf]
        · obtain rfl : k = (amtL l).length := by omega
          have j1 : decide (((amtL l).length : Int) < ((amtL l).length : Int)) = false := decide_eq_false (by omega)
          have HBC : Hid (B = bestC l c) := Lib.hid HB.out
          by_cases q : 0 ≤ B
          · have d1 : decide (0 ≤ B) = true := decide_eq_true q
            have hgs := gap_keep (gap_step_some HG.out (by rw [← HBC.out]; exact q)) hc1
            rw [← HBC.out] at hgs
            have HGS : Hid (gapF l = cellF c B ∧ gapB l = true) := Lib.hid ⟨by rw [HV.out.1, hgs]; rfl, by rw [HV.out.2, hgs]; rfl⟩
            have hfc := rfacts19_any c hlt B
            clear hgs q
            have HFC := Lib.hid hfc
            clear hfc
            generalize cellF c B = cf at *
            obtain ⟨cg, cv, cn⟩ := cf
            try dsimp only at *
            go_upto_region 14 with fail
            go_wp2_with (go_at_call 27; refine (HFC.out _).mono ?_; rintro e w5 ⟨rfl, hb⟩; have R5 := Lib.hid ((R0.out.step (B2.out.trans (BX.out.mono B2.out.size))).step hb); obtain ⟨d0, dd1, d2, f0, f1, f2⟩ := three_cells R5.out.obj; clear hb)
            refine bodyPost_ret (results_row_slot rfl _ _ w.heap.size _ rfl (fact_load18 (three_stored R5.out.obj _ _ _))) rfl ?_
            exact ⟨by rw [HGS.out.1, HGS.out.2] <;> rfl, three_below R5.out.below (Nat.le_refl _) _ _ _⟩
          · have d1 : decide (0 ≤ B) = false := decide_eq_false q
            have HGN := Lib.hid (gap_step_none HG.out (by rw [← HBC.out]; exact q))
            go_wp2
            go_roundw
            case rel => exact ⟨c + 1, by first | rfl | go_num, hc1, BX, HGN⟩
            case measure => first | (simp [intOf]; omega) | simp [intOf]
    · obtain rfl : c = 8 := by omega
      have HGS : Hid (gapF l = zeroF ∧ gapB l = false) := Lib.hid ⟨by rw [HV.out.1, HG.out]; rfl, by rw [HV.out.2, HG.out]; rfl⟩
      have R5 := Lib.hid (R0.out.step (B2.out.trans (BR.out.mono B2.out.size)))
      obtain ⟨d0, dd1, d2, f0, f1, f2⟩ := three_cells R5.out.obj
      go_wp2
      refine bodyPost_ret (results_row_slot rfl _ _ w.heap.size _ rfl (fact_load18 (three_stored R5.out.obj _ _ _))) rfl ?_
      exact ⟨by rw [HGS.out.1, HGS.out.2] <;> rfl, three_below R5.out.below (Nat.le_refl _) _ _ _⟩
end Go.Proofs.Ytifihejogbcbgaa
namespace Go.Proofs.Ytifihejogbcbgaa
open Go.RowKit

theorem sl_row19 : Try.prog.underlying 23 = some (.slice (Try.prog.elem 23)) := by kernel_rfl
theorem sz_row19 (w : World) : (Go.sizeOf (Try.prog.elem 23)).run Try.prog w = .ok 5 w := by
  have e : Try.prog.elem 23 = 52 := by kernel_rfl
  rw [e]
  exact Try.sizeOf52 w
theorem cells_take19 (l : List Row18) (k : Nat) : rowElt.cells (l.take k) = (rowElt.cells l).take (k * 5) := by
  have h : rowElt.cells l = rowElt.cells (l.take k) ++ rowElt.cells (l.drop k) := by rw [← rowElt.cells_append, List.take_append_drop]
  by_cases hk : k ≤ l.length
  · have hl : (rowElt.cells (l.take k)).length = k * 5 := by rw [rowElt.cells_len, List.length_take, Nat.min_eq_left hk]; rfl
    rw [h]
    exact (List.take_left' hl).symm
  · have h1 : l.take k = l := List.take_of_length_le (by omega)
    have h3 : (rowElt.cells l).length ≤ k * 5 := by rw [rowElt.cells_len]; exact Nat.mul_le_mul_right _ (by omega)
    rw [h1]
    exact (List.take_of_length_le h3).symm
theorem rows_take19 {A B : Nat} {w : World} {a : Option Addr} {l : List Row18} (h : Els rowElt A B w a l) (k : Nat) : Els rowElt A B w a (l.take k) := by
  unfold Els at h ⊢
  rw [cells_take19]
  exact h.take _
/-- What has been found behind c cells, and i amounts of the next one. -/
def deadP (l : List Row18) (k c : Nat) (n : Int) : Bool := matchB (rowAt18 l k) (cellF c n) && !fitsB (l.take k) (cellF c n)
def livesC (l : List Row18) (k c : Nat) : Bool := (List.range c).any fun c => (amtL l).any fun n => deadP l k c n
def livesI (l : List Row18) (k c i : Nat) : Bool := livesC l k c || ((amtL l).take i).any fun n => deadP l k c n
theorem lives_start (l : List Row18) (k c : Nat) : livesI l k c 0 = livesC l k c := by unfold livesI; simp
theorem lives_more (l : List Row18) (k c : Nat) {i : Nat} (hi : i < (amtL l).length) : livesI l k c (i + 1) = (livesI l k c i || deadP l k c (numAt (amtL l) i)) := by
  unfold livesI
  rw [take_more _ _ hi, List.any_append, Bool.or_assoc]
  simp
theorem lives_next (l : List Row18) (k c : Nat) : livesI l k c (amtL l).length = livesC l k (c + 1) := by
  unfold livesI livesC
  rw [List.take_length, List.range_succ, List.any_append]
  simp
theorem lives_all (l : List Row18) (k : Nat) : livesC l k 8 = livesB l k := rfl
set_option maxRecDepth 100000 in
set_option maxHeartbeats 8000000 in
theorem rdead19_any (a : Option Addr) (cap : Nat) (l : List Row18) (w : World) (hcap : l.length ≤ cap) (hx : RowsIn w.heap.size w a l) (hn : l.length ≤ 1000000) :
    Calls Try.prog 15 #[.slice a l.length cap] w fun e w' => ∃ b c, e = .returned (.slice b (deadV l).length c) ∧ (deadV l).length ≤ c ∧ Ints w'.heap.size w' b (deadV l) ∧ Below w.heap.size w w' := by
  have HX := Lib.hid hx
  have HC : Hid (∀ W, Below w.heap.size w W → Calls Try.prog 25 #[.slice a l.length cap] W fun e w' => e = .returned (.int .i64 (tabE l)) ∧ Below W.heap.size W w') := Lib.hid fun W h => rcheck18_any a cap l W (rowsIn_step HX.out h) hn
  by_cases hT : ¬ TabOk l
  · have HV : Hid (deadV l = []) := Lib.hid (if_neg hT)
    rw [tab_no hT] at HC
    rw [HV.out]
    clear hx hT
    go_enter Try.func15, Try.ntmps15
    go_wp2_with (go_at_call 25; refine (HC.out _ (Below.refl _ _)).mono ?_; rintro e w1 ⟨rfl, hb⟩; have B1 := Lib.hid hb; clear hb)
    go_ret
    exact ⟨none, 0, rfl, Nat.le_refl _, Or.inl rfl, B1.out⟩
  have hT := Decidable.not_not.1 hT
  have HT := Lib.hid hT
  have HV : Hid (deadV l = deadTo l l.length) := Lib.hid (if_pos hT)
  rw [tab_yes hT] at HC
  have h20 := hT.2.1
  have HA : Hid (∀ W, Below w.heap.size w W → Calls Try.prog 21 #[.slice a l.length cap] W fun e w' => ∃ b c, e = .returned (.slice b (amtL l).length c) ∧ (amtL l).length ≤ c ∧ Ints w'.heap.size w' b (amtL l) ∧ Below W.heap.size W w') := Lib.hid fun W h => ramounts19_any a cap l W (rowsIn_step HX.out h) HT.out
  have HML : Hid ((amtL l).length ≤ 41) := Lib.hid (by have := amt_len l l.length; unfold amtL; omega)
  have HCAP := Lib.hid hcap
  clear hx hT hcap
  go_enter Try.func15, Try.ntmps15
  go_upto_region 5 with (first
    | (go_at_call 25; refine (HC.out _ (Below.refl _ _)).mono ?_; rintro e w1 ⟨rfl, hb⟩; have B1 := Lib.hid hb; clear hb)
    | (go_at_call 21; refine (HA.out _ B1.out).mono ?_; rintro e w2 ⟨mb, mc, rfl, _, hi, hb⟩; have B2 := Lib.hid (B1.out.trans (hb.mono B1.out.size)); have I2 := Lib.hid hi; clear hb hi))
  have HX2 := Lib.hid (rowsIn_step HX.out B2.out)
  have HFT : Hid (∀ k f W, k ≤ l.length → Below w2.heap.size w2 W → Calls Try.prog 26 #[.slice a k cap, factVal f] W fun e w' => e = .returned (.bool (fitsB (l.take k) f)) ∧ Below W.heap.size W w') := Lib.hid fun k f W hk h => by
    have hl : (l.take k).length = k := by rw [List.length_take]; omega
    have := rfits19_any a cap (l.take k) f W (rows_take19 (rowsIn_step HX2.out h) k) (by omega)
    rw [hl] at this
    exact this
  go_wp2
  go_loopw [3, 5] (fun s3 s5 wr => ∃ (k : Nat) (a8 : Option Addr) (c8 : Nat) (ys : List Int), s3 = .slice a8 ys.length c8 ∧ s5 = .int .i64 k ∧ k ≤ l.length ∧ Hid (Nums16 w2 wr a8 c8 ys) ∧ Hid (ys = deadTo l k)) (fun _ s5 _ => l.length - (intOf s5).toNat)
  case atStart => exact ⟨0, none, 0, [], rfl, rfl, Nat.zero_le _, Lib.hid (Nums16.start w2), Lib.hid rfl⟩
  case round =>
    obtain ⟨k, a8, c8, ys, rfl, rfl, hk, HO, HY⟩ := hrel
    by_cases hlt : k < l.length
    · have i1 : decide ((k : Int) < (l.length : Int)) = true := decide_eq_true (by omega)
      have i1' : decide (k < l.length) = true := decide_eq_true hlt
      have i2 : (k : Int) < (l.length : Int) := by omega
      have i3 : (0 : Int) ≤ (k : Int) := by omega
      have hk1 : k + 1 ≤ l.length := hlt
      have HYL : Hid (ys.length ≤ 1000) := Lib.hid (by have := dead_len l k; rw [← HY.out] at this; omega)
      have hto := fun W => rowk_to sl_row19 sz_row19 a l.length cap k (by omega) HCAP.out W
      go_wp2
      go_loopw [6, 7] (fun s6 s7 wx => ∃ c : Nat, s6 = .bool (livesC l k c) ∧ s7 = .int .i64 c ∧ c ≤ 8 ∧ Hid (Nums16 w2 wx a8 c8 ys)) (fun _ s7 _ => 8 - (intOf s7).toNat)
      case atStart => exact ⟨0, rfl, rfl, Nat.zero_le _, HO⟩
      case round =>
        clear HO
        obtain ⟨c, rfl, rfl, hc, HO⟩ := hrel
        by_cases hcl : c < 8
        · have j1 : decide ((c : Int) < 8) = true := decide_eq_true (by omega)
          have hc1 : c + 1 ≤ 8 := hcl
          go_wp2
          go_loopw [6, 8] (fun s6 s8 wy => ∃ i : Nat, s6 = .bool (livesI l k c i) ∧ s8 = .int .i64 i ∧ i ≤ (amtL l).length ∧ Hid (Nums16 w2 wy a8 c8 ys)) (fun _ s8 _ => (amtL l).length - (intOf s8).toNat)
          case atStart => exact ⟨0, by rw [lives_start], rfl, Nat.zero_le _, HO⟩
          case round =>
            clear HO
            obtain ⟨i, rfl, rfl, hi, HO⟩ := hrel
            have hml := HML.out
            by_cases hil : i < (amtL l).length
            · have l1 : decide ((i : Int) < ((amtL l).length : Int)) = true := decide_eq_true (by omega)
              have l1' : decide (i < (amtL l).length) = true := decide_eq_true hil
              have l2 : (i : Int) < ((amtL l).length : Int) := by omega
              have l3 : (0 : Int) ≤ (i : Int) := by omega
              have hi1 : i + 1 ≤ (amtL l).length := hil
              have hx0 : ∃ bb oo, mb = some ⟨bb, oo, none⟩ ∧ ∀ V, Below w2.heap.size w2 V → V.cell? ⟨bb, oo + i, none⟩ = some (.int .i64 (numAt (amtL l) i)) := by
                rcases I2.out with h | ⟨bb, oo, rfl, _, hcc⟩
                · exfalso; rw [h] at hil; simp at hil
                · exact ⟨bb, oo, rfl, fun V hV => (hV.cell (p := ⟨bb, oo + i, none⟩) (World.block_lt_of_cell? w2 _ (hcc i hil))).trans (hcc i hil)⟩
              obtain ⟨bb, oo, rfl, hcc⟩ := hx0
              have x0 := hcc _ HO.out.below
              have hstep := lives_more l k c hil
              have hfc := rfacts19_any c hcl (numAt (amtL l) i)
              have hff := fun W => HFT.out k (cellF c (numAt (amtL l) i)) W (by omega)
              have hmm := rmatch18_any (rowAt18 l k) (cellF c (numAt (amtL l) i))
              have hdp : deadP l k c (numAt (amtL l) i) = (matchB (rowAt18 l k) (cellF c (numAt (amtL l) i)) && !fitsB (l.take k) (cellF c (numAt (amtL l) i))) := rfl
              rw [hdp] at hstep
              have HSTEP := Lib.hid hstep
              have HFC := Lib.hid hfc
              have HFF := Lib.hid hff
              have HMM := Lib.hid hmm
              have HROWS : Hid (∀ V, Below w2.heap.size w2 V → ∃ b off, a = some ⟨b, off, none⟩ ∧ b < V.heap.size ∧ V.cell? ⟨b, off + k * 5, none⟩ = some (.int .i64 (rowAt18 l k).g) ∧ V.cell? ⟨b, off + k * 5 + 1, none⟩ = some (.int .i64 (rowAt18 l k).v) ∧ V.cell? ⟨b, off + k * 5 + 2, none⟩ = some (.int .i64 (rowAt18 l k).lo) ∧ V.cell? ⟨b, off + k * 5 + 3, none⟩ = some (.int .i64 (rowAt18 l k).hi) ∧ V.cell? ⟨b, off + k * 5 + 4, none⟩ = some (.int .i64 (rowAt18 l k).way)) := Lib.hid fun V hV => rows_at18 (rowsIn_step HX2.out hV) hlt
              clear hcc hstep hfc hff hmm hdp hil
              obtain ⟨L2, hL2⟩ : ∃ L2, livesI l k c (i + 1) = L2 := ⟨_, rfl⟩
              rw [hL2] at HSTEP
              have HL2 := Lib.hid hL2
              clear hL2
              generalize livesI l k c i = L1 at *
              generalize matchB (rowAt18 l k) (cellF c (numAt (amtL l) i)) = MB at *
              generalize fitsB (l.take k) (cellF c (numAt (amtL l) i)) = FB at *
              generalize cellF c (numAt (amtL l) i) = cf at *
              generalize numAt (amtL l) i = m at *
              generalize rowAt18 l k = r at *
              obtain ⟨cg, cv, cn⟩ := cf
              obtain ⟨rg, rv, rl, rh, rw⟩ := r
              try dsimp only at *
              go_upto_region 16 with (go_at_call 27; refine (HFC.out _).mono ?_; rintro e w3 ⟨rfl, hb⟩; have HO3 := Lib.hid (HO.out.step hb); clear hb)
              have hv := heap_alloc_new w3 (.cells #[.int .i64 cg, .bool cv, .int .i64 cn] 31)
              have ho4 := HO3.out.step (lit16 w3 (.cells #[.int .i64 cg, .bool cv, .int .i64 cn] 31))
              obtain ⟨W4, hW4⟩ : ∃ W, W = w3.alloc (.cells #[.int .i64 cg, .bool cv, .int .i64 cn] 31) := ⟨_, rfl⟩
              rw [← hW4] at hv ho4 ⊢
              clear hW4
              generalize w3.heap.size = g at *
              have HO4 := Lib.hid ho4
              obtain ⟨b, off, rfl, hbb, c0, c1, c2, c3, c4⟩ := HROWS.out _ ho4.below
              have y0 := cell_of (j := 0) hv rfl
              have y1 := cell_of (j := 1) hv rfl
              have y2 := cell_of (j := 2) hv rfl
              have hg4 := obj_lt hv
              clear hv ho4 x0
              cases L1 with
              | true =>
                have HL : Hid (L2 = true) := Lib.hid (by rw [HSTEP.out]; rfl)
                go_quiet (fail)
                have HO5 := Lib.hid (HO4.out.step (drawn_below (Below.refl _ _) nq))
                go_wp2
                go_roundw
                case rel => exact ⟨i + 1, by rw [HL2.out, HL.out], by first | rfl | go_num, hi1, HO5⟩
                case measure => first | (simp [intOf]; omega) | simp [intOf]
              | false =>
                cases MB with
                | true =>
                  have HL : Hid (L2 = !FB) := Lib.hid (by rw [HSTEP.out]; simp)
                  go_region_held3 (fun v => (v.cell? ⟨b, off + k * 5, none⟩ = some (.int .i64 rg) ∧ v.cell? ⟨b, off + k * 5 + 1, none⟩ = some (.int .i64 rv) ∧ v.cell? ⟨b, off + k * 5 + 2, none⟩ = some (.int .i64 rl) ∧ v.cell? ⟨b, off + k * 5 + 3, none⟩ = some (.int .i64 rh) ∧ v.cell? ⟨b, off + k * 5 + 4, none⟩ = some (.int .i64 rw)) ∧ v.cell? ⟨g, 0, none⟩ = some (.int .i64 cg) ∧ v.cell? ⟨g, 1, none⟩ = some (.bool cv) ∧ v.cell? ⟨g, 2, none⟩ = some (.int .i64 cn)) (first
                    | exact ⟨⟨c0, c1, c2, c3, c4⟩, y0, y1, y2⟩
                    | exact SX.out
                    | go_keep) (first
                    | (go_at_call 29; refine (HMM.out _).mono ?_; rintro e w5 ⟨rfl, hb⟩; have SX := Lib.hid (And.intro (And.intro ((hb.cell (p := ⟨b, off + k * 5, none⟩) (World.block_lt_of_cell? W4 _ c0)).trans c0) (And.intro ((hb.cell (p := ⟨b, off + k * 5 + 1, none⟩) (World.block_lt_of_cell? W4 _ c1)).trans c1) (And.intro ((hb.cell (p := ⟨b, off + k * 5 + 2, none⟩) (World.block_lt_of_cell? W4 _ c2)).trans c2) (And.intro ((hb.cell (p := ⟨b, off + k * 5 + 3, none⟩) (World.block_lt_of_cell? W4 _ c3)).trans c3) ((hb.cell (p := ⟨b, off + k * 5 + 4, none⟩) (World.block_lt_of_cell? W4 _ c4)).trans c4))))) (And.intro ((hb.cell (p := ⟨g, 0, none⟩) hg4).trans y0) (And.intro ((hb.cell (p := ⟨g, 1, none⟩) hg4).trans y1) ((hb.cell (p := ⟨g, 2, none⟩) hg4).trans y2)))); have BXX := Lib.hid ((Below.refl _ W4).drew.trans hb); clear hb)
                    | (go_at_call 26; refine (HFF.out _ (HO4.out.below.trans (BXX.out.mono HO4.out.below.size))).mono ?_; rintro e w6 ⟨rfl, hb⟩; have s7 := SX.out; have SX := Lib.hid (And.intro (And.intro ((hb.cell (p := ⟨b, off + k * 5, none⟩) (World.block_lt_of_cell? _ _ s7.1.1)).trans s7.1.1) (And.intro ((hb.cell (p := ⟨b, off + k * 5 + 1, none⟩) (World.block_lt_of_cell? _ _ s7.1.2.1)).trans s7.1.2.1) (And.intro ((hb.cell (p := ⟨b, off + k * 5 + 2, none⟩) (World.block_lt_of_cell? _ _ s7.1.2.2.1)).trans s7.1.2.2.1) (And.intro ((hb.cell (p := ⟨b, off + k * 5 + 3, none⟩) (World.block_lt_of_cell? _ _ s7.1.2.2.2.1)).trans s7.1.2.2.2.1) ((hb.cell (p := ⟨b, off + k * 5 + 4, none⟩) (World.block_lt_of_cell? _ _ s7.1.2.2.2.2)).trans s7.1.2.2.2.2))))) (And.intro ((hb.cell (p := ⟨g, 0, none⟩) (World.block_lt_of_cell? _ _ s7.2.1)).trans s7.2.1) (And.intro ((hb.cell (p := ⟨g, 1, none⟩) (World.block_lt_of_cell? _ _ s7.2.2.1)).trans s7.2.2.1) ((hb.cell (p := ⟨g, 2, none⟩) (World.block_lt_of_cell? _ _ s7.2.2.2)).trans s7.2.2.2)))); have BXX := Lib.hid (BXX.out.trans (hb.mono BXX.out.size)); clear hb s7))
                  all_goals
                    have HO5 := Lib.hid (HO4.out.step BXX.out)
                    go_wp2
                    go_roundw
                    case rel => exact ⟨i + 1, by rw [HL2.out, HL.out], by first | rfl | go_num, hi1, HO5⟩
                    case measure => first | (simp [intOf]; omega) | simp [intOf]
                | false =>
                  have HL : Hid (L2 = false) := Lib.hid (by rw [HSTEP.out]; rfl)
                  -- BEGIN drawn
                  have SS : (fun v => (v.cell? ⟨b, off + k * 5, none⟩ = some (.int .i64 rg) ∧ v.cell? ⟨b, off + k * 5 + 1, none⟩ = some (.int .i64 rv) ∧ v.cell? ⟨b, off + k * 5 + 2, none⟩ = some (.int .i64 rl) ∧ v.cell? ⟨b, off + k * 5 + 3, none⟩ = some (.int .i64 rh) ∧ v.cell? ⟨b, off + k * 5 + 4, none⟩ = some (.int .i64 rw)) ∧ v.cell? ⟨g, 0, none⟩ = some (.int .i64 cg) ∧ v.cell? ⟨g, 1, none⟩ = some (.bool cv) ∧ v.cell? ⟨g, 2, none⟩ = some (.int .i64 cn)) W4.drew := ⟨⟨c0, c1, c2, c3, c4⟩, y0, y1, y2⟩
                  refine wp_region_held_drew (S := (fun v => (v.cell? ⟨b, off + k * 5, none⟩ = some (.int .i64 rg) ∧ v.cell? ⟨b, off + k * 5 + 1, none⟩ = some (.int .i64 rv) ∧ v.cell? ⟨b, off + k * 5 + 2, none⟩ = some (.int .i64 rl) ∧ v.cell? ⟨b, off + k * 5 + 3, none⟩ = some (.int .i64 rh) ∧ v.cell? ⟨b, off + k * 5 + 4, none⟩ = some (.int .i64 rw)) ∧ v.cell? ⟨g, 0, none⟩ = some (.int .i64 cg) ∧ v.cell? ⟨g, 1, none⟩ = some (.bool cv) ∧ v.cell? ⟨g, 2, none⟩ = some (.int .i64 cn))) (by kernel_rfl) SS (fun hHeld => ?_)
                  refine wpAnyH_take (i := 0) (v := ?v0) rfl (by kernel_rfl) (by kernel_rfl) (by kernel_rfl) (fun _ _ _ h => h) (Or.inl ⟨by kernel_rfl, ?y0⟩) (by assumption) ?r0
                  case y0 => (intro v hSv; (try dsimp only at hSv); go_simp; all_goals with_reducible rfl)
                  try simp only [Act.put, List.setIfInBounds_toArray, List.set_cons_zero, List.set_cons_succ]
                  refine wpAnyH_take (i := 1) (v := ?v1) rfl (by kernel_rfl) (by kernel_rfl) (by kernel_rfl) (fun _ _ _ h => h) (Or.inl ⟨by kernel_rfl, ?y1⟩) (by assumption) ?r1
                  case y1 => (intro v hSv; (try dsimp only at hSv); go_simp; all_goals with_reducible rfl)
                  try simp only [Act.put, List.setIfInBounds_toArray, List.set_cons_zero, List.set_cons_succ]
                  refine wpAnyH_take (i := 2) (v := ?v2) rfl (by kernel_rfl) (by kernel_rfl) (by kernel_rfl) (fun _ _ _ h => h) (Or.inl ⟨by kernel_rfl, ?y2⟩) (by assumption) ?r2
                  case y2 => (intro v hSv; (try dsimp only at hSv); go_simp; all_goals with_reducible rfl)
                  try simp only [Act.put, List.setIfInBounds_toArray, List.set_cons_zero, List.set_cons_succ]
                  refine wpAnyH_take (i := 3) (v := ?v3) rfl (by kernel_rfl) (by kernel_rfl) (by kernel_rfl) (fun _ _ _ h => h) (Or.inl ⟨by kernel_rfl, ?y3⟩) (by assumption) ?r3
                  case y3 => (intro v hSv; (try dsimp only at hSv); go_simp; all_goals with_reducible rfl)
                  try simp only [Act.put, List.setIfInBounds_toArray, List.set_cons_zero, List.set_cons_succ]
                  refine wpAnyH_take (i := 4) (v := ?v4) rfl (by kernel_rfl) (by kernel_rfl) (by kernel_rfl) (fun _ _ _ h => h) (Or.inl ⟨by kernel_rfl, ?y4⟩) (by assumption) ?r4
                  case y4 => (intro v hSv; (try dsimp only at hSv); go_simp; all_goals with_reducible rfl)
                  try simp only [Act.put, List.setIfInBounds_toArray, List.set_cons_zero, List.set_cons_succ]
                  refine wpAnyH_take (i := 5) (v := ?v5) rfl (by kernel_rfl) (by kernel_rfl) (by kernel_rfl) (fun _ _ _ h => h) (Or.inl ⟨by kernel_rfl, ?y5⟩) (by assumption) ?r5
                  case y5 => (intro v hSv; (try dsimp only at hSv); go_simp; all_goals with_reducible rfl)
                  try simp only [Act.put, List.setIfInBounds_toArray, List.set_cons_zero, List.set_cons_succ]
                  refine wpAnyH_take (i := 6) (v := ?v6) rfl (by kernel_rfl) (by kernel_rfl) (by kernel_rfl) (fun _ _ _ h => h) (Or.inl ⟨by kernel_rfl, ?y6⟩) (by assumption) ?r6
                  case y6 => (intro v hSv; (try dsimp only at hSv); go_simp; all_goals with_reducible rfl)
                  try simp only [Act.put, List.setIfInBounds_toArray, List.set_cons_zero, List.set_cons_succ]
                  refine wpAnyH_ready (rs := [7]) (by kernel_rfl) (by simp) ?_
                  refine AllReadyH.cons rfl (fun K hK => ?_) AllReadyH.nil
                  go_simp
                  go_at_call 29
                  refine (HMM.out _).mono ?_
                  rintro e w5 ⟨rfl, hb⟩
                  have hS7 : (fun v => (v.cell? ⟨b, off + k * 5, none⟩ = some (.int .i64 rg) ∧ v.cell? ⟨b, off + k * 5 + 1, none⟩ = some (.int .i64 rv) ∧ v.cell? ⟨b, off + k * 5 + 2, none⟩ = some (.int .i64 rl) ∧ v.cell? ⟨b, off + k * 5 + 3, none⟩ = some (.int .i64 rh) ∧ v.cell? ⟨b, off + k * 5 + 4, none⟩ = some (.int .i64 rw)) ∧ v.cell? ⟨g, 0, none⟩ = some (.int .i64 cg) ∧ v.cell? ⟨g, 1, none⟩ = some (.bool cv) ∧ v.cell? ⟨g, 2, none⟩ = some (.int .i64 cn)) w5 := ⟨⟨(hb.cell (p := ⟨b, off + k * 5, none⟩) (World.block_lt_of_cell? W4 _ c0)).trans c0, (hb.cell (p := ⟨b, off + k * 5 + 1, none⟩) (World.block_lt_of_cell? W4 _ c1)).trans c1, (hb.cell (p := ⟨b, off + k * 5 + 2, none⟩) (World.block_lt_of_cell? W4 _ c2)).trans c2, (hb.cell (p := ⟨b, off + k * 5 + 3, none⟩) (World.block_lt_of_cell? W4 _ c3)).trans c3, (hb.cell (p := ⟨b, off + k * 5 + 4, none⟩) (World.block_lt_of_cell? W4 _ c4)).trans c4⟩, (hb.cell (p := ⟨g, 0, none⟩) hg4).trans y0, (hb.cell (p := ⟨g, 1, none⟩) hg4).trans y1, (hb.cell (p := ⟨g, 2, none⟩) hg4).trans y2⟩
                  have BXX := Lib.hid ((Below.refl _ W4).drew.trans hb)
                  clear hb
                  go_simp
                  refine hK.out _ _ hS7 (fun hHeld => ?_)
                  clear hK K
                  try simp only [Act.put, List.setIfInBounds_toArray, List.set_cons_zero, List.set_cons_succ]
                  refine wpAnyH_take (i := 8) (v := ?v8) rfl (by kernel_rfl) (by kernel_rfl) (by kernel_rfl) (fun _ _ _ h => h) (Or.inl ⟨by kernel_rfl, ?y8⟩) (by assumption) ?r8
                  case y8 => (intro v hSv; (try dsimp only at hSv); go_simp; all_goals with_reducible rfl)
                  try simp only [Act.put, List.setIfInBounds_toArray, List.set_cons_zero, List.set_cons_succ]
                  refine wpAnyH_take (i := 9) (v := undef) rfl (by kernel_rfl) (by kernel_rfl) (by kernel_rfl) (fun _ _ _ h => h) (Or.inr ⟨by kernel_rfl, rfl⟩) (by assumption) ?r9
                  try simp only [Act.put, List.setIfInBounds_toArray, List.set_cons_zero, List.set_cons_succ]
                  refine wpAnyH_take (i := 10) (v := undef) rfl (by kernel_rfl) (by kernel_rfl) (by kernel_rfl) (fun _ _ _ h => h) (Or.inr ⟨by kernel_rfl, rfl⟩) (by assumption) ?r10
                  try simp only [Act.put, List.setIfInBounds_toArray, List.set_cons_zero, List.set_cons_succ]
                  refine wpAnyH_take (i := 11) (v := undef) rfl (by kernel_rfl) (by kernel_rfl) (by kernel_rfl) (fun _ _ _ h => h) (Or.inr ⟨by kernel_rfl, rfl⟩) (by assumption) ?r11
                  try simp only [Act.put, List.setIfInBounds_toArray, List.set_cons_zero, List.set_cons_succ]
                  refine wpAnyH_take (i := 12) (v := undef) rfl (by kernel_rfl) (by kernel_rfl) (by kernel_rfl) (fun _ _ _ h => h) (Or.inr ⟨by kernel_rfl, rfl⟩) (by assumption) ?r12
                  try simp only [Act.put, List.setIfInBounds_toArray, List.set_cons_zero, List.set_cons_succ]
                  refine wpAnyH_take (i := 13) (v := undef) rfl (by kernel_rfl) (by kernel_rfl) (by kernel_rfl) (fun _ _ _ h => h) (Or.inr ⟨by kernel_rfl, rfl⟩) (by assumption) ?r13
                  try simp only [Act.put, List.setIfInBounds_toArray, List.set_cons_zero, List.set_cons_succ]
                  refine wpAnyH_take (i := 14) (v := undef) rfl (by kernel_rfl) (by kernel_rfl) (by kernel_rfl) (fun _ _ _ h => h) (Or.inr ⟨by kernel_rfl, rfl⟩) (by assumption) ?r14
                  try simp only [Act.put, List.setIfInBounds_toArray, List.set_cons_zero, List.set_cons_succ]
                  refine wpAnyH_take (i := 15) (v := ?v15) rfl (by kernel_rfl) (by kernel_rfl) (by kernel_rfl) (fun _ _ _ h => h) (Or.inl ⟨by kernel_rfl, ?y15⟩) (by assumption) ?r15
                  case y15 => (intro v hSv; (try dsimp only at hSv); go_simp; all_goals with_reducible rfl)
                  try simp only [Act.put, List.setIfInBounds_toArray, List.set_cons_zero, List.set_cons_succ]
                  refine wpAnyH_take (i := 16) (v := ?v16) rfl (by kernel_rfl) (by kernel_rfl) (by kernel_rfl) (fun _ _ _ h => h) (Or.inl ⟨by kernel_rfl, ?y16⟩) (by assumption) ?r16
                  case y16 => (intro v hSv; (try dsimp only at hSv); go_simp; all_goals with_reducible rfl)
                  try simp only [Act.put, List.setIfInBounds_toArray, List.set_cons_zero, List.set_cons_succ]
                  refine wpAnyH_take (i := 17) (v := ?v17) rfl (by kernel_rfl) (by kernel_rfl) (by kernel_rfl) (fun _ _ _ h => h) (Or.inl ⟨by kernel_rfl, ?y17⟩) (by assumption) ?r17
                  case y17 => (intro v hSv; (try dsimp only at hSv); go_simp; all_goals with_reducible rfl)
                  try simp only [Act.put, List.setIfInBounds_toArray, List.set_cons_zero, List.set_cons_succ]
                  refine wpAnyH_done (by kernel_rfl) ?_ _
                  -- END drawn
                  all_goals
                    have HO5 := Lib.hid (HO4.out.step BXX.out)
                    go_wp2
                    go_roundw
                    case rel => exact ⟨i + 1, by rw [HL2.out, HL.out], by first | rfl | go_num, hi1, HO5⟩
                    case measure => first | (simp [intOf]; omega) | simp [intOf]
            · obtain rfl : i = (amtL l).length := by omega
              have l1 : decide (((amtL l).length : Int) < ((amtL l).length : Int)) = false := decide_eq_false (by omega)
              have hln := lives_next l k c
              go_wp2
              go_roundw
              case rel => exact ⟨c + 1, by rw [hln], by first | rfl | go_num, hc1, HO⟩
              case measure => first | (simp [intOf]; omega) | simp [intOf]
        · obtain rfl : c = 8 := by omega
          have hla := lives_all l k
          have hst : deadTo l (k + 1) = if livesB l k = true then deadTo l k else deadTo l k ++ [(k : Int)] := rfl
          rw [← hla] at hst
          clear hla
          generalize livesC l k 8 = L at *
          cases L with
          | true =>
            have HR : Hid (ys = deadTo l (k + 1)) := Lib.hid (by rw [hst, if_pos rfl, HY.out])
            clear hst
            go_wp2
            go_roundw
            case rel => exact ⟨k + 1, a8, c8, ys, rfl, by first | rfl | go_num, hk1, HO, HR⟩
            case measure => first | (simp [intOf]; omega) | simp [intOf]
          | false =>
            have HQ : Hid (ys ++ [(k : Int)] = deadTo l (k + 1)) := Lib.hid (by rw [hst, if_neg (by simp), HY.out])
            clear hst
            go_wp2_with (at_builtin; refine append_nums rfl _ _ rfl a8 c8 ys rfl HO.out (k : Int) rfl (by have := HYL.out; omega) ?_)
            intro a7 c7 V7 ts hts' hO7
            have hts := hts'.out
            clear hts'
            have HO7 := Lib.hid hO7
            rw [← hts] at HQ
            clear hO7 hts
            go_wp2
            go_roundw
            case rel => exact ⟨k + 1, a7, c7, ts, rfl, by first | rfl | go_num, hk1, HO7, HQ⟩
            case measure => first | (simp [intOf]; omega) | simp [intOf]
    · obtain rfl : k = l.length := by omega
      have i1 : decide ((l.length : Int) < (l.length : Int)) = false := decide_eq_false (by omega)
      have HR : Hid (ys = deadV l) := Lib.hid (by rw [HY.out, HV.out])
      go_wp2
      go_ret
      rw [← HR.out]
      exact ⟨a8, c8, rfl, HO.out.ints.1, HO.out.ints.2, B2.out.trans (HO.out.below.mono B2.out.size)⟩
end Go.Proofs.Ytifihejogbcbgaa
