/- The walk of BatchApplies, from what is wanted of the program's batch. -/
import Derived.Test.YteccahggahpeeaaMUndo15
namespace Go.Proofs.Yteccahggahpeeaa
open Go.RowKit

theorem Els.off15 {W : World} {g : Nat} {x y : Value} {t : TypeId} {fr : Nat × Nat} (hz : W.heap[g]? = some (.cells #[x, y] t fr)) {A B : Nat} {a : Option Addr} {cs : List Cl15} (h : Els clE A B W a cs) : ElsO clE (fun b => b ≠ g) B W a cs := by
  rcases h with h | ⟨b, off, ha, _, hB, hc⟩
  · exact Or.inl h
  · cases cs with
    | nil => exact Or.inl rfl
    | cons c cs =>
      refine Or.inr ⟨b, off, ha, fun e => ?_, hB, hc⟩
      have h2 := hc 2 (.string (tx c.2.2)) rfl
      subst e
      rw [World.cell?] at h2
      simp [hz] at h2
theorem LocD15.put {W : World} {g : Nat} {x y : Value} {a : Option Addr} {c : Nat} {S : St15} (hz : W.heap[g]? = some (.cells #[x, y] 32 (0, 0))) (h : DocV W a c S) : LocD15 ((W.setCell ⟨g, 0, none⟩ (.int .i64 S.length)).setCell ⟨g, 1, none⟩ (.slice a (cellsF 0 S).length c)) g a c S :=
  ⟨two_stored14 hz _ _, ((((Els.off15 hz h.1).set (by simp) _).set (by simp) _).els), h.2⟩
abbrev zeroD : Obj := .cells #[.int .i64 0, .slice none 0 0] 32
structure InA15 (w W : World) (a : Option Addr) (c : Nat) (S : St15) (la : Option Addr) (lc : Nat) (l : List Op15) (x y : Int) : Prop where
  old : Below w.heap.size w W
  box : W.heap[w.heap.size]? = some (.cells #[.slice a S.length c] 24 (0, 0))
  arr : W.heap[w.heap.size + 1]? = some (.cells #[.int .i64 x, .int .i64 y] 26 (0, 0))
  tab : TabsV 0 W.heap.size W a S
  els : Els opE 0 W.heap.size W la l
theorem InA15.start {w : World} {a : Option Addr} (c : Nat) {S : St15} {la : Option Addr} (lc : Nat) {l : List Op15} (x y : Int) (hs : TabsV 0 w.heap.size w a S) (hl : Els opE 0 w.heap.size w la l) : InA15 w ((w.alloc (.cells #[.slice a S.length c] 24)).alloc (.cells #[.int .i64 x, .int .i64 y] 26)) a c S la lc l x y :=
  have hw := ((Below.refl w.heap.size w).alloc (Nat.le_refl _) (.cells #[.slice a S.length c] 24)).alloc (by simp) (.cells #[.int .i64 x, .int .i64 y] 26)
  ⟨hw, heap_alloc2_old w _ _, heap_alloc2_new w _ _, hs.step hw, hl.step hw⟩
theorem InA15.step {w W V : World} {a : Option Addr} {c : Nat} {S : St15} {la : Option Addr} {lc : Nat} {l : List Op15} {x y : Int} (h : InA15 w W a c S la lc l x y) (hb : Below W.heap.size W V) : InA15 w V a c S la lc l x y :=
  ⟨h.old.trans (hb.mono h.old.size), old_obj hb h.box, old_obj hb h.arr, h.tab.step hb, h.els.step hb⟩
theorem InA15.fact {w W : World} {a : Option Addr} {c : Nat} {S : St15} {la : Option Addr} {lc : Nat} {l : List Op15} {x y : Int} (h : InA15 w W a c S la lc l x y) : W.cell? ⟨w.heap.size, 0, none⟩ = some (.slice a S.length c) ∧ W.cell? ⟨w.heap.size + 1, 0, none⟩ = some (.int .i64 x) ∧ W.cell? ⟨w.heap.size + 1, 1, none⟩ = some (.int .i64 y) := ⟨cell_of h.box rfl, cell_of h.arr rfl, cell_of h.arr rfl⟩
set_option maxRecDepth 100000 in
set_option maxHeartbeats 8000000 in
theorem batchApplies_main (H : Batch15) (HA : Wakes15) (w : World) (a : Option Addr) (c : Nat) (S : St15) (hc : S.length ≤ c) (hs : TabsV 0 w.heap.size w a S) (la : Option Addr) (lc : Nat) (l : List Op15) (hlc : l.length ≤ lc) (hl : Els opE 0 w.heap.size w la l) (x y : Int) :
    Calls Try.prog 3 #[stVal a c S, .slice la l.length lc, .agg #[.int .i64 x, .int .i64 y]] w fun e w' => e = .returned (.bool true) ∧ Below w.heap.size w w' := by
  have HW := Lib.hid HA
  have I0 := InA15.start c lc x y hs hl
  have HF := Lib.hid (lfew15 a c S _ I0.tab)
  have HI := Lib.hid I0
  obtain ⟨c0, c1, c2⟩ := I0.fact
  have HS : Hid (∀ W, InA15 w W a c S la lc l x y → Calls Try.prog 9 #[.slice la l.length lc] W fun e w' => e = .returned (.bool (shortL l)) ∧ W = w') := Lib.hid fun W h => short15_any la lc l W h.els
  clear I0 hs hl
  cases hf : fewS S with
  | false =>
    rw [hf] at HF
    clear hf HS
    go_enter Try.func3, Try.ntmps3
    go_wp2_with (first
      | (go_at_call 8; refine HF.out.mono ?_; rintro e w1 ⟨rfl, hb⟩; have I1 := Lib.hid (HI.out.step hb); clear hb)
      | (go_at_call 10; refine (HW.out _).mono ?_; rintro e w2 ⟨rfl, hb⟩; have B2 := Lib.hid (I1.out.old.trans (hb.mono I1.out.old.size)); clear hb))
    go_ret
    exact ⟨rfl, B2.out⟩
  | true =>
    rw [hf] at HF
    cases hl2 : shortL l with
    | false =>
      rw [hl2] at HS
      clear hf hl2
      go_enter Try.func3, Try.ntmps3
      go_wp2_with (first
        | (go_at_call 8; refine HF.out.mono ?_; rintro e w1 ⟨rfl, hb⟩; have I1 := Lib.hid (HI.out.step hb); clear hb)
        | (go_at_call 9; refine (HS.out _ I1.out).mono ?_; rintro e w3 ⟨rfl, rfl⟩)
        | (go_at_call 10; refine (HW.out _).mono ?_; rintro e w2 ⟨rfl, hb⟩; have B2 := Lib.hid (I1.out.old.trans (hb.mono I1.out.old.size)); clear hb))
      go_ret
      exact ⟨rfl, B2.out⟩
    | true =>
      rw [hl2] at HS
      have hsm := few_small15 hf
      have hll : l.length ≤ 60 := (of_decide_eq_true hl2).1
      have HOP : Hid (∀ W, InA15 w W a c S la lc l x y → OpsV W la lc l) := Lib.hid fun W h => ⟨h.els, hlc, by omega⟩
      have HCK : Hid (∀ W, InA15 w W a c S la lc l x y → Calls Try.prog 19 #[stVal a c S] W fun e w' => e = .returned (.int .i64 (checkS S)) ∧ Below W.heap.size W w') := Lib.hid fun W h => H.check a c S W ⟨h.tab, hc, hsm⟩
      have HGE : Hid (∀ W, InA15 w W a c S la lc l x y → Calls Try.prog 17 #[stVal a c S, .int .i64 x, .int .i64 y] W fun e w' => e = .returned (.tuple #[.string (tx (getV15 S x y)), .bool (getB15 S x y)]) ∧ Below W.heap.size W w') := Lib.hid fun W h => H.get a c S x y W ⟨h.tab, hc, hsm⟩
      have HAP : Hid (∀ W, InA15 w W a c S la lc l x y → Calls Try.prog 12 #[stVal a c S, .slice la l.length lc] W fun e w' => ∃ a' c', e = .returned (.tuple #[stVal a' c' (bV S l), .int .i64 (bN S l), .int .i64 (bE S l)]) ∧ StV w' a' c' (bV S l) ∧ Below W.heap.size W w') := Lib.hid fun W h => (H.apply a c S la lc l W ⟨h.tab, hc, hsm⟩ ⟨h.els, hlc, by omega⟩).mono (by rintro e w' ⟨a', c', rfl, h1, _, h3⟩; exact ⟨a', c', rfl, h1, h3⟩)
      have HUN : Hid (∀ W, InA15 w W a c S la lc l x y → Calls Try.prog 15 #[stVal a c S, .slice la l.length lc] W fun e w' => ∃ a' c', e = .returned (.tuple #[.slice a' (bU S l).length c', .int .i64 (bE S l)]) ∧ OpsV w' a' c' (bU S l) ∧ Below W.heap.size W w') := Lib.hid fun W h => H.undo a c S la lc l W ⟨h.tab, hc, hsm⟩ ⟨h.els, hlc, by omega⟩
      have HOF : Hid (∀ W, InA15 w W a c S la lc l x y → Calls Try.prog 11 #[stVal a c S] W fun e w' => ∃ a' c', e = .returned (dVal a' c' S) ∧ DocV w' a' c' S ∧ Below W.heap.size W w') := Lib.hid fun W h => lof15 a c S W ⟨h.tab, hc, hsm⟩
      have HRC : Hid (∀ (W : World) (g : Nat) (ta : Option Addr) (tc : Nat), LocD15 W g ta tc S → Calls Try.prog 20 #[dVal ta tc S] W fun e w' => e = .returned (.int .i64 (checkS S)) ∧ Below W.heap.size W w') := Lib.hid fun W g ta tc h => dcheck15 ta tc S W h.doc
      have HRG : Hid (∀ (W : World) (g : Nat) (ta : Option Addr) (tc : Nat), LocD15 W g ta tc S → Calls Try.prog 18 #[dVal ta tc S, .int .i64 x, .int .i64 y] W fun e w' => e = .returned (.tuple #[.string (tx (getV15 S x y)), .bool (getB15 S x y)]) ∧ Below W.heap.size W w') := Lib.hid fun W g ta tc h => dget15 ta tc S x y W h.doc
      have HRA : Hid (∀ (W : World) (g : Nat) (ta : Option Addr) (tc : Nat) (ma : Option Addr) (mc : Nat), LocD15 W g ta tc S → OpsV W ma mc l → Calls Try.prog 13 #[dVal ta tc S, .slice ma l.length mc] W fun e w' => ∃ a' c', e = .returned (.tuple #[dVal a' c' (bV S l), .int .i64 (bN S l), .int .i64 (bE S l)]) ∧ DocV w' a' c' (bV S l) ∧ Below W.heap.size W w') := Lib.hid fun W g ta tc ma mc h1 h2 => dapply15 ta tc S ma mc l W h1.doc h2
      have HRU : Hid (∀ (W : World) (g : Nat) (ta : Option Addr) (tc : Nat) (ma : Option Addr) (mc : Nat), LocD15 W g ta tc S → OpsV W ma mc l → Calls Try.prog 16 #[dVal ta tc S, .slice ma l.length mc] W fun e w' => ∃ a' c', e = .returned (.tuple #[.slice a' (bU S l).length c', .int .i64 (bE S l)]) ∧ Els opE 0 w'.heap.size w' a' (bU S l) ∧ Below W.heap.size W w') := Lib.hid fun W g ta tc ma mc h1 h2 => dundo15 ta tc S ma mc l W h1.doc h2
      have HSA : Hid (∀ (S : St15) (W : World) (g : Nat) (ba : Option Addr) (bc : Nat) (h : Nat) (da : Option Addr) (dc : Nat), Loc15 W g ba bc S → LocD15 W h da dc S → Calls Try.prog 21 #[stVal ba bc S, dVal da dc S] W fun e w' => e = .returned (.bool true) ∧ Below W.heap.size W w') := Lib.hid fun S W g ba bc h da dc h1 h2 => lsame15 ba bc da dc S W h1.st h2.doc
      have HSO : Hid (∀ (l : List Op15) (W : World) (xa : Option Addr) (xc : Nat) (ya : Option Addr) (yc : Nat), OpsV W xa xc l → Els opE 0 W.heap.size W ya l → Calls Try.prog 22 #[.slice xa l.length xc, .slice ya l.length yc] W fun e w' => e = .returned (.bool true) ∧ Below W.heap.size W w') := Lib.hid fun l W xa xc ya yc h1 h2 => dsameops15 xa ya xc yc l W h1 h2
      have HLO : Hid (∀ (l : List Op15) (W : World) (xa : Option Addr) (xc : Nat), OpsV W xa xc l → Calls Try.prog 14 #[.slice xa l.length xc] W fun e w' => ∃ a' c', e = .returned (.slice a' l.length c') ∧ OpsV w' a' c' l ∧ Below W.heap.size W w') := Lib.hid fun l W xa xc h => lops15 xa xc l W h
      have q0 : ((tx (getV15 S x y)).toList == (tx (getV15 S x y)).toList) = true := by simp
      clear hsm hll hlc hc H hf hl2
      generalize tx (getV15 S x y) = GV at *
      generalize getB15 S x y = GB at *
      generalize checkS S = CS at *
      generalize bV S l = R at *
      generalize bU S l = U at *
      generalize bN S l = N at *
      generalize bE S l = E at *
      go_enter Try.func3, Try.ntmps3
      go_upto_region 4 with (first
        | (go_at_call 8; refine HF.out.mono ?_; rintro e w1 ⟨rfl, hb⟩; have I1 := Lib.hid (HI.out.step hb); obtain ⟨d0, _, _⟩ := I1.out.fact; clear hb c0 c1 c2)
        | (go_at_call 9; refine (HS.out _ I1.out).mono ?_; rintro e w2 ⟨rfl, rfl⟩)
        | (go_at_call 11; refine (HOF.out _ I1.out).mono ?_; rintro e w3 ⟨ta, tc, rfl, h1, hb⟩; have T3 := Lib.hid (LocD15.late h1); have I3 := Lib.hid (I1.out.step (below_new hb (.cells #[.int .i64 S.length, .slice ta (cellsF 0 S).length tc] 32))); clear hb h1 d0 I1))
      generalize w3.alloc (.cells #[.int .i64 S.length, .slice ta (cellsF 0 S).length tc] 32) = V3 at *
      generalize w3.heap.size = g3 at *
      obtain ⟨d0, _, _⟩ := I3.out.fact
      go_upto_region 5 with (go_at_call 12; refine (HAP.out _ I3.out).mono ?_; rintro e w4 ⟨aa, ac, rfl, h1, hb⟩; have A4 := Lib.hid (Loc15.late h1); have I4 := Lib.hid (I3.out.step (below_new hb (.cells #[.slice aa R.length ac] 24))); have T4 := Lib.hid (T3.out.step (below_new hb (.cells #[.slice aa R.length ac] 24))); clear hb h1 d0 I3 T3)
      generalize w4.alloc (.cells #[.slice aa R.length ac] 24) = V4 at *
      generalize w4.heap.size = g4 at *
      go_cut [11, 12, 13] (fun s11 s12 s13 wx => s12 = .int .i64 N ∧ s13 = .int .i64 E ∧ ∃ (g : Nat) (ba : Option Addr) (bc : Nat), s11 = .pointer (some ⟨g, 0, none⟩) ∧ Hid (Below V4.heap.size V4 wx ∧ LocD15 wx g ba bc R))
      case first =>
        obtain ⟨t0, t1⟩ := T4.out.fact
        have hgl := World.block_lt_of_cell? V4 _ t0
        have m1 : ¬ (g3 = V4.heap.size) := by simp at hgl; omega
        have m2 : ¬ (V4.heap.size = g3) := fun e => m1 e.symm
        have HGL : Hid (g3 < V4.heap.size) := Lib.hid (by simp at hgl; exact hgl)
        have hd := (Below.refl V4.heap.size V4).drew
        have hz := ((Below.refl V4.heap.size V4).alloc (Nat.le_refl _) zeroD).drew
        have OL := Lib.hid (HLO.out l V4.drew la lc (HOP.out _ (I4.out.step hd)))
        have OE := Lib.hid (HLO.out l (V4.alloc zeroD).drew la lc (HOP.out _ (I4.out.step hz)))
        have HD := Lib.hid hd
        have HZ := Lib.hid hz
        clear hgl hd hz
        go_region_held3 (fun v => v.cell? ⟨g3, 0, none⟩ = some (.int .i64 S.length) ∧ v.cell? ⟨g3, 1, none⟩ = some (.slice ta (cellsF 0 S).length tc)) (first | go_keep) (first
          | (go_at_call 14; refine OL.out.mono ?_; rintro e w5 ⟨oa, oc, rfl, h1, hb⟩; have B5 := Lib.hid (HD.out.trans hb); have T5 := Lib.hid (T4.out.step (HD.out.trans hb)); have O5 := Lib.hid h1; obtain ⟨t2, t3⟩ := T5.out.fact; have hgl2 := World.block_lt_of_cell? w5 _ t2; have n1 : ¬ (g3 = w5.heap.size) := (by simp at hgl2; omega); have n2 : ¬ (w5.heap.size = g3) := (fun e => n1 e.symm); clear hb h1 hgl2)
          | (go_at_call 14; refine OE.out.mono ?_; rintro e w5 ⟨oa, oc, rfl, h1, hb⟩; have hZ5 := old_obj hb (show (V4.alloc zeroD).drew.heap[V4.heap.size]? = some zeroD from heap_alloc_new _ _); have Z5 := Lib.hid hZ5; obtain ⟨z0, z1, z2, z3⟩ := two_cells14 hZ5; have B5 := Lib.hid (HZ.out.trans (hb.mono (by simp))); have T5 := Lib.hid (T4.out.step (HZ.out.trans (hb.mono (by simp)))); have O5 := Lib.hid h1; obtain ⟨t2, t3⟩ := T5.out.fact; clear hb h1 hZ5)
          | (go_at_call 13; refine (HRA.out w5 _ _ _ _ _ T5.out O5.out).mono ?_; rintro e w6 ⟨ba, bc, rfl, h1, hb⟩; have D6 := Lib.hid h1; have B6 := Lib.hid (B5.out.trans (hb.mono B5.out.size)); have HB6 := Lib.hid hb; obtain ⟨t4, t5⟩ := (T5.out.step hb).fact; try (have hZ6 := old_obj hb Z5.out; have Z6 := Lib.hid hZ6; obtain ⟨z4, z5, z6, z7⟩ := two_cells14 hZ6; clear hZ6); clear hb h1)
          | (go_at_call 13; have hz6 := (Below.refl w5.heap.size w5).alloc (Nat.le_refl _) zeroD; refine (HRA.out (w5.alloc zeroD) _ _ _ _ _ (T5.out.step hz6) (O5.out.step hz6)).mono ?_; rintro e w6 ⟨ba, bc, rfl, h1, hb⟩; have hZ6 := old_obj hb (show (w5.alloc zeroD).heap[w5.heap.size]? = some zeroD from heap_alloc_new _ _); have Z6 := Lib.hid hZ6; obtain ⟨z4, z5, z6, z7⟩ := two_cells14 hZ6; have D6 := Lib.hid h1; have B6 := Lib.hid (B5.out.trans ((hz6.trans (hb.mono (by simp))).mono B5.out.size)); have HG5 := Lib.hid B5.out.size; obtain ⟨t4, t5⟩ := ((T5.out.step hz6).step hb).fact; clear hb h1 hz6 hZ6))
        · go_wp2_with fail
          go_meet
          exact ⟨rfl, rfl, w6.heap.size, ba, bc, rfl, Lib.hid ⟨B6.out.alloc B6.out.size _, LocD15.late D6.out⟩⟩
        · go_wp2_with fail
          go_meet
          exact ⟨rfl, rfl, w5.heap.size, ba, bc, rfl, Lib.hid ⟨two_below14 B6.out HG5.out _ _, LocD15.put Z6.out D6.out⟩⟩
        · go_wp2_with fail
          go_meet
          exact ⟨rfl, rfl, V4.heap.size, ba, bc, rfl, Lib.hid ⟨two_below14 B6.out (Nat.le_refl _) _ _, LocD15.put Z6.out D6.out⟩⟩
      case rest =>
        obtain ⟨rfl, rfl, gb, ba, bc, rfl, hcb⟩ := hcut
        have I7 := Lib.hid (I4.out.step hcb.out.1)
        have T7 := Lib.hid (T4.out.step hcb.out.1)
        have A7 := Lib.hid (A4.out.step hcb.out.1)
        have B7 := Lib.hid hcb.out.2
        clear hcb I4 T4 A4
        obtain ⟨d0, _, _⟩ := I7.out.fact
        go_upto_region 7 with (go_at_call 15; refine (HUN.out _ I7.out).mono ?_; rintro e w8 ⟨ua, uc, rfl, h1, hb⟩; have U8 := Lib.hid h1; have I8 := Lib.hid (I7.out.step hb); have T8 := Lib.hid (T7.out.step hb); have A8 := Lib.hid (A7.out.step hb); have B8 := Lib.hid (B7.out.step hb); clear hb h1 d0 I7 T7 A7 B7)
        have hd := (Below.refl w8.heap.size w8).drew
        have I9 := Lib.hid (I8.out.step hd)
        have T9 := Lib.hid (T8.out.step hd)
        have A9 := Lib.hid (A8.out.step hd)
        have B9 := Lib.hid (B8.out.step hd)
        have U9 := Lib.hid (U8.out.step hd)
        have L9 := Lib.hid (HOP.out _ I9.out)
        obtain ⟨t0, t1⟩ := T8.out.fact
        clear hd
        go_region_held3 (fun v => v.cell? ⟨g3, 0, none⟩ = some (.int .i64 S.length) ∧ v.cell? ⟨g3, 1, none⟩ = some (.slice ta (cellsF 0 S).length tc)) (first | go_keep) (first
          | (go_at_call 14; refine (HLO.out _ _ _ _ L9.out).mono ?_; rintro e wa ⟨oa, oc, rfl, h1, hb⟩; have OA := Lib.hid h1; have IA := Lib.hid (I9.out.step hb); have TA := Lib.hid (T9.out.step hb); have AA := Lib.hid (A9.out.step hb); have BA := Lib.hid (B9.out.step hb); have UA := Lib.hid (U9.out.step hb); obtain ⟨t2, t3⟩ := TA.out.fact; clear hb h1)
          | (go_at_call 16; refine (HRU.out _ _ _ _ _ _ TA.out OA.out).mono ?_; rintro e wb ⟨va, vc, rfl, h1, hb⟩; have VB := Lib.hid h1; have IB := Lib.hid (IA.out.step hb); have TB := Lib.hid (TA.out.step hb); have AB := Lib.hid (AA.out.step hb); have BB := Lib.hid (BA.out.step hb); have UB := Lib.hid (UA.out.step hb); obtain ⟨t4, t5⟩ := TB.out.fact; clear hb h1))
        all_goals
          obtain ⟨d1, d2, d3⟩ := IB.out.fact
          clear t0 t1 t2 t3 t4 t5 I8 I9 IA T8 T9 TA A8 A9 AA B8 B9 BA U8 U9 UA L9 OA
          go_upto_region 9 with (go_at_call 17; refine (HGE.out _ IB.out).mono ?_; rintro e wc ⟨rfl, hb⟩; have IC := Lib.hid (IB.out.step hb); have TC := Lib.hid (TB.out.step hb); have AC := Lib.hid (AB.out.step hb); have BC := Lib.hid (BB.out.step hb); have UC := Lib.hid (UB.out.step hb); have VC := Lib.hid (Els.step VB.out hb); clear hb d1 d2 d3 IB TB AB BB UB VB)
          obtain ⟨d1, d2, d3⟩ := IC.out.fact
          obtain ⟨t0, t1⟩ := TC.out.fact
          go_upto_region 10 with (go_at_call 18; refine (HRG.out _ _ _ _ TC.out).mono ?_; rintro e wd ⟨rfl, hb⟩; have ID := Lib.hid (IC.out.step hb); have TD := Lib.hid (TC.out.step hb); have AD := Lib.hid (AC.out.step hb); have BD := Lib.hid (BC.out.step hb); have UD := Lib.hid (UC.out.step hb); have VD := Lib.hid (Els.step VC.out hb); clear hb d1 d2 d3 t0 t1 IC TC AC BC UC VC)
          have hd := (Below.refl wd.heap.size wd).drew
          have IE := Lib.hid (ID.out.step hd)
          have TE := Lib.hid (TD.out.step hd)
          have AE := Lib.hid (AD.out.step hd)
          have BE := Lib.hid (BD.out.step hd)
          have UE := Lib.hid (UD.out.step hd)
          have VE := Lib.hid (Els.step VD.out hd)
          obtain ⟨d1, _, _⟩ := ID.out.fact
          obtain ⟨t0, t1⟩ := TD.out.fact
          have a0 := AD.out.fact
          obtain ⟨b0, b1⟩ := BD.out.fact
          clear hd ID TD AD BD UD VD
          go_region_held3 (fun v => v.cell? ⟨w.heap.size, 0, none⟩ = some (.slice a S.length c) ∧ v.cell? ⟨g3, 0, none⟩ = some (.int .i64 S.length) ∧ v.cell? ⟨g3, 1, none⟩ = some (.slice ta (cellsF 0 S).length tc) ∧ v.cell? ⟨g4, 0, none⟩ = some (.slice aa R.length ac) ∧ v.cell? ⟨gb, 0, none⟩ = some (.int .i64 R.length) ∧ v.cell? ⟨gb, 1, none⟩ = some (.slice ba (cellsF 0 R).length bc)) (first | go_keep) (first
            | (go_at_call 19; refine (HCK.out _ IE.out).mono ?_; rintro e wf ⟨rfl, hb⟩; have IF := Lib.hid (IE.out.step hb); have TF := Lib.hid (TE.out.step hb); have AF := Lib.hid (AE.out.step hb); have BF := Lib.hid (BE.out.step hb); have UF := Lib.hid (UE.out.step hb); have VF := Lib.hid (Els.step VE.out hb); obtain ⟨f1, _, _⟩ := IF.out.fact; obtain ⟨f2, f3⟩ := TF.out.fact; have f4 := AF.out.fact; obtain ⟨f5, f6⟩ := BF.out.fact; clear hb)
            | (go_at_call 20; refine (HRC.out _ _ _ _ TF.out).mono ?_; rintro e wg ⟨rfl, hb⟩; have IG := Lib.hid (IF.out.step hb); have TG := Lib.hid (TF.out.step hb); have AG := Lib.hid (AF.out.step hb); have BG := Lib.hid (BF.out.step hb); have UG := Lib.hid (UF.out.step hb); have VG := Lib.hid (Els.step VF.out hb); obtain ⟨h1, _, _⟩ := IG.out.fact; obtain ⟨h2, h3⟩ := TG.out.fact; have h4 := AG.out.fact; obtain ⟨h5, h6⟩ := BG.out.fact; clear hb)
            | (go_at_call 21; refine (HSA.out _ _ _ _ _ _ _ _ AG.out BG.out).mono ?_; rintro e wh ⟨rfl, hb⟩; have IH := Lib.hid (IG.out.step hb); have TH := Lib.hid (TG.out.step hb); have AH := Lib.hid (AG.out.step hb); have BH := Lib.hid (BG.out.step hb); have UH := Lib.hid (UG.out.step hb); have VH := Lib.hid (Els.step VG.out hb); obtain ⟨i1, _, _⟩ := IH.out.fact; obtain ⟨i2, i3⟩ := TH.out.fact; have i4 := AH.out.fact; obtain ⟨i5, i6⟩ := BH.out.fact; clear hb)
            | (go_at_call 14; refine (HLO.out _ _ _ _ UH.out).mono ?_; rintro e wi ⟨ya, yc, rfl, hy, hb⟩; have YI := Lib.hid hy; have II := Lib.hid (IH.out.step hb); have TI := Lib.hid (TH.out.step hb); have AI := Lib.hid (AH.out.step hb); have BI := Lib.hid (BH.out.step hb); have VI := Lib.hid (Els.step VH.out hb); obtain ⟨j1, _, _⟩ := II.out.fact; obtain ⟨j2, j3⟩ := TI.out.fact; have j4 := AI.out.fact; obtain ⟨j5, j6⟩ := BI.out.fact; clear hb hy)
            | (go_at_call 22; refine (HSO.out _ _ _ _ _ _ YI.out VI.out).mono ?_; rintro e wj ⟨rfl, hb⟩; have IJ := Lib.hid (II.out.step hb); have TJ := Lib.hid (TI.out.step hb); have AJ := Lib.hid (AI.out.step hb); have BJ := Lib.hid (BI.out.step hb); obtain ⟨k1, _, _⟩ := IJ.out.fact; obtain ⟨k2, k3⟩ := TJ.out.fact; have k4 := AJ.out.fact; obtain ⟨k5, k6⟩ := BJ.out.fact; clear hb)
            | (go_at_call 10; refine (HW.out _).mono ?_; rintro e wk ⟨rfl, hb⟩; have IK := Lib.hid (IJ.out.step hb); have TK := Lib.hid (TJ.out.step hb); have AK := Lib.hid (AJ.out.step hb); have BK := Lib.hid (BJ.out.step hb); obtain ⟨l1, _, _⟩ := IK.out.fact; obtain ⟨l2, l3⟩ := TK.out.fact; have l4 := AK.out.fact; obtain ⟨l5, l6⟩ := BK.out.fact; clear hb))
          all_goals
            go_wp2
            go_ret
            exact ⟨by simp, IK.out.old⟩
end Go.Proofs.Yteccahggahpeeaa
