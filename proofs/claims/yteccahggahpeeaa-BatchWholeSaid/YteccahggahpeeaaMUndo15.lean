/- The walk of BatchUndo, from what is wanted of the program's batch. -/
import Derived.Test.YteccahggahpeeaaWant15
import Derived.Deep.CutBlock
import Derived.Deep.DeepCutAuto
namespace Go.Proofs.Yteccahggahpeeaa
open Go.RowKit

/-- Where a law's walk is: its store lies boxed, and all that came in is there. -/
structure In15 (w W : World) (a : Option Addr) (c : Nat) (S : St15) (la : Option Addr) (lc : Nat) (l : List Op15) : Prop where
  old : Below w.heap.size w W
  box : W.heap[w.heap.size]? = some (.cells #[.slice a S.length c] 24 (0, 0))
  tab : TabsV 0 W.heap.size W a S
  els : Els opE 0 W.heap.size W la l
theorem In15.start {w : World} {a : Option Addr} (c : Nat) {S : St15} {la : Option Addr} (lc : Nat) {l : List Op15} (hs : TabsV 0 w.heap.size w a S) (hl : Els opE 0 w.heap.size w la l) : In15 w (w.alloc (.cells #[.slice a S.length c] 24)) a c S la lc l :=
  have hb := (Below.refl w.heap.size w).alloc (Nat.le_refl _) (.cells #[.slice a S.length c] 24)
  ⟨hb, heap_alloc_new w _, hs.step hb, hl.step hb⟩
theorem In15.step {w W V : World} {a : Option Addr} {c : Nat} {S : St15} {la : Option Addr} {lc : Nat} {l : List Op15} (h : In15 w W a c S la lc l) (hb : Below W.heap.size W V) : In15 w V a c S la lc l :=
  ⟨h.old.trans (hb.mono h.old.size), old_obj hb h.box, h.tab.step hb, h.els.step hb⟩
theorem In15.fact {w W : World} {a : Option Addr} {c : Nat} {S : St15} {la : Option Addr} {lc : Nat} {l : List Op15} (h : In15 w W a c S la lc l) : W.cell? ⟨w.heap.size, 0, none⟩ = some (.slice a S.length c) := cell_of h.box rfl
/-- A local variable that holds a store. -/
structure Loc15 (W : World) (g : Nat) (a : Option Addr) (c : Nat) (S : St15) : Prop where
  obj : W.heap[g]? = some (.cells #[.slice a S.length c] 24 (0, 0))
  st : StV W a c S
theorem Loc15.step {W V : World} {g : Nat} {a : Option Addr} {c : Nat} {S : St15} (h : Loc15 W g a c S) (hb : Below W.heap.size W V) : Loc15 V g a c S := ⟨old_obj hb h.obj, h.st.step hb⟩
theorem Loc15.fact {W : World} {g : Nat} {a : Option Addr} {c : Nat} {S : St15} (h : Loc15 W g a c S) : W.cell? ⟨g, 0, none⟩ = some (.slice a S.length c) := cell_of h.obj rfl
theorem Loc15.late {W : World} {a : Option Addr} {c : Nat} {S : St15} (h : StV W a c S) : Loc15 (W.alloc (.cells #[.slice a S.length c] 24)) W.heap.size a c S :=
  ⟨heap_alloc_new W _, h.step ((Below.refl _ W).alloc (Nat.le_refl _) _)⟩
theorem below_new {W w1 : World} (hb : Below W.heap.size W w1) (o : Obj) : Below W.heap.size W (w1.alloc o) := hb.alloc hb.size o
set_option maxHeartbeats 8000000 in
theorem batchUndo_main (H : Batch15) (HA : Wakes15) (w : World) (a : Option Addr) (c : Nat) (S : St15) (hc : S.length ≤ c) (hs : TabsV 0 w.heap.size w a S) (la : Option Addr) (lc : Nat) (l : List Op15) (hlc : l.length ≤ lc) (hl : Els opE 0 w.heap.size w la l) :
    Calls Try.prog 6 #[stVal a c S, .slice la l.length lc] w fun e w' => e = .returned (.bool true) ∧ Below w.heap.size w w' := by
  have HW := Lib.hid HA
  have I0 := In15.start c lc hs hl
  have HF := Lib.hid (lfew15 a c S _ I0.tab)
  have HI := Lib.hid I0
  have c0 := I0.fact
  have HS : Hid (∀ W, In15 w W a c S la lc l → Calls Try.prog 9 #[.slice la l.length lc] W fun e w' => e = .returned (.bool (shortL l)) ∧ W = w') := Lib.hid fun W h => short15_any la lc l W h.els
  clear I0 hs hl
  cases hf : fewS S with
  | false =>
    rw [hf] at HF
    clear hf HS
    go_enter Try.func6, Try.ntmps6
    go_wp2_with (first
      | (go_at_call 8; refine HF.out.mono ?_; rintro e w1 ⟨rfl, hb⟩; have I1 := Lib.hid (HI.out.step hb); clear hb)
      | (go_at_call 10; refine (HW.out _).mono ?_; rintro e w2 ⟨rfl, hb⟩; have B2 := Lib.hid (I1.out.old.trans (hb.mono I1.out.old.size)); clear hb))
    go_ret
    exact ⟨rfl, B2.out⟩
  | true =>
    rw [hf] at HF
    cases hl2 : shortL l with
    | false =>
      rw [hl2] at HS
      clear hf hl2
      go_enter Try.func6, Try.ntmps6
      go_wp2_with (first
        | (go_at_call 8; refine HF.out.mono ?_; rintro e w1 ⟨rfl, hb⟩; have I1 := Lib.hid (HI.out.step hb); clear hb)
        | (go_at_call 9; refine (HS.out _ I1.out).mono ?_; rintro e w3 ⟨rfl, rfl⟩)
        | (go_at_call 10; refine (HW.out _).mono ?_; rintro e w2 ⟨rfl, hb⟩; have B2 := Lib.hid (I1.out.old.trans (hb.mono I1.out.old.size)); clear hb))
      go_ret
      exact ⟨rfl, B2.out⟩
    | true =>
      rw [hl2] at HS
      have hsm := few_small15 hf
      have hll : l.length ≤ 60 := (of_decide_eq_true hl2).1
      have HAP : Hid (∀ W, In15 w W a c S la lc l → Calls Try.prog 12 #[stVal a c S, .slice la l.length lc] W fun e w' => ∃ a' c', e = .returned (.tuple #[stVal a' c' (bV S l), .int .i64 (bN S l), .int .i64 (bE S l)]) ∧ StV w' a' c' (bV S l) ∧ Below W.heap.size W w') := Lib.hid fun W h => (H.apply a c S la lc l W ⟨h.tab, hc, hsm⟩ ⟨h.els, hlc, by omega⟩).mono (by rintro e w' ⟨a', c', rfl, h1, _, h3⟩; exact ⟨a', c', rfl, h1, h3⟩)
      have HUN : Hid (∀ W, In15 w W a c S la lc l → Calls Try.prog 15 #[stVal a c S, .slice la l.length lc] W fun e w' => ∃ a' c', e = .returned (.tuple #[.slice a' (bU S l).length c', .int .i64 (bE S l)]) ∧ OpsV w' a' c' (bU S l) ∧ Below W.heap.size W w') := Lib.hid fun W h => H.undo a c S la lc l W ⟨h.tab, hc, hsm⟩ ⟨h.els, hlc, by omega⟩
      by_cases he : bE S l = 0
      · obtain ⟨hok, hap⟩ := bE_ok he
        obtain ⟨_, hv, hn, hu⟩ := ok_bE hok hap
        obtain ⟨u1, u2, u3⟩ := undo_app hok hap
        obtain ⟨v1, v2, v3, v4⟩ := ok_bE (app_ok hok hap).1 u1
        rw [u2] at v2
        rw [u3] at v3
        have HA2 : Hid (∀ (W : World) (ga : Nat) (aa : Option Addr) (ac : Nat) (ua : Option Addr) (uc : Nat), Loc15 W ga aa ac (appV S l) → OpsV W ua uc (undoL S l) → Calls Try.prog 12 #[stVal aa ac (appV S l), .slice ua (undoL S l).length uc] W fun e w' => ∃ a' c', e = .returned (.tuple #[stVal a' c' S, .int .i64 l.length, .int .i64 0]) ∧ StV w' a' c' S ∧ Below W.heap.size W w') := Lib.hid fun W ga aa ac ua uc h1 h2 => (H.apply aa ac (appV S l) ua uc (undoL S l) W h1.st h2).mono (by rintro e w' ⟨a', c', rfl, h1, _, h3⟩; rw [v1, v2, v3] at *; exact ⟨a', c', rfl, h1, h3⟩)
        have HOF : Hid (∀ W, In15 w W a c S la lc l → Calls Try.prog 11 #[stVal a c S] W fun e w' => ∃ a' c', e = .returned (dVal a' c' S) ∧ DocV w' a' c' S ∧ Below W.heap.size W w') := Lib.hid fun W h => lof15 a c S W ⟨h.tab, hc, hsm⟩
        have HSA : Hid (∀ (W : World) (g : Nat) (ba : Option Addr) (bc : Nat) (da : Option Addr) (dc : Nat), Loc15 W g ba bc S → DocV W da dc S → Calls Try.prog 21 #[stVal ba bc S, dVal da dc S] W fun e w' => e = .returned (.bool true) ∧ Below W.heap.size W w') := Lib.hid fun W g ba bc da dc h1 h2 => lsame15 ba bc da dc S W h1.st h2
        rw [he, hv, hn] at HAP
        rw [he, hu] at HUN
        clear he hok hap hv hn hu u1 u2 u3 v1 v2 v3 v4 hf hl2 H hlc hll
        generalize appV S l = A at *
        generalize undoL S l = U at *
        go_enter Try.func6, Try.ntmps6
        go_upto_region 4 with (first
          | (go_at_call 8; refine HF.out.mono ?_; rintro e w1 ⟨rfl, hb⟩; have I1 := Lib.hid (HI.out.step hb); have c1 := I1.out.fact; clear hb)
          | (go_at_call 9; refine (HS.out _ I1.out).mono ?_; rintro e w2 ⟨rfl, rfl⟩)
          | (go_at_call 12; refine (HAP.out _ I1.out).mono ?_; rintro e w3 ⟨aa, ac, rfl, h1, hb⟩; have A3 := Lib.hid (Loc15.late h1); have I3 := Lib.hid (I1.out.step (below_new hb (.cells #[.slice aa A.length ac] 24))); clear hb h1 c0))
        generalize w3.alloc (.cells #[.slice aa A.length ac] 24) = V3 at *
        generalize w3.heap.size = g3 at *
        have c3 := I3.out.fact
        have c4 := A3.out.fact
        go_upto_region 8 with (first
          | (go_at_call 15; refine (HUN.out _ I3.out).mono ?_; rintro e w4 ⟨ua, uc, rfl, h1, hb⟩; have U4 := Lib.hid h1; have A4 := Lib.hid (A3.out.step hb); have I4 := Lib.hid (I3.out.step hb); have c5 := A4.out.fact; clear hb h1 c3 c4)
          | (go_at_call 12; refine (HA2.out _ _ _ _ _ _ A4.out U4.out).mono ?_; rintro e w5 ⟨ba, bc, rfl, h1, hb⟩; have B5 := Lib.hid (Loc15.late h1); have I5 := Lib.hid (I4.out.step (below_new hb (.cells #[.slice ba S.length bc] 24))); clear hb h1))
        generalize w5.alloc (.cells #[.slice ba S.length bc] 24) = V5 at *
        generalize w5.heap.size = g5 at *
        have I6 := Lib.hid (I5.out.step (Below.refl _ V5).drew)
        have B6 := Lib.hid (B5.out.step (Below.refl _ V5).drew)
        have c6 := I5.out.fact
        have c7 := B5.out.fact
        go_region_held3 (fun v => v.cell? ⟨w.heap.size, 0, none⟩ = some (.slice a S.length c) ∧ v.cell? ⟨g5, 0, none⟩ = some (.slice ba S.length bc)) (first | go_keep) (first
          | (go_at_call 11; refine (HOF.out _ I6.out).mono ?_; rintro e w7 ⟨da, dc, rfl, h1, hb⟩; have D7 := Lib.hid h1; have I7 := Lib.hid (I6.out.step hb); have B7 := Lib.hid (B6.out.step hb); have c8 := I7.out.fact; have c9 := B7.out.fact; clear hb h1)
          | (go_at_call 21; refine (HSA.out _ _ _ _ _ _ B7.out D7.out).mono ?_; rintro e w8 ⟨rfl, hb⟩; have I8 := Lib.hid (I7.out.step hb); have B8 := Lib.hid (B7.out.step hb); have c10 := I8.out.fact; have c11 := B8.out.fact; clear hb)
          | (go_at_call 10; refine (HW.out _).mono ?_; rintro e w9 ⟨rfl, hb⟩; have I9 := Lib.hid (I8.out.step hb); have B9 := Lib.hid (B8.out.step hb); have c12 := I9.out.fact; have c13 := B9.out.fact; clear hb))
        all_goals
          go_wp2
          go_ret
          exact ⟨rfl, I9.out.old⟩
      · have hv : bV S l = [] := by unfold bV; rw [if_neg he]
        have hu : bU S l = [] := by unfold bU; rw [if_neg he]
        rw [hv] at HAP
        rw [hu] at HUN
        have d1 : (bE S l == 0) = false := beq_eq_false_iff_ne.2 he
        have d2 : (bE S l != 0) = true := by rw [bne_iff_ne]; exact he
        clear he hv hu hf hl2 H hlc hll
        generalize bE S l = E at *
        generalize bN S l = M at *
        go_enter Try.func6, Try.ntmps6
        go_upto_region 4 with (first
          | (go_at_call 8; refine HF.out.mono ?_; rintro e w1 ⟨rfl, hb⟩; have I1 := Lib.hid (HI.out.step hb); have c1 := I1.out.fact; clear hb)
          | (go_at_call 9; refine (HS.out _ I1.out).mono ?_; rintro e w2 ⟨rfl, rfl⟩)
          | (go_at_call 12; refine (HAP.out _ I1.out).mono ?_; rintro e w3 ⟨aa, ac, rfl, h1, hb⟩; have I3 := Lib.hid (I1.out.step (below_new hb (.cells #[.slice aa 0 ac] 24))); clear hb h1 c0))
        generalize w3.alloc (.cells #[.slice aa 0 ac] 24) = V3 at *
        generalize w3.heap.size = g3 at *
        have c3 := I3.out.fact
        go_wp2_with (first
          | (go_at_call 15; refine (HUN.out _ I3.out).mono ?_; rintro e w4 ⟨ua, uc, rfl, h1, hb⟩; have I4 := Lib.hid (I3.out.step hb); clear hb h1 c3)
          | (go_at_call 10; refine (HW.out _).mono ?_; rintro e w9 ⟨rfl, hb⟩; have I9 := Lib.hid (I4.out.step hb); clear hb))
        go_ret
        exact ⟨by simp, I9.out.old⟩
end Go.Proofs.Yteccahggahpeeaa
namespace Go.Proofs.Yteccahggahpeeaa
open Go.RowKit

/-- Where a walk over two stores is. -/
structure Both15 (w W : World) (a : Option Addr) (c : Nat) (A : St15) (b : Option Addr) (d : Nat) (B : St15) : Prop where
  old : Below w.heap.size w W
  box : W.heap[w.heap.size]? = some (.cells #[.slice a A.length c] 24 (0, 0))
  box2 : W.heap[w.heap.size + 1]? = some (.cells #[.slice b B.length d] 24 (0, 0))
  tab : TabsV 0 W.heap.size W a A
  tab2 : TabsV 0 W.heap.size W b B
theorem Both15.start {w : World} {a : Option Addr} (c : Nat) {A : St15} {b : Option Addr} (d : Nat) {B : St15} (ha : TabsV 0 w.heap.size w a A) (hb : TabsV 0 w.heap.size w b B) : Both15 w ((w.alloc (.cells #[.slice a A.length c] 24)).alloc (.cells #[.slice b B.length d] 24)) a c A b d B :=
  have hw := ((Below.refl w.heap.size w).alloc (Nat.le_refl _) (.cells #[.slice a A.length c] 24)).alloc (by simp) (.cells #[.slice b B.length d] 24)
  ⟨hw, heap_alloc2_old w _ _, heap_alloc2_new w _ _, ha.step hw, hb.step hw⟩
theorem Both15.step {w W V : World} {a : Option Addr} {c : Nat} {A : St15} {b : Option Addr} {d : Nat} {B : St15} (h : Both15 w W a c A b d B) (hb : Below W.heap.size W V) : Both15 w V a c A b d B :=
  ⟨h.old.trans (hb.mono h.old.size), old_obj hb h.box, old_obj hb h.box2, h.tab.step hb, h.tab2.step hb⟩
theorem Both15.fact {w W : World} {a : Option Addr} {c : Nat} {A : St15} {b : Option Addr} {d : Nat} {B : St15} (h : Both15 w W a c A b d B) : W.cell? ⟨w.heap.size, 0, none⟩ = some (.slice a A.length c) ∧ W.cell? ⟨w.heap.size + 1, 0, none⟩ = some (.slice b B.length d) := ⟨cell_of h.box rfl, cell_of h.box2 rfl⟩
/-- A local variable that holds the document's store. -/
structure LocD15 (W : World) (g : Nat) (a : Option Addr) (c : Nat) (S : St15) : Prop where
  obj : W.heap[g]? = some (.cells #[.int .i64 S.length, .slice a (cellsF 0 S).length c] 32 (0, 0))
  doc : DocV W a c S
theorem LocD15.step {W V : World} {g : Nat} {a : Option Addr} {c : Nat} {S : St15} (h : LocD15 W g a c S) (hb : Below W.heap.size W V) : LocD15 V g a c S := ⟨old_obj hb h.obj, h.doc.step hb⟩
theorem LocD15.fact {W : World} {g : Nat} {a : Option Addr} {c : Nat} {S : St15} (h : LocD15 W g a c S) : W.cell? ⟨g, 0, none⟩ = some (.int .i64 S.length) ∧ W.cell? ⟨g, 1, none⟩ = some (.slice a (cellsF 0 S).length c) := ⟨cell_of h.obj rfl, cell_of h.obj rfl⟩
theorem LocD15.late {W : World} {a : Option Addr} {c : Nat} {S : St15} (h : DocV W a c S) : LocD15 (W.alloc (.cells #[.int .i64 S.length, .slice a (cellsF 0 S).length c] 32)) W.heap.size a c S :=
  ⟨heap_alloc_new W _, h.step ((Below.refl _ W).alloc (Nat.le_refl _) _)⟩
theorem tx_same (s : ByteArray) : tx s.data.toList = s := (tx_of rfl).symm
theorem diff_ok15 {A B : St15} (h : diffE A B = 0) : bE A (diffV A B) = 0 ∧ bV A (diffV A B) = B ∧ bN A (diffV A B) = (diffV A B).length := by
  obtain ⟨h1, h2, h3⟩ := diffE_ok h
  have hv : diffV A B = diffS 0 A B := by unfold diffV; rw [if_pos h]
  obtain ⟨e1, e2⟩ := diff_app (P := []) h3 h1.tab h2.tab
  obtain ⟨v1, v2, v3, _⟩ := ok_bE h1 (show appE A (diffS 0 A B) = 0 from e1)
  rw [hv]
  exact ⟨v1, v2.trans e2, v3⟩
set_option maxRecDepth 100000 in
set_option maxHeartbeats 8000000 in
theorem batchDiff_main (H : Batch15) (HA : Wakes15) (w : World) (a : Option Addr) (c : Nat) (A : St15) (hac : A.length ≤ c) (ha : TabsV 0 w.heap.size w a A) (b : Option Addr) (d : Nat) (B : St15) (hbd : B.length ≤ d) (hb : TabsV 0 w.heap.size w b B) (s : ByteArray) :
    Calls Try.prog 7 #[stVal a c A, stVal b d B, .string s] w fun e w' => e = .returned (.bool true) ∧ Below w.heap.size w w' := by
  have HW := Lib.hid HA
  have I0 := Both15.start c d ha hb
  have HFA := Lib.hid (lfew15 a c A _ I0.tab)
  have HFB : Hid (∀ W, Both15 w W a c A b d B → Calls Try.prog 8 #[stVal b d B] W fun e w' => e = .returned (.bool (fewS B)) ∧ Below W.heap.size W w') := Lib.hid fun W h => lfew15 b d B W h.tab2
  have HI := Lib.hid I0
  obtain ⟨c0, c1⟩ := I0.fact
  clear I0 ha hb
  cases hf : fewS A with
  | false =>
    rw [hf] at HFA
    clear hf HFB
    go_enter Try.func7, Try.ntmps7
    go_wp2_with (first
      | (go_at_call 8; refine HFA.out.mono ?_; rintro e w1 ⟨rfl, hb⟩; have I1 := Lib.hid (HI.out.step hb); clear hb)
      | (go_at_call 10; refine (HW.out _).mono ?_; rintro e w2 ⟨rfl, hb⟩; have B2 := Lib.hid (I1.out.old.trans (hb.mono I1.out.old.size)); clear hb))
    go_ret
    exact ⟨rfl, B2.out⟩
  | true =>
    rw [hf] at HFA
    have hsa := few_small15 hf
    clear hf
    cases hf2 : fewS B with
    | false =>
      rw [hf2] at HFB
      clear hf2 hsa
      go_enter Try.func7, Try.ntmps7
      go_wp2_with (first
        | (go_at_call 8; refine HFA.out.mono ?_; rintro e w1 ⟨rfl, hb⟩; have I1 := Lib.hid (HI.out.step hb); obtain ⟨d0, d1⟩ := I1.out.fact; clear hb HFA)
        | (go_at_call 8; refine (HFB.out _ I1.out).mono ?_; rintro e w3 ⟨rfl, hb⟩; have I3 := Lib.hid (I1.out.step hb); clear hb)
        | (go_at_call 10; refine (HW.out _).mono ?_; rintro e w2 ⟨rfl, hb⟩; have B2 := Lib.hid (I3.out.old.trans (hb.mono I3.out.old.size)); clear hb))
      go_ret
      exact ⟨rfl, B2.out⟩
    | true =>
      rw [hf2] at HFB
      have hsb := few_small15 hf2
      clear hf2
      by_cases hs : 5000 < s.size
      · have e1 : decide (5000 < (s.size : Int)) = true := decide_eq_true (by omega)
        have e1' : decide (5000 < s.size) = true := decide_eq_true hs
        clear hs hsa hsb
        go_enter Try.func7, Try.ntmps7
        go_wp2_with (first
          | (go_at_call 8; refine HFA.out.mono ?_; rintro e w1 ⟨rfl, hb⟩; have I1 := Lib.hid (HI.out.step hb); obtain ⟨d0, d1⟩ := I1.out.fact; clear hb HFA)
          | (go_at_call 8; refine (HFB.out _ I1.out).mono ?_; rintro e w3 ⟨rfl, hb⟩; have I3 := Lib.hid (I1.out.step hb); clear hb)
          | (go_at_call 10; refine (HW.out _).mono ?_; rintro e w2 ⟨rfl, hb⟩; have B2 := Lib.hid (I3.out.old.trans (hb.mono I3.out.old.size)); clear hb))
        go_ret
        exact ⟨rfl, B2.out⟩
      have e1 : decide (5000 < (s.size : Int)) = false := decide_eq_false (by omega)
      have e1' : decide (5000 < s.size) = false := decide_eq_false hs
      have HDF : Hid (∀ W, Both15 w W a c A b d B → Calls Try.prog 27 #[stVal a c A, stVal b d B] W fun e w' => ∃ a' c', e = .returned (.tuple #[.slice a' (diffV A B).length c', .int .i64 (diffE A B)]) ∧ OpsV w' a' c' (diffV A B) ∧ Below W.heap.size W w') := Lib.hid fun W h => H.diff a c A b d B W ⟨h.tab, hac, hsa⟩ ⟨h.tab2, hbd, hsb⟩
      have HAP : Hid (diffE A B = 0 → ∀ (W : World) (la : Option Addr) (lc : Nat), Both15 w W a c A b d B → OpsV W la lc (diffV A B) → Calls Try.prog 12 #[stVal a c A, .slice la (diffV A B).length lc] W fun e w' => ∃ a' c', e = .returned (.tuple #[stVal a' c' B, .int .i64 (diffV A B).length, .int .i64 0]) ∧ StV w' a' c' B ∧ Below W.heap.size W w') := Lib.hid fun hd W la lc h h2 => by
        obtain ⟨v1, v2, v3⟩ := diff_ok15 hd
        refine (H.apply a c A la lc (diffV A B) W ⟨h.tab, hac, hsa⟩ h2).mono ?_
        rintro e w' ⟨a', c', rfl, h1, _, h3⟩
        rw [v1, v2, v3] at *
        exact ⟨a', c', rfl, h1, h3⟩
      have HOA : Hid (∀ W, Both15 w W a c A b d B → Calls Try.prog 11 #[stVal a c A] W fun e w' => ∃ a' c', e = .returned (dVal a' c' A) ∧ DocV w' a' c' A ∧ Below W.heap.size W w') := Lib.hid fun W h => lof15 a c A W ⟨h.tab, hac, hsa⟩
      have HOB : Hid (∀ W, Both15 w W a c A b d B → Calls Try.prog 11 #[stVal b d B] W fun e w' => ∃ a' c', e = .returned (dVal a' c' B) ∧ DocV w' a' c' B ∧ Below W.heap.size W w') := Lib.hid fun W h => lof15 b d B W ⟨h.tab2, hbd, hsb⟩
      have HSA : Hid (∀ (S : St15) (W : World) (g : Nat) (ba : Option Addr) (bc : Nat) (da : Option Addr) (dc : Nat), Loc15 W g ba bc S → DocV W da dc S → Calls Try.prog 21 #[stVal ba bc S, dVal da dc S] W fun e w' => e = .returned (.bool true) ∧ Below W.heap.size W w') := Lib.hid fun S W g ba bc da dc h1 h2 => lsame15 ba bc da dc S W h1.st h2
      have HPU : Hid (∀ W, Both15 w W a c A b d B → Calls Try.prog 23 #[stVal a c A] W fun e w' => e = .returned (.tuple #[.string (tx (putS A)), .int .i64 (checkS A)]) ∧ Below W.heap.size W w') := Lib.hid fun W h => H.put a c A W ⟨h.tab, hac, hsa⟩
      have HTA : Hid (checkS A = 0 → ∀ W : World, Calls Try.prog 25 #[.string (tx (putS A))] W fun e w' => ∃ a' c', e = .returned (.tuple #[stVal a' c' A, .int .i64 0]) ∧ StV w' a' c' A ∧ Below W.heap.size W w') := Lib.hid fun hk W => by
        have hl := putS_len A
        have ht := H.take (tx (putS A)) W (by rw [tx_size]; omega)
        have e : putS A = storeL A := by unfold putS; rw [if_pos hk]
        obtain ⟨t1, t2⟩ := take_put (checkS_ok.1 hk)
        rw [tx_list, e, t1, t2] at ht
        rw [e]; exact ht
      have HTX : Hid (∀ W : World, Calls Try.prog 25 #[.string s] W fun e w' => ∃ a' c', e = .returned (.tuple #[stVal a' c' (takeSV s.data.toList), .int .i64 (takeSE s.data.toList)]) ∧ StV w' a' c' (takeSV s.data.toList) ∧ Below W.heap.size W w') := Lib.hid fun W => H.take s W (by omega)
      have HPX : Hid (takeSE s.data.toList = 0 → ∀ (W : World) (g : Nat) (ta : Option Addr) (tc : Nat), Loc15 W g ta tc (takeSV s.data.toList) → Calls Try.prog 23 #[stVal ta tc (takeSV s.data.toList)] W fun e w' => e = .returned (.tuple #[.string s, .int .i64 0]) ∧ Below W.heap.size W w') := Lib.hid fun hk W g ta tc h => by
        have hp := H.put ta tc (takeSV s.data.toList) W h.st
        obtain ⟨p1, p2⟩ := put_take hk
        have hc := checkS_ok.2 p1
        rw [show putS (takeSV s.data.toList) = s.data.toList from by unfold putS; rw [if_pos hc, p2], hc, tx_same] at hp
        exact hp
      have HTN : Hid (takeSE s.data.toList ≠ 0 → takeSV s.data.toList = []) := Lib.hid fun h => by unfold takeSV; rw [if_neg h]
      have q0 : (s.toList == s.toList) = true := by simp
      clear hsa hsb hac hbd H hs
      generalize takeSV s.data.toList = TS at *
      generalize takeSE s.data.toList = TE at *
      generalize putS A = PA at *
      generalize checkS A = CA at *
      generalize diffV A B = L at *
      generalize diffE A B = DE at *
      go_enter Try.func7, Try.ntmps7
      go_upto_if 41 with (first
        | (go_at_call 8; refine HFA.out.mono ?_; rintro e w1 ⟨rfl, hb⟩; have I1 := Lib.hid (HI.out.step hb); obtain ⟨d0, d1⟩ := I1.out.fact; clear hb HFA c0 c1)
        | (go_at_call 8; refine (HFB.out _ I1.out).mono ?_; rintro e w2 ⟨rfl, hb⟩; have I2 := Lib.hid (I1.out.step hb); obtain ⟨d2, d3⟩ := I2.out.fact; clear hb d0 d1 I1)
        | (go_at_call 27; refine (HDF.out _ I2.out).mono ?_; rintro e w3 ⟨la, lc, rfl, h1, hb⟩; have I3 := Lib.hid (I2.out.step hb); have L3 := Lib.hid h1; obtain ⟨d4, d5⟩ := I3.out.fact; clear hb h1 d2 d3 I2))
      go_cut [6] (fun v wx => v = .bool false ∧ Hid (Both15 w wx a c A b d B))
      case first =>
        by_cases hd : DE = 0
        · have b1 : (DE == 0) = true := by rw [hd]; rfl
          have HAP2 := Lib.hid (HAP.out hd)
          clear hd
          go_upto_region 6 with (go_at_call 12; refine (HAP2.out _ _ _ I3.out L3.out).mono ?_; rintro e w4 ⟨xa, xc, rfl, h1, hb⟩; have X4 := Lib.hid (Loc15.late h1); have I4 := Lib.hid (I3.out.step (below_new hb (.cells #[.slice xa B.length xc] 24))); clear hb h1 d4 d5 I3)
          generalize w4.alloc (.cells #[.slice xa B.length xc] 24) = V4 at *
          generalize w4.heap.size = g4 at *
          have I5 := Lib.hid (I4.out.step (Below.refl _ V4).drew)
          have X5 := Lib.hid (X4.out.step (Below.refl _ V4).drew)
          obtain ⟨_, f0⟩ := I4.out.fact
          have f1 := X4.out.fact
          go_region_held3 (fun v => v.cell? ⟨w.heap.size + 1, 0, none⟩ = some (.slice b B.length d) ∧ v.cell? ⟨g4, 0, none⟩ = some (.slice xa B.length xc)) (first | go_keep) (first
            | (go_at_call 11; refine (HOB.out _ I5.out).mono ?_; rintro e w6 ⟨da, dc, rfl, h1, hb⟩; have D6 := Lib.hid h1; have I6 := Lib.hid (I5.out.step hb); have X6 := Lib.hid (X5.out.step hb); obtain ⟨_, f2⟩ := I6.out.fact; have f3 := X6.out.fact; clear hb h1)
            | (go_at_call 21; refine (HSA.out _ _ _ _ _ _ _ X6.out D6.out).mono ?_; rintro e w7 ⟨rfl, hb⟩; have I7 := Lib.hid (I6.out.step hb); have X7 := Lib.hid (X6.out.step hb); obtain ⟨_, f4⟩ := I7.out.fact; have f5 := X7.out.fact; clear hb))
          all_goals
            go_wp2
            go_meet
            exact ⟨rfl, I7⟩
        · have b1 : (DE == 0) = false := beq_eq_false_iff_ne.2 hd
          clear hd
          go_wp2
          go_meet
          exact ⟨rfl, I3⟩
      case rest =>
        obtain ⟨rfl, I8⟩ := hcut
        clear I3 L3 d4 d5
        obtain ⟨d6, d7⟩ := I8.out.fact
        go_upto_if 70 with (go_at_call 23; refine (HPU.out _ I8.out).mono ?_; rintro e w9 ⟨rfl, hb⟩; have I9 := Lib.hid (I8.out.step hb); obtain ⟨d8, d9⟩ := I9.out.fact; clear hb d6 d7)
        go_cut [6] (fun v wx => v = .bool false ∧ Hid (Both15 w wx a c A b d B))
        case first =>
          by_cases hd : CA = 0
          · have b1 : (CA == 0) = true := by rw [hd]; rfl
            have HTA2 := Lib.hid (HTA.out hd)
            clear hd
            go_upto_region 11 with (go_at_call 25; refine (HTA2.out _).mono ?_; rintro e w4 ⟨xa, xc, rfl, h1, hb⟩; have X4 := Lib.hid (Loc15.late h1); have I4 := Lib.hid (I9.out.step (below_new hb (.cells #[.slice xa A.length xc] 24))); clear hb h1 d8 d9 I9)
            generalize w4.alloc (.cells #[.slice xa A.length xc] 24) = V4 at *
            generalize w4.heap.size = g4 at *
            have I5 := Lib.hid (I4.out.step (Below.refl _ V4).drew)
            have X5 := Lib.hid (X4.out.step (Below.refl _ V4).drew)
            obtain ⟨f0, _⟩ := I4.out.fact
            have f1 := X4.out.fact
            go_region_held3 (fun v => v.cell? ⟨w.heap.size, 0, none⟩ = some (.slice a A.length c) ∧ v.cell? ⟨g4, 0, none⟩ = some (.slice xa A.length xc)) (first | go_keep) (first
              | (go_at_call 11; refine (HOA.out _ I5.out).mono ?_; rintro e w6 ⟨da, dc, rfl, h1, hb⟩; have D6 := Lib.hid h1; have I6 := Lib.hid (I5.out.step hb); have X6 := Lib.hid (X5.out.step hb); obtain ⟨f2, _⟩ := I6.out.fact; have f3 := X6.out.fact; clear hb h1)
              | (go_at_call 21; refine (HSA.out _ _ _ _ _ _ _ X6.out D6.out).mono ?_; rintro e w7 ⟨rfl, hb⟩; have I7 := Lib.hid (I6.out.step hb); have X7 := Lib.hid (X6.out.step hb); obtain ⟨f4, _⟩ := I7.out.fact; have f5 := X7.out.fact; clear hb))
            all_goals
              go_wp2
              go_meet
              exact ⟨rfl, I7⟩
          · have b1 : (CA == 0) = false := beq_eq_false_iff_ne.2 hd
            clear hd
            go_wp2
            go_meet
            exact ⟨rfl, I9⟩
        case rest =>
          obtain ⟨rfl, I10⟩ := hcut
          clear I8 I9 d8 d9
          obtain ⟨d6, d7⟩ := I10.out.fact
          go_upto_region 14 with (go_at_call 25; refine (HTX.out _).mono ?_; rintro e w11 ⟨ta, tc, rfl, h1, hb⟩; have X11 := Lib.hid (Loc15.late h1); have I11 := Lib.hid (I10.out.step (below_new hb (.cells #[.slice ta TS.length tc] 24))); clear hb h1 d6 d7 I10)
          generalize w11.alloc (.cells #[.slice ta TS.length tc] 24) = V11 at *
          generalize w11.heap.size = g11 at *
          have x0 := X11.out.fact
          by_cases hd : TE = 0
          · have b1 : (TE == 0) = true := by rw [hd]; rfl
            have b2 : (TE != 0) = false := by rw [hd]; rfl
            have HPX2 := Lib.hid (HPX.out hd)
            clear hd
            go_wp2_with (first
              | (go_at_call 23; refine (HPX2.out _ _ _ _ X11.out).mono ?_; rintro e w12 ⟨rfl, hb⟩; have I12 := Lib.hid (I11.out.step hb); clear hb)
              | (go_at_call 10; refine (HW.out _).mono ?_; rintro e w13 ⟨rfl, hb⟩; have I13 := Lib.hid (I12.out.step hb); clear hb))
            go_ret
            exact ⟨by simp, I13.out.old⟩
          · have b1 : (TE == 0) = false := beq_eq_false_iff_ne.2 hd
            have b2 : (TE != 0) = true := by rw [bne_iff_ne]; exact hd
            have HN := HTN.out hd
            subst HN
            clear hd
            go_wp2_with (go_at_call 10; refine (HW.out _).mono ?_; rintro e w13 ⟨rfl, hb⟩; have I13 := Lib.hid (I11.out.step hb); clear hb)
            go_ret
            exact ⟨by simp, I13.out.old⟩
end Go.Proofs.Yteccahggahpeeaa
