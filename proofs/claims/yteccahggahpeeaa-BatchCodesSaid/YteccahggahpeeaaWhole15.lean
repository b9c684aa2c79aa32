/- The walk of BatchWhole, from what is wanted of the program's batch. -/
import Derived.Test.YteccahggahpeeaaMRows10
import Derived.Test.YteccahggahpeeaaMUndo15
namespace Go.Proofs.Yteccahggahpeeaa
open Go.RowKit

theorem rowk_mid {t : TypeId} {k : Nat} (ht : Try.prog.underlying t = some (.slice (Try.prog.elem t))) (hs : ∀ w, (Go.sizeOf (Try.prog.elem t)).run Try.prog w = .ok k w) (a : Option Addr) (n cap p q : Nat) (hp : p ≤ q) (hq : q ≤ n) (hn : n ≤ cap) :
    ∃ a', (∀ w, (Instr.slice t (.slice a n cap) (some (.int .i64 (p : Int))) (some (.int .i64 (q : Int))) none).run Try.prog w = .ok (.slice a' (q - p) (cap - p)) w) ∧ ∀ A B w cs, cs.length = n * k → Rw A B w a cs → Rw A B w a' ((cs.drop (p * k)).take ((q - p) * k)) := by
  refine ⟨if cap = p then a else a.map (·.add (p * k)), fun w => ?_, fun A B w cs hl h => ?_⟩
  · rw [run_slice_lh w t a n cap ht .i64 .i64 (p : Int) (q : Int) (by omega) (by omega) (by omega), hs]
    simp [Result.andThen, sliced]
  · refine Rw.take ?_ _
    split
    · refine Or.inl (List.drop_of_length_le ?_)
      rw [hl]
      exact Nat.mul_le_mul_right k (by omega)
    · rcases h with h | ⟨b, off, rfl, h1, h2, hc⟩
      · subst h; exact Or.inl (by simp)
      · refine Or.inr ⟨b, off + p * k, ?_, h1, h2, fun j u hj => ?_⟩
        · simp only [Option.map_some, Addr.add]
          split <;> simp_all
        · rw [List.getElem?_drop] at hj
          rw [Nat.add_assoc]
          exact hc _ u hj
theorem Elt.cells_cut {α : Type} (E : Elt α) {l : List α} {i : Nat} {x : α} (h : l[i]? = some x) : ((E.cells l).drop (i * E.k)).take E.k = E.cells [x] := by
  obtain ⟨hi, hx⟩ := List.getElem?_eq_some_iff.1 h
  have e : l = l.take i ++ (x :: l.drop (i + 1)) := by rw [← hx, List.getElem_cons_drop, List.take_append_drop]
  have e2 : E.cells l = E.cells (l.take i) ++ (E.enc x ++ E.cells (l.drop (i + 1))) := by
    conv => lhs; rw [e]
    rw [E.cells_append]; unfold Elt.cells; rw [List.flatMap_cons]
  rw [e2, List.drop_left' (by rw [E.cells_len, List.length_take]; congr 1; omega), List.take_left' (E.len x), E.cells_one]
theorem sl_op : Try.prog.underlying 25 = some (.slice (Try.prog.elem 25)) := by kernel_rfl
theorem infoOpP : (Try.prog.info? 69).map (fun i => (i.zero, i.size, i.bytes)) = some (some (.agg #[.int .i64 0, .int .i64 0, .int .i64 0, .string ⟨#[]⟩]), 4, 40) := by kernel_rfl
theorem sz_op (w : World) : (Go.sizeOf (Try.prog.elem 25)).run Try.prog w = .ok 4 w := by
  have h : Try.prog.elem 25 = 69 := by kernel_rfl
  rw [h]
  have hi := infoOpP
  cases hq : Try.prog.info? 69 with
  | none => rw [hq] at hi; cases hi
  | some i =>
    rw [hq] at hi
    simp only [Option.map_some, Option.some.injEq, Prod.mk.injEq] at hi
    simp [Go.sizeOf, typeInfo, hq, hi.2.1]
theorem app_pre : ∀ {l m : List Op15} {S : St15}, appE S (l ++ m) = 0 → appE S l = 0
  | [], _, _, _ => rfl
  | o :: l, m, S, h => by
    rw [List.cons_append] at h
    obtain ⟨h1, h2⟩ := app_cons.1 h
    exact app_cons.2 ⟨h1, app_pre h2⟩
/-- One change more. -/
theorem app_next {S : St15} (hs : OkS S) {l : List Op15} (h : appE S l = 0) {i : Nat} (hi : i < l.length) :
    Small15 (appV S (l.take i)) ∧ bE (appV S (l.take i)) [opAt l i] = 0 ∧ bN (appV S (l.take i)) [opAt l i] = 1 ∧ bV (appV S (l.take i)) [opAt l i] = appV S (l.take (i + 1)) := by
  have e := take_op l i hi
  have h1 : appE S (l.take (i + 1)) = 0 := app_pre (m := l.drop (i + 1)) (by rw [List.take_append_drop]; exact h)
  rw [e] at h1
  have h0 := app_pre h1
  obtain ⟨a1, a2⟩ := app_append (m := [opAt l i]) h0
  obtain ⟨b1, _⟩ := app_ok hs h0
  rw [a1] at h1
  obtain ⟨v1, v2, v3, _⟩ := ok_bE b1 h1
  exact ⟨ok_small15 b1, v1, v3, by rw [v2, e, a2]⟩
theorem Els.set15 {α : Type} {E : Elt α} {A B : Nat} {w : World} {a : Option Addr} {l : List α} (h : Els E A B w a l) {p : Addr} (hp : p.block < A) (v : Value) : Els E A B (w.setCell p v) a l := by
  rcases h with h | ⟨b, off, ha, hA, hB, hc⟩
  · exact Or.inl h
  · refine Or.inr ⟨b, off, ha, hA, hB, fun j u hj => ?_⟩
    rw [World.cell?_setCell_other w p ⟨b, off + j, none⟩ v (fun e => by subst e; exact absurd hp (Nat.not_lt.2 hA))]
    exact hc j u hj
theorem TabsV.set {A B : Nat} {w : World} {a : Option Addr} {S : St15} (h : TabsV A B w a S) {p : Addr} (hp : p.block < A) (v : Value) : TabsV A B (w.setCell p v) a S := by
  rcases h with h | ⟨b, off, ha, hA, hB, hc⟩
  · exact Or.inl h
  · refine Or.inr ⟨b, off, ha, hA, hB, fun j hj => ?_⟩
    obtain ⟨aj, cj, h1, h2, h3⟩ := hc j hj
    refine ⟨aj, cj, ?_, h2, h3.set15 hp v⟩
    rw [World.cell?_setCell_other w p ⟨b, off + j, none⟩ v (fun e => by subst e; exact absurd hp (Nat.not_lt.2 hA))]
    exact h1
/-- A local variable whose tables lie in newer blocks. -/
structure New15 (v W : World) (g : Nat) (a : Option Addr) (c : Nat) (S : St15) : Prop where
  old : Below v.heap.size v W
  new : v.heap.size ≤ g
  obj : W.heap[g]? = some (.cells #[.slice a S.length c] 24 (0, 0))
  tab : TabsV v.heap.size W.heap.size W a S
  cap : S.length ≤ c
  small : Small15 S
abbrev zeroS : Obj := .cells #[.slice none 0 0] 24
theorem New15.late {v w1 : World} {a : Option Addr} {c : Nat} {S : St15} (hb : Below v.heap.size v w1) (h : StV w1 a c S) (ht : TabsV v.heap.size w1.heap.size w1 a S) : New15 v (w1.alloc (.cells #[.slice a S.length c] 24)) w1.heap.size a c S :=
  ⟨hb.alloc hb.size _, hb.size, heap_alloc_new _ _, ht.step ((Below.refl _ w1).alloc (Nat.le_refl _) _), h.2.1, h.2.2⟩
theorem New15.early {v w1 : World} {a : Option Addr} {c : Nat} {S : St15} (hb : Below (v.alloc zeroS).drew.heap.size (v.alloc zeroS).drew w1) (h : StV w1 a c S) (ht : TabsV (v.alloc zeroS).drew.heap.size w1.heap.size w1 a S) : New15 v (w1.setCell ⟨v.heap.size, 0, none⟩ (.slice a S.length c)) v.heap.size a c S := by
  have h0 := ((Below.refl v.heap.size v).alloc (Nat.le_refl _) zeroS).drew
  have h1 := h0.trans (hb.mono h0.size)
  have hz : w1.heap[v.heap.size]? = some zeroS := old_obj hb (show (v.alloc zeroS).drew.heap[v.heap.size]? = some zeroS from heap_alloc_new _ _)
  have hlt : v.heap.size < (v.alloc zeroS).drew.heap.size := by show v.heap.size < (v.alloc zeroS).heap.size; simp
  refine ⟨h1.setCell (p := ⟨v.heap.size, 0, none⟩) (Nat.le_refl _) _, Nat.le_refl _, heap_setCell_same w1 v.heap.size 0 _ _ _ hz, ?_, h.2.1, h.2.2⟩
  rw [World.size_setCell]
  exact (ht.set (p := ⟨v.heap.size, 0, none⟩) hlt _).wide (Nat.le_of_lt hlt) (Nat.le_refl _)
/-- Under way: the law's own store is the one behind some of the changes. -/
structure Who15 (w W : World) (sa : Option Addr) (sc : Nat) (T : St15) (g4 : Nat) (aa : Option Addr) (ac : Nat) (R : St15) : Prop where
  old : Below w.heap.size w W
  box : W.heap[w.heap.size]? = some (.cells #[.slice sa T.length sc] 24 (0, 0))
  tab : TabsV 0 W.heap.size W sa T
  cap : T.length ≤ sc
  small : Small15 T
  gt : w.heap.size < g4
  obj : W.heap[g4]? = some (.cells #[.slice aa R.length ac] 24 (0, 0))
  res : TabsV (w.heap.size + 1) W.heap.size W aa R
  rcap : R.length ≤ ac
  rsm : Small15 R
theorem Who15.step {w W V : World} {sa : Option Addr} {sc : Nat} {T : St15} {g4 : Nat} {aa : Option Addr} {ac : Nat} {R : St15} (h : Who15 w W sa sc T g4 aa ac R) (hb : Below W.heap.size W V) : Who15 w V sa sc T g4 aa ac R :=
  ⟨h.old.trans (hb.mono h.old.size), old_obj hb h.box, h.tab.step hb, h.cap, h.small, h.gt, old_obj hb h.obj, h.res.step hb, h.rcap, h.rsm⟩
theorem Who15.facts {w W : World} {sa : Option Addr} {sc : Nat} {T : St15} {g4 : Nat} {aa : Option Addr} {ac : Nat} {R : St15} (h : Who15 w W sa sc T g4 aa ac R) : W.cell? ⟨w.heap.size, 0, none⟩ = some (.slice sa T.length sc) ∧ W.cell? ⟨g4, 0, none⟩ = some (.slice aa R.length ac) ∧ W.frozen? ⟨w.heap.size, 0, none⟩ = false :=
  ⟨cell_of h.box rfl, cell_of h.obj rfl, frozen_of_row _ _ 0 _ _ h.box⟩
/-- The next store takes its place. -/
theorem Who15.next {w W : World} {sa : Option Addr} {sc : Nat} {T : St15} {g4 : Nat} {aa : Option Addr} {ac : Nat} {R : St15} (h : Who15 w W sa sc T g4 aa ac R) {v : World} (hv : w.heap.size < v.heap.size) {g : Nat} {ta : Option Addr} {tc : Nat} {T2 : St15} (hn : New15 v W g ta tc T2) : Who15 w (W.setCell ⟨w.heap.size, 0, none⟩ (.slice ta T2.length tc)) ta tc T2 g4 aa ac R := by
  refine ⟨h.old.setCell (p := ⟨w.heap.size, 0, none⟩) (Nat.le_refl _) _, heap_setCell_same W w.heap.size 0 _ _ _ h.box, ?_, hn.cap, hn.small, h.gt, ?_, ?_, h.rcap, h.rsm⟩
  · rw [World.size_setCell]; exact (hn.tab.set (p := ⟨w.heap.size, 0, none⟩) hv _).wide (Nat.zero_le _) (Nat.le_refl _)
  · rw [heap_set15 _ _ _ _ _ (by have := h.gt; omega)]; exact h.obj
  · rw [World.size_setCell]; exact h.res.set (p := ⟨w.heap.size, 0, none⟩) (by simp) _
set_option maxRecDepth 100000 in
set_option maxHeartbeats 8000000 in
theorem batchWhole_main (H : Batch15) (HA : Wakes15) (w : World) (a : Option Addr) (c : Nat) (S : St15) (hc : S.length ≤ c) (hs : TabsV 0 w.heap.size w a S) (la : Option Addr) (lc : Nat) (l : List Op15) (hlc : l.length ≤ lc) (hl : Els opE 0 w.heap.size w la l) :
    Calls Try.prog 5 #[stVal a c S, .slice la l.length lc] w fun e w' => e = .returned (.bool true) ∧ Below w.heap.size w w' := by
  have HW := Lib.hid HA
  have I0 := In15.start c lc hs hl
  have HF := Lib.hid (lfew15 a c S _ I0.tab)
  have HI := Lib.hid I0
  have c0 := I0.fact
  have HS : Hid (∀ W, In15 w W a c S la lc l → Calls Try.prog 9 #[.slice la l.length lc] W fun e w' => e = .returned (.bool (shortL l)) ∧ W = w') := Lib.hid fun W h => short15_any la lc l W h.els
  have HL0 := Lib.hid hl
  clear I0 hs hl
  cases hf : fewS S with
  | false =>
    rw [hf] at HF
    clear hf HS
    go_enter Try.func5, Try.ntmps5
    go_wp2_with (first
      | (go_at_call 8; refine HF.out.mono ?_; rintro e w1 ⟨rfl, hb⟩; have I1 := Lib.hid (HI.out.step hb); clear hb)
      | (go_at_call 10; refine (HW.out _).mono ?_; rintro e w2 ⟨rfl, hb⟩; have B2 := Lib.hid (I1.out.old.trans (hb.mono I1.out.old.size)); clear hb))
    go_ret
    exact ⟨rfl, B2.out⟩
  | true =>
    rw [hf] at HF
    cases hl2 : shortL l with
    | false =>
      rw [hl2] at HS
      clear hf hl2
      go_enter Try.func5, Try.ntmps5
      go_wp2_with (first
        | (go_at_call 8; refine HF.out.mono ?_; rintro e w1 ⟨rfl, hb⟩; have I1 := Lib.hid (HI.out.step hb); clear hb)
        | (go_at_call 9; refine (HS.out _ I1.out).mono ?_; rintro e w3 ⟨rfl, rfl⟩)
        | (go_at_call 10; refine (HW.out _).mono ?_; rintro e w2 ⟨rfl, hb⟩; have B2 := Lib.hid (I1.out.old.trans (hb.mono I1.out.old.size)); clear hb))
      go_ret
      exact ⟨rfl, B2.out⟩
    | true =>
      rw [hl2] at HS
      have hsm := few_small15 hf
      have hll : l.length ≤ 60 := (of_decide_eq_true hl2).1
      have HAP : Hid (∀ W, In15 w W a c S la lc l → Calls Try.prog 12 #[stVal a c S, .slice la l.length lc] W fun e w' => ∃ a' c', e = .returned (.tuple #[stVal a' c' (bV S l), .int .i64 (bN S l), .int .i64 (bE S l)]) ∧ StV w' a' c' (bV S l) ∧ TabsV W.heap.size w'.heap.size w' a' (bV S l) ∧ Below W.heap.size W w') := Lib.hid fun W h => H.apply a c S la lc l W ⟨h.tab, hc, hsm⟩ ⟨h.els, hlc, by omega⟩
      have HOF : Hid (∀ W, In15 w W a c S la lc l → Calls Try.prog 11 #[stVal a c S] W fun e w' => ∃ a' c', e = .returned (dVal a' c' S) ∧ DocV w' a' c' S ∧ Below W.heap.size W w') := Lib.hid fun W h => lof15 a c S W ⟨h.tab, hc, hsm⟩
      have HSA : Hid (∀ (W : World) (g : Nat) (da : Option Addr) (dc : Nat), In15 w W a c S la lc l → LocD15 W g da dc S → Calls Try.prog 21 #[stVal a c S, dVal da dc S] W fun e w' => e = .returned (.bool true) ∧ Below W.heap.size W w') := Lib.hid fun W g da dc h1 h2 => lsame15 a c da dc S W ⟨h1.tab, hc, hsm⟩ h2.doc
      have HCS := Lib.hid (And.intro hc hsm)
      by_cases he : bE S l = 0
      · obtain ⟨hok, hap⟩ := bE_ok he
        obtain ⟨_, hv, hn, hu⟩ := ok_bE hok hap
        have hro := (app_ok hok hap).1
        have HRC : Hid (∀ (W : World) (g : Nat) (ra : Option Addr) (rc : Nat), Loc15 W g ra rc (appV S l) → Calls Try.prog 19 #[stVal ra rc (appV S l)] W fun e w' => e = .returned (.int .i64 0) ∧ Below W.heap.size W w') := Lib.hid fun W g ra rc h => by
          have := H.check ra rc (appV S l) W h.st
          rw [checkS_ok.2 hro] at this
          exact this
        have HRO : Hid (∀ (W : World) (g : Nat) (ra : Option Addr) (rc : Nat), Loc15 W g ra rc (appV S l) → Calls Try.prog 11 #[stVal ra rc (appV S l)] W fun e w' => ∃ a' c', e = .returned (dVal a' c' (appV S l)) ∧ DocV w' a' c' (appV S l) ∧ Below W.heap.size W w') := Lib.hid fun W g ra rc h => lof15 ra rc (appV S l) W h.st
        have HRS : Hid (∀ (W : World) (g : Nat) (ra : Option Addr) (rc : Nat) (da : Option Addr) (dc : Nat), Loc15 W g ra rc (appV S l) → DocV W da dc (appV S l) → Calls Try.prog 21 #[stVal ra rc (appV S l), dVal da dc (appV S l)] W fun e w' => e = .returned (.bool true) ∧ Below W.heap.size W w') := Lib.hid fun W g ra rc da dc h1 h2 => lsame15 ra rc da dc (appV S l) W h1.st h2
        have HST : Hid (∀ i, i < l.length → ∀ (W : World) (sa : Option Addr) (sc : Nat) (ka : Option Addr) (kc : Nat), TabsV 0 W.heap.size W sa (appV S (l.take i)) → (appV S (l.take i)).length ≤ sc → Els opE 0 W.heap.size W ka [opAt l i] → 1 ≤ kc → Calls Try.prog 12 #[stVal sa sc (appV S (l.take i)), .slice ka 1 kc] W fun e w' => ∃ a' c', e = .returned (.tuple #[stVal a' c' (appV S (l.take (i + 1))), .int .i64 1, .int .i64 0]) ∧ StV w' a' c' (appV S (l.take (i + 1))) ∧ TabsV W.heap.size w'.heap.size w' a' (appV S (l.take (i + 1))) ∧ Below W.heap.size W w') := Lib.hid fun i hi W sa sc ka kc h1 h2 h3 h4 => by
          obtain ⟨q0, q1, q2, q3⟩ := app_next hok hap hi
          refine (H.apply sa sc _ ka kc [opAt l i] W ⟨h1, h2, q0⟩ ⟨h3, h4, by simp⟩).mono ?_
          rintro e w' ⟨a', c', rfl, g1, g2, g3⟩
          rw [q1, q2, q3] at *
          exact ⟨a', c', rfl, g1, g2, g3⟩
        have HTL : Hid (appV S (l.take l.length) = appV S l) := Lib.hid (by rw [List.take_length])
        have HT0 : Hid (appV S (l.take 0) = S) := Lib.hid rfl
        have HLC := Lib.hid (And.intro hll hlc)
        rw [he, hv, hn] at HAP
        clear he hok hap hv hn hu hro hf hl2 H hlc hll hc hsm
        obtain ⟨R, hR⟩ : ∃ R, appV S l = R := ⟨_, rfl⟩
        rw [hR] at HAP HRC HRO HRS HTL
        clear hR
        go_enter Try.func5, Try.ntmps5
        go_upto_region 4 with (first
          | (go_at_call 8; refine HF.out.mono ?_; rintro e w1 ⟨rfl, hb⟩; have I1 := Lib.hid (HI.out.step hb); have c1 := I1.out.fact; clear hb)
          | (go_at_call 9; refine (HS.out _ I1.out).mono ?_; rintro e w2 ⟨rfl, rfl⟩)
          | (go_at_call 11; refine (HOF.out _ I1.out).mono ?_; rintro e w3 ⟨ta, tc, rfl, h1, hb⟩; have T3 := Lib.hid (LocD15.late h1); have I3 := Lib.hid (I1.out.step (below_new hb (.cells #[.int .i64 S.length, .slice ta (cellsF 0 S).length tc] 32))); clear hb h1 c0 c1 I1))
        generalize w3.alloc (.cells #[.int .i64 S.length, .slice ta (cellsF 0 S).length tc] 32) = V3 at *
        generalize w3.heap.size = g3 at *
        have d0 := I3.out.fact
        go_upto_region 5 with (go_at_call 12; refine (HAP.out _ I3.out).mono ?_; rintro e w4 ⟨aa, ac, rfl, h1, h2, hb⟩; have A4 := Lib.hid (New15.late hb h1 h2); have I4 := Lib.hid (I3.out.step (below_new hb (.cells #[.slice aa R.length ac] 24))); have T4 := Lib.hid (T3.out.step (below_new hb (.cells #[.slice aa R.length ac] 24))); clear hb h1 h2 d0)
        generalize w4.alloc (.cells #[.slice aa R.length ac] 24) = V4 at *
        generalize w4.heap.size = g4 at *
        have d1 := I4.out.fact
        obtain ⟨d2, d3⟩ := T4.out.fact
        go_upto_region 9 with (go_at_call 21; refine (HSA.out _ _ _ _ I4.out T4.out).mono ?_; rintro e w5 ⟨rfl, hb⟩; have HB5 := Lib.hid hb; clear hb d1 d2 d3)
        have X0 : Hid (Who15 w w5 a c (appV S (l.take 0)) g4 aa ac R) := Lib.hid (by
          have I5 := I4.out.step HB5.out
          have hw3 : w.heap.size < V3.heap.size := obj_lt I3.out.box
          exact ⟨I5.old, I5.box, I5.tab, HCS.out.1, HCS.out.2, by have := A4.out.new; omega, old_obj HB5.out A4.out.obj, (A4.out.tab.step HB5.out).wide (by omega) (Nat.le_refl _), A4.out.cap, A4.out.small⟩)
        clear I3 I4 A4 T3 T4 HB5
        go_upto_region 10 with fail
        go_loopw [9] (fun s9 wr => ∃ (i : Nat) (sa : Option Addr) (sc : Nat), s9 = .int .i64 i ∧ i ≤ l.length ∧ Hid (Who15 w wr sa sc (appV S (l.take i)) g4 aa ac R)) (fun i _ => l.length + 1 - (intOf i).toNat)
        case atStart => exact ⟨0, a, c, rfl, by omega, X0⟩
        case round =>
          clear X0
          obtain ⟨i, sa, sc, rfl, hi, HX⟩ := hrel
          obtain ⟨b0, b1, b2⟩ := HX.out.facts
          by_cases hlt : i < l.length
          · have i1 : (i : Int) < (l.length : Int) := by omega
            have i3 : (0 : Int) ≤ (i : Int) := by omega
            have iw : IntKind.i64.wrap ((i : Int) + 1) = (i : Int) + 1 := IntWalk.i64_in _ (by have := HLC.out.1; omega)
            obtain ⟨ka, hk1, hk2⟩ := rowk_mid sl_op sz_op la l.length lc i (i + 1) (by omega) (by omega) HLC.out.2
            have HK : Hid (∀ W, Below w.heap.size w W → Els opE 0 W.heap.size W ka [opAt l i]) := Lib.hid fun W hW => by
              have := hk2 0 W.heap.size W (opE.cells l) (opE.cells_len l) (HL0.out.step hW)
              rw [show i + 1 - i = 1 from by omega, Nat.one_mul] at this
              have e := opE.cells_cut (opAt_get hlt)
              unfold Els
              rw [← e]; exact this
            rw [show i + 1 - i = 1 from by omega, show ((i + 1 : Nat) : Int) = (i : Int) + 1 from rfl] at hk1
            clear hk2
            have HS1 : Hid (∀ (W : World), Who15 w W sa sc (appV S (l.take i)) g4 aa ac R → Calls Try.prog 12 #[stVal sa sc (appV S (l.take i)), .slice ka 1 (lc - i)] W fun e w' => ∃ a' c', e = .returned (.tuple #[stVal a' c' (appV S (l.take (i + 1))), .int .i64 1, .int .i64 0]) ∧ StV w' a' c' (appV S (l.take (i + 1))) ∧ TabsV W.heap.size w'.heap.size w' a' (appV S (l.take (i + 1))) ∧ Below W.heap.size W w') := Lib.hid fun W h => HST.out i hlt W sa sc ka (lc - i) h.tab h.cap (HK.out W h.old) (by have := HLC.out.2; omega)
            have HWL : Hid (w.heap.size < wr.heap.size) := Lib.hid (obj_lt HX.out.box)
            have m1 : ¬ (w.heap.size = wr.heap.size) := by have := HWL.out; omega
            have m2 : ¬ (wr.heap.size = w.heap.size) := fun e => m1 e.symm
            obtain ⟨T2, hT2⟩ : ∃ T2, appV S (l.take (i + 1)) = T2 := ⟨_, rfl⟩
            rw [hT2] at HS1
            obtain ⟨T1, hT1⟩ : ∃ T1, appV S (l.take i) = T1 := ⟨_, rfl⟩
            rw [hT1] at HS1 HX b0
            have HT2 := Lib.hid hT2
            clear hT1 hT2
            go_upto_region 12 with fail
            go_cut [10, 11, 12] (fun s10 s11 s12 wx => s11 = .int .i64 1 ∧ s12 = .int .i64 0 ∧ ∃ (g : Nat) (ta : Option Addr) (tc : Nat), s10 = .pointer (some ⟨g, 0, none⟩) ∧ Hid (New15 wr wx g ta tc T2))
            case first =>
              have H1 := Lib.hid (HS1.out wr.drew (HX.out.step (Below.refl _ wr).drew))
              have H2 := Lib.hid (HS1.out (wr.alloc zeroS).drew (HX.out.step ((Below.refl _ wr).alloc (Nat.le_refl _) zeroS).drew))
              go_region_held3 (fun v => v.cell? ⟨w.heap.size, 0, none⟩ = some (.slice sa T1.length sc)) (first | go_keep) (first
                | (go_at_call 12; refine H1.out.mono ?_; rintro e w5 ⟨ra, rc, rfl, h1, h2, hb⟩; have hbw := (Below.refl wr.heap.size wr).drew.trans hb; have N5 := Lib.hid (And.intro hbw (And.intro h1 h2)); obtain ⟨u0, _, _⟩ := (HX.out.step hbw).facts; clear hb hbw h1 h2)
                | (go_at_call 12; refine H2.out.mono ?_; rintro e w5 ⟨ra, rc, rfl, h1, h2, hb⟩; have hZ5 := old_obj hb (show (wr.alloc zeroS).drew.heap[wr.heap.size]? = some zeroS from heap_alloc_new _ _); have z0 := cell_of hZ5 (j := 0) rfl; have z1 := frozen_of_row _ _ 0 _ _ hZ5; have N5 := Lib.hid (And.intro hb (And.intro h1 h2)); obtain ⟨u0, _, _⟩ := (HX.out.step (((Below.refl wr.heap.size wr).alloc (Nat.le_refl _) zeroS).drew.trans (hb.mono (by simp)))).facts; clear hb hZ5 h1 h2))
              · go_wp2_with fail
                go_meet
                exact ⟨rfl, rfl, w5.heap.size, ra, rc, rfl, Lib.hid (New15.late N5.out.1 N5.out.2.1 N5.out.2.2)⟩
              · go_wp2_with fail
                go_meet
                exact ⟨rfl, rfl, wr.heap.size, ra, rc, rfl, Lib.hid (New15.early N5.out.1 N5.out.2.1 N5.out.2.2)⟩
            case rest =>
              obtain ⟨rfl, rfl, g, ra, rc, rfl, HN⟩ := hcut
              have HY := Lib.hid (HX.out.step HN.out.old)
              have n0 := cell_of HN.out.obj (j := 0) rfl
              obtain ⟨y0, y1, y2⟩ := HY.out.facts
              clear b0 b1 b2
              go_wp2
              go_roundw
              case rel => exact ⟨i + 1, ra, rc, by first | rfl | go_num, by omega, Lib.hid (by rw [HT2.out]; exact HY.out.next HWL.out HN.out)⟩
              case measure => first | (simp [intOf]; omega) | simp [intOf]
          · obtain rfl : i = l.length := by omega
            rw [HTL.out] at HX b0
            have L0 := Lib.hid (⟨HX.out.box, HX.out.tab, HX.out.cap, HX.out.small⟩ : Loc15 wr w.heap.size sa sc R)
            have L1 := Lib.hid (⟨HX.out.obj, HX.out.res.wide (Nat.zero_le _) (Nat.le_refl _), HX.out.rcap, HX.out.rsm⟩ : Loc15 wr g4 aa ac R)
            have HB := Lib.hid HX.out.old
            have hd := (Below.refl wr.heap.size wr).drew
            have L2 := Lib.hid (L0.out.step hd)
            have L3 := Lib.hid (L1.out.step hd)
            have HB2 := Lib.hid HX.out.old.drew
            clear b2 HX HB hd hi
            go_upto_region 16 with fail
            go_region_held3 (fun v => v.cell? ⟨w.heap.size, 0, none⟩ = some (.slice sa R.length sc) ∧ v.cell? ⟨g4, 0, none⟩ = some (.slice aa R.length ac)) (first | go_keep) (first
              | (go_at_call 11; refine (HRO.out _ _ _ _ L3.out).mono ?_; rintro e w6 ⟨da, dc, rfl, h1, hb⟩; have D6 := Lib.hid h1; have L4 := Lib.hid (L2.out.step hb); have L5 := Lib.hid (L3.out.step hb); have HB6 := Lib.hid (HB2.out.trans (hb.mono HB2.out.size)); have u0 := L4.out.fact; have u1 := L5.out.fact; clear hb h1)
              | (go_at_call 21; refine (HRS.out _ _ _ _ _ _ L4.out D6.out).mono ?_; rintro e w7 ⟨rfl, hb⟩; have L6 := Lib.hid (L4.out.step hb); have L7 := Lib.hid (L5.out.step hb); have HB7 := Lib.hid (HB6.out.trans (hb.mono HB6.out.size)); have v0 := L6.out.fact; have v1 := L7.out.fact; clear hb)
              | (go_at_call 19; refine (HRC.out _ _ _ _ L7.out).mono ?_; rintro e w8 ⟨rfl, hb⟩; have L8 := Lib.hid (L6.out.step hb); have L9 := Lib.hid (L7.out.step hb); have HB8 := Lib.hid (HB7.out.trans (hb.mono HB7.out.size)); have x0 := L8.out.fact; have x1 := L9.out.fact; clear hb)
              | (go_at_call 10; refine (HW.out _).mono ?_; rintro e w9 ⟨rfl, hb⟩; have LA := Lib.hid (L8.out.step hb); have LB := Lib.hid (L9.out.step hb); have HB9 := Lib.hid (HB8.out.trans (hb.mono HB8.out.size)); have y0 := LA.out.fact; have y1 := LB.out.fact; clear hb))
            all_goals
              go_wp2
              go_ret
              exact ⟨by simp, HB9.out⟩
      · have hv : bV S l = [] := by unfold bV; rw [if_neg he]
        rw [hv] at HAP
        have d1 : (bE S l == 0) = false := beq_eq_false_iff_ne.2 he
        have d2 : (bE S l != 0) = true := by rw [bne_iff_ne]; exact he
        have hN : bN S l = 0 ∨ bN S l < l.length := by
          unfold bN bE at *
          by_cases q : checkS S = 0
          · rw [if_pos q] at he ⊢
            exact Or.inr ((app_len S l).2 he)
          · rw [if_neg q]; exact Or.inl rfl
        clear he hv hf hl2 H hlc hll hc hsm HCS
        generalize bE S l = E at *
        generalize bN S l = M at *
        have h0 : decide (0 ≤ (M : Int)) = true := decide_eq_true (by omega)
        have h0' : (0 : Int) ≤ (M : Int) := by omega
        have hN2 : M < l.length ∨ (M = 0 ∧ ¬ (M < l.length)) := by omega
        clear hN
        go_enter Try.func5, Try.ntmps5
        go_upto_region 4 with (first
          | (go_at_call 8; refine HF.out.mono ?_; rintro e w1 ⟨rfl, hb⟩; have I1 := Lib.hid (HI.out.step hb); have c1 := I1.out.fact; clear hb)
          | (go_at_call 9; refine (HS.out _ I1.out).mono ?_; rintro e w2 ⟨rfl, rfl⟩)
          | (go_at_call 11; refine (HOF.out _ I1.out).mono ?_; rintro e w3 ⟨ta, tc, rfl, h1, hb⟩; have T3 := Lib.hid (LocD15.late h1); have I3 := Lib.hid (I1.out.step (below_new hb (.cells #[.int .i64 S.length, .slice ta (cellsF 0 S).length tc] 32))); clear hb h1 c0 c1 I1))
        generalize w3.alloc (.cells #[.int .i64 S.length, .slice ta (cellsF 0 S).length tc] 32) = V3 at *
        generalize w3.heap.size = g3 at *
        have d0 := I3.out.fact
        go_upto_region 5 with (go_at_call 12; refine (HAP.out _ I3.out).mono ?_; rintro e w4 ⟨aa, ac, rfl, h1, h2, hb⟩; have A4 := Lib.hid (Loc15.late h1); have I4 := Lib.hid (I3.out.step (below_new hb (.cells #[.slice aa 0 ac] 24))); have T4 := Lib.hid (T3.out.step (below_new hb (.cells #[.slice aa 0 ac] 24))); clear hb h1 h2 d0)
        have HA4 : Hid ((w4.alloc (.cells #[.slice aa 0 ac] 24)).heap[w4.heap.size]? = some (.cells #[.slice aa 0 ac] 24 (0, 0))) := Lib.hid (heap_alloc_new _ _)
        clear A4
        generalize w4.alloc (.cells #[.slice aa 0 ac] 24) = V4 at *
        generalize w4.heap.size = g4 at *
        have d1 := I4.out.fact
        obtain ⟨d2, d3⟩ := T4.out.fact
        go_upto_region 8 with (go_at_call 21; refine (HSA.out _ _ _ _ I4.out T4.out).mono ?_; rintro e w5 ⟨rfl, hb⟩; have I5 := Lib.hid (I4.out.step hb); have a5 := cell_of (old_obj hb HA4.out) (j := 0) rfl; clear hb d1 d2 d3)
        rcases hN2 with hlt | ⟨rfl, hlt⟩
        · have e1 : decide ((M : Int) < (l.length : Int)) = true := decide_eq_true (by omega)
          have e1' : (M : Int) < (l.length : Int) := by omega
          go_wp2_with (go_at_call 10; refine (HW.out _).mono ?_; rintro e w9 ⟨rfl, hb⟩; have I9 := Lib.hid (I5.out.step hb); clear hb)
          go_ret
          exact ⟨by simp, I9.out.old⟩
        · have e1 : decide (((0 : Nat) : Int) < (l.length : Int)) = false := decide_eq_false (by omega)
          have e1' : ¬ (((0 : Nat) : Int) < (l.length : Int)) := by omega
          have e2 : decide ((0 : Int) < (l.length : Int)) = false := decide_eq_false (by omega)
          have e2' : ¬ ((0 : Int) < (l.length : Int)) := by omega
          go_wp2_with (go_at_call 10; refine (HW.out _).mono ?_; rintro e w9 ⟨rfl, hb⟩; have I9 := Lib.hid (I5.out.step hb); clear hb)
          go_ret
          exact ⟨by simp, I9.out.old⟩
end Go.Proofs.Yteccahggahpeeaa
