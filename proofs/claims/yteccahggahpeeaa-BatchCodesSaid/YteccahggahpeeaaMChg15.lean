/- The program's check of a change; a store of the call's own. -/
import Derived.Test.YteccahggahpeeaaFnd15
namespace Go.Proofs.Yteccahggahpeeaa
open Go.RowKit

def preE (S : St15) (o : Op15) : Int := if o.k < 1 ∨ 3 < o.k then 30 else if o.t < 0 ∨ (S.length : Int) ≤ o.t then 2 else if o.id < 1 ∨ 999999 < o.id then 31 else if o.k < 3 ∧ 200 < o.x.length then 3 else 0
theorem wrong_pre (S : St15) (o : Op15) : wrongS S o = if preE S o ≠ 0 then preE S o else wrongT (tab S o.t) o := by
  unfold wrongS preE
  split
  · simp
  · split
    · simp
    · split
      · simp
      · split <;> simp
/-- The boxes of a store and a change. -/
structure Bx15 (w : World) (a : Option Addr) (c : Nat) (S : St15) (o : Op15) (W : World) : Prop where
  old : Below w.heap.size w W
  st : W.heap[w.heap.size]? = some (.cells #[.slice a S.length c] 24 (0, 0))
  op : W.heap[w.heap.size + 1]? = some (.cells #[.int .i64 o.t, .int .i64 o.k, .int .i64 o.id, .string (tx o.x)] 69 (0, 0))
theorem Bx15.start (w : World) (a : Option Addr) (c : Nat) (S : St15) (o : Op15) : Bx15 w a c S o ((w.alloc (.cells #[.slice a S.length c] 24)).alloc (.cells #[.int .i64 o.t, .int .i64 o.k, .int .i64 o.id, .string (tx o.x)] 69)) :=
  ⟨((Below.refl w.heap.size w).alloc (Nat.le_refl _) _).alloc (by simp) _, heap_alloc2_old w _ _, heap_alloc2_new w _ _⟩
theorem Bx15.step {w W V : World} {a : Option Addr} {c : Nat} {S : St15} {o : Op15} (h : Bx15 w a c S o W) (hb : Below W.heap.size W V) : Bx15 w a c S o V := ⟨h.old.trans (hb.mono h.old.size), old_obj hb h.st, old_obj hb h.op⟩
theorem Bx15.facts {w W : World} {a : Option Addr} {c : Nat} {S : St15} {o : Op15} (h : Bx15 w a c S o W) : W.cell? ⟨w.heap.size, 0, none⟩ = some (.slice a S.length c) ∧ W.cell? ⟨w.heap.size + 1, 0, none⟩ = some (.int .i64 o.t) ∧ W.cell? ⟨w.heap.size + 1, 1, none⟩ = some (.int .i64 o.k) ∧ W.cell? ⟨w.heap.size + 1, 2, none⟩ = some (.int .i64 o.id) ∧ W.cell? ⟨w.heap.size + 1, 3, none⟩ = some (.string (tx o.x)) :=
  ⟨cell_of h.st rfl, cell_of h.op rfl, cell_of h.op rfl, cell_of h.op rfl, cell_of h.op rfl⟩
set_option maxRecDepth 100000 in
set_option maxHeartbeats 4000000 in
theorem pchk15_any (a : Option Addr) (c : Nat) (S : St15) (o : Op15) (w : World) : Calls Try.prog 82 #[stVal a c S, opVal o] w fun e w' => e = .returned (.int .i64 (preE S o)) ∧ Below w.heap.size w w' := by
  have hb0 := Bx15.start w a c S o
  have HB := Lib.hid hb0
  obtain ⟨c0, c1, c2, c3, c4⟩ := hb0.facts
  have HH : Hid (∀ W, Calls Try.prog 34 #[stVal a c S, .int .i64 o.t] W fun e w' => e = .returned (.bool (decide (0 ≤ o.t ∧ o.t < S.length))) ∧ Below W.heap.size W w') := Lib.hid fun W => phas15_any a c S o.t W
  clear hb0
  by_cases h1 : o.k < 1
  · have HR : Hid (preE S o = 30) := Lib.hid (by unfold preE; rw [if_pos (Or.inl h1)])
    have d1 : decide (o.k < 1) = true := decide_eq_true h1
    clear h1
    go_enter Try.func82, Try.ntmps82
    go_wp2
    go_ret
    exact ⟨by rw [HR.out]; rfl, HB.out.old⟩
  have d1 : decide (o.k < 1) = false := decide_eq_false h1
  by_cases h2 : 3 < o.k
  · have HR : Hid (preE S o = 30) := Lib.hid (by unfold preE; rw [if_pos (Or.inr h2)])
    have d2 : decide (3 < o.k) = true := decide_eq_true h2
    clear h1 h2
    go_enter Try.func82, Try.ntmps82
    go_wp2
    go_ret
    exact ⟨by rw [HR.out]; rfl, HB.out.old⟩
  have d2 : decide (3 < o.k) = false := decide_eq_false h2
  by_cases h3 : 0 ≤ o.t ∧ o.t < S.length
  · rw [decide_eq_true h3] at HH
    by_cases h4 : o.id < 1
    · have HR : Hid (preE S o = 31) := Lib.hid (by unfold preE; rw [if_neg (by omega), if_neg (by omega), if_pos (Or.inl h4)])
      have d4 : decide (o.id < 1) = true := decide_eq_true h4
      clear h1 h2 h3 h4
      go_enter Try.func82, Try.ntmps82
      go_wp2_with (go_at_call 34; refine (HH.out _).mono ?_; rintro e w2 ⟨rfl, hb⟩; have HB2 := Lib.hid (HB.out.step hb); obtain ⟨e0, e1, e2, e3, e4⟩ := HB2.out.facts; clear hb)
      go_ret
      exact ⟨by rw [HR.out]; rfl, HB2.out.old⟩
    have d4 : decide (o.id < 1) = false := decide_eq_false h4
    by_cases h5 : 999999 < o.id
    · have HR : Hid (preE S o = 31) := Lib.hid (by unfold preE; rw [if_neg (by omega), if_neg (by omega), if_pos (Or.inr h5)])
      have d5 : decide (999999 < o.id) = true := decide_eq_true h5
      clear h1 h2 h3 h4 h5
      go_enter Try.func82, Try.ntmps82
      go_wp2_with (go_at_call 34; refine (HH.out _).mono ?_; rintro e w2 ⟨rfl, hb⟩; have HB2 := Lib.hid (HB.out.step hb); obtain ⟨e0, e1, e2, e3, e4⟩ := HB2.out.facts; clear hb)
      go_ret
      exact ⟨by rw [HR.out]; rfl, HB2.out.old⟩
    have d5 : decide (999999 < o.id) = false := decide_eq_false h5
    by_cases h6 : o.k = 3
    · have HR : Hid (preE S o = 0) := Lib.hid (by unfold preE; rw [if_neg (by omega), if_neg (by omega), if_neg (by omega), if_neg (by omega)])
      have d6 : (o.k != 3) = false := by rw [h6]; rfl
      have d7 : (o.k == 3) = true := by rw [h6]; rfl
      clear h1 h2 h3 h4 h5 h6
      go_enter Try.func82, Try.ntmps82
      go_wp2_with (go_at_call 34; refine (HH.out _).mono ?_; rintro e w2 ⟨rfl, hb⟩; have HB2 := Lib.hid (HB.out.step hb); obtain ⟨e0, e1, e2, e3, e4⟩ := HB2.out.facts; clear hb)
      go_ret
      exact ⟨by rw [HR.out]; rfl, HB2.out.old⟩
    have d6 : (o.k != 3) = true := by rw [bne_iff_ne]; exact h6
    have d7 : (o.k == 3) = false := beq_eq_false_iff_ne.2 h6
    by_cases h7 : 200 < o.x.length
    · have HR : Hid (preE S o = 3) := Lib.hid (by unfold preE; rw [if_neg (by omega), if_neg (by omega), if_neg (by omega), if_pos (by omega)])
      have d8 : decide (200 < ((tx o.x).size : Int)) = true := decide_eq_true (by rw [tx_size]; omega)
      have d9 : decide (200 < (tx o.x).size) = true := decide_eq_true (by rw [tx_size]; omega)
      clear h1 h2 h3 h4 h5 h6 h7
      go_enter Try.func82, Try.ntmps82
      go_wp2_with (go_at_call 34; refine (HH.out _).mono ?_; rintro e w2 ⟨rfl, hb⟩; have HB2 := Lib.hid (HB.out.step hb); obtain ⟨e0, e1, e2, e3, e4⟩ := HB2.out.facts; clear hb)
      go_ret
      exact ⟨by rw [HR.out]; rfl, HB2.out.old⟩
    · have HR : Hid (preE S o = 0) := Lib.hid (by unfold preE; rw [if_neg (by omega), if_neg (by omega), if_neg (by omega), if_neg (by omega)])
      have d8 : decide (200 < ((tx o.x).size : Int)) = false := decide_eq_false (by rw [tx_size]; omega)
      have d9 : decide (200 < (tx o.x).size) = false := decide_eq_false (by rw [tx_size]; omega)
      clear h1 h2 h3 h4 h5 h6 h7
      go_enter Try.func82, Try.ntmps82
      go_wp2_with (go_at_call 34; refine (HH.out _).mono ?_; rintro e w2 ⟨rfl, hb⟩; have HB2 := Lib.hid (HB.out.step hb); obtain ⟨e0, e1, e2, e3, e4⟩ := HB2.out.facts; clear hb)
      go_ret
      exact ⟨by rw [HR.out]; rfl, HB2.out.old⟩
  · rw [decide_eq_false h3] at HH
    have HR : Hid (preE S o = 2) := Lib.hid (by unfold preE; rw [if_neg (by omega), if_pos (by omega)])
    clear h1 h2 h3
    go_enter Try.func82, Try.ntmps82
    go_wp2_with (go_at_call 34; refine (HH.out _).mono ?_; rintro e w2 ⟨rfl, hb⟩; have HB2 := Lib.hid (HB.out.step hb); clear hb)
    go_ret
    exact ⟨by rw [HR.out]; rfl, HB2.out.old⟩
/-- A store of the call's own: its tables lie in one row, their rows in newer blocks. -/
def StO (g : Nat) (S : St15) (W : World) : Prop :=
  ∃ arr : Array Value, W.heap[g]? = some (.cells arr 65 (0, 0)) ∧ arr.size = S.length ∧ ∀ j : Nat, j < S.length → ∃ (aj : Option Addr) (cj : Nat), arr[j]? = some (.slice aj (tab S (j : Int)).length cj) ∧ (tab S (j : Int)).length ≤ cj ∧ Els recE (g + 1) W.heap.size W aj (tab S (j : Int)) ∧ Ty15 aj W
theorem StO.lt {g : Nat} {S : St15} {W : World} (h : StO g S W) : g < W.heap.size := by
  obtain ⟨arr, h1, _⟩ := h
  exact obj_lt h1
theorem StO.tabs {g : Nat} {S : St15} {W : World} (h : StO g S W) : TabsV g W.heap.size W (some ⟨g, 0, none⟩) S := by
  obtain ⟨arr, h1, h2, h3⟩ := h
  refine Or.inr ⟨g, 0, rfl, Nat.le_refl _, obj_lt h1, fun j hj => ?_⟩
  obtain ⟨aj, cj, e1, e2, e3, _⟩ := h3 j hj
  exact ⟨aj, cj, by rw [Nat.zero_add]; exact cell_of h1 e1, e2, e3.wide (by omega) (Nat.le_refl _)⟩
theorem StO.step {g : Nat} {S : St15} {W V : World} (h : StO g S W) (hb : Below W.heap.size W V) : StO g S V := by
  obtain ⟨arr, h1, h2, h3⟩ := h
  refine ⟨arr, old_obj hb h1, h2, fun j hj => ?_⟩
  obtain ⟨aj, cj, e1, e2, e3, e4⟩ := h3 j hj
  exact ⟨aj, cj, e1, e2, e3.step hb, e4.step hb⟩
theorem StO.at {g : Nat} {S : St15} {W : World} (h : StO g S W) {j : Nat} (hj : j < S.length) : ∃ (aj : Option Addr) (cj : Nat), W.cell? ⟨g, j, none⟩ = some (.slice aj (tab S (j : Int)).length cj) ∧ (tab S (j : Int)).length ≤ cj ∧ Els recE (g + 1) W.heap.size W aj (tab S (j : Int)) ∧ W.frozen? ⟨g, j, none⟩ = false := by
  obtain ⟨arr, h1, h2, h3⟩ := h
  obtain ⟨aj, cj, e1, e2, e3, _⟩ := h3 j hj
  exact ⟨aj, cj, cell_of h1 e1, e2, e3, frozen_of_row _ _ j _ _ h1⟩
theorem tab_set_other {S : St15} {t j : Nat} (h : j ≠ t) (T : Tb15) : tab (S.set t T) (j : Int) = tab S (j : Int) := by
  unfold tab
  rw [if_pos (by omega), if_pos (by omega), Int.toNat_natCast, List.getD_eq_getElem?_getD, List.getElem?_set, if_neg (fun e => h e.symm), List.getD_eq_getElem?_getD]
theorem tab_set_same {S : St15} {t : Nat} (h : t < S.length) (T : Tb15) : tab (S.set t T) (t : Int) = T := by
  have := tab_set (S := S) (t := (t : Int)) (by omega) (by rw [Int.toNat_natCast]; exact h) T
  rw [Int.toNat_natCast] at this
  exact this
theorem Els.grown {α : Type} {E : Elt α} {A g : Nat} {w V : World} {a : Option Addr} {l : List α} (h : Els E A w.heap.size w a l) (hg : w.grownBy V (some g)) (hA : g < A) : Els E A V.heap.size V a l := by
  rcases h with h | ⟨b, off, ha, h1, h2, hc⟩
  · exact Or.inl h
  · refine Or.inr ⟨b, off, ha, h1, Nat.lt_of_lt_of_le h2 hg.size, fun j u hj => ?_⟩
    exact (World.cell?_of_block (hg.block b h2 (fun e => by injection e with e; omega))).trans (hc j u hj)
theorem StO.after {g : Nat} {S : St15} {w V : World} (h : StO g S w) (hg : w.grownBy V (some g)) {t : Nat} (ht : t < S.length) {aj : Option Addr} {cj : Nat} {T : Tb15}
    (hobj : ∀ arr, w.heap[g]? = some (.cells arr 65 (0, 0)) → V.heap[g]? = some (.cells (arr.setIfInBounds t (.slice aj T.length cj)) 65 (0, 0))) (hc : T.length ≤ cj) (hT : Els recE (g + 1) V.heap.size V aj T) (hty : Ty15 aj V) : StO g (S.set t T) V := by
  obtain ⟨arr, h1, h2, h3⟩ := h
  refine ⟨_, hobj arr h1, by rw [Array.size_setIfInBounds, List.length_set]; exact h2, fun j hj => ?_⟩
  rw [List.length_set] at hj
  rw [Array.getElem?_setIfInBounds]
  by_cases q : t = j
  · subst q
    rw [if_pos rfl, if_pos (by rw [h2]; exact ht), tab_set_same ht]
    exact ⟨aj, cj, rfl, hc, hT, hty⟩
  · rw [if_neg q, tab_set_other (fun e => q e.symm)]
    obtain ⟨a2, c2, e1, e2, e3, e4⟩ := h3 j hj
    exact ⟨a2, c2, e1, e2, e3.grown hg (by omega), e4.grown hg h1 (by decide)⟩
theorem grown_set15 {w W : World} (hb : Below w.heap.size w W) (g j : Nat) (v : Value) : w.grownBy (W.setCell ⟨g, j, none⟩ v) (some g) :=
  ⟨hb.os, hb.tape, hb.output, by rw [World.size_setCell]; exact hb.size, fun k hk hne => by
    rw [heap_set15 _ _ _ _ _ (fun e => hne (by rw [e]))]; exact hb.block k hk⟩
theorem grown_more15 {w W : World} {row : Option Nat} (hg : w.grownBy W row) {r : Nat} (hr : w.heap.size ≤ r) (j : Nat) (v : Value) : w.grownBy (W.setCell ⟨r, j, none⟩ v) row :=
  ⟨hg.os, hg.tape, hg.output, by rw [World.size_setCell]; exact hg.size, fun k hk hne => by
    rw [heap_set15 _ _ _ _ _ (by omega)]; exact hg.block k hk hne⟩
theorem four_put15 {w : World} {g : Nat} {x0 x1 x2 x3 : Value} {t : TypeId} (h : w.heap[g]? = some (.cells #[x0, x1, x2, x3] t (0, 0))) (y0 y1 y2 y3 : Value) :
    ((((w.setCell ⟨g, 0, none⟩ y0).setCell ⟨g, 1, none⟩ y1).setCell ⟨g, 2, none⟩ y2).setCell ⟨g, 3, none⟩ y3).heap[g]? = some (.cells #[y0, y1, y2, y3] t (0, 0)) :=
  heap_setCell_same _ g 3 _ t y3 (heap_setCell_same _ g 2 _ t y2 (heap_setCell_same _ g 1 _ t y1 (heap_setCell_same w g 0 _ t y0 h)))
theorem opl_load {w : World} {g : Nat} {x0 x1 x2 x3 : Value} {fr : Nat × Nat} (h : w.heap[g]? = some (.cells #[x0, x1, x2, x3] 69 fr)) : (loadVar 69 ⟨g, 0, none⟩).run Try.prog w = .ok (.agg #[x0, x1, x2, x3]) w :=
  run_loadVar_row (P := Try.prog) w g 69 69 #[x0, x1, x2, x3] fr _ h Try.underlying69 rfl (by kernel_rfl)
abbrev zeroOp : Obj := .cells #[.int .i64 0, .int .i64 0, .int .i64 0, .string ⟨#[]⟩] 69
/-- Where the program's change is. -/
structure Cg15 (w : World) (g c : Nat) (S : St15) (o : Op15) (W : World) : Prop where
  bx : Bx15 w (some ⟨g, 0, none⟩) c S o W
  res : W.heap[w.heap.size + 2]? = some zeroOp
  own : StO g S W
theorem Cg15.start {w : World} {g : Nat} (c : Nat) {S : St15} (o : Op15) (h : StO g S w) : Cg15 w g c S o (((w.alloc (.cells #[.slice (some ⟨g, 0, none⟩) S.length c] 24)).alloc (.cells #[.int .i64 o.t, .int .i64 o.k, .int .i64 o.id, .string (tx o.x)] 69)).alloc zeroOp) := by
  have h0 := Bx15.start w (some ⟨g, 0, none⟩) c S o
  have h1 := (Below.refl ((w.alloc (.cells #[.slice (some ⟨g, 0, none⟩) S.length c] 24)).alloc (.cells #[.int .i64 o.t, .int .i64 o.k, .int .i64 o.id, .string (tx o.x)] 69)).heap.size ((w.alloc (.cells #[.slice (some ⟨g, 0, none⟩) S.length c] 24)).alloc (.cells #[.int .i64 o.t, .int .i64 o.k, .int .i64 o.id, .string (tx o.x)] 69))).alloc (Nat.le_refl _) zeroOp
  refine ⟨h0.step h1, ?_, (h.step h0.old).step h1⟩
  have := heap_alloc_new ((w.alloc (.cells #[.slice (some ⟨g, 0, none⟩) S.length c] 24)).alloc (.cells #[.int .i64 o.t, .int .i64 o.k, .int .i64 o.id, .string (tx o.x)] 69)) zeroOp
  simpa using this
theorem Cg15.step {w : World} {g c : Nat} {S : St15} {o : Op15} {W V : World} (h : Cg15 w g c S o W) (hb : Below W.heap.size W V) : Cg15 w g c S o V := ⟨h.bx.step hb, old_obj hb h.res, h.own.step hb⟩
theorem Cg15.resf {w : World} {g c : Nat} {S : St15} {o : Op15} {W : World} (h : Cg15 w g c S o W) : (W.cell? ⟨w.heap.size + 2, 0, none⟩ = some (.int .i64 0) ∧ W.cell? ⟨w.heap.size + 2, 1, none⟩ = some (.int .i64 0) ∧ W.cell? ⟨w.heap.size + 2, 2, none⟩ = some (.int .i64 0) ∧ W.cell? ⟨w.heap.size + 2, 3, none⟩ = some (.string ⟨#[]⟩)) ∧ W.frozen? ⟨w.heap.size + 2, 0, none⟩ = false ∧ W.frozen? ⟨w.heap.size + 2, 1, none⟩ = false ∧ W.frozen? ⟨w.heap.size + 2, 2, none⟩ = false ∧ W.frozen? ⟨w.heap.size + 2, 3, none⟩ = false :=
  ⟨⟨cell_of h.res rfl, cell_of h.res rfl, cell_of h.res rfl, cell_of h.res rfl⟩, frozen_of_row _ _ 0 _ _ h.res, frozen_of_row _ _ 1 _ _ h.res, frozen_of_row _ _ 2 _ _ h.res, frozen_of_row _ _ 3 _ _ h.res⟩
def ChNo (w : World) (e : Ending) (w' : World) (E : Int) : Prop := e = .returned (.tuple #[.agg #[.int .i64 0, .int .i64 0, .int .i64 0, .string ⟨#[]⟩], .int .i64 E]) ∧ Below w.heap.size w w'
theorem Cg15.no {w : World} {g c : Nat} {S : St15} {o : Op15} {W : World} (h : Cg15 w g c S o W) : Below w.heap.size w ((((W.setCell ⟨w.heap.size + 2, 0, none⟩ (.int .i64 0)).setCell ⟨w.heap.size + 2, 1, none⟩ (.int .i64 0)).setCell ⟨w.heap.size + 2, 2, none⟩ (.int .i64 0)).setCell ⟨w.heap.size + 2, 3, none⟩ (.string ⟨#[]⟩)) :=
  (((h.bx.old.setCell (p := ⟨w.heap.size + 2, 0, none⟩) (by simp) _).setCell (p := ⟨w.heap.size + 2, 1, none⟩) (by simp) _).setCell (p := ⟨w.heap.size + 2, 2, none⟩) (by simp) _).setCell (p := ⟨w.heap.size + 2, 3, none⟩) (by simp) _
set_option maxRecDepth 100000 in
set_option maxHeartbeats 4000000 in
theorem pchange_pre (g c : Nat) (S : St15) (o : Op15) (w : World) (h : StO g S w) (hE : preE S o ≠ 0) :
    Calls Try.prog 59 #[stVal (some ⟨g, 0, none⟩) c S, opVal o] w fun e w' => ChNo w e w' (preE S o) := by
  have h0 := Cg15.start c o h
  have H0 := Lib.hid h0
  obtain ⟨c0, c1, c2, c3, c4⟩ := h0.bx.facts
  have HC : Hid (∀ W, Calls Try.prog 82 #[stVal (some ⟨g, 0, none⟩) c S, opVal o] W fun e w' => e = .returned (.int .i64 (preE S o)) ∧ Below W.heap.size W w') := Lib.hid fun W => pchk15_any (some ⟨g, 0, none⟩) c S o W
  have d1 : (preE S o != 0) = true := by rw [bne_iff_ne]; exact hE
  have d2 : (preE S o == 0) = false := beq_eq_false_iff_ne.2 hE
  clear h0 h hE
  generalize preE S o = E at *
  go_enter Try.func59, Try.ntmps59
  go_wp2_with (go_at_call 82; refine (HC.out _).mono ?_; rintro e w2 ⟨rfl, hb⟩; have H2 := Lib.hid (H0.out.step hb); obtain ⟨⟨r0, r1, r2, r3⟩, f0, f1, f2, f3⟩ := H2.out.resf; clear hb c0 c1 c2 c3 c4)
  refine bodyPost_ret (results_row_slot rfl _ _ (w.heap.size + 2) _ rfl (opl_load (four_put15 H2.out.res _ _ _ _))) rfl ?_
  exact ⟨rfl, H2.out.no⟩
end Go.Proofs.Yteccahggahpeeaa
namespace Go.Proofs.Yteccahggahpeeaa
open Go.RowKit

theorem pre_ok {S : St15} {o : Op15} (h : preE S o = 0) : (1 ≤ o.k ∧ o.k ≤ 3) ∧ (0 ≤ o.t ∧ o.t < S.length) ∧ (1 ≤ o.id ∧ o.id ≤ 999999) := by
  unfold preE at h
  split at h
  · omega
  · split at h
    · omega
    · split at h
      · omega
      · exact ⟨by omega, by omega, by omega⟩
/-- What the walk of a change loads. -/
theorem Cg15.loads {w : World} {g c i : Nat} {S : St15} {k id : Int} {x : List UInt8} {W : World} (h : Cg15 w g c S ⟨(i : Int), k, id, x⟩ W) (_hi : i < S.length) {aj : Option Addr} {cj : Nat} (hc : w.cell? ⟨g, i, none⟩ = some (.slice aj (tab S (i : Int)).length cj)) :
    W.cell? ⟨w.heap.size, 0, none⟩ = some (.slice (some ⟨g, 0, none⟩) S.length c) ∧ W.cell? ⟨w.heap.size + 1, 0, none⟩ = some (.int .i64 i) ∧ W.cell? ⟨w.heap.size + 1, 1, none⟩ = some (.int .i64 k) ∧ W.cell? ⟨w.heap.size + 1, 2, none⟩ = some (.int .i64 id) ∧ W.cell? ⟨w.heap.size + 1, 3, none⟩ = some (.string (tx x)) ∧ W.cell? ⟨g, i, none⟩ = some (.slice aj (tab S (i : Int)).length cj) :=
  ⟨h.bx.facts.1, h.bx.facts.2.1, h.bx.facts.2.2.1, h.bx.facts.2.2.2.1, h.bx.facts.2.2.2.2, (h.bx.old.cell (p := ⟨g, i, none⟩) (World.block_lt_of_cell? w _ hc)).trans hc⟩
set_option maxRecDepth 100000 in
set_option maxHeartbeats 8000000 in
theorem pchange_not (g c i : Nat) (S : St15) (k id : Int) (x : List UInt8) (w : World) (h : StO g S w) (hok : OkS S) (hE : preE S ⟨(i : Int), k, id, x⟩ = 0) (hw : wrongT (tab S (i : Int)) ⟨(i : Int), k, id, x⟩ ≠ 0) :
    Calls Try.prog 59 #[stVal (some ⟨g, 0, none⟩) c S, .agg #[.int .i64 i, .int .i64 k, .int .i64 id, .string (tx x)]] w fun e w' => ChNo w e w' (wrongT (tab S (i : Int)) ⟨(i : Int), k, id, x⟩) := by
  have h0 : Cg15 w g c S ⟨(i : Int), k, id, x⟩ (((w.alloc (.cells #[.slice (some ⟨g, 0, none⟩) S.length c] 24)).alloc (.cells #[.int .i64 i, .int .i64 k, .int .i64 id, .string (tx x)] 69)).alloc zeroOp) := Cg15.start c _ h
  have H0 := Lib.hid h0
  obtain ⟨⟨hk1, hk3⟩, ⟨_, hti⟩, _⟩ := pre_ok hE
  have hk1 : 1 ≤ k := hk1
  have hk3 : k ≤ 3 := hk3
  have hti : (i : Int) < (S.length : Int) := hti
  have hlt : i < S.length := by omega
  have hokT : OkT (tab S (i : Int)) := hok.tab _ (by rw [tab_at hlt]; exact List.getElem_mem hlt)
  obtain ⟨aj, cj, hcell, hcap, hels, _⟩ := h.at hlt
  have HLD : Hid (∀ W, Cg15 w g c S ⟨(i : Int), k, id, x⟩ W → W.cell? ⟨w.heap.size, 0, none⟩ = some (.slice (some ⟨g, 0, none⟩) S.length c) ∧ W.cell? ⟨w.heap.size + 1, 0, none⟩ = some (.int .i64 i) ∧ W.cell? ⟨w.heap.size + 1, 1, none⟩ = some (.int .i64 k) ∧ W.cell? ⟨w.heap.size + 1, 2, none⟩ = some (.int .i64 id) ∧ W.cell? ⟨w.heap.size + 1, 3, none⟩ = some (.string (tx x)) ∧ W.cell? ⟨g, i, none⟩ = some (.slice aj (tab S (i : Int)).length cj)) := Lib.hid fun W hW => hW.loads hlt hcell
  have HC : Hid (∀ W, Calls Try.prog 82 #[stVal (some ⟨g, 0, none⟩) c S, .agg #[.int .i64 i, .int .i64 k, .int .i64 id, .string (tx x)]] W fun e w' => e = .returned (.int .i64 0) ∧ Below W.heap.size W w') := Lib.hid fun W => by
    have := pchk15_any (some ⟨g, 0, none⟩) c S ⟨(i : Int), k, id, x⟩ W
    rw [hE] at this
    exact this
  have HF : Hid (∀ W, Cg15 w g c S ⟨(i : Int), k, id, x⟩ W → Calls Try.prog 35 #[.slice aj (tab S (i : Int)).length cj, .int .i64 id] W fun e w' => e = .returned (.tuple #[.int .i64 (atN (tab S (i : Int)) id : Nat), .bool (hasT (tab S (i : Int)) id)]) ∧ Below W.heap.size W w') := Lib.hid fun W hW => pfind15_any aj cj (tab S (i : Int)) id (g + 1) W (hels.step hW.bx.old) (by have := hokT.len; omega)
  obtain ⟨b0, b1, b2, b3, b4, b5⟩ := HLD.out _ h0
  have i3 : (0 : Int) ≤ (i : Int) := by omega
  have hl60 := hokT.len
  clear h0 h hE hels hcap hcell hokT hok hlt
  cases hq : hasT (tab S (i : Int)) id with
  | true =>
    rw [hq] at HF
    have hk : k = 1 := by
      unfold wrongT at hw
      by_cases z : k = 1
      · exact z
      · exfalso; apply hw
        rw [if_neg (fun e => z e.1), if_neg (fun e => z e.1), if_neg (fun e => by have := e.2; rw [hq] at this; cases this)]
    subst hk
    have HR : Hid (wrongT (tab S (i : Int)) ⟨(i : Int), 1, id, x⟩ = 32) := Lib.hid (by unfold wrongT; rw [if_pos ⟨rfl, hq⟩])
    rw [HR.out]
    clear hw hq hk1 hk3 HR
    generalize atN (tab S (i : Int)) id = q at *
    generalize tab S (i : Int) = T at *
    go_enter Try.func59, Try.ntmps59
    go_wp2_with (first
      | (go_at_call 82; refine (HC.out _).mono ?_; rintro e w2 ⟨rfl, hb⟩; have H2 := Lib.hid (H0.out.step hb); obtain ⟨d0, d1, d2, d3, d4, d5⟩ := HLD.out _ H2.out; clear hb b0 b1 b2 b3 b4 b5)
      | (go_at_call 35; refine (HF.out _ H2.out).mono ?_; rintro e w3 ⟨rfl, hb⟩; have H3 := Lib.hid (H2.out.step hb); obtain ⟨e0, e1, e2, e3, e4, e5⟩ := HLD.out _ H3.out; obtain ⟨⟨r0, r1, r2, r3⟩, f0, f1, f2, f3⟩ := H3.out.resf; clear hb d0 d1 d2 d3 d4 d5))
    refine bodyPost_ret (results_row_slot rfl _ _ (w.heap.size + 2) _ rfl (opl_load (four_put15 H3.out.res _ _ _ _))) rfl ?_
    exact ⟨rfl, H3.out.no⟩
  | false =>
    rw [hq] at HF
    by_cases hk : k = 1
    · subst hk
      have hl : (tab S (i : Int)).length = 60 := by
        by_cases z : 60 ≤ (tab S (i : Int)).length
        · omega
        · exfalso; apply hw
          unfold wrongT
          rw [if_neg (fun e => by have := e.2; rw [hq] at this; cases this), if_neg (fun e => z e.2), if_neg (fun e => by have h := e.1; exact absurd h (by show ¬ (1 : Int) < 1; omega))]
      have HR : Hid (wrongT (tab S (i : Int)) ⟨(i : Int), 1, id, x⟩ = 37) := Lib.hid (by unfold wrongT; rw [if_neg (fun e => by have := e.2; rw [hq] at this; cases this), if_pos ⟨rfl, by omega⟩])
      rw [HR.out]
      have j1 : (((tab S (i : Int)).length : Int) == 60) = true := by rw [hl]; rfl
      have j2 : ((tab S (i : Int)).length == 60) = true := by rw [hl]; rfl
      have j3 : ((tab S (i : Int)).length : Int) = 60 := by omega
      clear hw hq hk1 hk3 HR hl hl60
      generalize atN (tab S (i : Int)) id = q at *
      generalize tab S (i : Int) = T at *
      go_enter Try.func59, Try.ntmps59
      go_wp2_with (first
        | (go_at_call 82; refine (HC.out _).mono ?_; rintro e w2 ⟨rfl, hb⟩; have H2 := Lib.hid (H0.out.step hb); obtain ⟨d0, d1, d2, d3, d4, d5⟩ := HLD.out _ H2.out; clear hb b0 b1 b2 b3 b4 b5)
        | (go_at_call 35; refine (HF.out _ H2.out).mono ?_; rintro e w3 ⟨rfl, hb⟩; have H3 := Lib.hid (H2.out.step hb); obtain ⟨e0, e1, e2, e3, e4, e5⟩ := HLD.out _ H3.out; obtain ⟨⟨r0, r1, r2, r3⟩, f0, f1, f2, f3⟩ := H3.out.resf; clear hb d0 d1 d2 d3 d4 d5))
      refine bodyPost_ret (results_row_slot rfl _ _ (w.heap.size + 2) _ rfl (opl_load (four_put15 H3.out.res _ _ _ _))) rfl ?_
      exact ⟨rfl, H3.out.no⟩
    · have HR : Hid (wrongT (tab S (i : Int)) ⟨(i : Int), k, id, x⟩ = 31) := Lib.hid (by unfold wrongT; rw [if_neg (fun e => hk e.1), if_neg (fun e => hk e.1), if_pos ⟨by show 1 < k; omega, hq⟩])
      rw [HR.out]
      have j1 : (k == 1) = false := beq_eq_false_iff_ne.2 hk
      have j2 : (k != 1) = true := by rw [bne_iff_ne]; exact hk
      clear hw hq hk1 hk3 HR hk
      generalize atN (tab S (i : Int)) id = q at *
      generalize tab S (i : Int) = T at *
      go_enter Try.func59, Try.ntmps59
      go_wp2_with (first
        | (go_at_call 82; refine (HC.out _).mono ?_; rintro e w2 ⟨rfl, hb⟩; have H2 := Lib.hid (H0.out.step hb); obtain ⟨d0, d1, d2, d3, d4, d5⟩ := HLD.out _ H2.out; clear hb b0 b1 b2 b3 b4 b5)
        | (go_at_call 35; refine (HF.out _ H2.out).mono ?_; rintro e w3 ⟨rfl, hb⟩; have H3 := Lib.hid (H2.out.step hb); obtain ⟨e0, e1, e2, e3, e4, e5⟩ := HLD.out _ H3.out; obtain ⟨⟨r0, r1, r2, r3⟩, f0, f1, f2, f3⟩ := H3.out.resf; clear hb d0 d1 d2 d3 d4 d5))
      refine bodyPost_ret (results_row_slot rfl _ _ (w.heap.size + 2) _ rfl (opl_load (four_put15 H3.out.res _ _ _ _))) rfl ?_
      exact ⟨rfl, H3.out.no⟩
end Go.Proofs.Yteccahggahpeeaa
