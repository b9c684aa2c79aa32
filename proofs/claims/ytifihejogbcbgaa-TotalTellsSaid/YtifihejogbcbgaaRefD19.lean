/- The document's Cells: for every table, in every world. -/
import Derived.Test.YtifihejogbcbgaaMSameInts
import Derived.Test.YtifihejogbcbgaaRefA19
namespace Go.Proofs.Ytifihejogbcbgaa
open Go.RowKit

def eight19 (a b c d e f g h : Int) : Array Value := #[.int .i64 a, .int .i64 b, .int .i64 c, .int .i64 d, .int .i64 e, .int .i64 f, .int .i64 g, .int .i64 h]
/-- The counts behind c cells, and k rows of the next one. -/
def cntAt19 (l : List Row18) (c k j : Nat) : Nat := if j < c then cellTo l j l.length else if j = c then cellTo l c k else 0
def cnt19 (l : List Row18) (c k : Nat) : Array Value := eight19 (cntAt19 l c k 0 : Nat) (cntAt19 l c k 1 : Nat) (cntAt19 l c k 2 : Nat) (cntAt19 l c k 3 : Nat) (cntAt19 l c k 4 : Nat) (cntAt19 l c k 5 : Nat) (cntAt19 l c k 6 : Nat) (cntAt19 l c k 7 : Nat)
theorem cnt19_start (l : List Row18) : cnt19 l 0 0 = eight19 0 0 0 0 0 0 0 0 := by simp [cnt19, eight19, cntAt19, cellTo]
theorem cnt19_next (l : List Row18) (c : Nat) : cnt19 l c l.length = cnt19 l (c + 1) 0 := by
  have e : ∀ j, cntAt19 l c l.length j = cntAt19 l (c + 1) 0 j := fun j => by
    unfold cntAt19
    by_cases h : j < c
    · rw [if_pos h, if_pos (by omega)]
    · by_cases h2 : j = c
      · rw [if_neg h, if_pos h2, if_pos (by omega), h2]
      · rw [if_neg h, if_neg h2, if_neg (by omega)]
        simp [cellTo]
  unfold cnt19
  rw [e 0, e 1, e 2, e 3, e 4, e 5, e 6, e 7]
theorem cnt19_has (l : List Row18) {c : Nat} (k : Nat) (hc : c < 8) : (cnt19 l c k)[c]? = some (.int .i64 (cellTo l c k : Nat)) := by
  rcases (by omega : c = 0 ∨ c = 1 ∨ c = 2 ∨ c = 3 ∨ c = 4 ∨ c = 5 ∨ c = 6 ∨ c = 7) with rfl | rfl | rfl | rfl | rfl | rfl | rfl | rfl <;> simp [cnt19, eight19, cntAt19]
theorem cnt19_yes (l : List Row18) {c : Nat} (k : Nat) (hc : c < 8) (h : matchB (rowAt18 l k) (cellF c (rowAt18 l k).lo) = true) : (cnt19 l c k).setIfInBounds c (.int .i64 ((cellTo l c k : Nat) + 1)) = cnt19 l c (k + 1) := by
  have e : cellTo l c (k + 1) = cellTo l c k + 1 := by rw [cellTo, if_pos h]
  rcases (by omega : c = 0 ∨ c = 1 ∨ c = 2 ∨ c = 3 ∨ c = 4 ∨ c = 5 ∨ c = 6 ∨ c = 7) with rfl | rfl | rfl | rfl | rfl | rfl | rfl | rfl <;> simp [cnt19, eight19, cntAt19, e]
theorem cnt19_not (l : List Row18) {c : Nat} (k : Nat) (h : matchB (rowAt18 l k) (cellF c (rowAt18 l k).lo) = false) : cnt19 l c k = cnt19 l c (k + 1) := by
  have e : cellTo l c (k + 1) = cellTo l c k := by rw [cellTo, if_neg (by rw [h]; decide), Nat.add_zero]
  unfold cnt19 cntAt19
  rw [e]
theorem cnt19_all (l : List Row18) : cnt19 l 8 0 = eight19 (cellTo l 0 l.length : Nat) (cellTo l 1 l.length : Nat) (cellTo l 2 l.length : Nat) (cellTo l 3 l.length : Nat) (cellTo l 4 l.length : Nat) (cellTo l 5 l.length : Nat) (cellTo l 6 l.length : Nat) (cellTo l 7 l.length : Nat) := by simp [cnt19, eight19, cntAt19]
/-- A result that lies in such a block, and one that lies in a slot. -/
theorem results_row19 {fn : Func} {p u : Tmp} (h : fn.results = #[.cell p 34, .tmp u]) (tmps : Array Value) (w : World) (g : Nat) (t : TypeId) (c0 c1 c2 c3 c4 c5 c6 c7 : Value) (fr : Nat × Nat)
    (hp : tmps.getD p undef = .pointer (some ⟨g, 0, none⟩)) (hg : w.heap[g]? = some (.cells #[c0, c1, c2, c3, c4, c5, c6, c7] t fr)) :
    (results fn tmps).run Try.prog w = .ok (.tuple #[.agg #[c0, c1, c2, c3, c4, c5, c6, c7], tmps.getD u undef]) w :=
  results_row_slot h tmps w g _ hp (run_loadVar_row (P := Try.prog) w g t 34 #[c0, c1, c2, c3, c4, c5, c6, c7] fr _ hg Try.underlying34 rfl (by kernel_rfl))
theorem stored19 {w : World} {g : Nat} {t : TypeId} {x0 x1 x2 x3 x4 x5 x6 x7 v0 v1 v2 v3 v4 v5 v6 v7 : Value} (h : w.heap[g]? = some (.cells #[x0, x1, x2, x3, x4, x5, x6, x7] t (0, 0))) :
    ((((((((w.setCell ⟨g, 0, none⟩ v0).setCell ⟨g, 1, none⟩ v1).setCell ⟨g, 2, none⟩ v2).setCell ⟨g, 3, none⟩ v3).setCell ⟨g, 4, none⟩ v4).setCell ⟨g, 5, none⟩ v5).setCell ⟨g, 6, none⟩ v6).setCell ⟨g, 7, none⟩ v7).heap[g]? = some (.cells #[v0, v1, v2, v3, v4, v5, v6, v7] t (0, 0)) := by
  have h0 : (w.setCell ⟨g, 0, none⟩ v0).heap[g]? = some (.cells #[v0, x1, x2, x3, x4, x5, x6, x7] t (0, 0)) := heap_setCell_same w g 0 _ t v0 h
  have h1 : ((w.setCell ⟨g, 0, none⟩ v0).setCell ⟨g, 1, none⟩ v1).heap[g]? = some (.cells #[v0, v1, x2, x3, x4, x5, x6, x7] t (0, 0)) := heap_setCell_same _ g 1 _ t v1 h0
  have h2 : (((w.setCell ⟨g, 0, none⟩ v0).setCell ⟨g, 1, none⟩ v1).setCell ⟨g, 2, none⟩ v2).heap[g]? = some (.cells #[v0, v1, v2, x3, x4, x5, x6, x7] t (0, 0)) := heap_setCell_same _ g 2 _ t v2 h1
  have h3 : ((((w.setCell ⟨g, 0, none⟩ v0).setCell ⟨g, 1, none⟩ v1).setCell ⟨g, 2, none⟩ v2).setCell ⟨g, 3, none⟩ v3).heap[g]? = some (.cells #[v0, v1, v2, v3, x4, x5, x6, x7] t (0, 0)) := heap_setCell_same _ g 3 _ t v3 h2
  have h4 : (((((w.setCell ⟨g, 0, none⟩ v0).setCell ⟨g, 1, none⟩ v1).setCell ⟨g, 2, none⟩ v2).setCell ⟨g, 3, none⟩ v3).setCell ⟨g, 4, none⟩ v4).heap[g]? = some (.cells #[v0, v1, v2, v3, v4, x5, x6, x7] t (0, 0)) := heap_setCell_same _ g 4 _ t v4 h3
  have h5 : ((((((w.setCell ⟨g, 0, none⟩ v0).setCell ⟨g, 1, none⟩ v1).setCell ⟨g, 2, none⟩ v2).setCell ⟨g, 3, none⟩ v3).setCell ⟨g, 4, none⟩ v4).setCell ⟨g, 5, none⟩ v5).heap[g]? = some (.cells #[v0, v1, v2, v3, v4, v5, x6, x7] t (0, 0)) := heap_setCell_same _ g 5 _ t v5 h4
  have h6 : (((((((w.setCell ⟨g, 0, none⟩ v0).setCell ⟨g, 1, none⟩ v1).setCell ⟨g, 2, none⟩ v2).setCell ⟨g, 3, none⟩ v3).setCell ⟨g, 4, none⟩ v4).setCell ⟨g, 5, none⟩ v5).setCell ⟨g, 6, none⟩ v6).heap[g]? = some (.cells #[v0, v1, v2, v3, v4, v5, v6, x7] t (0, 0)) := heap_setCell_same _ g 6 _ t v6 h5
  have h7 : ((((((((w.setCell ⟨g, 0, none⟩ v0).setCell ⟨g, 1, none⟩ v1).setCell ⟨g, 2, none⟩ v2).setCell ⟨g, 3, none⟩ v3).setCell ⟨g, 4, none⟩ v4).setCell ⟨g, 5, none⟩ v5).setCell ⟨g, 6, none⟩ v6).setCell ⟨g, 7, none⟩ v7).heap[g]? = some (.cells #[v0, v1, v2, v3, v4, v5, v6, v7] t (0, 0)) := heap_setCell_same _ g 7 _ t v7 h6
  exact h7
theorem below19 {B : Nat} {w w' : World} (h : Below B w w') {g : Nat} (hg : B ≤ g) (v0 v1 v2 v3 v4 v5 v6 v7 : Value) : Below B w ((((((((w'.setCell ⟨g, 0, none⟩ v0).setCell ⟨g, 1, none⟩ v1).setCell ⟨g, 2, none⟩ v2).setCell ⟨g, 3, none⟩ v3).setCell ⟨g, 4, none⟩ v4).setCell ⟨g, 5, none⟩ v5).setCell ⟨g, 6, none⟩ v6).setCell ⟨g, 7, none⟩ v7) :=
  ((((((((h.setCell (p := ⟨g, 0, none⟩) hg v0).setCell (p := ⟨g, 1, none⟩) hg v1).setCell (p := ⟨g, 2, none⟩) hg v2).setCell (p := ⟨g, 3, none⟩) hg v3).setCell (p := ⟨g, 4, none⟩) hg v4).setCell (p := ⟨g, 5, none⟩) hg v5).setCell (p := ⟨g, 6, none⟩) hg v6).setCell (p := ⟨g, 7, none⟩) hg v7)
theorem two_new19 (w : World) (o o' : Obj) : ((w.alloc o).alloc o').heap[w.heap.size]? = some o ∧ ((w.alloc o).alloc o').heap[w.heap.size + 1]? = some o' :=
  ⟨heap_alloc2_old w o o', heap_alloc2_new w o o'⟩
/-- Its eight cells, and that they may be stored to. -/
theorem eight_cells19 {w : World} {g : Nat} {t : TypeId} {p0 p1 p2 p3 p4 p5 p6 p7 : Int} (h : w.heap[g]? = some (.cells (eight19 p0 p1 p2 p3 p4 p5 p6 p7) t (0, 0))) :
    (w.cell? ⟨g, 0, none⟩ = some (.int .i64 p0) ∧ w.cell? ⟨g, 1, none⟩ = some (.int .i64 p1) ∧ w.cell? ⟨g, 2, none⟩ = some (.int .i64 p2) ∧ w.cell? ⟨g, 3, none⟩ = some (.int .i64 p3) ∧ w.cell? ⟨g, 4, none⟩ = some (.int .i64 p4) ∧ w.cell? ⟨g, 5, none⟩ = some (.int .i64 p5) ∧ w.cell? ⟨g, 6, none⟩ = some (.int .i64 p6) ∧ w.cell? ⟨g, 7, none⟩ = some (.int .i64 p7)) ∧
    w.frozen? ⟨g, 0, none⟩ = false ∧ w.frozen? ⟨g, 1, none⟩ = false ∧ w.frozen? ⟨g, 2, none⟩ = false ∧ w.frozen? ⟨g, 3, none⟩ = false ∧ w.frozen? ⟨g, 4, none⟩ = false ∧ w.frozen? ⟨g, 5, none⟩ = false ∧ w.frozen? ⟨g, 6, none⟩ = false ∧ w.frozen? ⟨g, 7, none⟩ = false :=
  ⟨⟨cell_of (j := 0) h rfl, cell_of (j := 1) h rfl, cell_of (j := 2) h rfl, cell_of (j := 3) h rfl, cell_of (j := 4) h rfl, cell_of (j := 5) h rfl, cell_of (j := 6) h rfl, cell_of (j := 7) h rfl⟩, frozen_of_row w g 0 _ _ h, frozen_of_row w g 1 _ _ h, frozen_of_row w g 2 _ _ h, frozen_of_row w g 3 _ _ h, frozen_of_row w g 4 _ _ h, frozen_of_row w g 5 _ _ h, frozen_of_row w g 6 _ _ h, frozen_of_row w g 7 _ _ h⟩
/-- The two blocks of an array that is under way, and how it goes on. -/
structure Cnt19 (w W : World) (g : Nat) (cs : Array Value) : Prop where
  now : W.heap[g]? = some (.cells cs 34 (0, 0))
  out : W.heap[w.heap.size]? = some (.cells (eight19 0 0 0 0 0 0 0 0) 34 (0, 0))
  below : Below w.heap.size w W
theorem Cnt19.step {w W W' : World} {g : Nat} {cs : Array Value} (h : Cnt19 w W g cs) (hb : Below W.heap.size W W') : Cnt19 w W' g cs :=
  ⟨old_obj hb h.now, old_obj hb h.out, h.below.trans (hb.mono h.below.size)⟩
theorem Cnt19.store {w W : World} {g : Nat} {cs : Array Value} (h : Cnt19 w W g cs) (hg : w.heap.size < g) (k : Nat) (v : Value) : Cnt19 w (W.setCell ⟨g, k, none⟩ v) g (cs.setIfInBounds k v) :=
  ⟨heap_setCell_same W g k _ _ v h.now, by rw [heap_setCell_other W ⟨g, k, none⟩ w.heap.size v (by simp; omega)]; exact h.out, h.below.setCell (p := ⟨g, k, none⟩) (by show w.heap.size ≤ g; omega) v⟩
theorem zeros19 (w : World) : Cnt19 w ((w.alloc (.cells #[.int .i64 0, .int .i64 0, .int .i64 0, .int .i64 0, .int .i64 0, .int .i64 0, .int .i64 0, .int .i64 0] 34)).alloc (.cells #[.int .i64 0, .int .i64 0, .int .i64 0, .int .i64 0, .int .i64 0, .int .i64 0, .int .i64 0, .int .i64 0] 34)) (w.heap.size + 1) (eight19 0 0 0 0 0 0 0 0) :=
  ⟨(two_new19 w _ _).2, (two_new19 w _ _).1, ((Below.refl _ w).alloc (Nat.le_refl _) _).alloc ((Below.refl _ w).alloc (Nat.le_refl _) _).size _⟩
theorem cellv_no {l : List Row18} (h : ¬ TabOk l) (c : Nat) : cellV l c = 0 := if_neg h
theorem cellv_yes {l : List Row18} (h : TabOk l) (c : Nat) : cellV l c = (cellTo l c l.length : Nat) := if_pos h
set_option maxRecDepth 100000 in
set_option maxHeartbeats 8000000 in
theorem rcells19_any (a : Option Addr) (cap : Nat) (l : List Row18) (w : World) (hx : RowsIn w.heap.size w a l) (hn : l.length ≤ 1000000) :
    Calls Try.prog 11 #[.slice a l.length cap] w fun e w' => e = .returned (.tuple #[.agg #[.int .i64 (cellV l 0), .int .i64 (cellV l 1), .int .i64 (cellV l 2), .int .i64 (cellV l 3), .int .i64 (cellV l 4), .int .i64 (cellV l 5), .int .i64 (cellV l 6), .int .i64 (cellV l 7)], .int .i64 (tabE l)]) ∧ Below w.heap.size w w' := by
  have HX := Lib.hid hx
  have HC : Hid (∀ W, Below w.heap.size w W → Calls Try.prog 25 #[.slice a l.length cap] W fun e w' => e = .returned (.int .i64 (tabE l)) ∧ Below W.heap.size W w') := Lib.hid fun W h => rcheck18_any a cap l W (rowsIn_step HX.out h) hn
  by_cases hT : ¬ TabOk l
  · have HV := Lib.hid (cellv_no hT)
    rw [tab_no hT] at HC ⊢
    clear hx hT
    rw [HV.out 0, HV.out 1, HV.out 2, HV.out 3, HV.out 4, HV.out 5, HV.out 6, HV.out 7]
    go_enter Try.func11, Try.ntmps11
    go_upto_region 3 with (go_at_call 25; refine (HC.out _ (zeros19 w).below).mono ?_; rintro e w2 ⟨rfl, hb⟩; have h0 := (zeros19 w).step hb; clear hb)
    obtain ⟨⟨c0, c1, c2, c3, c4, c5, c6, c7⟩, _⟩ := eight_cells19 h0.now
    obtain ⟨⟨d0, d1, d2, d3, d4, d5, d6, d7⟩, f0, f1, f2, f3, f4, f5, f6, f7⟩ := eight_cells19 h0.out
    have H0 := Lib.hid h0
    clear h0
    go_wp2
    refine bodyPost_ret (results_row19 rfl _ _ w.heap.size _ _ _ _ _ _ _ _ _ _ rfl (stored19 H0.out.out)) rfl ?_
    exact ⟨rfl, below19 H0.out.below (Nat.le_refl _) _ _ _ _ _ _ _ _⟩
  have hT := Decidable.not_not.1 hT
  have HV := Lib.hid (cellv_yes hT)
  rw [tab_yes hT] at HC
  have h20 := hT.2.1
  rw [HV.out 0, HV.out 1, HV.out 2, HV.out 3, HV.out 4, HV.out 5, HV.out 6, HV.out 7]
  have HE : Hid (tabE l = 0) := Lib.hid (by unfold tabE; rw [if_pos hT])
  rw [HE.out]
  clear hx hT
  go_enter Try.func11, Try.ntmps11
  go_upto_region 4 with (go_at_call 25; refine (HC.out _ (zeros19 w).below).mono ?_; rintro e w2 ⟨rfl, hb⟩; have h0 := (zeros19 w).step hb; clear hb)
  rw [← cnt19_start l] at h0
  have H0 := Lib.hid h0
  clear h0
  go_wp2
  go_loopw [5, 6] (fun s5 _ wr => ∃ c : Nat, s5 = .int .i64 c ∧ c ≤ 8 ∧ Hid (Cnt19 w wr (w.heap.size + 1) (cnt19 l c 0))) (fun s5 _ _ => 8 - (intOf s5).toNat)
  case atStart => exact ⟨0, rfl, Nat.zero_le _, H0⟩
  case round =>
    clear H0
    obtain ⟨c, rfl, hc, HN⟩ := hrel
    by_cases hcl : c < 8
    · have j1 : decide ((c : Int) < 8) = true := decide_eq_true (by omega)
      have hc1 : c + 1 ≤ 8 := hcl
      have g1 : (c : Int) < 8 := by omega
      have g0 : (0 : Int) ≤ (c : Int) := by omega
      go_wp2
      go_loopw [6] (fun s6 wr => ∃ k : Nat, s6 = .int .i64 k ∧ k ≤ l.length ∧ Hid (Cnt19 w wr (w.heap.size + 1) (cnt19 l c k))) (fun s6 _ => l.length - (intOf s6).toNat)
      case atStart => exact ⟨0, rfl, Nat.zero_le _, HN⟩
      case round =>
        clear HN
        obtain ⟨k, rfl, hk, HN⟩ := hrel
        by_cases hlt : k < l.length
        · have i1 : decide ((k : Int) < (l.length : Int)) = true := decide_eq_true (by omega)
          have i1' : decide (k < l.length) = true := decide_eq_true hlt
          have i2 : (k : Int) < (l.length : Int) := by omega
          have i3 : (0 : Int) ≤ (k : Int) := by omega
          have hk1 : k + 1 ≤ l.length := hlt
          obtain ⟨b, off, rfl, hbb, c0, c1, c2, c3, c4⟩ := rows_at18 (rowsIn_step HX.out HN.out.below) hlt
          have HROW : Hid (∀ W, Below wr.heap.size wr W → W.cell? ⟨b, off + k * 5, none⟩ = some (.int .i64 (rowAt18 l k).g) ∧ W.cell? ⟨b, off + k * 5 + 1, none⟩ = some (.int .i64 (rowAt18 l k).v) ∧ W.cell? ⟨b, off + k * 5 + 2, none⟩ = some (.int .i64 (rowAt18 l k).lo) ∧ W.cell? ⟨b, off + k * 5 + 3, none⟩ = some (.int .i64 (rowAt18 l k).hi) ∧ W.cell? ⟨b, off + k * 5 + 4, none⟩ = some (.int .i64 (rowAt18 l k).way)) := Lib.hid fun W hW =>
            ⟨(hW.cell (p := ⟨b, off + k * 5, none⟩) (World.block_lt_of_cell? wr _ c0)).trans c0, (hW.cell (p := ⟨b, off + k * 5 + 1, none⟩) (World.block_lt_of_cell? wr _ c1)).trans c1, (hW.cell (p := ⟨b, off + k * 5 + 2, none⟩) (World.block_lt_of_cell? wr _ c2)).trans c2, (hW.cell (p := ⟨b, off + k * 5 + 3, none⟩) (World.block_lt_of_cell? wr _ c3)).trans c3, (hW.cell (p := ⟨b, off + k * 5 + 4, none⟩) (World.block_lt_of_cell? wr _ c4)).trans c4⟩
          have HYES := cnt19_yes l k hcl
          have HNOT := cnt19_not l (c := c) k
          have hle := cell_le l c k
          have hcs := Lib.hid (cnt19_has l k hcl)
          have HM : Hid (∀ W, Calls Try.prog 29 #[rowVal (rowAt18 l k), factVal (cellF c (rowAt18 l k).lo)] W fun e w' => e = .returned (.bool (matchB (rowAt18 l k) (cellF c (rowAt18 l k).lo))) ∧ Below W.heap.size W w') := Lib.hid fun W => rmatch18_any _ _ W
          have HF : Hid (∀ W, Calls Try.prog 27 #[.int .i64 (c : Int), .int .i64 (rowAt18 l k).lo] W fun e w' => e = .returned (factVal (cellF c (rowAt18 l k).lo)) ∧ Below W.heap.size W w') := Lib.hid fun W => rfacts19_any c hcl _ W
          clear hlt
          generalize hmb : matchB (rowAt18 l k) (cellF c (rowAt18 l k).lo) = mb at *
          generalize cellF c (rowAt18 l k).lo = F at *
          generalize hrr : rowAt18 l k = r at *
          clear hmb hrr
          obtain ⟨rg, rv, rl, rh, rw⟩ := r
          dsimp only at *
          obtain ⟨C, hC⟩ : ∃ C : Int, ((cellTo l c k : Nat) : Int) = C := ⟨_, rfl⟩
          rw [hC] at HYES hcs
          have e3 : IntKind.i64.wrap (C + 1) = C + 1 := IntWalk.i64_in _ (by omega)
          have HY2 := Lib.hid HYES
          have HN2 := Lib.hid HNOT
          clear HYES HNOT hle hC
          have BX := Lib.hid (Below.refl wr.heap.size wr).drew
          have SX := Lib.hid (HROW.out _ BX.out)
          go_upto_region 10 with fail
          go_cut [32] (fun s32 wx => s32 = .bool mb ∧ Below wr.heap.size wr wx)
          case first =>
            go_region_held3 (fun v => v.cell? ⟨b, off + k * 5, none⟩ = some (.int .i64 rg) ∧ v.cell? ⟨b, off + k * 5 + 1, none⟩ = some (.int .i64 rv) ∧ v.cell? ⟨b, off + k * 5 + 2, none⟩ = some (.int .i64 rl) ∧ v.cell? ⟨b, off + k * 5 + 3, none⟩ = some (.int .i64 rh) ∧ v.cell? ⟨b, off + k * 5 + 4, none⟩ = some (.int .i64 rw)) (first
              | exact SX.out
              | assumption
              | go_keep) (first
              | (go_at_call 27; refine (HF.out _).mono ?_; rintro e w5 ⟨rfl, hb⟩; have BY := Lib.hid (BX.out.trans (hb.mono BX.out.size)); clear BX SX hb; have BX := BY; clear BY; have SX := Lib.hid (HROW.out _ BX.out))
              | (go_at_call 29; refine (HM.out _).mono ?_; rintro e w6 ⟨rfl, hb⟩; have BY := Lib.hid (BX.out.trans (hb.mono BX.out.size)); clear BX SX hb; have BX := BY; clear BY; have SX := Lib.hid (HROW.out _ BX.out)))
            all_goals
              go_wp2
              go_meet
              exact ⟨rfl, BX.out⟩
          case rest =>
            obtain ⟨rfl, hbx⟩ := hcut
            have HN4 := Lib.hid (HN.out.step hbx)
            clear hbx BX SX c0 c1 c2 c3 c4 HN
            cases mb with
            | true =>
              have d0 := cell_of HN4.out.now hcs.out
              have fz := frozen_of_row wc (w.heap.size + 1) c _ _ HN4.out.now
              have HN5 : Hid (Cnt19 w (wc.setCell ⟨w.heap.size + 1, c, none⟩ (.int .i64 (C + 1))) (w.heap.size + 1) (cnt19 l c (k + 1))) := Lib.hid (by
                have := HN4.out.store (by omega) c (.int .i64 (C + 1))
                rw [HY2.out rfl] at this
                exact this)
              go_wp2
              go_roundw
              case rel => exact ⟨k + 1, by first | rfl | go_num, hk1, HN5⟩
              case measure => first | (simp [intOf]; omega) | simp [intOf]
            | false =>
              have HN5 := HN4
              rw [HN2.out rfl] at HN5
              go_wp2
              go_roundw
              case rel => exact ⟨k + 1, by first | rfl | go_num, hk1, HN5⟩
              case measure => first | (simp [intOf]; omega) | simp [intOf]
        · obtain rfl : k = l.length := by omega
          have i1 : decide ((l.length : Int) < (l.length : Int)) = false := decide_eq_false (by omega)
          rw [cnt19_next] at HN
          go_wp2
          go_roundw
          case rel => exact ⟨c + 1, by first | rfl | go_num, hc1, HN⟩
          case measure => first | (simp [intOf]; omega) | simp [intOf]
    · obtain rfl : c = 8 := by omega
      have h0 := HN.out
      rw [cnt19_all] at h0
      obtain ⟨⟨c0, c1, c2, c3, c4, c5, c6, c7⟩, _⟩ := eight_cells19 h0.now
      obtain ⟨⟨d0, d1, d2, d3, d4, d5, d6, d7⟩, f0, f1, f2, f3, f4, f5, f6, f7⟩ := eight_cells19 h0.out
      have H0 := Lib.hid h0
      clear h0
      go_wp2
      refine bodyPost_ret (results_row19 rfl _ _ w.heap.size _ _ _ _ _ _ _ _ _ _ rfl (stored19 H0.out.out)) rfl ?_
      exact ⟨rfl, below19 H0.out.below (Nat.le_refl _) _ _ _ _ _ _ _ _⟩
end Go.Proofs.Ytifihejogbcbgaa
