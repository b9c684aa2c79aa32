/- The document's own Grade and All, for all numbers and lists, in every world. -/
import Derived.Test.YtbhdjpohplpjdaaTell
import Derived.Laws.ResultCell
import Derived.Laws.Rows
import Derived.OneCell
import Derived.Test.YtbhdjpohplpjdaaOwn
namespace Go.Proofs.Ytbhdjpohplpjdaa
open Go.RowKit

theorem check_no {l : List Int} (h : feesB l = false) : checkE l = 36 := by unfold checkE; rw [h]; rfl
theorem check_yes {l : List Int} (h : feesB l = true) : checkE l = 0 := by unfold checkE; rw [h]; rfl

theorem rgrade_any (a0 : Option Addr) (cap : Nat) (a : Int) (l : List Int) (g : Int) (w : World) (hx : Ints w.heap.size w a0 l) :
    Calls Try.prog 12 #[.int .i64 a, .slice a0 l.length cap, .int .i64 g] w fun e w' => e = .returned (.tuple #[.int .i64 (gradeV a l g), .int .i64 (gradeE a l g)]) ∧ Below w.heap.size w w' := by
  have Hc := Lib.hid (rcheck_any a0 cap l w hx)
  cases hf : feesB l with
  | false =>
    have he : gradeE a l g = 36 := by unfold gradeE; rw [if_neg (by rw [hf]; exact Bool.false_ne_true)]
    have hv : gradeV a l g = 0 := by unfold gradeV; rw [he]; rfl
    have hk := check_no hf
    rw [hk] at Hc
    rw [he, hv]
    clear hf he hv hk
    go_enter Try.func12, Try.ntmps12
    go_wp2_with (go_at_call 16; refine Hc.out.mono ?_; rintro e w' ⟨rfl, m, rfl⟩)
    go_ret2
    exact ⟨rfl, drawn_below (Below.refl _ _) _⟩
  | true =>
    have hk := check_yes hf
    rw [hk] at Hc
    have hl := (fees_are hf).1
    by_cases h1 : g < 0
    · have he : gradeE a l g = 2 := by unfold gradeE; rw [if_pos hf, if_pos (Or.inl h1)]
      have hv : gradeV a l g = 0 := by unfold gradeV; rw [he]; rfl
      have hd : decide (g < 0) = true := decide_eq_true h1
      rw [he, hv]
      clear hf he hv hk h1 hl
      go_enter Try.func12, Try.ntmps12
      go_wp2_with (go_at_call 16; refine Hc.out.mono ?_; rintro e w' ⟨rfl, m, rfl⟩)
      go_ret2
      exact ⟨rfl, drawn_below (Below.refl _ _) _⟩
    · have hd : decide (g < 0) = false := decide_eq_false h1
      by_cases h2 : 3 < g
      · have he : gradeE a l g = 2 := by unfold gradeE; rw [if_pos hf, if_pos (Or.inr h2)]
        have hv : gradeV a l g = 0 := by unfold gradeV; rw [he]; rfl
        have hd2 : decide (3 < g) = true := decide_eq_true h2
        rw [he, hv]
        clear hf he hv hk h1 h2 hl
        go_enter Try.func12, Try.ntmps12
        go_wp2_with (go_at_call 16; refine Hc.out.mono ?_; rintro e w' ⟨rfl, m, rfl⟩)
        go_ret2
        exact ⟨rfl, drawn_below (Below.refl _ _) _⟩
      · have hd2 : decide (3 < g) = false := decide_eq_false h2
        obtain ⟨k, rfl⟩ : ∃ k : Nat, g = k := ⟨g.toNat, by omega⟩
        have he : gradeE a l k = feeE a (numAt l k) := by unfold gradeE; rw [if_pos hf, if_neg (by omega), Int.toNat_natCast]
        have hv : gradeV a l k = lessV a (numAt l k) := by
          unfold gradeV
          rw [he, Int.toNat_natCast]
          split
          · rfl
          · rename_i h; unfold lessV; rw [if_neg h]
        rw [he, hv]
        rcases hx with h0 | ⟨b, off, rfl, _, hc⟩
        · rw [h0] at hl; cases hl
        · have hcell := hc k (by omega)
          have i1 : (k : Int) < (l.length : Int) := by omega
          clear hf he hv hk h1 h2 hc hl
          go_enter Try.func12, Try.ntmps12
          go_wp2_with (first
            | (go_at_call 16; refine Hc.out.mono ?_; rintro e w' ⟨rfl, m, rfl⟩)
            | (go_at_call 10; refine (rless_any _ _ _).mono ?_; rintro e w' ⟨rfl, rfl⟩))
          go_ret2
          exact ⟨rfl, drawn_below (Below.refl _ _) _⟩

/-- A result that lies in a cell, and one that lies in a slot. -/
theorem results_row_tmp {fn : Func} {p u : Tmp} (h : fn.results = #[.cell p 31, .tmp u]) (tmps : Array Value) (w : World) (g : Nat) (t : TypeId) (c0 c1 c2 c3 : Value) (fr : Nat × Nat)
    (hp : tmps.getD p undef = .pointer (some ⟨g, 0, none⟩)) (hg : w.heap[g]? = some (.cells #[c0, c1, c2, c3] t fr)) :
    (results fn tmps).run Try.prog w = .ok (.tuple #[.agg #[c0, c1, c2, c3], tmps.getD u undef]) w := by
  have hl := run_loadVar_row (P := Try.prog) w g t 31 #[c0, c1, c2, c3] fr _ hg Try.underlying31 rfl (by kernel_rfl)
  have hp' : tmps[p]?.getD undef = .pointer (some ⟨g, 0, none⟩) := by simpa using hp
  rw [results_cell_tmp h]
  simp [hp', asAddr, hl, Result.andThen]

def four (a b c d : Int) : Array Value := #[.int .i64 a, .int .i64 b, .int .i64 c, .int .i64 d]
theorem cell_in {w : World} {g j : Nat} {cs : Array Value} {t : TypeId} {fr : Nat × Nat} {v : Value} (h : w.heap[g]? = some (.cells cs t fr)) (h2 : cs[j]? = some v) : w.cell? ⟨g, j, none⟩ = some v := by
  unfold World.cell?
  rw [h]
  exact h2
theorem stored_four {w : World} {g : Nat} {t : TypeId} {x0 x1 x2 x3 v0 v1 v2 v3 : Value} (h : w.heap[g]? = some (.cells #[x0, x1, x2, x3] t (0, 0))) :
    ((((w.setCell ⟨g, 0, none⟩ v0).setCell ⟨g, 1, none⟩ v1).setCell ⟨g, 2, none⟩ v2).setCell ⟨g, 3, none⟩ v3).heap[g]? = some (.cells #[v0, v1, v2, v3] t (0, 0)) := by
  have h0 := heap_setCell_same w g 0 _ t v0 h
  have h1 := heap_setCell_same _ g 1 _ t v1 h0
  have h2 := heap_setCell_same _ g 2 _ t v2 h1
  have h3 := heap_setCell_same _ g 3 _ t v3 h2
  exact h3
theorem below_four {B : Nat} {w w' : World} (h : Below B w w') {g : Nat} (hg : B ≤ g) (v0 v1 v2 v3 : Value) :
    Below B w ((((w'.setCell ⟨g, 0, none⟩ v0).setCell ⟨g, 1, none⟩ v1).setCell ⟨g, 2, none⟩ v2).setCell ⟨g, 3, none⟩ v3) :=
  (((h.setCell (p := ⟨g, 0, none⟩) hg v0).setCell (p := ⟨g, 1, none⟩) hg v1).setCell (p := ⟨g, 2, none⟩) hg v2).setCell (p := ⟨g, 3, none⟩) hg v3
def arrAt (a : Int) (l : List Int) (k j : Nat) : Int := if j < k then lessV a (numAt l j) else 0
def arrCells (a : Int) (l : List Int) (k : Nat) : Array Value := four (arrAt a l k 0) (arrAt a l k 1) (arrAt a l k 2) (arrAt a l k 3)
theorem arr_step (a : Int) (l : List Int) {k : Nat} (hk : k < 4) : (arrCells a l k).setIfInBounds k (.int .i64 (lessV a (numAt l k))) = arrCells a l (k + 1) := by
  match k, hk with
  | 0, _ => rfl
  | 1, _ => rfl
  | 2, _ => rfl
  | 3, _ => rfl
theorem arr_has (a : Int) (l : List Int) {k : Nat} (m : Nat) (hk : k < 4) : ∃ v, (arrCells a l m)[k]? = some v := by
  match k, hk with
  | 0, _ => exact ⟨_, rfl⟩
  | 1, _ => exact ⟨_, rfl⟩
  | 2, _ => exact ⟨_, rfl⟩
  | 3, _ => exact ⟨_, rfl⟩
theorem two_new (w : World) (o o' : Obj) (m : Nat) : (((w.alloc o).alloc o').drewN m).heap[w.heap.size]? = some o ∧ (((w.alloc o).alloc o').drewN m).heap[w.heap.size + 1]? = some o' :=
  ⟨heap_alloc2_old w o o', heap_alloc2_new w o o'⟩
theorem all_bad {a : Int} {l : List Int} (he : allE a l ≠ 0) : allAgg a l = .agg (four 0 0 0 0) := by
  unfold allAgg allAt four; rw [if_neg he, if_neg he, if_neg he, if_neg he]
set_option maxRecDepth 100000 in
set_option maxHeartbeats 1000000 in
theorem rall_some (b off cap : Nat) (a : Int) (l : List Int) (w : World) (hB : b < w.heap.size) (hc : ∀ j, j < l.length → w.cell? ⟨b, off + j, none⟩ = some (.int .i64 (numAt l j))) :
    Calls Try.prog 14 #[.int .i64 a, .slice (some ⟨b, off, none⟩) l.length cap] w fun e w' => e = .returned (.tuple #[allAgg a l, .int .i64 (allE a l)]) ∧ Below w.heap.size w w' := by
  have HK : Hid (∀ w', Below w.heap.size w w' → Calls Try.prog 16 #[.slice (some ⟨b, off, none⟩) l.length cap] w' fun e w'' => e = .returned (.int .i64 (checkE l)) ∧ ∃ m, w'' = w'.drewN m) := Lib.hid fun w' h =>
    rcheck_any _ cap l w' (Or.inr ⟨b, off, rfl, by have := h.size; omega, fun j hj => (h.cell (p := ⟨b, off + j, none⟩) hB).trans (hc j hj)⟩)
  have hb := Below.refl w.heap.size w
  cases hf : feesB l with
  | false =>
    have he : allE a l = 36 := by unfold allE; rw [if_neg (by rw [hf]; exact Bool.false_ne_true)]
    have hv := all_bad (a := a) (l := l) (by omega)
    have hk := check_no hf
    rw [hk] at HK
    rw [he, hv]
    clear hf he hv hk
    go_enter Try.func14, Try.ntmps14
    go_wp2_with (go_at_call 16; refine (HK.out _ ((hb.alloc hb.size _).alloc (hb.alloc hb.size _).size _)).mono ?_; rintro e w' ⟨rfl, m, rfl⟩)
    refine bodyPost_ret (results_row_tmp rfl _ _ w.heap.size _ _ _ _ _ _ rfl (stored_four (two_new w _ _ m).1)) rfl ?_
    exact ⟨rfl, below_four (drawn_below ((hb.alloc hb.size _).alloc (hb.alloc hb.size _).size _) m) (Nat.le_refl _) _ _ _ _⟩
  | true =>
    have hk := check_yes hf
    rw [hk] at HK
    have hfa := fees_are hf
    have HC := Lib.hid hc
    by_cases ha : a < 0 ∨ 1000000000000 < a
    · have he : allE a l = 8 := by unfold allE; rw [if_pos hf, if_pos ha]
      have hv := all_bad (a := a) (l := l) (by omega)
      have hx0 := hc 0 (by omega)
      have hfe : feeE a (numAt l 0) = 8 := (fee_over (by have := hfa.2 0 (by omega); omega) ha).1
      have hi : (0 : Int) < (l.length : Int) := by omega
      have Hl : Hid (∀ w, Calls Try.prog 10 #[.int .i64 a, .int .i64 (numAt l 0)] w fun e w' => ∃ v, e = .returned (.tuple #[v, .int .i64 8]) ∧ w = w') := Lib.hid fun w => by
        have := rless_any a (numAt l 0) w
        rw [hfe] at this
        exact this.mono fun _ _ h => ⟨_, h.1, h.2⟩
      rw [he, hv]
      clear hf he hv hk hc hfa hfe ha
      go_enter Try.func14, Try.ntmps14
      go_upto_block 0 with (go_at_call 16; refine (HK.out _ ((hb.alloc hb.size _).alloc (hb.alloc hb.size _).size _)).mono ?_; rintro e w' ⟨rfl, m, rfl⟩)
      obtain ⟨W, hW⟩ : ∃ W, W = ((w.alloc (Obj.cells #[Value.int .i64 0, Value.int .i64 0, Value.int .i64 0, Value.int .i64 0] 31)).alloc (Obj.cells #[Value.int .i64 0, Value.int .i64 0, Value.int .i64 0, Value.int .i64 0] 31)).drewN m := ⟨_, rfl⟩
      have hg0 := (two_new w (Obj.cells #[Value.int .i64 0, Value.int .i64 0, Value.int .i64 0, Value.int .i64 0] 31) (Obj.cells #[Value.int .i64 0, Value.int .i64 0, Value.int .i64 0, Value.int .i64 0] 31) m).1
      have hg1 := (two_new w (Obj.cells #[Value.int .i64 0, Value.int .i64 0, Value.int .i64 0, Value.int .i64 0] 31) (Obj.cells #[Value.int .i64 0, Value.int .i64 0, Value.int .i64 0, Value.int .i64 0] 31) m).2
      have hbW := drawn_below ((hb.alloc hb.size (Obj.cells #[Value.int .i64 0, Value.int .i64 0, Value.int .i64 0, Value.int .i64 0] 31)).alloc (hb.alloc hb.size (Obj.cells #[Value.int .i64 0, Value.int .i64 0, Value.int .i64 0, Value.int .i64 0] 31)).size (Obj.cells #[Value.int .i64 0, Value.int .i64 0, Value.int .i64 0, Value.int .i64 0] 31)) m
      rw [← hW] at hg0 hg1 hbW
      rw [← hW]
      clear hW
      rw [Nat.add_zero] at hx0
      have hcl := (hbW.cell (p := ⟨b, off, none⟩) hB).trans hx0
      go_wp2
      go_loop [7, 8, 9] (fun i _ _ => i = .int .i64 0) (fun _ _ _ => 0)
      case atStart => rfl
      case round =>
        obtain rfl := hrel
        have d0 : W.cell? ⟨w.heap.size, 0, none⟩ = some (.int .i64 0) := cell_in (j := 0) hg0 rfl
        have d1 : W.cell? ⟨w.heap.size, 1, none⟩ = some (.int .i64 0) := cell_in (j := 1) hg0 rfl
        have d2 : W.cell? ⟨w.heap.size, 2, none⟩ = some (.int .i64 0) := cell_in (j := 2) hg0 rfl
        have d3 : W.cell? ⟨w.heap.size, 3, none⟩ = some (.int .i64 0) := cell_in (j := 3) hg0 rfl
        have f0 : W.frozen? ⟨w.heap.size, 0, none⟩ = false := frozen_of_row W w.heap.size 0 _ _ hg0
        have f1 : W.frozen? ⟨w.heap.size, 1, none⟩ = false := frozen_of_row W w.heap.size 1 _ _ hg0
        have f2 : W.frozen? ⟨w.heap.size, 2, none⟩ = false := frozen_of_row W w.heap.size 2 _ _ hg0
        have f3 : W.frozen? ⟨w.heap.size, 3, none⟩ = false := frozen_of_row W w.heap.size 3 _ _ hg0
        go_wp2_with (go_at_call 10; refine (Hl.out _).mono ?_; rintro e w' ⟨v, rfl, rfl⟩)
        refine bodyPost_ret (results_row_tmp rfl _ _ w.heap.size _ _ _ _ _ _ rfl (stored_four hg0)) rfl ?_
        exact ⟨rfl, below_four hbW (Nat.le_refl _) _ _ _ _⟩
    · have he : allE a l = 0 := by unfold allE; rw [if_pos hf, if_neg ha]
      have hv : allAgg a l = .agg (arrCells a l 4) := by unfold allAgg allAt arrCells arrAt four; rw [if_pos he, if_pos he, if_pos he, if_pos he]; rfl
      have hl4 := hfa.1
      have Hl : Hid (∀ (k : Nat), k < 4 → ∀ w, Calls Try.prog 10 #[.int .i64 a, .int .i64 (numAt l k)] w fun e w' => e = .returned (.tuple #[.int .i64 (lessV a (numAt l k)), .int .i64 0]) ∧ w = w') := Lib.hid fun k hk w => by
        have := rless_any a (numAt l k) w
        rw [(fee_good (a := a) (b := numAt l k) (by have := hfa.2 k hk; omega) ha).1] at this
        exact this
      rw [he, hv]
      clear hf he hv hk hc hfa ha
      go_enter Try.func14, Try.ntmps14
      have Hl4 := Lib.hid hl4
      clear hl4
      go_upto_block 0 with (go_at_call 16; refine (HK.out _ ((hb.alloc hb.size _).alloc (hb.alloc hb.size _).size _)).mono ?_; rintro e w' ⟨rfl, m, rfl⟩)
      obtain ⟨W, hW⟩ : ∃ W, W = ((w.alloc (Obj.cells #[Value.int .i64 0, Value.int .i64 0, Value.int .i64 0, Value.int .i64 0] 31)).alloc (Obj.cells #[Value.int .i64 0, Value.int .i64 0, Value.int .i64 0, Value.int .i64 0] 31)).drewN m := ⟨_, rfl⟩
      have hg0 := (two_new w (Obj.cells #[Value.int .i64 0, Value.int .i64 0, Value.int .i64 0, Value.int .i64 0] 31) (Obj.cells #[Value.int .i64 0, Value.int .i64 0, Value.int .i64 0, Value.int .i64 0] 31) m).1
      have hg1 := (two_new w (Obj.cells #[Value.int .i64 0, Value.int .i64 0, Value.int .i64 0, Value.int .i64 0] 31) (Obj.cells #[Value.int .i64 0, Value.int .i64 0, Value.int .i64 0, Value.int .i64 0] 31) m).2
      have hbW := drawn_below ((hb.alloc hb.size (Obj.cells #[Value.int .i64 0, Value.int .i64 0, Value.int .i64 0, Value.int .i64 0] 31)).alloc (hb.alloc hb.size (Obj.cells #[Value.int .i64 0, Value.int .i64 0, Value.int .i64 0, Value.int .i64 0] 31)).size (Obj.cells #[Value.int .i64 0, Value.int .i64 0, Value.int .i64 0, Value.int .i64 0] 31)) m
      rw [← hW] at hg0 hg1 hbW
      rw [← hW]
      clear hW
      go_wp2
      go_loopw [7, 8, 9] (fun i _ _ wr => ∃ k : Nat, i = .int .i64 k ∧ k ≤ 4 ∧ Hid (wr.heap[w.heap.size + 1]? = some (.cells (arrCells a l k) 31 (0, 0))) ∧ Hid (wr.heap[w.heap.size]? = some (.cells (four 0 0 0 0) 31 (0, 0))) ∧ Below w.heap.size w wr) (fun i _ _ _ => 4 - (intOf i).toNat)
      case atStart => exact ⟨0, rfl, by omega, Lib.hid hg1, Lib.hid hg0, hbW⟩
      case round =>
        clear hg0 hg1 hbW
        obtain ⟨k, rfl, hk, HG1, HG0, hbr⟩ := hrel
        by_cases hlt : k < 4
        · have hx := (hbr.cell (p := ⟨b, off + k, none⟩) hB).trans (HC.out k (by have := Hl4.out; omega))
          obtain ⟨v0, hv0⟩ := arr_has a l k hlt
          have d0 := cell_in HG1.out hv0
          have fz := frozen_of_row wr (w.heap.size + 1) k _ _ HG1.out
          have i1 : (k : Int) < 4 := by omega
          have i2 : (k : Int) < (l.length : Int) := by have := Hl4.out; omega
          have HS1 : Hid ((wr.setCell ⟨w.heap.size + 1, k, none⟩ (.int .i64 (lessV a (numAt l k)))).heap[w.heap.size + 1]? = some (.cells (arrCells a l (k + 1)) 31 (0, 0))) := Lib.hid (by
            rw [heap_setCell_same wr _ k _ _ _ HG1.out, arr_step a l hlt])
          have HS0 : Hid ((wr.setCell ⟨w.heap.size + 1, k, none⟩ (.int .i64 (lessV a (numAt l k)))).heap[w.heap.size]? = some (.cells (four 0 0 0 0) 31 (0, 0))) := Lib.hid (by
            rw [heap_setCell_other wr ⟨w.heap.size + 1, k, none⟩ w.heap.size _ (by simp)]; exact HG0.out)
          have hbs := hbr.setCell (p := ⟨w.heap.size + 1, k, none⟩) (show w.heap.size ≤ w.heap.size + 1 by omega) (.int .i64 (lessV a (numAt l k)))
          clear hv0 hbr
          go_wp2_with (go_at_call 10; refine (Hl.out k hlt _).mono ?_; rintro e w' ⟨rfl, rfl⟩)
          go_roundw
          case rel => exact ⟨k + 1, by go_num, by omega, HS1, HS0, hbs⟩
          case measure => simp [intOf]; omega
        · obtain rfl : k = 4 := by omega
          have e0 : wr.cell? ⟨w.heap.size + 1, 0, none⟩ = some (.int .i64 (arrAt a l 4 0)) := cell_in (j := 0) HG1.out rfl
          have e1 : wr.cell? ⟨w.heap.size + 1, 1, none⟩ = some (.int .i64 (arrAt a l 4 1)) := cell_in (j := 1) HG1.out rfl
          have e2 : wr.cell? ⟨w.heap.size + 1, 2, none⟩ = some (.int .i64 (arrAt a l 4 2)) := cell_in (j := 2) HG1.out rfl
          have e3 : wr.cell? ⟨w.heap.size + 1, 3, none⟩ = some (.int .i64 (arrAt a l 4 3)) := cell_in (j := 3) HG1.out rfl
          have d0 : wr.cell? ⟨w.heap.size, 0, none⟩ = some (.int .i64 0) := cell_in (j := 0) HG0.out rfl
          have d1 : wr.cell? ⟨w.heap.size, 1, none⟩ = some (.int .i64 0) := cell_in (j := 1) HG0.out rfl
          have d2 : wr.cell? ⟨w.heap.size, 2, none⟩ = some (.int .i64 0) := cell_in (j := 2) HG0.out rfl
          have d3 : wr.cell? ⟨w.heap.size, 3, none⟩ = some (.int .i64 0) := cell_in (j := 3) HG0.out rfl
          have f0 : wr.frozen? ⟨w.heap.size, 0, none⟩ = false := frozen_of_row wr w.heap.size 0 _ _ HG0.out
          have f1 : wr.frozen? ⟨w.heap.size, 1, none⟩ = false := frozen_of_row wr w.heap.size 1 _ _ HG0.out
          have f2 : wr.frozen? ⟨w.heap.size, 2, none⟩ = false := frozen_of_row wr w.heap.size 2 _ _ HG0.out
          have f3 : wr.frozen? ⟨w.heap.size, 3, none⟩ = false := frozen_of_row wr w.heap.size 3 _ _ HG0.out
          go_wp2
          refine bodyPost_ret (results_row_tmp rfl _ _ w.heap.size _ _ _ _ _ _ rfl (stored_four HG0.out)) rfl ?_
          exact ⟨rfl, below_four hbr (Nat.le_refl _) _ _ _ _⟩
theorem rall_any (a0 : Option Addr) (cap : Nat) (a : Int) (l : List Int) (w : World) (hx : Ints w.heap.size w a0 l) :
    Calls Try.prog 14 #[.int .i64 a, .slice a0 l.length cap] w fun e w' => e = .returned (.tuple #[allAgg a l, .int .i64 (allE a l)]) ∧ Below w.heap.size w w' := by
  rcases hx with rfl | ⟨b, off, rfl, hB, hc⟩
  · have he : allE a [] = 36 := rfl
    have hv := all_bad (a := a) (l := []) (by omega)
    have hb := Below.refl w.heap.size w
    have HK : Hid (∀ w', Calls Try.prog 16 #[.slice a0 0 cap] w' fun e w'' => e = .returned (.int .i64 36) ∧ ∃ m, w'' = w'.drewN m) := Lib.hid fun w' => rcheck_any a0 cap [] w' (Or.inl rfl)
    rw [he, hv]
    clear he hv
    go_enter Try.func14, Try.ntmps14
    go_wp2_with (go_at_call 16; refine (HK.out _).mono ?_; rintro e w' ⟨rfl, m, rfl⟩)
    refine bodyPost_ret (results_row_tmp rfl _ _ w.heap.size _ _ _ _ _ _ rfl (stored_four (two_new w _ _ m).1)) rfl ?_
    exact ⟨rfl, below_four (drawn_below ((hb.alloc hb.size _).alloc (hb.alloc hb.size _).size _) m) (Nat.le_refl _) _ _ _ _⟩
  · exact rall_some b off cap a l w hB hc
end Go.Proofs.Ytbhdjpohplpjdaa
