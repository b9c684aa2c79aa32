/- Blocks of a few cells: what lies there, behind a call and behind stores, and results that lie in such a block. -/
import Derived.Test.YtcllgpblebkpdaaProg
import Derived.WalkKit
import Derived.Below
import Derived.OneCell
import Derived.Laws.ResultCell
import Derived.Laws.Rows
import Derived.Lib.Hide
namespace Go.Proofs.Ytcllgpblebkpdaa
open Go.RowKit

theorem old_obj {wr w1 : World} (b1 : Below wr.heap.size wr w1) {g : Nat} {o : Obj} (h : wr.heap[g]? = some o) : w1.heap[g]? = some o := by
  rw [b1.block g (Array.getElem?_eq_some_iff.1 h).1]; exact h
theorem obj_lt {w : World} {g : Nat} {o : Obj} (h : w.heap[g]? = some o) : g < w.heap.size := (Array.getElem?_eq_some_iff.1 h).1
theorem cell_of {w : World} {g j : Nat} {cs : Array Value} {t : TypeId} {fr : Nat × Nat} {v : Value} (h : w.heap[g]? = some (.cells cs t fr)) (h2 : cs[j]? = some v) : w.cell? ⟨g, j, none⟩ = some v := by
  unfold World.cell?
  rw [h]
  exact h2
theorem three_cells {w : World} {g : Nat} {x y z : Value} {t : TypeId} (h : w.heap[g]? = some (.cells #[x, y, z] t (0, 0))) :
    w.cell? ⟨g, 0, none⟩ = some x ∧ w.cell? ⟨g, 1, none⟩ = some y ∧ w.cell? ⟨g, 2, none⟩ = some z ∧ w.frozen? ⟨g, 0, none⟩ = false ∧ w.frozen? ⟨g, 1, none⟩ = false ∧ w.frozen? ⟨g, 2, none⟩ = false :=
  ⟨cell_of (j := 0) h rfl, cell_of (j := 1) h rfl, cell_of (j := 2) h rfl, frozen_of_row w g 0 _ _ h, frozen_of_row w g 1 _ _ h, frozen_of_row w g 2 _ _ h⟩
theorem three_stored {w : World} {g : Nat} {x y z : Value} {t : TypeId} (h : w.heap[g]? = some (.cells #[x, y, z] t (0, 0))) (x' y' z' : Value) :
    (((w.setCell ⟨g, 0, none⟩ x').setCell ⟨g, 1, none⟩ y').setCell ⟨g, 2, none⟩ z').heap[g]? = some (.cells #[x', y', z'] t (0, 0)) := by
  have h0 := heap_setCell_same w g 0 _ t x' h
  have h1 := heap_setCell_same _ g 1 _ t y' h0
  have h2 := heap_setCell_same _ g 2 _ t z' h1
  exact h2
theorem three_below {B : Nat} {w w' : World} (h : Below B w w') {g : Nat} (hg : B ≤ g) (x y z : Value) :
    Below B w (((w'.setCell ⟨g, 0, none⟩ x).setCell ⟨g, 1, none⟩ y).setCell ⟨g, 2, none⟩ z) :=
  ((h.setCell (p := ⟨g, 0, none⟩) hg x).setCell (p := ⟨g, 1, none⟩) hg y).setCell (p := ⟨g, 2, none⟩) hg z
/-- A result that lies in a block of cells, and one that lies in a slot. -/
theorem results_row_slot {fn : Func} {p u : Tmp} {T : TypeId} (h : fn.results = #[.cell p T, .tmp u]) (tmps : Array Value) (w : World) (g : Nat) (v : Value)
    (hp : tmps.getD p undef = .pointer (some ⟨g, 0, none⟩)) (hl : (loadVar T ⟨g, 0, none⟩).run Try.prog w = .ok v w) :
    (results fn tmps).run Try.prog w = .ok (.tuple #[v, tmps.getD u undef]) w := by
  have hp' : tmps[p]?.getD undef = .pointer (some ⟨g, 0, none⟩) := by simpa using hp
  rw [results_cell_tmp h]
  simp [hp', asAddr, hl, Result.andThen]
/-- Behind a call: two blocks that were laid ahead of it. -/
theorem below_two {w w1 : World} {A Z : Obj} (b1 : Below ((w.alloc A).alloc Z).heap.size ((w.alloc A).alloc Z) w1) : Below w.heap.size w w1 ∧ w1.heap[w.heap.size + 1]? = some Z ∧ w1.heap[w.heap.size]? = some A := by
  have hb := Below.refl w.heap.size w
  have h2 := (hb.alloc hb.size A).alloc (hb.alloc hb.size A).size Z
  exact ⟨h2.trans (b1.mono h2.size), old_obj b1 (heap_alloc2_new _ _ _), old_obj b1 (heap_alloc2_old _ _ _)⟩
/-- Behind a call: three blocks that were laid ahead of it. -/
theorem below_three {w w1 : World} {A P Z : Obj} (b1 : Below (((w.alloc A).alloc P).alloc Z).heap.size (((w.alloc A).alloc P).alloc Z) w1) : Below w.heap.size w w1 ∧ w1.heap[w.heap.size]? = some A ∧ w1.heap[w.heap.size + 1]? = some P ∧ w1.heap[w.heap.size + 2]? = some Z := by
  have hb := Below.refl w.heap.size w
  have h1 := hb.alloc hb.size A
  have h2 := h1.alloc h1.size P
  have h3 := h2.alloc h2.size Z
  have e2 : ((w.alloc A).alloc P).heap.size = w.heap.size + 2 := by simp
  refine ⟨h3.trans (b1.mono h3.size), old_obj b1 ?_, old_obj b1 ?_, old_obj b1 ?_⟩
  · rw [Below.heap_alloc _ Z _ (by rw [e2]; omega)]; exact heap_alloc2_old _ _ _
  · rw [Below.heap_alloc _ Z _ (by rw [e2]; omega)]; exact heap_alloc2_new _ _ _
  · rw [← e2]; exact heap_alloc_new _ _
/-- The cells of blocks other than the one that a call may change. -/
theorem grown_obj {w w' : World} {g k : Nat} {o : Obj} (hg : w.grownBy w' (some g)) (h : w.heap[k]? = some o) (hne : k ≠ g) : w'.heap[k]? = some o := by
  rw [hg.block k (obj_lt h) (by simpa using hne)]; exact h
end Go.Proofs.Ytcllgpblebkpdaa
