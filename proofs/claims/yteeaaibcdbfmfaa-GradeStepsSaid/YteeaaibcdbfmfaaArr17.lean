/- An array of four numbers in a block of cells: counts under way, stores, and a result that lies there. -/
import Derived.Test.YteeaaibcdbfmfaaWant17
import Derived.Test.YteeaaibcdbfmfaaCells
namespace Go.Proofs.Yteeaaibcdbfmfaa
open Go.RowKit

def four17 (a b c d : Int) : Array Value := #[.int .i64 a, .int .i64 b, .int .i64 c, .int .i64 d]
/-- The counts behind k answers. -/
def cnt17 (asks l : List Int) (k : Nat) : Array Value := four17 (cntTo asks l 0 k : Nat) (cntTo asks l 1 k : Nat) (cntTo asks l 2 k : Nat) (cntTo asks l 3 k : Nat)
theorem cnt17_start (asks l : List Int) : cnt17 asks l 0 = four17 0 0 0 0 := rfl
theorem cnt17_has (asks l : List Int) (k : Nat) {g : Nat} (hg : g < 4) : (cnt17 asks l k)[g]? = some (.int .i64 (cntTo asks l g k : Nat)) := by
  match g, hg with
  | 0, _ => rfl
  | 1, _ => rfl
  | 2, _ => rfl
  | 3, _ => rfl
theorem cnt17_step (asks l : List Int) (k : Nat) {g : Nat} (hg : gradeN l (scoreV asks (k : Int)) = g) : (cnt17 asks l k).setIfInBounds g (.int .i64 ((cntTo asks l g k : Nat) + 1)) = cnt17 asks l (k + 1) := by
  have h4 : g < 4 := by rw [← hg]; exact grade_lt _ _
  have e : ∀ j, cntTo asks l j (k + 1) = cntTo asks l j k + if g = j then 1 else 0 := fun j => by rw [← hg]; rfl
  unfold cnt17
  rw [e 0, e 1, e 2, e 3]
  clear e hg
  match g, h4 with
  | 0, _ => simp [four17]
  | 1, _ => simp [four17]
  | 2, _ => simp [four17]
  | 3, _ => simp [four17]
/-- A result that lies in such a block, and one that lies in a slot. -/
theorem results_row17 {fn : Func} {p u : Tmp} (h : fn.results = #[.cell p 36, .tmp u]) (tmps : Array Value) (w : World) (g : Nat) (t : TypeId) (c0 c1 c2 c3 : Value) (fr : Nat × Nat)
    (hp : tmps.getD p undef = .pointer (some ⟨g, 0, none⟩)) (hg : w.heap[g]? = some (.cells #[c0, c1, c2, c3] t fr)) :
    (results fn tmps).run Try.prog w = .ok (.tuple #[.agg #[c0, c1, c2, c3], tmps.getD u undef]) w :=
  results_row_slot h tmps w g _ hp (run_loadVar_row (P := Try.prog) w g t 36 #[c0, c1, c2, c3] fr _ hg Try.underlying36 rfl (by kernel_rfl))
theorem stored17 {w : World} {g : Nat} {t : TypeId} {x0 x1 x2 x3 v0 v1 v2 v3 : Value} (h : w.heap[g]? = some (.cells #[x0, x1, x2, x3] t (0, 0))) :
    ((((w.setCell ⟨g, 0, none⟩ v0).setCell ⟨g, 1, none⟩ v1).setCell ⟨g, 2, none⟩ v2).setCell ⟨g, 3, none⟩ v3).heap[g]? = some (.cells #[v0, v1, v2, v3] t (0, 0)) := by
  have h0 := heap_setCell_same w g 0 _ t v0 h
  have h1 := heap_setCell_same _ g 1 _ t v1 h0
  have h2 := heap_setCell_same _ g 2 _ t v2 h1
  have h3 := heap_setCell_same _ g 3 _ t v3 h2
  exact h3
theorem below17 {B : Nat} {w w' : World} (h : Below B w w') {g : Nat} (hg : B ≤ g) (v0 v1 v2 v3 : Value) :
    Below B w ((((w'.setCell ⟨g, 0, none⟩ v0).setCell ⟨g, 1, none⟩ v1).setCell ⟨g, 2, none⟩ v2).setCell ⟨g, 3, none⟩ v3) :=
  (((h.setCell (p := ⟨g, 0, none⟩) hg v0).setCell (p := ⟨g, 1, none⟩) hg v1).setCell (p := ⟨g, 2, none⟩) hg v2).setCell (p := ⟨g, 3, none⟩) hg v3
theorem two_new17 (w : World) (o o' : Obj) (m : Nat) : (((w.alloc o).alloc o').drewN m).heap[w.heap.size]? = some o ∧ (((w.alloc o).alloc o').drewN m).heap[w.heap.size + 1]? = some o' :=
  ⟨heap_alloc2_old w o o', heap_alloc2_new w o o'⟩
/-- Its four cells, and that they may be stored to. -/
theorem four_cells17 {w : World} {g : Nat} {t : TypeId} {a b c d : Int} (h : w.heap[g]? = some (.cells (four17 a b c d) t (0, 0))) :
    (w.cell? ⟨g, 0, none⟩ = some (.int .i64 a) ∧ w.cell? ⟨g, 1, none⟩ = some (.int .i64 b) ∧ w.cell? ⟨g, 2, none⟩ = some (.int .i64 c) ∧ w.cell? ⟨g, 3, none⟩ = some (.int .i64 d)) ∧
    w.frozen? ⟨g, 0, none⟩ = false ∧ w.frozen? ⟨g, 1, none⟩ = false ∧ w.frozen? ⟨g, 2, none⟩ = false ∧ w.frozen? ⟨g, 3, none⟩ = false :=
  ⟨⟨cell_of (j := 0) h rfl, cell_of (j := 1) h rfl, cell_of (j := 2) h rfl, cell_of (j := 3) h rfl⟩, frozen_of_row w g 0 _ _ h, frozen_of_row w g 1 _ _ h, frozen_of_row w g 2 _ _ h, frozen_of_row w g 3 _ _ h⟩
end Go.Proofs.Yteeaaibcdbfmfaa
