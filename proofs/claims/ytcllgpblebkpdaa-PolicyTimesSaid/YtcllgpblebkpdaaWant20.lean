/- How items lie, and what the walks of layer 20 want of policy's six functions. -/
import Derived.Test.YtcllgpblebkpdaaPo20
import Derived.Test.YtcllgpblebkpdaaCells
import Derived.Test.YtcllgpblebkpdaaSameInts
namespace Go.Proofs.Ytcllgpblebkpdaa
open Go.RowKit

abbrev itemVal (i : Item20) : Value := .agg #[.int .i64 i.id, .int .i64 i.ven, .int .i64 i.win, .int .i64 i.war]
structure Policy20 : Prop where
  check : ∀ (i : Item20) (w : World), Calls Try.prog 10 #[itemVal i] w fun e w' => e = .returned (.int .i64 (itemE i)) ∧ Below w.heap.size w w'
  time : ∀ (t : Int) (w : World), (Lit.int .i64 t).wf = true → Calls Try.prog 12 #[.int .i64 t] w fun e w' => e = .returned (.bool (timeB t)) ∧ Below w.heap.size w w'
  isopen : ∀ (i : Item20) (a n : Int) (w : World), (Lit.int .i64 a).wf = true → (Lit.int .i64 n).wf = true → Calls Try.prog 14 #[itemVal i, .int .i64 a, .int .i64 n] w fun e w' => e = .returned (.bool (openB i a n)) ∧ Below w.heap.size w w'
  covered : ∀ (i : Item20) (a n : Int) (w : World), (Lit.int .i64 a).wf = true → (Lit.int .i64 n).wf = true → Calls Try.prog 16 #[itemVal i, .int .i64 a, .int .i64 n] w fun e w' => e = .returned (.bool (covB i a n)) ∧ Below w.heap.size w w'
  until_ : ∀ (i : Item20) (a : Int) (w : World), (Lit.int .i64 a).wf = true → Calls Try.prog 6 #[itemVal i, .int .i64 a] w fun e w' => e = .returned (.tuple #[.int .i64 (untA i a), .int .i64 (untB i a), .int .i64 (untE i a)]) ∧ Below w.heap.size w w'
  pass : ∀ (n d : Int) (w : World), (Lit.int .i64 n).wf = true → (Lit.int .i64 d).wf = true → Calls Try.prog 8 #[.int .i64 n, .int .i64 d] w fun e w' => e = .returned (.tuple #[.int .i64 (passV n d), .int .i64 (passE n d)]) ∧ Below w.heap.size w w'
theorem box20 (W : World) (o : Obj) : Below W.heap.size W (W.alloc o) := (Below.refl _ W).alloc (Nat.le_refl _) o
/-- An item in a box of its own. -/
structure Bx20 (w W : World) (g : Nat) (i : Item20) : Prop where
  below : Below w.heap.size w W
  obj : W.heap[g]? = some (.cells #[.int .i64 i.id, .int .i64 i.ven, .int .i64 i.win, .int .i64 i.war] 23 (0, 0))
theorem Bx20.step {w W V : World} {g : Nat} {i : Item20} (h : Bx20 w W g i) (hb : Below W.heap.size W V) : Bx20 w V g i := ⟨h.below.trans (hb.mono h.below.size), old_obj hb h.obj⟩
theorem bx20_start (w : World) (i : Item20) : Bx20 w (w.alloc (.cells #[.int .i64 i.id, .int .i64 i.ven, .int .i64 i.win, .int .i64 i.war] 23)) w.heap.size i := ⟨box20 w _, heap_alloc_new w _⟩
theorem Bx20.cells {w W : World} {g : Nat} {i : Item20} (h : Bx20 w W g i) : W.cell? ⟨g, 0, none⟩ = some (.int .i64 i.id) ∧ W.cell? ⟨g, 1, none⟩ = some (.int .i64 i.ven) ∧ W.cell? ⟨g, 2, none⟩ = some (.int .i64 i.win) ∧ W.cell? ⟨g, 3, none⟩ = some (.int .i64 i.war) :=
  ⟨cell_of (j := 0) h.obj rfl, cell_of (j := 1) h.obj rfl, cell_of (j := 2) h.obj rfl, cell_of (j := 3) h.obj rfl⟩
end Go.Proofs.Ytcllgpblebkpdaa
