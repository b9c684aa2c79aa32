/- The program's count: the length of a text, or the number of a list's elements, at a place. -/
import Derived.Test.YtpjahfobjnajcaaDoorOget
namespace Go.Proofs.YtpjahfobjnajcaaDoor
open Go.RowKit

/-- What count answers: the error, and, where there is none, the number. -/
def cntE (s : List UInt8) (p m : Int) : Int := if m < 0 then 2 else if getE s p 2 = 0 then (if m < getV s p 2 then 3 else 0) else getE s p 2
def cntV (s : List UInt8) (p m : Int) : Int := if cntE s p m = 0 then getV s p 2 else 0
def cntT (s : List UInt8) (p m : Int) : Int := if cntE s p m = 0 then p + 2 else 0
theorem get_none {s : List UInt8} {p x : Int} (h : getE s p x ≠ 0) : getV s p x = 0 ∧ getT s p x = 0 := by unfold getV getT; rw [if_neg h, if_neg h]; exact ⟨rfl, rfl⟩

/-- Behind a call: a block of two cells that was laid ahead of it, another one laid behind it. -/
theorem pair_two {w w1 : World} {T : TypeId} {x y : Value} (b1 : Below (w.alloc (.cells #[x, y] T)).heap.size (w.alloc (.cells #[x, y] T)) w1) (o : Obj) :
    (w1.alloc o).cell? ⟨w.heap.size, 0, none⟩ = some x ∧ (w1.alloc o).cell? ⟨w.heap.size, 1, none⟩ = some y ∧ (w1.alloc o).frozen? ⟨w.heap.size, 0, none⟩ = false ∧ (w1.alloc o).frozen? ⟨w.heap.size, 1, none⟩ = false ∧ Hid (Below w.heap.size w (w1.alloc o)) ∧ Hid ((w1.alloc o).heap[w.heap.size]? = some (.cells #[x, y] T (0, 0))) := by
  have hg : (w1.alloc o).heap[w.heap.size]? = some (.cells #[x, y] T (0, 0)) := by
    have h1 := old_obj b1 (heap_alloc_new w (.cells #[x, y] T))
    exact (Lib.alloc_old w1 o _ (obj_lt h1)).trans h1
  obtain ⟨c0, c1, f0, f1⟩ := two_cells hg
  have h0 : Below w.heap.size w (w.alloc (.cells #[x, y] T)) := (Below.refl _ w).alloc (Nat.le_refl _) _
  have h2 := h0.trans (b1.mono h0.size)
  exact ⟨c0, c1, f0, f1, Lib.hid (h2.alloc h2.size _), Lib.hid hg⟩

end Go.Proofs.YtpjahfobjnajcaaDoor
