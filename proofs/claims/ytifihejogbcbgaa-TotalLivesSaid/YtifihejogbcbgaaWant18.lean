/- How rows and facts lie, and what the walks of layer 18 want of rule's six functions. -/
import Derived.Test.YtifihejogbcbgaaElt15
import Derived.Test.YtifihejogbcbgaaMQz16
import Derived.Test.YtifihejogbcbgaaRu18
namespace Go.Proofs.Ytifihejogbcbgaa
open Go.RowKit

abbrev rowVal (r : Row18) : Value := .agg #[.int .i64 r.g, .int .i64 r.v, .int .i64 r.lo, .int .i64 r.hi, .int .i64 r.way]
abbrev factVal (f : Fact18) : Value := .agg #[.int .i64 f.g, .bool f.v, .int .i64 f.n]
def rowElt : Elt Row18 where
  k := 5
  pos := by decide
  enc := fun r => [.int .i64 r.g, .int .i64 r.v, .int .i64 r.lo, .int .i64 r.hi, .int .i64 r.way]
  len := fun _ => rfl
  one := fun x u hu => by
    simp only [List.mem_cons, List.not_mem_nil, or_false] at hu
    rcases hu with rfl | rfl | rfl | rfl | rfl <;> rfl
/-- A slice of just these rows. -/
abbrev RowsIn (B : Nat) (w : World) (a : Option Addr) (l : List Row18) : Prop := Els rowElt 0 B w a l
theorem rows_at18 {A B : Nat} {w : World} {a : Option Addr} {l : List Row18} (h : Els rowElt A B w a l) {i : Nat} (hi : i < l.length) : ∃ b off, a = some ⟨b, off, none⟩ ∧ b < B ∧ w.cell? ⟨b, off + i * 5, none⟩ = some (.int .i64 (rowAt18 l i).g) ∧ w.cell? ⟨b, off + i * 5 + 1, none⟩ = some (.int .i64 (rowAt18 l i).v) ∧ w.cell? ⟨b, off + i * 5 + 2, none⟩ = some (.int .i64 (rowAt18 l i).lo) ∧ w.cell? ⟨b, off + i * 5 + 3, none⟩ = some (.int .i64 (rowAt18 l i).hi) ∧ w.cell? ⟨b, off + i * 5 + 4, none⟩ = some (.int .i64 (rowAt18 l i).way) := by
  obtain ⟨b, off, ha, _, hb, hc⟩ := h.at (rowAt18_get hi)
  exact ⟨b, off, ha, hb, hc 0 _ rfl, by rw [Nat.add_assoc]; exact hc 1 _ rfl, by rw [Nat.add_assoc]; exact hc 2 _ rfl, by rw [Nat.add_assoc]; exact hc 3 _ rfl, by rw [Nat.add_assoc]; exact hc 4 _ rfl⟩
structure Rule18 : Prop where
  row : ∀ (r : Row18) (w : World), Calls Try.prog 56 #[rowVal r] w fun e w' => e = .returned (.int .i64 (rowE r)) ∧ Below w.heap.size w w'
  fact : ∀ (f : Fact18) (w : World), Calls Try.prog 20 #[factVal f] w fun e w' => e = .returned (.int .i64 (factE f)) ∧ Below w.heap.size w w'
  fits : ∀ (r : Row18) (f : Fact18) (w : World), Calls Try.prog 61 #[rowVal r, factVal f] w fun e w' => e = .returned (.bool (matchB r f)) ∧ Below w.heap.size w w'
  check : ∀ (a : Option Addr) (cap : Nat) (l : List Row18) (w : World), l.length ≤ cap → RowsIn w.heap.size w a l → l.length ≤ 1000000 →
    Calls Try.prog 18 #[.slice a l.length cap] w fun e w' => e = .returned (.int .i64 (tabE l)) ∧ Below w.heap.size w w'
  decide : ∀ (a : Option Addr) (cap : Nat) (l : List Row18) (f : Fact18) (w : World), l.length ≤ cap → RowsIn w.heap.size w a l → l.length ≤ 1000000 →
    Calls Try.prog 19 #[.slice a l.length cap, factVal f] w fun e w' => e = .returned (.tuple #[.int .i64 (decWay l f), .int .i64 (decAt l f), .int .i64 (decE l f)]) ∧ Below w.heap.size w w'
  all : ∀ (a : Option Addr) (cap : Nat) (l : List Row18) (f : Fact18) (w : World), l.length ≤ cap → RowsIn w.heap.size w a l → l.length ≤ 1000000 →
    Calls Try.prog 76 #[.slice a l.length cap, factVal f] w fun e w' => ∃ b c, e = .returned (.slice b (fitsV l f).length c) ∧ (fitsV l f).length ≤ c ∧ Ints w'.heap.size w' b (fitsV l f) ∧ Below w.heap.size w w'
theorem rowsIn_step {w w' : World} {a : Option Addr} {l : List Row18} (h : RowsIn w.heap.size w a l) (hb : Below w.heap.size w w') : RowsIn w'.heap.size w' a l := Els.step h hb
/-- A boxed row, and boxed facts. -/
theorem box_row18 (w : World) (r : Row18) (t : TypeId) : (w.alloc (.cells #[.int .i64 r.g, .int .i64 r.v, .int .i64 r.lo, .int .i64 r.hi, .int .i64 r.way] t)).cell? ⟨w.heap.size, 0, none⟩ = some (.int .i64 r.g) ∧ (w.alloc (.cells #[.int .i64 r.g, .int .i64 r.v, .int .i64 r.lo, .int .i64 r.hi, .int .i64 r.way] t)).cell? ⟨w.heap.size, 1, none⟩ = some (.int .i64 r.v) ∧ (w.alloc (.cells #[.int .i64 r.g, .int .i64 r.v, .int .i64 r.lo, .int .i64 r.hi, .int .i64 r.way] t)).cell? ⟨w.heap.size, 2, none⟩ = some (.int .i64 r.lo) ∧ (w.alloc (.cells #[.int .i64 r.g, .int .i64 r.v, .int .i64 r.lo, .int .i64 r.hi, .int .i64 r.way] t)).cell? ⟨w.heap.size, 3, none⟩ = some (.int .i64 r.hi) ∧ (w.alloc (.cells #[.int .i64 r.g, .int .i64 r.v, .int .i64 r.lo, .int .i64 r.hi, .int .i64 r.way] t)).cell? ⟨w.heap.size, 4, none⟩ = some (.int .i64 r.way) :=
  have h := heap_alloc_new w (.cells #[.int .i64 r.g, .int .i64 r.v, .int .i64 r.lo, .int .i64 r.hi, .int .i64 r.way] t)
  ⟨cell_of (j := 0) h rfl, cell_of (j := 1) h rfl, cell_of (j := 2) h rfl, cell_of (j := 3) h rfl, cell_of (j := 4) h rfl⟩
theorem box_fact18 (w : World) (f : Fact18) (t : TypeId) : (w.alloc (.cells #[.int .i64 f.g, .bool f.v, .int .i64 f.n] t)).cell? ⟨w.heap.size, 0, none⟩ = some (.int .i64 f.g) ∧ (w.alloc (.cells #[.int .i64 f.g, .bool f.v, .int .i64 f.n] t)).cell? ⟨w.heap.size, 1, none⟩ = some (.bool f.v) ∧ (w.alloc (.cells #[.int .i64 f.g, .bool f.v, .int .i64 f.n] t)).cell? ⟨w.heap.size, 2, none⟩ = some (.int .i64 f.n) :=
  have h := heap_alloc_new w (.cells #[.int .i64 f.g, .bool f.v, .int .i64 f.n] t)
  ⟨cell_of (j := 0) h rfl, cell_of (j := 1) h rfl, cell_of (j := 2) h rfl⟩
end Go.Proofs.Ytifihejogbcbgaa
