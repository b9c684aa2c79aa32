/- Rows of texts of the call's own, said by their lists of bytes: appended to, read, cut short, and two of them compared by the document's own SameTexts. -/
import Derived.Test.YtkefbgjbgblalaaOwn
import Derived.Test.YtkefbgjbgblalaaCells
import Derived.Test.YtkefbgjbgblalaaCuts
import Derived.Deep.QuietTactic
import Derived.BigQuiet
namespace Go.Proofs.Ytkefbgjbgblalaa
open Go.RowKit

def tx (l : List UInt8) : ByteArray := ⟨l.toArray⟩
theorem tx_list (l : List UInt8) : (tx l).data.toList = l := by unfold tx; simp
theorem tx_of {t : ByteArray} {l : List UInt8} (h : t.data.toList = l) : t = tx l := text_eq (h.trans (tx_list l).symm)
theorem tx_size (l : List UInt8) : (tx l).size = l.length := by rw [← text_size, tx_list]
def rowAt (xs : List (List UInt8)) (j : Nat) : List UInt8 := xs.getD j []
def txCells (xs : List (List UInt8)) : List Value := xs.map fun x => .string (tx x)
theorem infoTx : (Try.prog.info? 9).map (fun i => (i.zero, i.size, i.bytes)) = some (some (.string ⟨#[]⟩), 1, 16) := by kernel_rfl
theorem txCells_at (l : List (List UInt8)) (j : Nat) (hj : j < l.length) : (txCells l)[j]? = some (.string (tx (rowAt l j))) := by
  unfold txCells rowAt
  rw [List.getElem?_map, List.getElem?_eq_getElem hj, List.getD_eq_getElem?_getD, List.getElem?_eq_getElem hj]
  rfl
theorem txCells_more (l : List (List UInt8)) (x : List UInt8) : txCells l ++ [.string (tx x)] = txCells (l ++ [x]) := by unfold txCells; simp
theorem txCells_len (l : List (List UInt8)) : (txCells l).length = l.length := by unfold txCells; simp
theorem rowAt_left (l m : List (List UInt8)) (j : Nat) (hj : j < l.length) : rowAt (l ++ m) j = rowAt l j := by
  unfold rowAt
  rw [List.getD_eq_getElem?_getD, List.getD_eq_getElem?_getD, List.getElem?_append_left hj]
theorem rowAt_last (l : List (List UInt8)) (x : List UInt8) : rowAt (l ++ [x]) l.length = x := by
  unfold rowAt
  rw [List.getD_eq_getElem?_getD, List.getElem?_append_right (Nat.le_refl _), Nat.sub_self]
  rfl
/-- A slice of just these texts, its row lying from block A on and below block B. -/
def Txs (A B : Nat) (w : World) (a : Option Addr) (xs : List (List UInt8)) : Prop :=
  xs = [] ∨ ∃ b off, a = some ⟨b, off, none⟩ ∧ A ≤ b ∧ b < B ∧ ∀ j, j < xs.length → w.cell? ⟨b, off + j, none⟩ = some (.string (tx (rowAt xs j)))
theorem Txs.below {A B : Nat} {w w' : World} {a : Option Addr} {xs : List (List UInt8)} (h : Txs A B w a xs) (hb : Below B w w') : Txs A B w' a xs := by
  rcases h with h | ⟨b, off, ha, hA, hB, hc⟩
  · exact Or.inl h
  · exact Or.inr ⟨b, off, ha, hA, hB, fun j hj => (hb.cell (p := ⟨b, off + j, none⟩) hB).trans (hc j hj)⟩
theorem Txs.wide {A A' B B' : Nat} {w : World} {a : Option Addr} {xs : List (List UInt8)} (h : Txs A B w a xs) (hA : A' ≤ A) (hB : B ≤ B') : Txs A' B' w a xs := by
  rcases h with h | ⟨b, off, ha, h1, h2, hc⟩
  · exact Or.inl h
  · exact Or.inr ⟨b, off, ha, by omega, by omega, hc⟩
theorem Txs.step {A : Nat} {w w' : World} {a : Option Addr} {xs : List (List UInt8)} (h : Txs A w.heap.size w a xs) (b : Below w.heap.size w w') : Txs A w'.heap.size w' a xs := (h.below b).wide (Nat.le_refl _) b.size
/-- The slice cut short. -/
theorem Txs.short {A B : Nat} {w : World} {a : Option Addr} {xs ys : List (List UInt8)} (h : Txs A B w a (xs ++ ys)) : Txs A B w a xs := by
  rcases h with h | ⟨b, off, ha, h1, h2, hc⟩
  · exact Or.inl (List.append_eq_nil_iff.1 h).1
  · exact Or.inr ⟨b, off, ha, h1, h2, fun j hj => by rw [hc j (by rw [List.length_append]; omega), rowAt_left _ _ _ hj]⟩
theorem txs_own {w : World} {B : Nat} {v : Value} {l : List (List UInt8)} (h : w.ownsRow B 9 1 v l.length (txCells l)) : ∃ a cap, v = .slice a l.length cap ∧ l.length ≤ cap ∧ Txs B w.heap.size w a l := by
  have h2 := h.2
  rcases h2 with ⟨rfl, h0⟩ | ⟨g, cap, cur, rfl, _, _, hcap, _⟩
  · exact ⟨none, 0, by rw [h0], by omega, Or.inl (List.length_eq_zero_iff.1 h0)⟩
  · refine ⟨_, cap, rfl, hcap, Or.inr ⟨g, 0, rfl, (h.lt g rfl).1, (h.lt g rfl).2, fun j hj => ?_⟩⟩
    have hc := h.cells (g := g) rfl j _ (txCells_at l j hj)
    rcases Nat.eq_zero_or_pos j with hj0 | hj0
    · subst hj0; simpa [Addr.add] using hc
    · simpa [Addr.add, Nat.ne_of_gt hj0] using hc
end Go.Proofs.Ytkefbgjbgblalaa
