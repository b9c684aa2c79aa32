/- Slices of numbers: what they hold, in plain words. -/
import Derived.Test.YtcllgpblebkpdaaRows
import Derived.WalkKit
import Derived.LoopTactic
import Derived.Outline
import Derived.Below
import Derived.Lib.Hide
import Derived.ChangeShapes
import Derived.OpenShut
namespace Go.Proofs.Ytcllgpblebkpdaa
open Go.RowKit

def numAt (xs : List Int) (k : Nat) : Int := xs.getD k 0
/-- A slice value whose elements are just these numbers; its cells lie below block B. -/
def Ints (B : Nat) (w : World) (a : Option Addr) (xs : List Int) : Prop :=
  xs = [] ∨ ∃ b off, a = some ⟨b, off, none⟩ ∧ b < B ∧ ∀ j, j < xs.length → w.cell? ⟨b, off + j, none⟩ = some (.int .i64 (numAt xs j))
theorem Ints.below {B : Nat} {w w' : World} {a : Option Addr} {xs : List Int} (h : Ints B w a xs) (hb : Below B w w') : Ints B w' a xs := by
  rcases h with h | ⟨b, off, ha, hB, hc⟩
  · exact Or.inl h
  · exact Or.inr ⟨b, off, ha, hB, fun j hj => (hb.cell (p := ⟨b, off + j, none⟩) hB).trans (hc j hj)⟩
theorem Ints.up {B B' : Nat} {w : World} {a : Option Addr} {xs : List Int} (h : Ints B w a xs) (hB : B ≤ B') : Ints B' w a xs := by
  rcases h with h | ⟨b, off, ha, hb, hc⟩
  · exact Or.inl h
  · exact Or.inr ⟨b, off, ha, by omega, hc⟩
theorem drop_at (xs : List Int) (k : Nat) (h : k < xs.length) : xs.drop k = numAt xs k :: xs.drop (k + 1) := by
  rw [List.drop_eq_getElem_cons h]
  unfold numAt
  rw [List.getD_eq_getElem?_getD, List.getElem?_eq_getElem h]; rfl
theorem take_more (l : List Int) (k : Nat) (h : k < l.length) : l.take (k + 1) = l.take k ++ [numAt l k] := by
  rw [List.take_add_one, List.getElem?_eq_getElem h]
  unfold numAt
  rw [List.getD_eq_getElem?_getD, List.getElem?_eq_getElem h]; rfl
theorem num_mem (l : List Int) (k : Nat) (h : k < l.length) : numAt l k ∈ l := by
  unfold numAt
  rw [List.getD_eq_getElem?_getD, List.getElem?_eq_getElem h]
  exact List.getElem_mem h
theorem num_map (f : Nat → Int) (n i : Nat) (h : i < n) : numAt ((List.range n).map f) i = f i := by
  unfold numAt
  rw [List.getD_eq_getElem?_getD]
  simp [h]
theorem num_ext {xs ys : List Int} (h : xs.length = ys.length) (h2 : ∀ i, i < xs.length → numAt xs i = numAt ys i) : xs = ys := by
  refine List.ext_getElem h fun i h1 h3 => ?_
  have := h2 i h1
  unfold numAt at this
  rw [List.getD_eq_getElem?_getD, List.getD_eq_getElem?_getD, List.getElem?_eq_getElem h1, List.getElem?_eq_getElem h3] at this
  exact this

/-- As Ints, the row lying from block A on. -/
def IntsNew (A B : Nat) (w : World) (a : Option Addr) (xs : List Int) : Prop :=
  xs = [] ∨ ∃ b off, a = some ⟨b, off, none⟩ ∧ A ≤ b ∧ b < B ∧ ∀ j, j < xs.length → w.cell? ⟨b, off + j, none⟩ = some (.int .i64 (numAt xs j))
theorem IntsNew.ints {A B : Nat} {w : World} {a : Option Addr} {xs : List Int} (h : IntsNew A B w a xs) : Ints B w a xs := by
  rcases h with h | ⟨b, off, ha, _, hB, hc⟩
  · exact Or.inl h
  · exact Or.inr ⟨b, off, ha, hB, hc⟩
theorem IntsNew.below {A B : Nat} {w w' : World} {a : Option Addr} {xs : List Int} (h : IntsNew A B w a xs) (hb : Below B w w') : IntsNew A B w' a xs := by
  rcases h with h | ⟨b, off, ha, hA, hB, hc⟩
  · exact Or.inl h
  · exact Or.inr ⟨b, off, ha, hA, hB, fun j hj => (hb.cell (p := ⟨b, off + j, none⟩) hB).trans (hc j hj)⟩
theorem IntsNew.wide {A A' B B' : Nat} {w : World} {a : Option Addr} {xs : List Int} (h : IntsNew A B w a xs) (hA : A' ≤ A) (hB : B ≤ B') : IntsNew A' B' w a xs := by
  rcases h with h | ⟨b, off, ha, h1, h2, hc⟩
  · exact Or.inl h
  · exact Or.inr ⟨b, off, ha, by omega, by omega, hc⟩
theorem IntsNew.step {A : Nat} {w w' : World} {a : Option Addr} {xs : List Int} (h : IntsNew A w.heap.size w a xs) (b : Below w.heap.size w w') : IntsNew A w'.heap.size w' a xs := (h.below b).wide (Nat.le_refl _) b.size
/-- A store into an older block. -/
theorem IntsNew.set {A : Nat} {w : World} {a : Option Addr} {xs : List Int} (h : IntsNew A w.heap.size w a xs) {p : Addr} (hp : p.block < A) (u : Value) : IntsNew A (w.setCell p u).heap.size (w.setCell p u) a xs := by
  rcases h with h | ⟨b, off, ha, hA, hB, hc⟩
  · exact Or.inl h
  · refine Or.inr ⟨b, off, ha, hA, by rw [World.size_setCell]; exact hB, fun j hj => ?_⟩
    rw [World.cell?_setCell_other w p ⟨b, off + j, none⟩ u (fun e => by subst e; simp at hp; omega)]
    exact hc j hj

/-- A slice of numbers that came in, read as the form reads it. -/
theorem ints_of {H : Type} {enc : TypeId × Value → H} {base : Nat} {held : Bool} {t e : TypeId} {fuel : Nat} {a : Option Addr} {len cap : Nat} {W : World} {x : DataW H × List MemPlace} (ht : Try.prog.underlying t = some (.slice e)) (he : Try.prog.underlying e = some (.int .i64)) (hc : Try.prog.cellsOf e = 1)
    (h : DataW.trod enc Try.prog W base (fun _ => true) held fuel t (Value.slice a len cap).cells.toList = some x) :
    ∃ xs : List Int, xs.length = len ∧ xs.length ≤ maxLen ∧ Ints W.heap.size W a xs ∧ ∀ n ∈ xs, (Lit.int .i64 n).wf = true := by
  rcases ChangeShapes.open_ints ht he hc h with ⟨hcs, _⟩ | ⟨y, l, c, zs, hcs, _, hl, hm, hz, _, hcell, hwz⟩
  · simp [Value.cells] at hcs
    obtain ⟨rfl, rfl, rfl⟩ := hcs
    exact ⟨[], rfl, by simp, Or.inl rfl, by simp⟩
  · simp [Value.cells] at hcs
    obtain ⟨rfl, rfl, rfl⟩ := hcs
    have hss : zs.length = cap := by simpa using hz
    refine ⟨zs.take len, by simp; omega, by simp; omega, ?_, fun n hn => hwz n (List.mem_of_mem_take hn)⟩
    rcases Nat.eq_zero_or_pos len with h0 | h0
    · subst h0; exact Or.inl (by simp)
    · obtain ⟨b, off, spot⟩ := y
      have hc0 := hcell 0 (by omega)
      have hspot : spot = none := by simpa [Addr.add] using World.cell?_spot hc0
      subst hspot
      refine Or.inr ⟨b, off, rfl, ?_, fun j hj => ?_⟩
      · rcases Nat.lt_or_ge b W.heap.size with h' | h'
        · exact h'
        · rw [World.cell?] at hc0
          simp [Addr.add, Array.getElem?_eq_none h'] at hc0
      · have hj' : j < len := by simp at hj; omega
        have h1 := hcell j (by omega)
        have e1 : numAt (zs.take len) j = zs.getD j 0 := by
          unfold numAt
          simp [List.getD_eq_getElem?_getD, hj']
        rw [e1, ← h1]
        rcases Nat.eq_zero_or_pos j with hj0 | hj0
        · subst hj0; simp [Addr.add]
        · simp [Addr.add, Nat.ne_of_gt hj0]

theorem Ints.step {w w' : World} {a : Option Addr} {xs : List Int} (h : Ints w.heap.size w a xs) (b : Below w.heap.size w w') : Ints w'.heap.size w' a xs := (h.below b).up b.size
theorem Ints.lit {w : World} {a : Option Addr} {xs : List Int} (h : Ints w.heap.size w a xs) (o : Obj) : Ints (w.alloc o).heap.size (w.alloc o) a xs := h.step ((Below.refl _ w).alloc (Nat.le_refl _) o)
theorem lit_cell (w : World) (cs : Array Value) (t : TypeId) (j : Nat) (v : Value) (h : cs[j]? = some v) : (w.alloc (.cells cs t)).cell? ⟨w.heap.size, 0 + j, none⟩ = some v := by
  rw [Nat.zero_add]
  show World.cell? _ _ = _
  unfold World.cell?
  rw [heap_alloc_new]
  exact h
theorem lit_one (w : World) (x : Int) (t : TypeId) : Ints (w.alloc (.cells #[.int .i64 x] t)).heap.size (w.alloc (.cells #[.int .i64 x] t)) (some ⟨w.heap.size, 0, none⟩) [x] := by
  refine Or.inr ⟨w.heap.size, 0, rfl, by simp, fun j hj => lit_cell w _ t j _ ?_⟩
  match j, hj with
  | 0, _ => rfl
theorem lit_two (w : World) (x y : Int) (t : TypeId) : Ints (w.alloc (.cells #[.int .i64 x, .int .i64 y] t)).heap.size (w.alloc (.cells #[.int .i64 x, .int .i64 y] t)) (some ⟨w.heap.size, 0, none⟩) [x, y] := by
  refine Or.inr ⟨w.heap.size, 0, rfl, by simp, fun j hj => lit_cell w _ t j _ ?_⟩
  match j, hj with
  | 0, _ => rfl
  | 1, _ => rfl
theorem lit_three (w : World) (x y z : Int) (t : TypeId) : Ints (w.alloc (.cells #[.int .i64 x, .int .i64 y, .int .i64 z] t)).heap.size (w.alloc (.cells #[.int .i64 x, .int .i64 y, .int .i64 z] t)) (some ⟨w.heap.size, 0, none⟩) [x, y, z] := by
  refine Or.inr ⟨w.heap.size, 0, rfl, by simp, fun j hj => lit_cell w _ t j _ ?_⟩
  match j, hj with
  | 0, _ => rfl
  | 1, _ => rfl
  | 2, _ => rfl
theorem lit_four (w : World) (x y z u : Int) (t : TypeId) : Ints (w.alloc (.cells #[.int .i64 x, .int .i64 y, .int .i64 z, .int .i64 u] t)).heap.size (w.alloc (.cells #[.int .i64 x, .int .i64 y, .int .i64 z, .int .i64 u] t)) (some ⟨w.heap.size, 0, none⟩) [x, y, z, u] := by
  refine Or.inr ⟨w.heap.size, 0, rfl, by simp, fun j hj => lit_cell w _ t j _ ?_⟩
  match j, hj with
  | 0, _ => rfl
  | 1, _ => rfl
  | 2, _ => rfl
  | 3, _ => rfl
end Go.Proofs.Ytcllgpblebkpdaa
