/- An index by value: how it comes in, the law's bound on it, and whether it is the document's pairs. -/
import Derived.Test.YteccahggahpeeaaMIds13
import Derived.Test.YteccahggahpeeaaMRefA14
import Derived.WideShapes
import Derived.Deep.Slices
import Derived.SliceStrings
import Derived.ChangeShapes
import Derived.Deep.CutBlock
import Derived.Deep.DeepCutAuto
namespace Go.Proofs.Yteccahggahpeeaa
open Go.RowKit Go.ChangeShapes

/-- An index's two slices. -/
structure IxV (w : World) (ka : Option Addr) (kc : Nat) (ia : Option Addr) (ic : Nat) (K : List (List UInt8)) (I : List (List Int)) : Prop where
  keys : Txs 0 w.heap.size w ka K
  ids : Lists 0 w.heap.size w ia I
  kcap : K.length ≤ kc
  icap : I.length ≤ ic
theorem IxV.step {w w' : World} {ka : Option Addr} {kc : Nat} {ia : Option Addr} {ic : Nat} {K : List (List UInt8)} {I : List (List Int)} (h : IxV w ka kc ia ic K I) (hb : Below w.heap.size w w') : IxV w' ka kc ia ic K I :=
  ⟨h.keys.step hb, h.ids.step hb, h.kcap, h.icap⟩
abbrev ixVal (ka : Option Addr) (kc : Nat) (ia : Option Addr) (ic : Nat) (K : List (List UInt8)) (I : List (List Int)) : Value := .agg #[.slice ka K.length kc, .slice ia I.length ic]
theorem list_lists {I : Nat → List Int} {n : Nat} : (List.ofFn fun j : Fin n => I j.val).length = n ∧ ∀ j, j < n → numsAt (List.ofFn fun j : Fin n => I j.val) j = I j := by
  refine ⟨by simp, fun j hj => ?_⟩
  unfold numsAt
  rw [List.getD_eq_getElem?_getD, List.getElem?_eq_getElem (by simpa using hj)]
  simp
theorem two_of_cells {cs : List Value} {a b : Value} (hl : cs.length = 2) (h0 : (cs.drop 0).take 1 = [a]) (h1 : (cs.drop 1).take 1 = [b]) : cs = [a, b] := by
  match cs, hl with
  | [_, _], _ => simp at h0 h1; simp [h0, h1]
theorem ix_agg {P : Program} {w : World} {r : Reach} {b0 : Nat} {v : Value} {e : TypeId} {fs : Array Field} (he : P.underlying e = some (.struct fs)) (hv : Value.okWide P w r b0 e v) : ∃ cs : Array Value, v = .agg cs := by
  obtain ⟨cs, h, _⟩ := WideShapes.okWide_struct he hv
  exact ⟨cs, h⟩
/-- An index that came in by value lies in a block of its own. -/
def BoxI (w W : World) (ka : Option Addr) (kc : Nat) (ia : Option Addr) (ic : Nat) (K : List (List UInt8)) (I : List (List Int)) : Prop :=
  Below w.heap.size w W ∧ W.cell? ⟨w.heap.size, 0, none⟩ = some (.slice ka K.length kc) ∧ W.cell? ⟨w.heap.size, 1, none⟩ = some (.slice ia I.length ic)
theorem BoxI.step {w W V : World} {ka : Option Addr} {kc : Nat} {ia : Option Addr} {ic : Nat} {K : List (List UInt8)} {I : List (List Int)} (h : BoxI w W ka kc ia ic K I) (hb : Below W.heap.size W V) : BoxI w V ka kc ia ic K I :=
  have hlt := World.block_lt_of_cell? W _ h.2.1
  ⟨h.1.trans (hb.mono h.1.size), (hb.cell (p := ⟨w.heap.size, 0, none⟩) hlt).trans h.2.1, (hb.cell (p := ⟨w.heap.size, 1, none⟩) hlt).trans h.2.2⟩
/-- The law's bound. -/
def fewX (K : List (List UInt8)) (I : List (List Int)) : Bool := decide (K.length ≤ 100 ∧ I.length ≤ 100 ∧ (∀ j, j < I.length → (numsAt I j).length ≤ 2100) ∧ ∀ j, j < K.length → (rowAt K j).length ≤ 100)
theorem sum_bound : ∀ {I : List (List Int)} {B : Nat}, (∀ j, j < I.length → (numsAt I j).length ≤ B) → sumK I ≤ I.length * B
  | [], _, _ => by simp [sumK]
  | l :: I, B, h => by
    have h1 := h 0 (by simp)
    have h2 := sum_bound (I := I) (B := B) fun j hj => h (j + 1) (by simpa using hj)
    unfold sumK at h2 ⊢
    rw [List.map_cons, List.sum_cons, List.length_cons, Nat.succ_mul]
    have h3 : (numsAt (l :: I) 0).length = l.length := rfl
    omega
theorem few_sum {K : List (List UInt8)} {I : List (List Int)} (h : fewX K I = true) : K.length ≤ 100 ∧ I.length ≤ 100 ∧ sumK I ≤ 210000 := by
  have h := of_decide_eq_true h
  have := sum_bound (B := 2100) h.2.2.1
  exact ⟨h.1, h.2.1, Nat.le_trans this (Nat.mul_le_mul h.2.1 (Nat.le_refl 2100))⟩
end Go.Proofs.Yteccahggahpeeaa
namespace Go.Proofs.Yteccahggahpeeaa
open Go.RowKit

/-- Bounds within which an index is asked. -/
def Small14 (K : List (List UInt8)) (I : List (List Int)) : Prop := K.length ≤ 5000 ∧ I.length ≤ 5000 ∧ sumK I ≤ 600000
def okE (ok : Bool) (E : Int) : Int := if ok = true then E else 40
def okL {α : Type} (ok : Bool) (l : List α) : List α := if ok = true then l else []
/-- What a call that makes an index tells: an index of just these pairs, or what is wrong. -/
def IxOut (w : World) (e : Ending) (w' : World) (E : Int) (l : List Pr) : Prop :=
  ∃ ka kc ia ic K I, e = .returned (.tuple #[ixVal ka kc ia ic K I, .int .i64 E]) ∧ IxV w' ka kc ia ic K I ∧ Lists w.heap.size w'.heap.size w' ia I ∧ Small14 K I ∧ (E = 0 → pairsO K I = true ∧ pairsV K I = l) ∧ (E ≠ 0 → K = []) ∧ Below w.heap.size w w'
theorem few_small {K : List (List UInt8)} {I : List (List Int)} (h : fewX K I = true) : Small14 K I := by
  have := few_sum h
  exact ⟨by omega, by omega, by omega⟩
/-- Where a law's walk is: its index lies boxed, and its slices are there. -/
structure At14 (w W : World) (ka : Option Addr) (kc : Nat) (ia : Option Addr) (ic : Nat) (K : List (List UInt8)) (I : List (List Int)) : Prop where
  box : BoxI w W ka kc ia ic K I
  ix : IxV W ka kc ia ic K I
theorem At14.step {w W V : World} {ka : Option Addr} {kc : Nat} {ia : Option Addr} {ic : Nat} {K : List (List UInt8)} {I : List (List Int)} (h : At14 w W ka kc ia ic K I) (hb : Below W.heap.size W V) : At14 w V ka kc ia ic K I := ⟨h.box.step hb, h.ix.step hb⟩
theorem At14.below {w W : World} {ka : Option Addr} {kc : Nat} {ia : Option Addr} {ic : Nat} {K : List (List UInt8)} {I : List (List Int)} (h : At14 w W ka kc ia ic K I) : Below w.heap.size w W := h.box.1
theorem Prs.step {w w' : World} {a : Option Addr} {l : List Pr} (h : Prs 0 w.heap.size w a l) (hb : Below w.heap.size w w') : Prs 0 w'.heap.size w' a l := Rw.step h hb
end Go.Proofs.Yteccahggahpeeaa
namespace Go.Proofs.Yteccahggahpeeaa
open Go.RowKit

theorem two_cells14 {w : World} {g : Nat} {x y : Value} {t : TypeId} (h : w.heap[g]? = some (.cells #[x, y] t (0, 0))) :
    w.cell? ⟨g, 0, none⟩ = some x ∧ w.cell? ⟨g, 1, none⟩ = some y ∧ w.frozen? ⟨g, 0, none⟩ = false ∧ w.frozen? ⟨g, 1, none⟩ = false :=
  ⟨cell_of (j := 0) h rfl, cell_of (j := 1) h rfl, frozen_of_row w g 0 _ _ h, frozen_of_row w g 1 _ _ h⟩
theorem two_stored14 {w : World} {g : Nat} {x y : Value} {t : TypeId} (h : w.heap[g]? = some (.cells #[x, y] t (0, 0))) (x' y' : Value) :
    ((w.setCell ⟨g, 0, none⟩ x').setCell ⟨g, 1, none⟩ y').heap[g]? = some (.cells #[x', y'] t (0, 0)) := heap_setCell_same _ g 1 _ t y' (heap_setCell_same w g 0 _ t x' h)
theorem two_below14 {B : Nat} {w w' : World} (h : Below B w w') {g : Nat} (hg : B ≤ g) (x y : Value) : Below B w ((w'.setCell ⟨g, 0, none⟩ x).setCell ⟨g, 1, none⟩ y) :=
  (h.setCell (p := ⟨g, 0, none⟩) hg x).setCell (p := ⟨g, 1, none⟩) hg y
theorem cell_off {w : World} {g b o : Nat} (x y : Value) (h : b ≠ g) : ((w.setCell ⟨g, 0, none⟩ x).setCell ⟨g, 1, none⟩ y).cell? ⟨b, o, none⟩ = w.cell? ⟨b, o, none⟩ := by
  rw [World.cell?_setCell_other _ ⟨g, 1, none⟩ ⟨b, o, none⟩ y (fun e => h (by injection e with e1; exact e1.symm)), World.cell?_setCell_other _ ⟨g, 0, none⟩ ⟨b, o, none⟩ x (fun e => h (by injection e with e1; exact e1.symm))]
/-- A block of two slices holds no text and no number. -/
theorem not_there {w : World} {g : Nat} {a1 a2 : Option Addr} {n1 n2 c1 c2 : Nat} {t : TypeId} (hg : w.heap[g]? = some (.cells #[.slice a1 n1 c1, .slice a2 n2 c2] t (0, 0))) {b o : Nat} {u : Value} (hc : w.cell? ⟨b, o, none⟩ = some u) (hu : ∀ a n c, u ≠ .slice a n c) : b ≠ g := by
  rintro rfl
  unfold World.cell? at hc
  rw [hg] at hc
  match o with
  | 0 => simp at hc; exact hu _ _ _ hc.symm
  | 1 => simp at hc; exact hu _ _ _ hc.symm
  | o + 2 => simp at hc
theorem Lists.put {W : World} {ia : Option Addr} {I : List (List Int)} {A g : Nat} {a1 a2 : Option Addr} {n1 n2 c1 c2 : Nat} {t : TypeId} (hn : Lists A W.heap.size W ia I) (hA : g < A) (hg : W.heap[g]? = some (.cells #[.slice a1 n1 c1, .slice a2 n2 c2] t (0, 0))) (x y : Value) :
    Lists A ((W.setCell ⟨g, 0, none⟩ x).setCell ⟨g, 1, none⟩ y).heap.size ((W.setCell ⟨g, 0, none⟩ x).setCell ⟨g, 1, none⟩ y) ia I := by
  have hs : ((W.setCell ⟨g, 0, none⟩ x).setCell ⟨g, 1, none⟩ y).heap.size = W.heap.size := by rw [World.size_setCell, World.size_setCell]
  rcases hn with e | ⟨b, off, ea, h1, h2, hc⟩
  · exact Or.inl e
  · refine Or.inr ⟨b, off, ea, h1, by rw [hs]; exact h2, fun j hj => ?_⟩
    obtain ⟨aj, cj, q1, q2, q3⟩ := hc j hj
    refine ⟨aj, cj, by rw [cell_off x y (by omega)]; exact q1, q2, ?_⟩
    rcases q3 with e | ⟨b', off', ea', h3, hc'⟩
    · exact Or.inl e
    · refine Or.inr ⟨b', off', ea', by rw [hs]; exact h3, fun i hi => ?_⟩
      rw [cell_off x y (not_there hg (hc' i hi) (fun _ _ _ e => by cases e))]
      exact hc' i hi
/-- An index whose lists lie in newer blocks stays, where a variable of two slices is written. -/
theorem IxV.put {W : World} {ka : Option Addr} {kc : Nat} {ia : Option Addr} {ic : Nat} {K : List (List UInt8)} {I : List (List Int)} {A g : Nat} {a1 a2 : Option Addr} {n1 n2 c1 c2 : Nat} {t : TypeId} (h : IxV W ka kc ia ic K I) (hn : Lists A W.heap.size W ia I) (hA : g < A)
    (hg : W.heap[g]? = some (.cells #[.slice a1 n1 c1, .slice a2 n2 c2] t (0, 0))) (x y : Value) : IxV ((W.setCell ⟨g, 0, none⟩ x).setCell ⟨g, 1, none⟩ y) ka kc ia ic K I := by
  have hs : ((W.setCell ⟨g, 0, none⟩ x).setCell ⟨g, 1, none⟩ y).heap.size = W.heap.size := by rw [World.size_setCell, World.size_setCell]
  refine ⟨?_, (hn.put hA hg x y).wide (Nat.zero_le _) (Nat.le_refl _), h.kcap, h.icap⟩
  rcases h.keys with e | ⟨b, off, ea, h1, h2, hc⟩
  · exact Or.inl e
  · refine Or.inr ⟨b, off, ea, h1, by rw [hs]; exact h2, fun j hj => ?_⟩
    rw [cell_off x y (not_there hg (hc j hj) (fun _ _ _ e => by cases e))]
    exact hc j hj
/-- The walk's middle: the boxed index, the pairs, the numbers. -/
structure Mid14 (w W : World) (ka : Option Addr) (kc : Nat) (ia : Option Addr) (ic : Nat) (K : List (List UInt8)) (I : List (List Int)) (pa : Option Addr) (P : List Pr) (b : Option Addr) (ns : List Int) : Prop where
  at14 : At14 w W ka kc ia ic K I
  prs : Prs 0 W.heap.size W pa P
  nums : Ints W.heap.size W b ns
theorem Mid14.step {w W V : World} {ka : Option Addr} {kc : Nat} {ia : Option Addr} {ic : Nat} {K : List (List UInt8)} {I : List (List Int)} {pa : Option Addr} {P : List Pr} {b : Option Addr} {ns : List Int} (h : Mid14 w W ka kc ia ic K I pa P b ns) (hb : Below W.heap.size W V) : Mid14 w V ka kc ia ic K I pa P b ns :=
  ⟨h.at14.step hb, h.prs.step hb, h.nums.step hb⟩
theorem ints_at14 {B : Nat} {w : World} {a : Option Addr} {xs : List Int} (h : Ints B w a xs) {k : Nat} (hk : k < xs.length) : ∃ b off, a = some ⟨b, off, none⟩ ∧ w.cell? ⟨b, off + k, none⟩ = some (.int .i64 (numAt xs k)) := by
  rcases h with h | ⟨b, off, ha, _, hc⟩
  · subst h; simp at hk
  · exact ⟨b, off, ha, hc k hk⟩
theorem below_drew {w W : World} (h : Below w.heap.size w W) : Below w.heap.size w W.drew := h.drew
end Go.Proofs.Yteccahggahpeeaa
