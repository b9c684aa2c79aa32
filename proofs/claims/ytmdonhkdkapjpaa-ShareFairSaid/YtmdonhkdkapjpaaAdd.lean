/- Rows of numbers that come in, and the document's own Add, for every row of numbers and in every world. -/
import Derived.Test.YtmdonhkdkapjpaaQuo
import Derived.ChangeShapes
import Derived.OpenShut
namespace Go.Proofs.Ytmdonhkdkapjpaa
open Go.RowKit

def numAt (xs : List Int) (k : Nat) : Int := xs.getD k 0
/-- A slice value whose elements are just these numbers; its cells lie below block B. -/
def Ints (B : Nat) (w : World) (a : Option Addr) (xs : List Int) : Prop :=
  xs = [] ∨ ∃ b off, a = some ⟨b, off, none⟩ ∧ b < B ∧ ∀ j, j < xs.length → w.cell? ⟨b, off + j, none⟩ = some (.int .i64 (numAt xs j))
theorem Ints.below {B : Nat} {w w' : World} {a : Option Addr} {xs : List Int} (h : Ints B w a xs) (hb : Below B w w') : Ints B w' a xs := by
  rcases h with h | ⟨b, off, ha, hB, hc⟩
  · exact Or.inl h
  · exact Or.inr ⟨b, off, ha, hB, fun j hj => (hb.cell (p := ⟨b, off + j, none⟩) hB).trans (hc j hj)⟩
theorem Ints.up {B B' : Nat} {w : World} {a : Option Addr} {xs : List Int} (h : Ints B w a xs) (hB : B ≤ B') : Ints B' w a xs := by
  rcases h with h | ⟨b, off, ha, hb, hc⟩
  · exact Or.inl h
  · exact Or.inr ⟨b, off, ha, by omega, hc⟩

def addFrom (n : Int) : List Int → Option Int
  | [] => some n
  | x :: l => if inB x && inB (n + x) then addFrom (n + x) l else none
def addV (xs : List Int) : Int := (addFrom 0 xs).getD 0
def addE (xs : List Int) : Int := if (addFrom 0 xs).isSome then 0 else 8
theorem drop_at (xs : List Int) (k : Nat) (h : k < xs.length) : xs.drop k = numAt xs k :: xs.drop (k + 1) := by
  rw [List.drop_eq_getElem_cons h]
  unfold numAt
  rw [List.getD_eq_getElem?_getD, List.getElem?_eq_getElem h]; rfl
theorem add_stop {xs : List Int} {k : Nat} {n : Int} (h : k < xs.length) (hr : addFrom n (xs.drop k) = addFrom 0 xs) (hs : (inB (numAt xs k) && inB (n + numAt xs k)) = false) : addV xs = 0 ∧ addE xs = 8 := by
  rw [drop_at xs k h] at hr
  simp only [addFrom, hs] at hr
  unfold addV addE; rw [← hr]; exact ⟨rfl, rfl⟩
theorem add_go {xs : List Int} {k : Nat} {n : Int} (h : k < xs.length) (hr : addFrom n (xs.drop k) = addFrom 0 xs) (hs : (inB (numAt xs k) && inB (n + numAt xs k)) = true) : addFrom (n + numAt xs k) (xs.drop (k + 1)) = addFrom 0 xs := by
  rw [drop_at xs k h] at hr
  simp only [addFrom, hs] at hr
  exact hr
theorem add_end {xs : List Int} {n : Int} (hr : addFrom n (xs.drop xs.length) = addFrom 0 xs) : addV xs = n ∧ addE xs = 0 := by
  rw [List.drop_length] at hr
  unfold addV addE; rw [← hr]; exact ⟨rfl, rfl⟩

/-- A slice of numbers that came in, read as the form reads it. -/
theorem ints_of {H : Type} {enc : TypeId × Value → H} {base : Nat} {held : Bool} {t e : TypeId} {fuel : Nat} {a : Option Addr} {len cap : Nat} {W : World} {x : DataW H × List MemPlace} (ht : Try.prog.underlying t = some (.slice e)) (he : Try.prog.underlying e = some (.int .i64)) (hc : Try.prog.cellsOf e = 1)
    (h : DataW.trod enc Try.prog W base (fun _ => true) held fuel t (Value.slice a len cap).cells.toList = some x) :
    ∃ xs : List Int, xs.length = len ∧ xs.length ≤ maxLen ∧ Ints W.heap.size W a xs ∧ ∀ n ∈ xs, (Lit.int .i64 n).wf = true := by
  rcases ChangeShapes.open_ints ht he hc h with ⟨hcs, _⟩ | ⟨y, l, c, zs, hcs, _, hl, hm, hz, _, hcell, hwz⟩
  · simp [Value.cells] at hcs
    obtain ⟨rfl, rfl, rfl⟩ := hcs
    exact ⟨[], rfl, by simp, Or.inl rfl, by simp⟩
  · simp [Value.cells] at hcs
    obtain ⟨rfl, rfl, rfl⟩ := hcs
    have hss : zs.length = cap := by simpa using hz
    refine ⟨zs.take len, by simp; omega, by simp; omega, ?_, fun n hn => hwz n (List.mem_of_mem_take hn)⟩
    rcases Nat.eq_zero_or_pos len with h0 | h0
    · subst h0; exact Or.inl (by simp)
    · obtain ⟨b, off, spot⟩ := y
      have hc0 := hcell 0 (by omega)
      have hspot : spot = none := by simpa [Addr.add] using World.cell?_spot hc0
      subst hspot
      refine Or.inr ⟨b, off, rfl, ?_, fun j hj => ?_⟩
      · rcases Nat.lt_or_ge b W.heap.size with h' | h'
        · exact h'
        · rw [World.cell?] at hc0
          simp [Addr.add, Array.getElem?_eq_none h'] at hc0
      · have hj' : j < len := by simp at hj; omega
        have h1 := hcell j (by omega)
        have e1 : numAt (zs.take len) j = zs.getD j 0 := by
          unfold numAt
          simp [List.getD_eq_getElem?_getD, hj']
        rw [e1, ← h1]
        rcases Nat.eq_zero_or_pos j with hj0 | hj0
        · subst hj0; simp [Addr.add]
        · simp [Addr.add, Nat.ne_of_gt hj0]
end Go.Proofs.Ytmdonhkdkapjpaa
