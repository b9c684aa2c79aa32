/- Decision tables in plain words: rows, facts, what fits, who decides. -/
import Derived.Test.YtifihejogbcbgaaInts
namespace Go.Proofs.Ytifihejogbcbgaa

structure Row18 where
  g : Int
  v : Int
  lo : Int
  hi : Int
  way : Int
structure Fact18 where
  g : Int
  v : Bool
  n : Int
def RowOk (r : Row18) : Prop := 1 ≤ r.g ∧ r.g ≤ 15 ∧ 1 ≤ r.v ∧ r.v ≤ 3 ∧ 0 ≤ r.lo ∧ r.lo ≤ r.hi ∧ r.hi ≤ 1000000000000 ∧ 1 ≤ r.way ∧ r.way ≤ 5
instance (r : Row18) : Decidable (RowOk r) := by unfold RowOk; infer_instance
def rowE (r : Row18) : Int := if RowOk r then 0 else 36
theorem row_yes {r : Row18} (h : RowOk r) : rowE r = 0 := if_pos h
theorem row_no {r : Row18} (h : ¬ RowOk r) : rowE r = 36 := if_neg h
def FactOk (f : Fact18) : Prop := 0 ≤ f.g ∧ f.g ≤ 3 ∧ 0 ≤ f.n ∧ f.n ≤ 1000000000000
instance (f : Fact18) : Decidable (FactOk f) := by unfold FactOk; infer_instance
def factE (f : Fact18) : Int := if FactOk f then 0 else 2
theorem fact_yes {f : Fact18} (h : FactOk f) : factE f = 0 := if_pos h
theorem fact_no {f : Fact18} (h : ¬ FactOk f) : factE f = 2 := if_neg h
/-- Bit k of a number. -/
def bitB (n k : Int) : Bool := n.toNat.testBit k.toNat
def warN (f : Fact18) : Int := if f.v = true then 1 else 0
def hitB (r : Row18) (f : Fact18) : Bool := bitB r.g f.g && (bitB r.v (warN f) && (decide (r.lo ≤ f.n) && decide (f.n ≤ r.hi)))
def matchB (r : Row18) (f : Fact18) : Bool := decide (RowOk r) && (decide (FactOk f) && hitB r f)
theorem match_in {r : Row18} {f : Fact18} (h : RowOk r) (h2 : FactOk f) : matchB r f = hitB r f := by unfold matchB; rw [decide_eq_true h, decide_eq_true h2]; rfl
theorem match_row {r : Row18} {f : Fact18} (h : ¬ RowOk r) : matchB r f = false := by unfold matchB; rw [decide_eq_false h]; rfl
theorem match_fact {r : Row18} {f : Fact18} (h : ¬ FactOk f) : matchB r f = false := by unfold matchB; rw [decide_eq_false h, Bool.false_and, Bool.and_false]
def rowAt18 (l : List Row18) (j : Nat) : Row18 := l.getD j ⟨0, 0, 0, 0, 0⟩
theorem rowAt18_get {l : List Row18} {j : Nat} (h : j < l.length) : l[j]? = some (rowAt18 l j) := by
  unfold rowAt18; rw [List.getElem?_eq_getElem h, List.getD_eq_getElem?_getD, List.getElem?_eq_getElem h]; rfl
theorem rowAt18_elem {l : List Row18} {j : Nat} (h : j < l.length) : l[j] = rowAt18 l j := by
  have := rowAt18_get h
  rw [List.getElem?_eq_getElem h] at this
  exact Option.some.inj this
def TabOk (l : List Row18) : Prop := 0 < l.length ∧ l.length ≤ 20 ∧ ∀ j, j < l.length → RowOk (rowAt18 l j)
instance (l : List Row18) : Decidable (TabOk l) := by unfold TabOk; infer_instance
def tabE (l : List Row18) : Int := if TabOk l then 0 else 36
theorem tab_yes {l : List Row18} (h : TabOk l) : tabE l = 0 := if_pos h
theorem tab_no {l : List Row18} (h : ¬ TabOk l) : tabE l = 36 := if_neg h
theorem tab_iff {l : List Row18} : tabE l = 0 ↔ TabOk l := by
  by_cases h : TabOk l
  · exact ⟨fun _ => h, fun _ => tab_yes h⟩
  · refine ⟨fun q => ?_, fun q => absurd q h⟩
    rw [tab_no h] at q
    cases q
theorem fact_iff {f : Fact18} : factE f = 0 ↔ FactOk f := by
  by_cases h : FactOk f
  · exact ⟨fun _ => h, fun _ => fact_yes h⟩
  · refine ⟨fun q => ?_, fun q => absurd q h⟩
    rw [fact_no h] at q
    cases q
theorem tab_mem {l : List Row18} (h : TabOk l) {r : Row18} (hr : r ∈ l) : RowOk r := by
  obtain ⟨j, hj, rfl⟩ := List.getElem_of_mem hr
  rw [rowAt18_elem hj]
  exact h.2.2 j hj
theorem tab_of {l : List Row18} (h0 : 0 < l.length) (h1 : l.length ≤ 20) (h : ∀ r, r ∈ l → RowOk r) : TabOk l := ⟨h0, h1, fun j hj => by rw [← rowAt18_elem hj]; exact h _ (List.getElem_mem hj)⟩
/-- The numbers of the first k rows that fit. -/
def fitsTo (l : List Row18) (f : Fact18) : Nat → List Int
  | 0 => []
  | k + 1 => if matchB (rowAt18 l k) f = true then fitsTo l f k ++ [(k : Int)] else fitsTo l f k
def fitsV (l : List Row18) (f : Fact18) : List Int := if TabOk l then fitsTo l f l.length else []
theorem fits_len (l : List Row18) (f : Fact18) (k : Nat) : (fitsTo l f k).length ≤ k := by
  induction k with
  | zero => exact Nat.le_refl _
  | succ k ih => rw [fitsTo]; split
                 · rw [List.length_append]; simp; omega
                 · omega
theorem fits_fact {l : List Row18} {f : Fact18} (h : ¬ FactOk f) (k : Nat) : fitsTo l f k = [] := by
  induction k with
  | zero => rfl
  | succ k ih => rw [fitsTo, match_fact h, if_neg (by simp), ih]
/-- The first of the first k rows that fits. -/
def firstTo (l : List Row18) (f : Fact18) : Nat → Option Nat
  | 0 => none
  | k + 1 => match firstTo l f k with
    | some i => some i
    | none => if matchB (rowAt18 l k) f = true then some k else none
theorem first_fits (l : List Row18) (f : Fact18) (k : Nat) : (firstTo l f k = none ∧ fitsTo l f k = []) ∨ ∃ i t, firstTo l f k = some i ∧ i < k ∧ matchB (rowAt18 l i) f = true ∧ fitsTo l f k = (i : Int) :: t := by
  induction k with
  | zero => exact Or.inl ⟨rfl, rfl⟩
  | succ k ih =>
    rcases ih with ⟨h1, h2⟩ | ⟨i, t, h1, h2, h3, h4⟩
    · by_cases hm : matchB (rowAt18 l k) f = true
      · exact Or.inr ⟨k, [], by rw [firstTo, h1]; exact if_pos hm, by omega, hm, by rw [fitsTo, if_pos hm, h2]; rfl⟩
      · exact Or.inl ⟨by rw [firstTo, h1]; exact if_neg hm, by rw [fitsTo, if_neg hm, h2]⟩
    · refine Or.inr ⟨i, if matchB (rowAt18 l k) f = true then t ++ [(k : Int)] else t, by rw [firstTo, h1], by omega, h3, ?_⟩
      rw [fitsTo, h4]
      split <;> rfl
theorem first_none {l : List Row18} {f : Fact18} {k : Nat} (h : firstTo l f k = none) : ∀ j, j < k → matchB (rowAt18 l j) f = false := by
  induction k with
  | zero => intro j hj; omega
  | succ k ih =>
    rw [firstTo] at h
    cases hq : firstTo l f k with
    | some i => rw [hq] at h; cases h
    | none =>
      rw [hq] at h
      simp only at h
      intro j hj
      rcases (by omega : j < k ∨ j = k) with q | q
      · exact ih hq j q
      · rw [q]; revert h; cases matchB (rowAt18 l k) f <;> simp
theorem first_some {l : List Row18} {f : Fact18} {k i : Nat} (h : firstTo l f k = some i) : i < k ∧ matchB (rowAt18 l i) f = true ∧ ∀ j, j < i → matchB (rowAt18 l j) f = false := by
  induction k with
  | zero => cases h
  | succ k ih =>
    rw [firstTo] at h
    cases hq : firstTo l f k with
    | some i2 =>
      rw [hq] at h
      have e : i2 = i := Option.some.inj h
      rw [e] at hq
      have := ih hq
      exact ⟨by omega, this.2⟩
    | none =>
      rw [hq] at h
      simp only at h
      by_cases hm : matchB (rowAt18 l k) f = true
      · rw [if_pos hm] at h
        have e : k = i := Option.some.inj h
        subst e
        exact ⟨by omega, hm, first_none hq⟩
      · rw [if_neg hm] at h; cases h
theorem first_is {l : List Row18} {f : Fact18} {k i : Nat} (h1 : i < k) (h2 : matchB (rowAt18 l i) f = true) (h3 : ∀ j, j < i → matchB (rowAt18 l j) f = false) : firstTo l f k = some i := by
  cases hq : firstTo l f k with
  | none => have := first_none hq i h1; rw [h2] at this; cases this
  | some i2 =>
    have h := first_some hq
    rcases Nat.lt_trichotomy i2 i with q | q | q
    · have := h3 i2 q; rw [h.2.1] at this; cases this
    · rw [q]
    · have := h.2.2 i q; rw [h2] at this; cases this
def decE (l : List Row18) (f : Fact18) : Int := if TabOk l then if FactOk f then if firstTo l f l.length = none then 36 else 0 else 2 else 36
def decI (l : List Row18) (f : Fact18) : Option Nat := if TabOk l ∧ FactOk f then firstTo l f l.length else none
def decAt (l : List Row18) (f : Fact18) : Int := match decI l f with
  | some i => (i : Int)
  | none => 0
def decWay (l : List Row18) (f : Fact18) : Int := match decI l f with
  | some i => (rowAt18 l i).way
  | none => 0
theorem dec_no {l : List Row18} {f : Fact18} (h : ¬ TabOk l) : decE l f = 36 ∧ decAt l f = 0 ∧ decWay l f = 0 := by
  have e : decI l f = none := if_neg fun q => h q.1
  exact ⟨if_neg h, by rw [decAt, e], by rw [decWay, e]⟩
theorem dec_fact {l : List Row18} {f : Fact18} (h : TabOk l) (h2 : ¬ FactOk f) : decE l f = 2 ∧ decAt l f = 0 ∧ decWay l f = 0 := by
  have e : decI l f = none := if_neg fun q => h2 q.2
  exact ⟨by rw [decE, if_pos h, if_neg h2], by rw [decAt, e], by rw [decWay, e]⟩
theorem dec_none {l : List Row18} {f : Fact18} (h : TabOk l) (h2 : FactOk f) (h3 : firstTo l f l.length = none) : decE l f = 36 ∧ decAt l f = 0 ∧ decWay l f = 0 := by
  have e : decI l f = none := by rw [decI, if_pos ⟨h, h2⟩, h3]
  exact ⟨by rw [decE, if_pos h, if_pos h2, if_pos h3], by rw [decAt, e], by rw [decWay, e]⟩
theorem dec_some {l : List Row18} {f : Fact18} {i : Nat} (h : TabOk l) (h2 : FactOk f) (h3 : firstTo l f l.length = some i) : decE l f = 0 ∧ decAt l f = i ∧ decWay l f = (rowAt18 l i).way := by
  have e : decI l f = some i := by rw [decI, if_pos ⟨h, h2⟩, h3]
  exact ⟨by rw [decE, if_pos h, if_pos h2, if_neg (by rw [h3]; simp)], by rw [decAt, e], by rw [decWay, e]⟩
theorem dec_zero {l : List Row18} {f : Fact18} (h : decE l f = 0) : TabOk l ∧ FactOk f ∧ ∃ i, firstTo l f l.length = some i := by
  by_cases q : TabOk l
  · by_cases q2 : FactOk f
    · cases q3 : firstTo l f l.length with
      | none => rw [(dec_none q q2 q3).1] at h; cases h
      | some i => exact ⟨q, q2, i, rfl⟩
    · rw [(dec_fact q q2).1] at h; cases h
  · rw [(dec_no q).1] at h; cases h
/-- A longer list's rows. -/
theorem rowAt18_take {l : List Row18} {k j : Nat} (h : j < k) : rowAt18 (l.take k) j = rowAt18 l j := by
  unfold rowAt18
  rw [List.getD_eq_getElem?_getD, List.getD_eq_getElem?_getD, List.getElem?_take, if_pos h]
/-- Rows behind the one that decides play no part. -/
theorem dec_take {l : List Row18} {f : Fact18} {i : Nat} (h : TabOk l) (h2 : FactOk f) (h3 : firstTo l f l.length = some i) : decE (l.take (i + 1)) f = 0 ∧ decAt (l.take (i + 1)) f = i ∧ decWay (l.take (i + 1)) f = (rowAt18 l i).way := by
  have hs := first_some h3
  have hlen : (l.take (i + 1)).length = i + 1 := by rw [List.length_take]; omega
  have ht : TabOk (l.take (i + 1)) := ⟨by omega, by have := h.2.1; omega, fun j hj => by rw [hlen] at hj; rw [rowAt18_take hj]; exact h.2.2 j (by omega)⟩
  have hf : firstTo (l.take (i + 1)) f (l.take (i + 1)).length = some i := first_is (by omega) (by rw [rowAt18_take (by omega)]; exact hs.2.1) fun j hj => by rw [rowAt18_take (by omega)]; exact hs.2.2 j hj
  have := dec_some ht h2 hf
  rw [rowAt18_take (by omega)] at this
  exact this
/-- Who decides is found by looking. -/
theorem first_find {l : List Row18} {f : Fact18} {i : Nat} (h : firstTo l f l.length = some i) : l.find? (fun r => matchB r f) = some (rowAt18 l i) := by
  have hs := first_some h
  rw [List.find?_eq_some_iff_getElem]
  refine ⟨hs.2.1, i, hs.1, rowAt18_elem hs.1, fun j hj => ?_⟩
  rw [rowAt18_elem (by omega), hs.2.2 j hj]; rfl
theorem find_first {l : List Row18} {f : Fact18} {r : Row18} (h : l.find? (fun r => matchB r f) = some r) : ∃ i, firstTo l f l.length = some i ∧ rowAt18 l i = r := by
  rw [List.find?_eq_some_iff_getElem] at h
  obtain ⟨h1, i, hi, h2, h3⟩ := h
  rw [rowAt18_elem hi] at h2
  refine ⟨i, first_is hi (by rw [h2]; exact h1) fun j hj => ?_, h2⟩
  have := h3 j hj
  rw [rowAt18_elem (by omega)] at this
  simpa using this
/-- A row that does not fit, taken out, changes no way. -/
theorem dec_less {l : List Row18} {f : Fact18} {i k : Nat} (h : TabOk l) (h2 : FactOk f) (h3 : firstTo l f l.length = some i) (hk : k < l.length) (hm : matchB (rowAt18 l k) f = false) :
    decE (l.take k ++ l.drop (k + 1)) f = 0 ∧ decWay (l.take k ++ l.drop (k + 1)) f = (rowAt18 l i).way := by
  have hsplit : l = l.take k ++ (rowAt18 l k :: l.drop (k + 1)) := by
    rw [← rowAt18_elem hk, ← List.drop_eq_getElem_cons hk, List.take_append_drop]
  have hf := first_find h3
  have hs := first_some h3
  have hne : i ≠ k := fun e => by rw [e, hm] at hs; exact absurd hs.2.1 (by simp)
  have hf2 : (l.take k ++ l.drop (k + 1)).find? (fun r => matchB r f) = some (rowAt18 l i) := by
    rw [hsplit, List.find?_append, List.find?_cons, hm] at hf
    rw [List.find?_append]
    rw [← hsplit] at hf
    exact hf
  have hlen : (l.take k ++ l.drop (k + 1)).length = l.length - 1 := by rw [List.length_append, List.length_take, List.length_drop]; omega
  have h20 := h.2.1
  have ht : TabOk (l.take k ++ l.drop (k + 1)) := tab_of (by omega) (by omega) fun r hr => by
    rcases List.mem_append.1 hr with q | q
    · exact tab_mem h (List.mem_of_mem_take q)
    · exact tab_mem h (List.mem_of_mem_drop q)
  obtain ⟨i2, h4, h5⟩ := find_first hf2
  have := dec_some ht h2 h4
  rw [h5] at this
  exact ⟨this.1, this.2.2⟩
/-! Bits. -/
theorem bit_nat (n k : Nat) : bitB (n : Int) (k : Int) = decide (n / 2 ^ k % 2 = 1) := by
  show n.testBit k = _
  exact Nat.testBit_eq_decide_div_mod_eq
end Go.Proofs.Ytifihejogbcbgaa
