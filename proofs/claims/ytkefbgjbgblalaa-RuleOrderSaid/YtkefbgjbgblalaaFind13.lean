/- Where an id is found, in plain words: by the first hit, by a count of those that are less. -/
import Derived.Test.YtkefbgjbgblalaaRow13
import Derived.Lib.Slices
namespace Go.Proofs.Ytkefbgjbgblalaa
open Go.RowKit

theorem hit_or (l : List Int) (id : Int) : (∃ k, k < l.length ∧ numAt l k = id ∧ (∀ j, j < k → numAt l j ≠ id) ∧ hits l id = some k) ∨ ((∀ j, j < l.length → numAt l j ≠ id) ∧ hits l id = none) := by
  cases h : hits l id with
  | some k =>
    have h' := h
    unfold hits at h
    rw [List.findIdx?_eq_some_iff_getElem] at h
    obtain ⟨hk, h1, h2⟩ := h
    refine Or.inl ⟨k, hk, ?_, fun j hj => ?_, rfl⟩
    · rw [numAt_get l k hk]; simpa using h1
    · rw [numAt_get l j (by omega)]; simpa using h2 j hj
  | none =>
    unfold hits at h
    rw [List.findIdx?_eq_none_iff] at h
    refine Or.inr ⟨fun j hj => ?_, rfl⟩
    rw [numAt_get l j hj]
    simpa using h _ (List.getElem_mem hj)
theorem count_cut {l : List Int} {id : Int} {p : Nat} (hp : p ≤ l.length) (h1 : ∀ j, j < p → numAt l j < id) (h2 : ∀ j, p ≤ j → j < l.length → id ≤ numAt l j) : l.countP (fun x => decide (x < id)) = p := by
  have e : l.countP (fun x => decide (x < id)) = (l.take p).countP (fun x => decide (x < id)) + (l.drop p).countP (fun x => decide (x < id)) := by
    rw [← List.countP_append, List.take_append_drop]
  have ht : (l.take p).length = p := by rw [List.length_take]; omega
  have e1 : (l.take p).countP (fun x => decide (x < id)) = p := by
    refine Eq.trans (List.countP_eq_length.2 ?_) ht
    intro x hx
    obtain ⟨j, hj, rfl⟩ := List.getElem_of_mem hx
    rw [ht] at hj
    have := h1 j hj
    rw [numAt_get l j (by omega)] at this
    rw [List.getElem_take]
    exact decide_eq_true this
  have e2 : (l.drop p).countP (fun x => decide (x < id)) = 0 := by
    rw [List.countP_eq_zero]
    intro x hx
    obtain ⟨j, hj, rfl⟩ := List.getElem_of_mem hx
    rw [List.length_drop] at hj
    have := h2 (p + j) (by omega) (by omega)
    rw [numAt_get l (p + j) (by omega)] at this
    rw [List.getElem_drop]
    simpa using this
  omega
theorem find_hit {l : List Int} {id : Int} {k : Nat} (h : hits l id = some k) : findN l id = k ∧ findB13 l id = true := by
  unfold findN findB13
  rw [h]
  exact ⟨rfl, rfl⟩
theorem find_none {l : List Int} {id : Int} (h : hits l id = none) : findN l id = (if risingE l = 0 then lowTo l id l.length else l.length) ∧ findB13 l id = false := by
  unfold findN findB13
  rw [h]
  exact ⟨rfl, rfl⟩
theorem find_le (l : List Int) (id : Int) : findN l id ≤ l.length := by
  rcases hit_or l id with ⟨k, hk, _, _, h⟩ | ⟨_, h⟩
  · rw [(find_hit h).1]; omega
  · rw [(find_none h).1]
    split
    · exact (low_spec l id l.length).1
    · exact Nat.le_refl _
theorem rises_le {l : List Int} (h : Rises l) {i j : Nat} (hij : i ≤ j) (hj : j < l.length) : numAt l i ≤ numAt l j := by
  rcases (by omega : i < j ∨ i = j) with q | q
  · exact Int.le_of_lt (rises_lt h q hj)
  · rw [q]; exact Int.le_refl _
/-- Of ids that rise: how many are less. -/
theorem find_count {l : List Int} (h : risingE l = 0) (id : Int) : (l.take l.length).countP (fun x => decide (x < id)) = findN l id := by
  rw [List.take_length]
  have hr := (rising_iff l).1 h
  rcases hit_or l id with ⟨k, hk, e, h0, hh⟩ | ⟨h0, hh⟩
  · rw [(find_hit hh).1]
    refine count_cut (Nat.le_of_lt hk) (fun j hj => ?_) (fun j h1 h2 => ?_)
    · rw [← e]; exact rises_lt hr hj hk
    · rw [← e]; exact rises_le hr h1 h2
  · rw [(find_none hh).1, if_pos h]
    obtain ⟨s1, s2, s3⟩ := low_spec l id l.length
    obtain ⟨p, hp⟩ : ∃ p, lowTo l id l.length = p := ⟨_, rfl⟩
    rw [hp] at s1 s2 s3 ⊢
    refine count_cut s1 (fun j hj => ?_) (fun j h1 h2 => Int.le_of_lt (s2 j h1 h2))
    have h3 := s3 (by omega)
    have h4 := h0 (p - 1) (by omega)
    have h5 := rises_le hr (i := j) (j := p - 1) (by omega) (by omega)
    omega
theorem find_in (l : List Int) (id : Int) : (l.take l.length).contains id = findB13 l id := by
  rw [List.take_length]
  rcases hit_or l id with ⟨k, hk, e, h0, hh⟩ | ⟨h0, hh⟩
  · rw [(find_hit hh).2, List.contains_iff_mem, ← e]
    exact num_mem l k hk
  · rw [(find_none hh).2, Bool.eq_false_iff]
    intro q
    rw [List.contains_iff_mem] at q
    obtain ⟨j, hj, e⟩ := List.getElem_of_mem q
    exact h0 j hj ((numAt_get l j hj).trans e)
/-- The library's own index of a number. -/
theorem idx_hit {l : List Int} {id : Int} {k : Nat} (hk : k < l.length) (h0 : ∀ j, j < k → numAt l j ≠ id) (h1 : numAt l k = id) : Lib.idxOf (l.take l.length) id = (k : Int) := Lib.idxOf_hit l l.length k id hk (Nat.le_refl _) h1 h0
theorem idx_none {l : List Int} {id : Int} (h0 : ∀ j, j < l.length → numAt l j ≠ id) : Lib.idxOf (l.take l.length) id = -1 := Lib.idxOf_miss l l.length id h0
end Go.Proofs.Ytkefbgjbgblalaa
