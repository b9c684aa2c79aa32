/- Ids that rise, where one is found among them, and lists with one more, another one, one less, and their last ones, in plain words. -/
import Derived.Test.YtkefbgjbgblalaaInts
namespace Go.Proofs.Ytkefbgjbgblalaa

/-- What is wrong with the id at a place: its number, or that it does not rise. -/
def riseAt (l : List Int) (i : Nat) : Int := if numAt l i < 1 ∨ 999999 < numAt l i then 31 else if 0 < i ∧ numAt l i ≤ numAt l (i - 1) then 32 else 0
def riseTo (l : List Int) : Nat → Int
  | 0 => 0
  | k + 1 => if riseTo l k ≠ 0 then riseTo l k else riseAt l k
/-- What is told of ids: the first thing that is wrong, or nothing. -/
def risingE (l : List Int) : Int := riseTo l l.length
theorem rise_on {l : List Int} {k : Nat} (h : riseTo l k ≠ 0) (j : Nat) : riseTo l (k + j) = riseTo l k := by
  induction j with
  | zero => rfl
  | succ j ih => rw [← Nat.add_assoc, show riseTo l (k + j + 1) = if riseTo l (k + j) ≠ 0 then riseTo l (k + j) else riseAt l (k + j) from rfl, ih, if_pos h]
theorem rise_stop {l : List Int} {k : Nat} (hk : k < l.length) (h0 : riseTo l k = 0) (h1 : riseAt l k ≠ 0) : risingE l = riseAt l k := by
  have e : riseTo l (k + 1) = riseAt l k := by unfold riseTo; rw [if_neg (by omega)]
  have := rise_on (l := l) (k := k + 1) (by rw [e]; exact h1) (l.length - (k + 1))
  rw [e, show k + 1 + (l.length - (k + 1)) = l.length by omega] at this
  exact this
theorem rise_step {l : List Int} {k : Nat} (h0 : riseTo l k = 0) (h1 : riseAt l k = 0) : riseTo l (k + 1) = 0 := by
  unfold riseTo
  rw [if_neg (by omega), h1]
/-- Each id is in its limits, and greater than the one before it. -/
def Rises (l : List Int) : Prop := ∀ i, i < l.length → (1 ≤ numAt l i ∧ numAt l i ≤ 999999) ∧ (0 < i → numAt l (i - 1) < numAt l i)
theorem rise_to {l : List Int} {k : Nat} : riseTo l k = 0 ↔ ∀ i, i < k → (1 ≤ numAt l i ∧ numAt l i ≤ 999999) ∧ (0 < i → numAt l (i - 1) < numAt l i) := by
  induction k with
  | zero => exact ⟨fun _ i hi => absurd hi (by omega), fun _ => rfl⟩
  | succ k ih =>
    constructor
    · intro h i hi
      have h0 : riseTo l k = 0 := by
        unfold riseTo at h
        by_cases q : riseTo l k = 0
        · exact q
        · rw [if_pos q] at h; exact h
      have h1 : riseAt l k = 0 := by
        unfold riseTo at h
        rw [if_neg (by omega)] at h
        exact h
      rcases (by omega : i < k ∨ i = k) with q | q
      · exact ih.1 h0 i q
      · subst q
        unfold riseAt at h1
        split at h1
        · omega
        · split at h1
          · omega
          · omega
    · intro h
      have h0 := ih.2 fun i hi => h i (by omega)
      have hk := h k (by omega)
      refine rise_step h0 ?_
      unfold riseAt
      rw [if_neg (by omega), if_neg]
      rintro ⟨a, b⟩
      have := hk.2 a
      omega
theorem rising_iff (l : List Int) : risingE l = 0 ↔ Rises l := rise_to
theorem rises_lt {l : List Int} (h : Rises l) {i j : Nat} (hij : i < j) (hj : j < l.length) : numAt l i < numAt l j := by
  induction j with
  | zero => omega
  | succ j ih =>
    have h1 := (h (j + 1) hj).2 (by omega)
    rw [Nat.add_sub_cancel] at h1
    rcases (by omega : i < j ∨ i = j) with q | q
    · have := ih q (by omega)
      omega
    · subst q; exact h1
/-- How many of the first ones stay where those that are greater go. -/
def lowTo (l : List Int) (id : Int) : Nat → Nat
  | 0 => 0
  | n + 1 => if id < numAt l n then lowTo l id n else n + 1
def hits (l : List Int) (id : Int) : Option Nat := l.findIdx? fun x => decide (x = id)
/-- Where an id is found, or would be; is it there? -/
def findN (l : List Int) (id : Int) : Nat := match hits l id with | some i => i | none => if risingE l = 0 then lowTo l id l.length else l.length
def findB13 (l : List Int) (id : Int) : Bool := (hits l id).isSome
theorem numAt_get (l : List Int) (i : Nat) (hi : i < l.length) : numAt l i = l[i] := by
  unfold numAt
  rw [List.getD_eq_getElem?_getD, List.getElem?_eq_getElem hi]
  rfl
theorem hits_at {l : List Int} {id : Int} {k : Nat} (hk : k < l.length) (h0 : ∀ j, j < k → numAt l j ≠ id) (h1 : numAt l k = id) : hits l id = some k := by
  unfold hits
  rw [List.findIdx?_eq_some_iff_getElem]
  refine ⟨hk, by rw [← numAt_get l k hk, h1]; simp, fun j hj => ?_⟩
  rw [← numAt_get l j (by omega)]
  simpa using h0 j hj
theorem hits_none {l : List Int} {id : Int} (h0 : ∀ j, j < l.length → numAt l j ≠ id) : hits l id = none := by
  unfold hits
  rw [List.findIdx?_eq_none_iff]
  intro x hx
  obtain ⟨j, hj, rfl⟩ := List.getElem_of_mem hx
  rw [← numAt_get l j hj]
  simpa using h0 j hj
theorem low_spec (l : List Int) (id : Int) (n : Nat) : lowTo l id n ≤ n ∧ (∀ j, lowTo l id n ≤ j → j < n → id < numAt l j) ∧ (0 < lowTo l id n → numAt l (lowTo l id n - 1) ≤ id) := by
  induction n with
  | zero => exact ⟨Nat.le_refl _, fun j _ h => absurd h (by omega), fun h => absurd h (by unfold lowTo; omega)⟩
  | succ n ih =>
    unfold lowTo
    split
    · rename_i q
      refine ⟨by omega, fun j h1 h2 => ?_, ih.2.2⟩
      rcases (by omega : j < n ∨ j = n) with r | r
      · exact ih.2.1 j h1 r
      · rw [r]; exact q
    · rename_i q
      refine ⟨Nat.le_refl _, fun j h1 h2 => absurd h1 (by omega), fun _ => ?_⟩
      rw [Nat.add_sub_cancel]
      omega
/-- Lists with one more, another one, one less, and the last ones. -/
def with13 {α : Type} (l : List α) (p : Nat) (v : α) : List α := l.take p ++ v :: l.drop p
def less13 {α : Type} (l : List α) (p : Nat) : List α := l.take p ++ l.drop (p + 1)
def last13 {α : Type} (l : List α) (n : Int) : List α := l.drop (l.length - n.toNat)
def in13 (p : Int) (n : Nat) : Bool := decide (0 ≤ p ∧ p ≤ n)
theorem with_len {α : Type} (l : List α) (p : Nat) (v : α) (h : p ≤ l.length) : (with13 l p v).length = l.length + 1 := by
  unfold with13
  rw [List.length_append, List.length_cons, List.length_take, List.length_drop]
  omega
theorem with_at {α : Type} (l : List α) (p : Nat) (v : α) (h : p ≤ l.length) : (with13 l p v)[p]? = some v := by
  unfold with13
  rw [List.getElem?_append_right (by rw [List.length_take]; omega), List.length_take, Nat.min_eq_left h, Nat.sub_self]
  rfl
theorem with_less {α : Type} (l : List α) (p : Nat) (v : α) (h : p ≤ l.length) : less13 (with13 l p v) p = l := by
  have ht : (l.take p).length = p := by rw [List.length_take]; omega
  unfold less13 with13
  have e1 : (l.take p ++ v :: l.drop p).take p = l.take p := by
    rw [List.take_append_of_le_length (by omega), List.take_take, Nat.min_self]
  have e2 : (l.take p ++ v :: l.drop p).drop (p + 1) = l.drop p := by
    rw [List.drop_append, ht, show p + 1 - p = 1 by omega, List.drop_of_length_le (by omega), List.nil_append]
    rfl
  rw [e1, e2, List.take_append_drop]
theorem set_back {α : Type} (l : List α) (p : Nat) (v w : α) (h : l[p]? = some w) : (l.set p v).set p w = l := by
  rw [List.set_set]
  refine List.ext_getElem? fun j => ?_
  rw [List.getElem?_set]
  split
  · rename_i e
    subst e
    split
    · exact h.symm
    · rename_i q; rw [List.getElem?_eq_none (by omega)]
  · rfl
theorem last_len {α : Type} (l : List α) (n : Int) : (last13 l n).length ≤ l.length ∧ last13 l n = l.drop (l.length - (last13 l n).length) := by
  unfold last13
  rw [List.length_drop]
  refine ⟨by omega, ?_⟩
  congr 1
  omega
theorem numAt_with (l : List Int) (p : Nat) (v : Int) (h : p ≤ l.length) (i : Nat) : numAt (with13 l p v) i = if i < p then numAt l i else if i = p then v else numAt l (i - 1) := by
  unfold numAt with13
  rw [List.getD_eq_getElem?_getD]
  have ht : (l.take p).length = p := by rw [List.length_take]; omega
  split
  · rename_i q
    rw [List.getElem?_append_left (by omega), List.getElem?_take_of_lt q, List.getD_eq_getElem?_getD]
  · rename_i q
    rw [List.getElem?_append_right (by omega), ht]
    split
    · rename_i e; subst e; rw [Nat.sub_self]; rfl
    · rename_i e
      obtain ⟨j, hj⟩ : ∃ j, i - p = j + 1 := ⟨i - p - 1, by omega⟩
      rw [hj, List.getElem?_cons_succ, List.getElem?_drop, List.getD_eq_getElem?_getD, show p + j = i - 1 by omega]
/-- With a number that is not there, at the place that is told of it, ids that rise rise. -/
theorem rises_with {l : List Int} {id : Int} (h : Rises l) (h1 : 1 ≤ id ∧ id ≤ 999999) (h0 : ∀ j, j < l.length → numAt l j ≠ id) : Rises (with13 l (lowTo l id l.length) id) := by
  obtain ⟨s1, s2, s3⟩ := low_spec l id l.length
  obtain ⟨p, hp⟩ : ∃ p, lowTo l id l.length = p := ⟨_, rfl⟩
  rw [hp] at s1 s2 s3 ⊢
  intro i hi
  rw [with_len l p id s1] at hi
  rw [numAt_with l p id s1 i]
  refine ⟨?_, fun hpos => ?_⟩
  · split
    · exact (h i (by omega)).1
    · split
      · exact h1
      · exact (h (i - 1) (by omega)).1
  · rw [numAt_with l p id s1 (i - 1)]
    rcases (by omega : i < p ∨ i = p ∨ i = p + 1 ∨ p + 1 < i) with q | q | q | q
    · rw [if_pos (by omega), if_pos q]
      exact (h i (by omega)).2 hpos
    · subst q
      rw [if_pos (by omega), if_neg (by omega), if_pos rfl]
      have := s3 hpos
      have := h0 (i - 1) (by omega)
      omega
    · subst q
      rw [if_neg (by omega), if_pos (by omega), if_neg (by omega), if_neg (by omega)]
      exact s2 _ (by omega) (by omega)
    · rw [if_neg (by omega), if_neg (by omega), if_neg (by omega), if_neg (by omega)]
      exact (h (i - 1) (by omega)).2 (by omega)
/-- As they are told: the list, and what is wrong. -/
def withL {α : Type} (l : List α) (p : Int) (v : α) : List α := if 0 ≤ p ∧ p ≤ l.length then with13 l p.toNat v else []
def withE (n : Nat) (p : Int) : Int := if 0 ≤ p ∧ p ≤ n then 0 else 2
def setL {α : Type} (l : List α) (p : Int) (v : α) : List α := if 0 ≤ p ∧ p < l.length then l.set p.toNat v else []
def hasE (n : Nat) (p : Int) : Int := if 0 ≤ p ∧ p < n then 0 else 2
def lessL {α : Type} (l : List α) (p : Int) : List α := if 0 ≤ p ∧ p < l.length then less13 l p.toNat else []
theorem with_ok {α : Type} {l : List α} {p : Nat} (h : p ≤ l.length) (v : α) : withL l (p : Int) v = with13 l p v ∧ withE l.length (p : Int) = 0 := by
  unfold withL withE
  rw [if_pos (by omega), if_pos (by omega), Int.toNat_natCast]
  exact ⟨rfl, rfl⟩
theorem with_no {α : Type} {l : List α} {p : Int} (h : ¬ (0 ≤ p ∧ p ≤ l.length)) (v : α) : withL l p v = [] ∧ withE l.length p = 2 := by
  unfold withL withE
  rw [if_neg h, if_neg h]
  exact ⟨rfl, rfl⟩
theorem set_ok {α : Type} {l : List α} {p : Nat} (h : p < l.length) (v : α) : setL l (p : Int) v = l.set p v ∧ hasE l.length (p : Int) = 0 := by
  unfold setL hasE
  rw [if_pos (by omega), if_pos (by omega), Int.toNat_natCast]
  exact ⟨rfl, rfl⟩
theorem set_no {α : Type} {l : List α} {p : Int} (h : ¬ (0 ≤ p ∧ p < l.length)) (v : α) : setL l p v = [] ∧ hasE l.length p = 2 := by
  unfold setL hasE
  rw [if_neg h, if_neg h]
  exact ⟨rfl, rfl⟩
theorem less_ok {α : Type} {l : List α} {p : Nat} (h : p < l.length) : lessL l (p : Int) = less13 l p ∧ hasE l.length (p : Int) = 0 := by
  unfold lessL hasE
  rw [if_pos (by omega), if_pos (by omega), Int.toNat_natCast]
  exact ⟨rfl, rfl⟩
theorem less_no {α : Type} {l : List α} {p : Int} (h : ¬ (0 ≤ p ∧ p < l.length)) : lessL l p = [] ∧ hasE l.length p = 2 := by
  unfold lessL hasE
  rw [if_neg h, if_neg h]
  exact ⟨rfl, rfl⟩
/-- The list, made element by element. -/
theorem with_low {α : Type} (l : List α) (k : Nat) (x : α) (hx : l[k]? = some x) : l.take (k + 1) = l.take k ++ [x] := by
  rw [List.take_add_one, hx]; rfl
theorem with_start {α : Type} (l : List α) (p : Nat) (v : α) : with13 (l.take p) p v = l.take p ++ [v] := by
  unfold with13
  rw [List.take_take, Nat.min_self, List.drop_take, Nat.sub_self, List.take_zero]
theorem with_next {α : Type} (l : List α) (p k : Nat) (v : α) (h : p ≤ k) (hk : k < l.length) (x : α) (hx : l[k]? = some x) : with13 (l.take (k + 1)) p v = with13 (l.take k) p v ++ [x] := by
  unfold with13
  rw [List.take_take, List.take_take, Nat.min_eq_left (by omega), Nat.min_eq_left h, List.take_add_one, hx, List.drop_append_of_le_length (by rw [List.length_take]; omega)]
  simp
theorem less_low {α : Type} (l : List α) (p k : Nat) (h : k < p) (x : α) (hx : l[k]? = some x) : less13 (l.take (k + 1)) p = less13 (l.take k) p ++ [x] := by
  have hk : k < l.length := (List.getElem?_eq_some_iff.1 hx).1
  unfold less13
  rw [List.take_take, List.take_take, Nat.min_eq_right (by omega), Nat.min_eq_right (by omega), List.drop_take, List.drop_take, show k + 1 - (p + 1) = 0 by omega, show k - (p + 1) = 0 by omega, List.take_add_one, hx]
  simp
theorem less_skip {α : Type} (l : List α) (p : Nat) : less13 (l.take (p + 1)) p = less13 (l.take p) p := by
  unfold less13
  rw [List.take_take, List.take_take, Nat.min_self, Nat.min_eq_left (by omega), List.drop_take, List.drop_take, Nat.sub_self, show p - (p + 1) = 0 by omega]
theorem less_next {α : Type} (l : List α) (p k : Nat) (h : p < k) (x : α) (hx : l[k]? = some x) : less13 (l.take (k + 1)) p = less13 (l.take k) p ++ [x] := by
  have hk : k < l.length := (List.getElem?_eq_some_iff.1 hx).1
  unfold less13
  rw [List.take_take, List.take_take, Nat.min_eq_left (by omega), Nat.min_eq_left (by omega), List.take_add_one, hx, List.drop_append_of_le_length (by rw [List.length_take]; omega)]
  simp
theorem last_low {α : Type} (l : List α) (n : Int) (k : Nat) (h : ¬ ((l.length : Int) - k ≤ n)) (hk : k < l.length) : (l.take (k + 1)).drop (l.length - n.toNat) = (l.take k).drop (l.length - n.toNat) := by
  rw [List.drop_of_length_le (by rw [List.length_take]; omega), List.drop_of_length_le (by rw [List.length_take]; omega)]
theorem last_next {α : Type} (l : List α) (n : Int) (k : Nat) (h : (l.length : Int) - k ≤ n) (x : α) (hx : l[k]? = some x) : (l.take (k + 1)).drop (l.length - n.toNat) = (l.take k).drop (l.length - n.toNat) ++ [x] := by
  have hk : k < l.length := (List.getElem?_eq_some_iff.1 hx).1
  rw [List.take_add_one, hx, List.drop_append_of_le_length (by rw [List.length_take]; omega)]
  rfl
end Go.Proofs.Ytkefbgjbgblalaa
