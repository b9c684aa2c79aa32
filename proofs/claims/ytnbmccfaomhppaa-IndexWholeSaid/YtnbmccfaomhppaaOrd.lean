/- The order of texts, and what a row that is in order says of finding a text in it: plain words, no program. -/
import Derived.Test.YtnbmccfaomhppaaRow
namespace Go.Proofs.Ytnbmccfaomhppaa
open Go.RowKit

theorem bl_irrefl (x : List UInt8) : Op.bytesLess x x = false := by
  induction x with
  | nil => rfl
  | cons a x ih => simp [Op.bytesLess, ih, UInt8.lt_irrefl]
theorem bl_trans : ∀ (x y z : List UInt8), Op.bytesLess x y = true → Op.bytesLess y z = true → Op.bytesLess x z = true
  | _, [], _, h, _ => by unfold Op.bytesLess at h; cases h
  | _, _ :: _, [], _, h => by unfold Op.bytesLess at h; cases h
  | [], _ :: _, _ :: _, _, _ => rfl
  | a :: x, b :: y, c :: z, h1, h2 => by
    simp only [Op.bytesLess, Bool.or_eq_true, Bool.and_eq_true, decide_eq_true_eq, beq_iff_eq] at h1 h2 ⊢
    rcases h1 with h1 | ⟨rfl, h1⟩
    · rcases h2 with h2 | ⟨rfl, h2⟩
      · exact Or.inl (UInt8.lt_trans h1 h2)
      · exact Or.inl h1
    · rcases h2 with h2 | ⟨rfl, h2⟩
      · exact Or.inl h2
      · exact Or.inr ⟨rfl, bl_trans x y z h1 h2⟩
theorem bl_tri : ∀ (x y : List UInt8), Op.bytesLess x y = false → x = y ∨ Op.bytesLess y x = true
  | [], [], _ => Or.inl rfl
  | [], _ :: _, h => by simp [Op.bytesLess] at h
  | _ :: _, [], _ => Or.inr rfl
  | a :: x, b :: y, h => by
    simp only [Op.bytesLess, Bool.or_eq_false_iff, Bool.and_eq_false_iff, decide_eq_false_iff_not, beq_eq_false_iff_ne] at h
    obtain ⟨h1, h2⟩ := h
    by_cases e : a = b
    · subst e
      rcases h2 with h2 | h2
      · exact absurd rfl h2
      · rcases bl_tri x y h2 with h3 | h3
        · exact Or.inl (by rw [h3])
        · exact Or.inr (by simp [Op.bytesLess, h3])
    · refine Or.inr ?_
      have : b < a := by
        rw [UInt8.lt_iff_toNat_lt] at h1 ⊢
        have : a.toNat ≠ b.toNat := fun h => e (UInt8.toNat_inj.1 h)
        omega
      simp [Op.bytesLess, this]

def seek (xs : List ByteArray) (s : ByteArray) : Nat → Nat → Int
  | 0, _ => -1
  | n + 1, i => if ((textAt xs i).toList == s.toList) = true then (i : Int) else seek xs s n (i + 1)
def seekOf (xs : List ByteArray) (s : ByteArray) : Int := seek xs s xs.length 0
def under (xs : List ByteArray) (s : ByteArray) : Nat → Nat → Nat
  | 0, i => i
  | n + 1, i => if Op.bytesLess (textAt xs i).toList s.toList = true then under xs s n (i + 1) else i
def underOf (xs : List ByteArray) (s : ByteArray) : Nat := under xs s xs.length 0
def findI (xs : List ByteArray) (s : ByteArray) : Int := if 0 ≤ seekOf xs s then seekOf xs s else if rowOf xs = 0 then (underOf xs s : Int) else 0
def findB (xs : List ByteArray) (s : ByteArray) : Bool := decide (0 ≤ seekOf xs s)

theorem seek_hit (xs : List ByteArray) (s : ByteArray) (n i : Nat) (h : 0 < n) (he : ((textAt xs i).toList == s.toList) = true) : seek xs s n i = i := by
  obtain ⟨m, rfl⟩ : ∃ m, n = m + 1 := ⟨n - 1, by omega⟩
  simp only [seek]; rw [if_pos he]
theorem seek_miss (xs : List ByteArray) (s : ByteArray) (n i : Nat) (h : 0 < n) (he : ((textAt xs i).toList == s.toList) = false) : seek xs s n i = seek xs s (n - 1) (i + 1) := by
  obtain ⟨m, rfl⟩ : ∃ m, n = m + 1 := ⟨n - 1, by omega⟩
  simp only [seek]; rw [if_neg (by rw [he]; simp)]; rfl
theorem under_on (xs : List ByteArray) (s : ByteArray) (n i : Nat) (h : 0 < n) (he : Op.bytesLess (textAt xs i).toList s.toList = true) : under xs s n i = under xs s (n - 1) (i + 1) := by
  obtain ⟨m, rfl⟩ : ∃ m, n = m + 1 := ⟨n - 1, by omega⟩
  simp only [under]; rw [if_pos he]; rfl
theorem under_end (xs : List ByteArray) (s : ByteArray) (n i : Nat) (he : n = 0 ∨ Op.bytesLess (textAt xs i).toList s.toList = false) : under xs s n i = i := by
  cases n with
  | zero => rfl
  | succ n =>
    simp only [under]
    rw [if_neg]
    rcases he with he | he
    · omega
    · rw [he]; simp
/-- Where no text is the one that is sought, none is found. -/
theorem seek_none (xs : List ByteArray) (s : ByteArray) (n : Nat) : ∀ i, (∀ j, i ≤ j → j < i + n → ((textAt xs j).toList == s.toList) = false) → seek xs s n i = -1 := by
  induction n with
  | zero => intro i _; rfl
  | succ n ih =>
    intro i h
    rw [seek_miss xs s (n + 1) i (by omega) (h i (by omega) (by omega))]
    exact ih (i + 1) fun j h1 h2 => h j (by omega) (by omega)
theorem seek_at (xs : List ByteArray) (s : ByteArray) (n : Nat) (k : Nat) (hk : ((textAt xs k).toList == s.toList) = true) : ∀ i, i ≤ k → k < i + n → (∀ j, i ≤ j → j < k → ((textAt xs j).toList == s.toList) = false) → seek xs s n i = k := by
  induction n with
  | zero => intro i h1 h2; omega
  | succ n ih =>
    intro i h1 h2 h
    rcases Nat.lt_or_ge i k with h3 | h3
    · rw [seek_miss xs s (n + 1) i (by omega) (h i (by omega) h3)]
      exact ih (i + 1) (by omega) (by omega) fun j h4 h5 => h j (by omega) h5
    · obtain rfl : i = k := by omega
      exact seek_hit xs s _ i (by omega) hk
theorem under_at (xs : List ByteArray) (s : ByteArray) (n k : Nat) : ∀ i, i ≤ k → k ≤ i + n → (∀ j, i ≤ j → j < k → Op.bytesLess (textAt xs j).toList s.toList = true) → (k < i + n → Op.bytesLess (textAt xs k).toList s.toList = false) → under xs s n i = k := by
  induction n with
  | zero => intro i h1 h2 _ _; simp only [under]; omega
  | succ n ih =>
    intro i h1 h2 h h'
    rcases Nat.lt_or_ge i k with h3 | h3
    · rw [under_on xs s (n + 1) i (by omega) (h i (by omega) h3)]
      exact ih (i + 1) (by omega) (by omega) (fun j h4 h5 => h j (by omega) h5) (fun h4 => h' (by omega))
    · obtain rfl : i = k := by omega
      exact under_end xs s _ i (Or.inr (h' (by omega)))

/-- A row in order: each text is greater than the one ahead of it. -/
theorem row_steps (xs : List ByteArray) (n : Nat) : ∀ i, rowFrom xs n i = 0 → ∀ j, i ≤ j → j < i + n → stepOf xs j = 0 := by
  induction n with
  | zero => intro i _ j h1 h2; omega
  | succ n ih =>
    intro i h j h1 h2
    simp only [rowFrom] at h
    by_cases hs : stepOf xs i = 0
    · rw [if_pos hs] at h
      rcases Nat.lt_or_ge i j with h3 | h3
      · exact ih (i + 1) h j (by omega) (by omega)
      · obtain rfl : i = j := by omega
        exact hs
    · rw [if_neg hs] at h
      exact absurd h hs
theorem row_next (xs : List ByteArray) (h : rowOf xs = 0) (i : Nat) (hi : i + 1 < xs.length) : Op.bytesLess (textAt xs i).toList (textAt xs (i + 1)).toList = true := by
  have hs := row_steps xs xs.length 0 h (i + 1) (by omega) (by omega)
  unfold stepOf at hs
  split at hs
  · omega
  · split at hs
    · omega
    · rename_i hn
      have hn : (Op.bytesLess (textAt xs (i + 1)).toList (textAt xs i).toList || (textAt xs (i + 1)).toList == (textAt xs i).toList) = false := by
        have : ¬ ((Op.bytesLess (textAt xs (i + 1)).toList (textAt xs i).toList || (textAt xs (i + 1)).toList == (textAt xs i).toList) = true) := fun h' => hn ⟨by omega, by simpa using h'⟩
        simpa using this
      rw [Bool.or_eq_false_iff] at hn
      rcases bl_tri _ _ hn.1 with h3 | h3
      · rw [h3] at hn; simp at hn
      · exact h3
theorem row_less (xs : List ByteArray) (h : rowOf xs = 0) (i : Nat) : ∀ j, i < j → j < xs.length → Op.bytesLess (textAt xs i).toList (textAt xs j).toList = true := by
  intro j
  induction j with
  | zero => intro h1; omega
  | succ j ih =>
    intro h1 h2
    have hn := row_next xs h j h2
    rcases Nat.lt_or_ge i j with h3 | h3
    · exact bl_trans _ _ _ (ih h3 (by omega)) hn
    · obtain rfl : i = j := by omega
      exact hn
theorem not_less_up (xs : List ByteArray) (h : rowOf xs = 0) (s : ByteArray) (i j : Nat) (hij : i ≤ j) (hj : j < xs.length) (hi : Op.bytesLess (textAt xs i).toList s.toList = false) : Op.bytesLess (textAt xs j).toList s.toList = false := by
  rcases Nat.lt_or_ge i j with h3 | h3
  · cases hq : Op.bytesLess (textAt xs j).toList s.toList with
    | false => rfl
    | true => rw [bl_trans _ _ _ (row_less xs h i j h3 hj) hq] at hi; cases hi
  · obtain rfl : i = j := by omega
    exact hi
theorem less_down (xs : List ByteArray) (h : rowOf xs = 0) (s : ByteArray) (i j : Nat) (hij : i ≤ j) (hj : j < xs.length) (hi : Op.bytesLess (textAt xs j).toList s.toList = true) : Op.bytesLess (textAt xs i).toList s.toList = true := by
  rcases Nat.lt_or_ge i j with h3 | h3
  · exact bl_trans _ _ _ (row_less xs h i j h3 hj) hi
  · obtain rfl : i = j := by omega
    exact hi
theorem ne_of_less {x s : List UInt8} (h : Op.bytesLess x s = true) : (x == s) = false := by
  rw [beq_eq_false_iff_ne]
  rintro rfl
  rw [bl_irrefl] at h; cases h

/-- What a search by halves finds, in a row in order, is what the plain words say. -/
theorem search_says (xs : List ByteArray) (s : ByteArray) (h : rowOf xs = 0) (k : Nat) (hk : k ≤ xs.length) (hlo : ∀ j, j < k → Op.bytesLess (textAt xs j).toList s.toList = true) (hhi : ∀ j, k ≤ j → j < xs.length → Op.bytesLess (textAt xs j).toList s.toList = false) :
    findI xs s = k ∧ findB xs s = (decide (k < xs.length) && ((textAt xs k).toList == s.toList)) := by
  have hu : underOf xs s = k := under_at xs s xs.length k 0 (by omega) (by omega) (fun j _ hj => hlo j hj) (fun hj => hhi k (Nat.le_refl _) (by omega))
  by_cases hq : k < xs.length ∧ ((textAt xs k).toList == s.toList) = true
  · have hs : seekOf xs s = k := seek_at xs s xs.length k hq.2 0 (by omega) (by omega) (fun j _ hj => ne_of_less (hlo j hj))
    refine ⟨by unfold findI; rw [hs, if_pos (by omega)], ?_⟩
    unfold findB
    rw [hs, decide_eq_true (by omega), decide_eq_true hq.1, hq.2]; rfl
  · have hs : seekOf xs s = -1 := by
      refine seek_none xs s xs.length 0 fun j _ hj => ?_
      rcases Nat.lt_trichotomy j k with h3 | h3 | h3
      · exact ne_of_less (hlo j h3)
      · subst h3
        cases hc : ((textAt xs j).toList == s.toList) with
        | false => rfl
        | true => exact absurd ⟨by omega, hc⟩ hq
      · have h4 := row_less xs h k j h3 (by omega)
        rw [beq_eq_false_iff_ne]
        intro e
        rw [e] at h4
        have h5 := hhi k (Nat.le_refl _) (by omega)
        rw [h5] at h4; cases h4
    refine ⟨by unfold findI; rw [hs, if_neg (by omega), if_pos h, hu], ?_⟩
    unfold findB
    rw [hs, decide_eq_false (by omega)]
    symm
    rw [Bool.and_eq_false_iff]
    rcases Nat.lt_or_ge k xs.length with h3 | h3
    · exact Or.inr (by
        cases hc : ((textAt xs k).toList == s.toList) with
        | false => rfl
        | true => exact absurd ⟨h3, hc⟩ hq)
    · exact Or.inl (decide_eq_false (by omega))
end Go.Proofs.Ytnbmccfaomhppaa
