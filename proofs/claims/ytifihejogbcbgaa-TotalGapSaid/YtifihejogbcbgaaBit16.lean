/- Answers, bit by bit: a bit taken away, and what is left when all noes are. No program in it. -/
import Derived.Test.YtifihejogbcbgaaMQz16
namespace Go.Proofs.Ytifihejogbcbgaa

/-- A number's bit taken away. -/
theorem and_not16 {A j : Nat} (hA : A < 256) : ∃ V : Nat, bits .andNot .i64 (A : Int) ((2 ^ j : Nat) : Int) = (V : Int) ∧ V < 256 ∧ ∀ i, V.testBit i = (A.testBit i && !decide (i = j)) := by
  have ea : BitVec.ofInt 64 (A : Int) = BitVec.ofNat 64 A := BitVec.ofInt_natCast 64 A
  have eb : BitVec.ofInt 64 ((2 ^ j : Nat) : Int) = BitVec.ofNat 64 (2 ^ j) := BitVec.ofInt_natCast 64 (2 ^ j)
  have ha : (BitVec.ofNat 64 A).toNat = A := by rw [BitVec.toNat_ofNat]; omega
  have hle : (BitVec.ofInt 64 (A : Int) &&& ~~~BitVec.ofInt 64 ((2 ^ j : Nat) : Int)).toNat ≤ A := by
    rw [BitVec.toNat_and, ea, ha]
    exact Nat.and_le_left
  refine ⟨(BitVec.ofInt 64 (A : Int) &&& ~~~BitVec.ofInt 64 ((2 ^ j : Nat) : Int)).toNat, ?_, by omega, fun i => ?_⟩
  · show IntKind.i64.wrap ((BitVec.ofInt 64 (A : Int) &&& ~~~BitVec.ofInt 64 ((2 ^ j : Nat) : Int)).toNat : Nat) = _
    rw [IntKind.wrap_i64]
    omega
  · rw [BitVec.testBit_toNat, BitVec.getLsbD_and, BitVec.getLsbD_not, ea, eb, BitVec.getLsbD_ofNat, BitVec.getLsbD_ofNat, Nat.testBit_two_pow]
    by_cases h : i < 64
    · rw [decide_eq_true h]
      by_cases q : j = i
      · subst q; simp
      · have q2 : ¬ i = j := fun z => q z.symm
        simp [q, q2]
    · have h2 : A.testBit i = false := Nat.testBit_lt_two_pow (Nat.lt_of_lt_of_le hA (by
        have := Nat.pow_le_pow_right (show 2 > 0 by omega) (show 8 ≤ i by omega)
        omega))
      rw [decide_eq_false h, h2]
      simp
/-- The bits of answers of which k noes have been taken out. -/
def AnsAt (n : Nat) (f : List Int) (k V : Nat) : Prop := ∀ i, V.testBit i = (decide (i < n) && !decide ((i : Int) ∈ f.take k))
theorem AnsAt.start (n : Nat) (f : List Int) : AnsAt n f 0 (2 ^ n - 1) := fun i => by
  rw [Nat.testBit_two_pow_sub_one]
  simp
theorem AnsAt.more {n k V V' j : Nat} {f : List Int} (h : AnsAt n f k V) (hk : k < f.length) (hj : numAt f k = j) (hV : ∀ i, V'.testBit i = (V.testBit i && !decide (i = j))) : AnsAt n f (k + 1) V' := fun i => by
  rw [hV, h, take_more f k hk, hj]
  by_cases q : i = j
  · subst q; simp
  · have q2 : ¬ (i : Int) = (j : Int) := by omega
    simp [q, q2]
theorem ansTo_bits (f : List Int) (k : Nat) : ∃ a : Nat, ansTo f k = a ∧ a < 2 ^ k ∧ ∀ i, a.testBit i = (decide (i < k) && !decide ((i : Int) ∈ f)) := by
  induction k with
  | zero => exact ⟨0, rfl, by decide, fun i => by rw [Nat.zero_testBit]; simp⟩
  | succ k ih =>
    obtain ⟨a, h1, h2, h3⟩ := ih
    have hp : 2 ^ (k + 1) = 2 * 2 ^ k := by rw [Nat.pow_succ]; omega
    rw [ansTo, h1]
    by_cases hk : (k : Int) ∈ f
    · rw [if_pos hk]
      refine ⟨a, rfl, by omega, fun i => ?_⟩
      rw [h3]
      by_cases q : i = k
      · subst q; simp [hk]
      · have q2 : (i < k + 1) = (i < k) := propext (by omega)
        simp only [q2]
    · rw [if_neg hk]
      refine ⟨2 ^ k + a, by omega, by omega, fun i => ?_⟩
      rcases (by omega : i < k ∨ i = k ∨ k < i) with q | q | q
      · rw [Nat.testBit_two_pow_add_gt q, h3]
        have q2 : (i < k + 1) = (i < k) := propext (by omega)
        simp only [q2]
      · subst q
        rw [Nat.testBit_two_pow_add_eq, h3]
        simp [hk]
      · rw [Nat.testBit_lt_two_pow (Nat.lt_of_lt_of_le (show 2 ^ k + a < 2 ^ (k + 1) by omega) (Nat.pow_le_pow_right (by omega) q))]
        rw [decide_eq_false (show ¬ i < k + 1 by omega)]
        rfl
theorem AnsAt.done {n V : Nat} {f : List Int} (h : AnsAt n f f.length V) : (V : Int) = ansTo f n := by
  obtain ⟨a, h1, _, h3⟩ := ansTo_bits f n
  rw [h1]
  have : V = a := Nat.eq_of_testBit_eq fun i => by rw [h, h3, List.take_length]
  rw [this]
/-- The least number that the next no may have. -/
def leastN (f : List Int) : Nat → Int
  | 0 => 0
  | k + 1 => numAt f k + 1
theorem least_ok {n k : Nat} {f : List Int} (hp : ∀ j, j < k → FailAt n f j) (h1 : ¬ numAt f k < leastN f k) (h2 : ¬ (n : Int) ≤ numAt f k) : FailAt n f k := by
  cases k with
  | zero => simp only [leastN] at h1; exact ⟨by omega, by omega, fun h => absurd h (by omega)⟩
  | succ k =>
    simp only [leastN] at h1
    have := (hp k (by omega)).1
    exact ⟨by omega, by omega, fun _ => by rw [Nat.add_sub_cancel]; omega⟩
theorem least_no {n k : Nat} {f : List Int} (h : numAt f k < leastN f k) : ¬ FailAt n f k := fun q => by
  cases k with
  | zero => simp only [leastN] at h; have := q.1; omega
  | succ k =>
    simp only [leastN] at h
    have := q.2.2 (by omega)
    rw [Nat.add_sub_cancel] at this
    omega
theorem least_small {n k : Nat} {f : List Int} (hn : n ≤ 8) (hp : ∀ j, j < k → FailAt n f j) : 0 ≤ leastN f k ∧ leastN f k ≤ 8 := by
  cases k with
  | zero => simp [leastN]
  | succ k =>
    have := hp k (by omega)
    have h1 := this.1
    have h2 := this.2.1
    simp only [leastN]
    omega

/-! The least and the greatest of numbers. -/
theorem foldmin_lt16 (c : Int) : ∀ (l : List Int) (m : Int), l.foldl min m < c ↔ (m < c ∨ ∃ x ∈ l, x < c) := by
  intro l
  induction l with
  | nil => intro m; simp
  | cons x l ih =>
    intro m
    rw [List.foldl_cons, ih]
    simp only [List.mem_cons, exists_eq_or_imp]
    constructor
    · rintro (h | h)
      · rcases (by omega : m < c ∨ x < c) with h1 | h1
        · exact Or.inl h1
        · exact Or.inr (Or.inl h1)
      · exact Or.inr (Or.inr h)
    · rintro (h | h | h)
      · exact Or.inl (by omega)
      · exact Or.inl (by omega)
      · exact Or.inr h
theorem foldmax_gt16 (c : Int) : ∀ (l : List Int) (m : Int), c < l.foldl max m ↔ (c < m ∨ ∃ x ∈ l, c < x) := by
  intro l
  induction l with
  | nil => intro m; simp
  | cons x l ih =>
    intro m
    rw [List.foldl_cons, ih]
    simp only [List.mem_cons, exists_eq_or_imp]
    constructor
    · rintro (h | h)
      · rcases (by omega : c < m ∨ c < x) with h1 | h1
        · exact Or.inl h1
        · exact Or.inr (Or.inl h1)
      · exact Or.inr (Or.inr h)
    · rintro (h | h | h)
      · exact Or.inl (by omega)
      · exact Or.inl (by omega)
      · exact Or.inr h
theorem mem_num16 {l : List Int} {x : Int} (h : x ∈ l) : ∃ j, j < l.length ∧ numAt l j = x := by
  obtain ⟨j, hj, rfl⟩ := List.getElem_of_mem h
  exact ⟨j, hj, by unfold numAt; rw [List.getD_eq_getElem?_getD, List.getElem?_eq_getElem hj]; rfl⟩
end Go.Proofs.Ytifihejogbcbgaa
