/- serial.Mark answers for every text of whatever bytes just what the plain words say; it leaves what lay there. -/
import Derived.Test.YtkflpkcggjpbfaaCheck
namespace Go.Proofs.Ytkflpkcggjpbfaa
open Go.RowKit

def symAt (i : Int) : Int := if i < 10 then 48 + i else if i < 36 then 55 + i else 42
def numOf (n : Int) : List UInt8 → Int
  | [] => n
  | c :: l => numOf (if c.toNat = 45 then n else (n + valueOf (c.toNat : Int)) * 2 % 37) l
def markR (l : List UInt8) : Int := if serialB okC l then symAt ((38 - numOf 0 l) % 37) else 0
theorem numOf_snoc (n : Int) (l : List UInt8) (c : UInt8) : numOf n (l ++ [c]) = if c.toNat = 45 then numOf n l else (numOf n l + valueOf (c.toNat : Int)) * 2 % 37 := by
  induction l generalizing n with
  | nil => rfl
  | cons x l ih => simp only [List.cons_append, numOf, ih]
theorem value_le (r : Int) : -1 ≤ valueOf r ∧ valueOf r ≤ 36 := by
  unfold valueOf
  split
  · omega
  · split
    · omega
    · split <;> omega
theorem numOf_bd (l : List UInt8) : 0 ≤ numOf 0 l ∧ numOf 0 l < 37 := by
  have h : ∀ (l : List UInt8) (n : Int), 0 ≤ n → n < 37 → 0 ≤ numOf n l ∧ numOf n l < 37 := by
    intro l
    induction l with
    | nil => intro n h1 h2; exact ⟨h1, h2⟩
    | cons c l ih =>
      intro n h1 h2
      simp only [numOf]
      split
      · exact ih n h1 h2
      · exact ih _ (by omega) (by omega)
  exact h l 0 (by omega) (by omega)
theorem value_okC {c : UInt8} (h : okC c = true) (hd : ¬ c.toNat = 45) : 0 ≤ valueOf (c.toNat : Int) ∧ valueOf (c.toNat : Int) ≤ 35 := by
  unfold okC at h
  simp at h
  unfold valueOf
  split
  · omega
  · split
    · omega
    · split <;> omega
theorem class_dash {c : UInt8} (h : okC c = true) : (classOf (c.toNat : Int) != 3) = !decide (c.toNat = 45) := by
  unfold okC at h
  simp at h
  unfold classOf
  by_cases h1 : (97 ≤ (c.toNat : Int) ∧ (c.toNat : Int) ≤ 122) ∨ (65 ≤ (c.toNat : Int) ∧ (c.toNat : Int) ≤ 90)
  · rw [if_pos h1, decide_eq_false (by omega)]; rfl
  · rw [if_neg h1]
    by_cases h2 : 48 ≤ (c.toNat : Int) ∧ (c.toNat : Int) ≤ 57
    · rw [if_pos h2, decide_eq_false (by omega)]; rfl
    · rw [if_neg h2, if_pos (by omega), decide_eq_true (by omega)]; rfl
/-- In a serial every sign may stand. -/
theorem run_all (ok : UInt8 → Bool) (l : List UInt8) (d : Bool) (h : (run ok d l).isSome = true) : ∀ c ∈ l, ok c = true := by
  induction l generalizing d with
  | nil => intro c hc; cases hc
  | cons x l ih =>
    intro c hc
    simp only [run] at h
    split at h
    · rename_i hx
      rcases List.mem_cons.1 hc with rfl | hc
      · simp at hx; exact hx.1
      · exact ih _ h c hc
    · cases h
theorem serial_all {ok : UInt8 → Bool} {l : List UInt8} (h : serialB ok l = true) : ∀ c ∈ l, ok c = true := by
  unfold serialB at h
  simp at h
  exact run_all ok l true (by rw [h.2]; rfl)
theorem okC_ascii {c : UInt8} (h : okC c = true) : c.toNat < 128 := by
  rcases Nat.lt_or_ge c.toNat 128 with h' | h'
  · exact h'
  · rw [okC_high h'] at h; cases h

set_option maxRecDepth 100000 in
theorem sym_index (j : Int) (h0 : 0 ≤ j) (h1 : j < 37) (w : World) : (Instr.index 9 (.string ⟨#[48, 49, 50, 51, 52, 53, 54, 55, 56, 57, 65, 66, 67, 68, 69, 70, 71, 72, 73, 74, 75, 76, 77, 78, 79, 80, 81, 82, 83, 84, 85, 86, 87, 88, 89, 90, 42]⟩) (.int .i64 j)).run Try.prog w = .ok (.int .u8 (symAt j)) w := by
  have : j = 0 ∨ j = 1 ∨ j = 2 ∨ j = 3 ∨ j = 4 ∨ j = 5 ∨ j = 6 ∨ j = 7 ∨ j = 8 ∨ j = 9 ∨ j = 10 ∨ j = 11 ∨ j = 12 ∨ j = 13 ∨ j = 14 ∨ j = 15 ∨ j = 16 ∨ j = 17 ∨ j = 18 ∨ j = 19 ∨ j = 20 ∨ j = 21 ∨ j = 22 ∨ j = 23 ∨ j = 24 ∨ j = 25 ∨ j = 26 ∨ j = 27 ∨ j = 28 ∨ j = 29 ∨ j = 30 ∨ j = 31 ∨ j = 32 ∨ j = 33 ∨ j = 34 ∨ j = 35 ∨ j = 36 := by omega
  rcases this with rfl | rfl | rfl | rfl | rfl | rfl | rfl | rfl | rfl | rfl | rfl | rfl | rfl | rfl | rfl | rfl | rfl | rfl | rfl | rfl | rfl | rfl | rfl | rfl | rfl | rfl | rfl | rfl | rfl | rfl | rfl | rfl | rfl | rfl | rfl | rfl | rfl <;> rfl
theorem symAt_bd (j : Int) (h0 : 0 ≤ j) (h1 : j < 37) : 42 ≤ symAt j ∧ symAt j ≤ 90 := by
  unfold symAt
  split
  · omega
  · split <;> omega

end Go.Proofs.Ytkflpkcggjpbfaa
