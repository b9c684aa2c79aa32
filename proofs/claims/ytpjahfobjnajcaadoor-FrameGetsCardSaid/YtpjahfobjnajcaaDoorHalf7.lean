/- Half bytes of a sum by a table, and products of sums, in plain words. -/
import Derived.Test.YtpjahfobjnajcaaDoorSum7
namespace Go.Proofs.YtpjahfobjnajcaaDoor

def bits4 (h : Nat) : List Bool := (List.range 4).map fun i => h.testBit i
/-- As many bits 0 into the register. -/
def zer (k n : Nat) : Nat := runB n (List.replicate k false)
/-- The table's number at a place. -/
def tabN (h : Nat) : Nat := zer 4 h
theorem zer_succ (k n : Nat) : zer (k + 1) n = zer k (stepB n false) := rfl
theorem zer_zero (n : Nat) : zer 0 n = n := rfl
theorem zer_add (p q n : Nat) : zer p (zer q n) = zer (q + p) n := by
  unfold zer; rw [← run_append7, List.replicate_append_replicate]
theorem zer_lt {k n : Nat} (h : n < 4294967296) : zer k n < 4294967296 := run_lt h
theorem zer_xor (k n m : Nat) : zer k (n ^^^ m) = zer k n ^^^ zer k m := by
  have h := run_xor (List.replicate k false) (List.replicate k false) n m rfl
  have e : List.zipWith (fun x y => x != y) (List.replicate k false) (List.replicate k false) = List.replicate k false := by
    have := zip_none (List.replicate k false)
    rw [List.length_replicate] at this
    exact this
  rw [e] at h
  exact h
theorem zer_none (k : Nat) : zer k 0 = 0 := run_none k
/-- Bits taken in are bits that were in the register. -/
theorem run_zer (n : Nat) (bs : List Bool) : runB n bs = zer bs.length (n ^^^ num bs) := by
  have h := run_xor bs (List.replicate bs.length false) (num bs) (n ^^^ num bs) (by simp)
  rw [zip_none, run_own, Nat.zero_xor, Nat.xor_comm n, ← Nat.xor_assoc, Nat.xor_self, Nat.zero_xor, Nat.xor_comm] at h
  exact h
theorem step_two (q : Nat) : stepB (2 * q) false = q := by
  unfold stepB
  have h1 : 2 * q % 2 = 0 := by omega
  have h2 : 2 * q / 2 = q := by omega
  rw [h1, h2]; simp
theorem zer_four (m : Nat) : zer 4 m = (m / 16) ^^^ tabN (m % 16) := by
  have e : m = (16 * (m / 16)) ^^^ (m % 16) := by
    refine Nat.eq_of_testBit_eq fun i => ?_
    rw [Nat.testBit_xor, show 16 * (m / 16) = m / 2 ^ 4 * 2 ^ 4 by omega, Nat.testBit_mul_two_pow, Nat.testBit_div_two_pow, show m % 16 = m % 2 ^ 4 from rfl, Nat.testBit_mod_two_pow]
    by_cases h : i < 4
    · simp [h, Nat.not_le.2 h]
    · simp [h, Nat.not_lt.1 h]
  have e2 : zer 4 (16 * (m / 16)) = m / 16 := by
    rw [show 16 * (m / 16) = 2 * (2 * (2 * (2 * (m / 16)))) by omega, zer_succ, step_two, zer_succ, step_two, zer_succ, step_two, zer_succ, step_two, zer_zero]
  have h := zer_xor 4 (16 * (m / 16)) (m % 16)
  rw [← e, e2] at h
  exact h
theorem num4 {h : Nat} (hh : h < 16) : num (bits4 h) = h := by
  unfold bits4; rw [num_bits]; exact Nat.mod_eq_of_lt hh
/-- Half a byte into the register, by the table. -/
theorem half_step {n h : Nat} (hh : h < 16) : runB n (bits4 h) = (n / 16) ^^^ tabN (n % 16 ^^^ h) := by
  rw [run_zer, num4 hh, show (bits4 h).length = 4 by simp [bits4], zer_four]
  have e1 : (n ^^^ h) / 16 = n / 16 := by
    refine Nat.eq_of_testBit_eq fun i => ?_
    rw [show (16 : Nat) = 2 ^ 4 from rfl, Nat.testBit_div_two_pow, Nat.testBit_div_two_pow, Nat.testBit_xor]
    have : h.testBit (i + 4) = false := Nat.testBit_lt_two_pow (Nat.lt_of_lt_of_le hh (by
      have := Nat.pow_le_pow_right (n := 2) (by omega) (show 4 ≤ i + 4 by omega)
      omega))
    rw [this]; simp
  have e2 : (n ^^^ h) % 16 = n % 16 ^^^ h := by
    rw [show (16 : Nat) = 2 ^ 4 from rfl, Nat.xor_mod_two_pow, Nat.mod_eq_of_lt (show h < 2 ^ 4 from hh)]
  rw [e1, e2]
theorem byte_halves (c : UInt8) : bits8 c = bits4 (c.toNat % 16) ++ bits4 (c.toNat / 16) := by
  refine List.ext_getElem (by simp [bits8, bits4]) fun i h1 h2 => ?_
  simp only [bits8, bits4, List.getElem_map, List.getElem_range, List.getElem_append, List.length_map, List.length_range]
  split
  · rename_i h
    rw [show (16 : Nat) = 2 ^ 4 from rfl, Nat.testBit_mod_two_pow]; simp [h]
  · rename_i h
    rw [show (16 : Nat) = 2 ^ 4 from rfl, Nat.testBit_div_two_pow, Nat.sub_add_cancel (by omega)]
theorem reg_halves (n : Nat) (c : UInt8) : runB (runB n (bits4 (c.toNat % 16))) (bits4 (c.toNat / 16)) = runB n (bits8 c) := by
  rw [byte_halves, run_append7]
theorem tab_lt (i : Nat) (h : i < 16) : tabN i < 4294967296 := zer_lt (by omega)
theorem half_lt {n h : Nat} (hh : h < 16) : n % 16 ^^^ h < 16 := Nat.xor_lt_two_pow (n := 4) (by omega) hh
/-- The numbers of the table. -/
def tabZ : List Int := [0, 274646895, 549293790, 820201905, 1098587580, 1361435347, 1640403810, 1905808397, 2197175160, 2460548119, 2722870694, 2987750089, 3280807620, 3553878443, 3811616794, 4084100981]
theorem tab_at : ∀ i, i < 16 → tabZ.getD i 0 = (tabN i : Int) := by decide

/-- Of two sums the product: the first one's bits, the highest first, tell which moves of the second one are put together. -/
def prodV : Nat → Nat → Nat → Nat
  | 0, _, _ => 0
  | k + 1, a, b => (if 2147483648 ≤ a then b else 0) ^^^ prodV k (2 * a % 4294967296) (stepB b false)
def timesV (a b : Nat) : Nat := prodV 32 a b
theorem prod_none : ∀ k b, prodV k 0 b = 0 := by
  intro k
  induction k with
  | zero => intro b; rfl
  | succ k ih => intro b; unfold prodV; rw [if_neg (by omega), ih]; rfl
theorem prod_lt : ∀ k a b, b < 4294967296 → prodV k a b < 4294967296 := by
  intro k
  induction k with
  | zero => intro a b _; show 0 < _; omega
  | succ k ih =>
    intro a b h
    unfold prodV
    refine Nat.xor_lt_two_pow (n := 32) ?_ (ih _ _ (step_lt h))
    split <;> omega
theorem step_none : stepB 0 false = 0 := by decide
theorem prod_step : ∀ k a b, prodV k a (stepB b false) = stepB (prodV k a b) false := by
  intro k
  induction k with
  | zero => intro a b; exact step_none.symm
  | succ k ih =>
    intro a b
    have hx := step_xor (if 2147483648 ≤ a then b else 0) (prodV k (2 * a % 4294967296) (stepB b false)) false false
    rw [show (false != false) = false from rfl] at hx
    show (if 2147483648 ≤ a then stepB b false else 0) ^^^ prodV k (2 * a % 4294967296) (stepB (stepB b false) false) = stepB ((if 2147483648 ≤ a then b else 0) ^^^ prodV k (2 * a % 4294967296) (stepB b false)) false
    rw [hx, ih]
    congr 1
    split <;> rfl
theorem prod_zer : ∀ j k a b, prodV k a (zer j b) = zer j (prodV k a b) := by
  intro j
  induction j with
  | zero => intro k a b; rfl
  | succ j ih => intro k a b; rw [zer_succ, zer_succ, ih, prod_step]
theorem prod_one : ∀ k a, k ≤ 31 → a < 4294967296 → prodV (k + 1) a (2 ^ k) = a / 2 ^ (31 - k) := by
  intro k
  induction k with
  | zero =>
    intro a _ ha
    show (if 2147483648 ≤ a then 1 else 0) ^^^ 0 = a / 2147483648
    rw [Nat.xor_zero]
    split <;> omega
  | succ k ih =>
    intro a hk ha
    have h1 : stepB (2 ^ (k + 1)) false = 2 ^ k := by rw [Nat.pow_succ, Nat.mul_comm]; exact step_two _
    have h2 := ih (2 * a % 4294967296) (by omega) (Nat.mod_lt _ (by omega))
    show (if 2147483648 ≤ a then 2 ^ (k + 1) else 0) ^^^ prodV (k + 1) (2 * a % 4294967296) (stepB (2 ^ (k + 1)) false) = a / 2 ^ (31 - (k + 1))
    rw [h1, h2]
    refine Nat.eq_of_testBit_eq fun i => ?_
    rw [Nat.testBit_xor, Nat.testBit_div_two_pow, Nat.testBit_div_two_pow, show (4294967296 : Nat) = 2 ^ 32 from rfl, Nat.testBit_mod_two_pow, Nat.mul_comm 2 a, show a * 2 = a * 2 ^ 1 from rfl, Nat.testBit_mul_two_pow]
    have ht : ∀ j, 32 ≤ j → a.testBit j = false := fun j hj => Nat.testBit_lt_two_pow (Nat.lt_of_lt_of_le ha (by
      have := Nat.pow_le_pow_right (n := 2) (by omega) hj
      omega))
    have h31 : decide (2147483648 ≤ a) = a.testBit 31 := by
      rw [testBit_bool, show (2 : Nat) ^ 31 = 2147483648 from rfl]
      by_cases h : 2147483648 ≤ a
      · rw [decide_eq_true h]
        have : a / 2147483648 = 1 := by omega
        rw [this]; rfl
      · rw [decide_eq_false h]
        have : a / 2147483648 = 0 := by omega
        rw [this]; rfl
    have hif : (if 2147483648 ≤ a then 2 ^ (k + 1) else 0).testBit i = (a.testBit 31 && decide (k + 1 = i)) := by
      rw [← h31]
      by_cases h : 2147483648 ≤ a
      · rw [if_pos h, decide_eq_true h, Nat.testBit_two_pow]; simp
      · rw [if_neg h, decide_eq_false h]; simp
    rw [hif]
    by_cases c1 : i < k + 1
    · have e1 : i + (31 - k) - 1 = i + (31 - (k + 1)) := by omega
      rw [decide_eq_false (by omega : ¬ k + 1 = i), decide_eq_true (show i + (31 - k) < 32 by omega), decide_eq_true (show 1 ≤ i + (31 - k) by omega), e1]; simp
    · by_cases c2 : i = k + 1
      · subst c2
        rw [decide_eq_true rfl, decide_eq_false (show ¬ k + 1 + (31 - k) < 32 by omega), show k + 1 + (31 - (k + 1)) = 31 by omega]; simp
      · rw [decide_eq_false (by omega : ¬ k + 1 = i), decide_eq_false (show ¬ i + (31 - k) < 32 by omega), ht _ (show 32 ≤ i + (31 - (k + 1)) by omega)]; simp
/-- A product by a power of the move is as many moves. -/
theorem times_zer (a k : Nat) (ha : a < 4294967296) : timesV a (zer k 2147483648) = zer k a := by
  have h := prod_one 31 a (by omega) ha
  unfold timesV
  rw [prod_zer, show (2147483648 : Nat) = 2 ^ 31 from rfl, h, Nat.sub_self, Nat.pow_zero, Nat.div_one]
theorem times_zers (p q : Nat) : timesV (zer p 2147483648) (zer q 2147483648) = zer (p + q) 2147483648 := by
  rw [times_zer _ _ (zer_lt (by omega)), zer_add]
theorem eight_moves : zer 8 2147483648 = 8388608 := by decide
theorem bothV_zer (a b : Nat) (n : Int) (h : bothE n = 0) (ha : a < 4294967296) : bothV a b n = timesV a (zer (8 * n.toNat) 2147483648) ^^^ b := by
  rw [times_zer a _ ha]; unfold bothV; rw [if_pos h]; rfl
end Go.Proofs.YtpjahfobjnajcaaDoor
