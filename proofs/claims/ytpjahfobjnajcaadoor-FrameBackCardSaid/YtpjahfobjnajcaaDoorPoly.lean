/- Sums of bits by a register of 32, in plain words: what is changed within 32 bits is told. -/
namespace Go.Proofs.YtpjahfobjnajcaaDoor

/-- One bit into the register. -/
def stepB (n : Nat) (b : Bool) : Nat := (n / 2) ^^^ (if (n % 2 == 1) != b then 2197175160 else 0)
def runB (n : Nat) (bs : List Bool) : Nat := bs.foldl stepB n
/-- The number that bits tell, the lowest first. -/
def num : List Bool → Nat
  | [] => 0
  | b :: bs => b.toNat + 2 * num bs
theorem run_append7 (n : Nat) (a b : List Bool) : runB n (a ++ b) = runB (runB n a) b := List.foldl_append
theorem step_lt {n : Nat} {b : Bool} (h : n < 4294967296) : stepB n b < 4294967296 := by
  unfold stepB
  refine Nat.xor_lt_two_pow (n := 32) (by omega) ?_
  split <;> omega
theorem run_lt {bs : List Bool} : ∀ {n : Nat}, n < 4294967296 → runB n bs < 4294967296 := by
  induction bs with
  | nil => intro n h; exact h
  | cons b bs ih => intro n h; exact ih (step_lt h)
theorem par (n m : Nat) : ((n ^^^ m) % 2 == 1) = ((n % 2 == 1) != (m % 2 == 1)) := by
  have h := Nat.testBit_xor n m 0
  simp only [Nat.testBit_zero] at h
  rcases Nat.mod_two_eq_zero_or_one n with h1 | h1 <;> rcases Nat.mod_two_eq_zero_or_one m with g | g <;> rcases Nat.mod_two_eq_zero_or_one (n ^^^ m) with f | f <;> simp_all
theorem step_xor (n m : Nat) (b c : Bool) : stepB (n ^^^ m) (b != c) = stepB n b ^^^ stepB m c := by
  unfold stepB
  rw [par, Nat.xor_div_two]
  cases hn : (n % 2 == 1) <;> cases hm : (m % 2 == 1) <;> cases b <;> cases c <;> simp <;>
    first
      | ac_rfl
      | (rw [show ∀ x y p : Nat, (x ^^^ p) ^^^ (y ^^^ p) = x ^^^ y from fun x y p => by rw [Nat.xor_assoc, Nat.xor_comm p, Nat.xor_assoc, Nat.xor_self, Nat.xor_zero]])
theorem run_xor : ∀ (a b : List Bool) (n m : Nat), a.length = b.length → runB (n ^^^ m) (List.zipWith (fun x y => x != y) a b) = runB n a ^^^ runB m b := by
  intro a
  induction a with
  | nil => intro b n m h; rw [List.length_eq_zero_iff.1 h.symm]; rfl
  | cons x a ih =>
    intro b n m h
    cases b with
    | nil => simp at h
    | cons y b =>
      rw [List.zipWith_cons_cons]
      show runB (stepB (n ^^^ m) (x != y)) _ = _
      rw [step_xor]
      exact ih b _ _ (by simpa using h)
/-- A register whose top place is free came of a shift alone. -/
theorem step_back {n k : Nat} {b : Bool} (hn : n < 4294967296) (h : stepB n b = k) (hk : k < 2147483648) : n = b.toNat + 2 * k := by
  unfold stepB at h
  cases hx : ((n % 2 == 1) != b) with
  | true =>
    rw [hx, if_pos rfl] at h
    have h1 : k.testBit 31 = true := by
      rw [← h, Nat.testBit_xor]
      have h2 : (n / 2).testBit 31 = false := Nat.testBit_lt_two_pow (by omega)
      rw [h2]
      decide
    have h3 : k.testBit 31 = false := Nat.testBit_lt_two_pow (by omega)
    rw [h1] at h3; cases h3
  | false =>
    rw [hx] at h
    simp at h
    have h4 : (n % 2 == 1) = b := by cases hb : (n % 2 == 1) <;> cases b <;> simp_all
    subst h4
    rcases Nat.mod_two_eq_zero_or_one n with g | g <;> simp [g] <;> omega
theorem num_lt : ∀ bs : List Bool, num bs < 2 ^ bs.length := by
  intro bs
  induction bs with
  | nil => simp [num]
  | cons c bs ih =>
    simp only [num, List.length_cons, Nat.pow_succ]
    have : c.toNat ≤ 1 := by cases c <;> simp
    omega
/-- A register that bits, at most 32, make empty held just these bits. -/
theorem run_back : ∀ (bs : List Bool) (n : Nat), n < 4294967296 → bs.length ≤ 32 → runB n bs = 0 → n = num bs := by
  intro bs
  induction bs with
  | nil => intro n _ _ h; exact h
  | cons b bs ih =>
    intro n hn hl h
    rw [List.length_cons] at hl
    have h1 := ih (stepB n b) (step_lt hn) (by omega) h
    have h2 := num_lt bs
    have h3 := Nat.pow_le_pow_right (n := 2) (by omega) (show bs.length ≤ 31 by omega)
    exact step_back hn h1 (by omega)
theorem run_own : ∀ bs : List Bool, runB (num bs) bs = 0 := by
  intro bs
  induction bs with
  | nil => rfl
  | cons b bs ih =>
    have h : stepB (num (b :: bs)) b = num bs := by
      rw [show num (b :: bs) = b.toNat + 2 * num bs from rfl]
      unfold stepB
      have h1 : ((b.toNat + 2 * num bs) % 2 == 1) = b := by cases b <;> simp [Nat.add_mod]
      have h2 : (b.toNat + 2 * num bs) / 2 = num bs := by cases b <;> simp <;> omega
      rw [h1, h2]
      simp
    show runB (stepB (num (b :: bs)) b) bs = 0
    rw [h]; exact ih
/-- Bits 0 empty no register. -/
theorem run_zeros : ∀ (L n : Nat), n < 4294967296 → runB n (List.replicate L false) = 0 → n = 0 := by
  intro L
  induction L with
  | zero => intro n _ h; exact h
  | succ L ih =>
    intro n hn h
    rw [List.replicate_succ] at h
    have h1 := ih (stepB n false) (step_lt hn) h
    have := step_back hn h1 (by omega)
    simpa using this
theorem run_none : ∀ L : Nat, runB 0 (List.replicate L false) = 0 := by
  intro L
  induction L with
  | zero => rfl
  | succ L ih => rw [List.replicate_succ]; exact ih
/-- The register behind any bits that are followed by their own sum, turned, is always the same. -/
def turned (bs : List Bool) : List Bool := bs.map (fun b => !b)
theorem turned_zip (bs : List Bool) : turned bs = List.zipWith (fun x y => x != y) bs (List.replicate bs.length true) := by
  induction bs with
  | nil => rfl
  | cons b bs ih => simp only [turned, List.map_cons, List.length_cons, List.replicate_succ, List.zipWith_cons_cons]; rw [← ih]; simp [turned]
theorem run_seal (bs : List Bool) : runB (num bs) (turned bs) = runB 0 (List.replicate bs.length true) := by
  rw [turned_zip]
  have h := run_xor bs (List.replicate bs.length true) (num bs) 0 (by simp)
  rw [Nat.xor_zero, run_own, Nat.zero_xor] at h
  exact h
/-- Two rows of bits that leave the same behind: what parts them, if it lies within 32 bits, is nothing. -/
theorem burst {m : Nat} {t u w : List Bool} {a c : Nat} (hl : t.length = u.length) (he : List.zipWith (fun x y => x != y) t u = List.replicate a false ++ (w ++ List.replicate c false)) (hw : w.length ≤ 32) (h : runB m t = runB m u) : num w = 0 := by
  have h1 := run_xor t u m m hl
  rw [Nat.xor_self, h, Nat.xor_self, he, run_append7, run_append7, run_none] at h1
  have h2 := run_zeros c (runB 0 w) (run_lt (by omega)) h1
  exact (run_back w 0 (by omega) hw h2).symm
end Go.Proofs.YtpjahfobjnajcaaDoor
