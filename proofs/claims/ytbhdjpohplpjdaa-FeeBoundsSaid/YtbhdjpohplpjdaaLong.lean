/- Division of a number of two words by a number of one word, in plain numbers: the school's way on halves of words, where each digit is tried from above. -/
namespace Go.Proofs.Ytbhdjpohplpjdaa

/-- A digit that is tried is too great: the halves' test says it. -/
theorem digit_over {K Y U u q r y1 y0 : Nat} (hY : Y = y1 * K + y0) (hU : q * y1 + r = U) (hUY : U < Y) (hu : u < K)
    (h : K ≤ q ∨ r * K + u < q * y0) : U * K + u < q * Y := by
  rcases h with h | h
  · have h1 : K * Y ≤ q * Y := Nat.mul_le_mul_right Y h
    have h2 : (U + 1) * K ≤ Y * K := Nat.mul_le_mul_right K hUY
    rw [Nat.add_mul] at h2
    rw [Nat.mul_comm K Y] at h1
    omega
  · have e1 : q * Y = q * y1 * K + q * y0 := by rw [hY, Nat.mul_add, Nat.mul_assoc]
    have e2 : U * K = q * y1 * K + r * K := by rw [← hU, Nat.add_mul]
    rw [e1, e2]
    omega
/-- A digit that is tried is small enough: the halves' test says it. -/
theorem digit_under {K Y U u q r y1 y0 : Nat} (hY : Y = y1 * K + y0) (hU : q * y1 + r = U)
    (h : q * y0 ≤ r * K + u) : q * Y ≤ U * K + u := by
  have e1 : q * Y = q * y1 * K + q * y0 := by rw [hY, Nat.mul_add, Nat.mul_assoc]
  have e2 : U * K = q * y1 * K + r * K := by rw [← hU, Nat.add_mul]
  rw [e1, e2]
  omega
/-- Where the rest has left the lower half, the test can't fail any more. -/
theorem digit_out {K Y U u q r y1 y0 : Nat} (hY : Y = y1 * K + y0) (hy0 : y0 < K) (hU : q * y1 + r = U) (hUY : U < Y) (hr : K ≤ r) : q * Y ≤ U * K + u := by
  apply digit_under hY hU
  have hq : q ≤ K := by
    rcases Nat.lt_or_ge K q with h | h
    · have : (K + 1) * y1 ≤ q * y1 := Nat.mul_le_mul_right y1 h
      rw [Nat.add_mul, Nat.mul_comm K y1] at this
      omega
    · exact h
  have h1 : q * y0 ≤ K * y0 := Nat.mul_le_mul_right y0 hq
  have h2 : K * y0 ≤ K * r := Nat.mul_le_mul_left K (by omega)
  rw [Nat.mul_comm r K]
  omega
/-- The first digit tried is not too small. -/
theorem digit_first {K Y U u y1 y0 : Nat} (hY : Y = y1 * K + y0) (hy1 : 0 < y1) (hu : u < K) : U * K + u < (U / y1 + 1) * Y := by
  have h1 : U + 1 ≤ (U / y1 + 1) * y1 := by
    have := Nat.div_add_mod U y1
    have h3 := Nat.mod_lt U hy1
    rw [Nat.mul_comm] at this
    rw [Nat.add_mul]
    omega
  have h2 : (U + 1) * K ≤ (U / y1 + 1) * y1 * K := Nat.mul_le_mul_right K h1
  have e : (U / y1 + 1) * Y = (U / y1 + 1) * y1 * K + (U / y1 + 1) * y0 := by rw [hY, Nat.mul_add, Nat.mul_assoc]
  rw [e]
  rw [Nat.add_mul] at h2
  omega
/-- The digit: not too great, and one more would be. -/
theorem digit_is {Y N q : Nat} (h1 : q * Y ≤ N) (h2 : N < (q + 1) * Y) : N / Y = q := Nat.div_eq_of_lt_le h1 h2

/-- Two digits, one after the other, of a number that has been moved up, are the quotient; the rest moved down is the remainder. -/
theorem two_digits {K P hi lo y U l1 l0 Y : Nat} (hP : 0 < P) (hY0 : 0 < Y) (hY : Y = y * P) (hN : (hi * (K * K) + lo) * P = (U * K + l1) * K + l0) :
    (hi * (K * K) + lo) / y = (U * K + l1) / Y * K + ((U * K + l1) % Y * K + l0) / Y ∧
    ((hi * (K * K) + lo) % y) * P = ((U * K + l1) % Y * K + l0) % Y := by
  have e1 : (hi * (K * K) + lo) / y = ((U * K + l1) * K + l0) / Y := by rw [← hN, hY, Nat.mul_div_mul_right _ _ hP]
  have e2 : ((hi * (K * K) + lo) % y) * P = ((U * K + l1) * K + l0) % Y := by rw [← hN, hY, Nat.mul_mod_mul_right]
  rw [e1, e2]
  have e3 := Nat.div_add_mod (U * K + l1) Y
  have e4 : (U * K + l1) * K + l0 = ((U * K + l1) % Y * K + l0) + Y * ((U * K + l1) / Y * K) := by
    generalize (U * K + l1) / Y = d at *
    generalize (U * K + l1) % Y = m at *
    rw [← e3, Nat.add_mul, Nat.mul_assoc]
    omega
  rw [e4, Nat.add_mul_div_left _ _ hY0, Nat.add_mul_mod_self_left]
  exact ⟨Nat.add_comm _ _, rfl⟩
/-- A number of two words, moved up: the parts of which it is put together. -/
theorem moved_up {hi lo s : Nat} (hs : s ≤ 63) :
    (hi * (4294967296 * 4294967296) + lo) * 2 ^ s =
      ((hi * 2 ^ s + lo / 2 ^ (64 - s)) * 4294967296 + lo * 2 ^ s % 18446744073709551616 / 4294967296) * 4294967296 + lo * 2 ^ s % 18446744073709551616 % 4294967296 := by
  have e0 : (18446744073709551616 : Nat) = 2 ^ (64 - s) * 2 ^ s := by rw [← Nat.pow_add]; rw [show 64 - s + s = 64 by omega]
  have hp : 0 < 2 ^ s := Nat.two_pow_pos s
  have e1 : lo * 2 ^ s / 18446744073709551616 = lo / 2 ^ (64 - s) := by rw [e0, Nat.mul_div_mul_right _ _ hp]
  have e2 := Nat.div_add_mod (lo * 2 ^ s) 18446744073709551616
  rw [e1] at e2
  rw [Nat.add_mul, Nat.mul_assoc, Nat.mul_comm (4294967296 * 4294967296), ← Nat.mul_assoc]
  generalize lo / 2 ^ (64 - s) = a at *
  generalize lo * 2 ^ s = b at *
  generalize hi * 2 ^ s = c at *
  omega
/-- A word's bits moved up, and the upper bits of the lower word put beside them. -/
theorem beside (hi lo s : Nat) (hs : s ≤ 63) (hl : lo < 18446744073709551616) : hi * 2 ^ s ||| lo / 2 ^ (64 - s) = hi * 2 ^ s + lo / 2 ^ (64 - s) := by
  have hb : lo / 2 ^ (64 - s) < 2 ^ s := by
    rw [Nat.div_lt_iff_lt_mul (Nat.two_pow_pos _), ← Nat.pow_add, show s + (64 - s) = 64 by omega]; exact hl
  rw [Nat.mul_comm hi, Nat.two_pow_add_eq_or_of_lt hb]

/-- One trial more, one lower: what is known of the digit stays known. -/
theorem digit_down {K Y U u q r y1 y0 : Nat} (hY : Y = y1 * K + y0) (hU : q * y1 + r = U) (hUY : U < Y) (hu : u < K)
    (h : K ≤ q ∨ r * K + u < q * y0) : ∃ p, q = p + 1 ∧ p * y1 + (r + y1) = U ∧ U * K + u < (p + 1) * Y := by
  have h1 := digit_over hY hU hUY hu h
  match q, h1 with
  | 0, h1 => rw [Nat.zero_mul] at h1; omega
  | p + 1, h1 =>
    refine ⟨p, rfl, ?_, h1⟩
    rw [Nat.add_mul] at hU
    omega
/-- The divisor moved up fills its word. -/
theorem lead_fills (y L : Nat) (hy : y < 18446744073709551616) (h1 : y < 2 ^ L) (h2 : 2 ^ (L - 1) ≤ y) (hL : 1 ≤ L) :
    L ≤ 64 ∧ 9223372036854775808 ≤ y * 2 ^ (64 - L) ∧ y * 2 ^ (64 - L) < 18446744073709551616 := by
  have hL64 : L ≤ 64 := by
    rcases Nat.lt_or_ge 64 L with h | h
    · have := Nat.pow_le_pow_right (n := 2) (by omega) (show 64 ≤ L - 1 by omega)
      omega
    · exact h
  refine ⟨hL64, ?_, ?_⟩
  · have := Nat.mul_le_mul_right (2 ^ (64 - L)) h2
    rw [← Nat.pow_add, show L - 1 + (64 - L) = 63 by omega] at this
    exact this
  · have := Nat.mul_lt_mul_of_pos_right h1 (Nat.two_pow_pos (64 - L))
    rw [← Nat.pow_add, show L + (64 - L) = 64 by omega] at this
    exact this
end Go.Proofs.Ytbhdjpohplpjdaa
