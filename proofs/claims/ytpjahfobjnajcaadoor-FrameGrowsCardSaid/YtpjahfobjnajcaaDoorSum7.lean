/- Sums of bytes in plain words: what goes on, what two sums make, what is sealed, and that a change within 32 bits is told. -/
import Derived.Test.YtpjahfobjnajcaaDoorPoly
namespace Go.Proofs.YtpjahfobjnajcaaDoor

def bits8 (c : UInt8) : List Bool := (List.range 8).map (fun i => c.toNat.testBit i)
def bitsL (l : List UInt8) : List Bool := l.flatMap bits8
/-- The register, gone on with bytes. -/
def regOn (n : Nat) (l : List UInt8) : Nat := runB n (bitsL l)
def onN (sum : Nat) (l : List UInt8) : Nat := 4294967295 - regOn (4294967295 - sum) l
def ofN (l : List UInt8) : Nat := onN 0 l
def fourL (n : Nat) : List UInt8 := [UInt8.ofNat (n % 256), UInt8.ofNat (n / 256 % 256), UInt8.ofNat (n / 65536 % 256), UInt8.ofNat (n / 16777216 % 256)]
def sealL (l : List UInt8) : List UInt8 := l ++ fourL (ofN l)
def unE (l : List UInt8) : Int := if l.length < 4 then 4 else if fourL (ofN (l.take (l.length - 4))) = l.drop (l.length - 4) then 0 else 7
def unL (l : List UInt8) : List UInt8 := if unE l = 0 then l.take (l.length - 4) else []
def bothE (n : Int) : Int := if 0 ≤ n ∧ n ≤ 1000000 then 0 else 2
def bothV (a b : Nat) (n : Int) : Nat := if bothE n = 0 then runB a (List.replicate (8 * n.toNat) false) ^^^ b else 0

theorem bits_len (c : UInt8) : (bits8 c).length = 8 := by simp [bits8]
theorem bitsL_more (a b : List UInt8) : bitsL (a ++ b) = bitsL a ++ bitsL b := by unfold bitsL; rw [List.flatMap_append]
theorem bitsL_one (c : UInt8) : bitsL [c] = bits8 c := by simp [bitsL]
theorem bitsL_len (l : List UInt8) : (bitsL l).length = 8 * l.length := by
  induction l with
  | nil => rfl
  | cons c l ih =>
    have e : bitsL (c :: l) = bits8 c ++ bitsL l := by simp [bitsL]
    rw [e, List.length_append, bits_len, ih, List.length_cons]; omega
theorem reg_append (n : Nat) (a b : List UInt8) : regOn n (a ++ b) = regOn (regOn n a) b := by
  unfold regOn; rw [bitsL_more, run_append7]
theorem reg_snoc (n : Nat) (a : List UInt8) (c : UInt8) : regOn n (a ++ [c]) = runB (regOn n a) (bits8 c) := by
  rw [reg_append]; unfold regOn; rw [bitsL_one]
theorem reg_lt {n : Nat} (h : n < 4294967296) (l : List UInt8) : regOn n l < 4294967296 := run_lt h
theorem on_lt (n : Nat) (l : List UInt8) : onN n l < 4294967296 := by unfold onN; omega
theorem turn_xor {n : Nat} (h : n < 4294967296) : 4294967295 - n = 4294967295 ^^^ n := by
  have h1 : 4294967295 - n = 2 ^ 32 - (n + 1) := by omega
  rw [h1]
  refine Nat.eq_of_testBit_eq fun i => ?_
  rw [Nat.testBit_two_pow_sub_succ (by omega), Nat.testBit_xor, show (4294967295 : Nat) = 2 ^ 32 - 1 from rfl, Nat.testBit_two_pow_sub_one]
  by_cases hi : i < 32
  · simp [hi]
  · have : n.testBit i = false := Nat.testBit_lt_two_pow (Nat.lt_of_lt_of_le h (by
      have := Nat.pow_le_pow_right (n := 2) (by omega) (show 32 ≤ i by omega)
      omega))
    simp [hi, this]
/-- A sum goes on. -/
theorem on_two (a b : List UInt8) : onN (ofN a) b = ofN (a ++ b) := by
  unfold ofN onN
  have h := reg_lt (n := 4294967295) (by omega) a
  rw [reg_append, show 4294967295 - (4294967295 - regOn (4294967295 - 0) a) = regOn (4294967295 - 0) a by simp only [Nat.sub_zero]; omega]
theorem zip_none (l : List Bool) : List.zipWith (fun x y => x != y) l (List.replicate l.length false) = l := by
  induction l with
  | nil => rfl
  | cons b l ih => rw [List.length_cons, List.replicate_succ, List.zipWith_cons_cons, ih]; simp
/-- Two sums put together. -/
theorem both_two (a b : List UInt8) (h : b.length ≤ 1000000) : bothE b.length = 0 ∧ bothV (ofN a) (ofN b) b.length = ofN (a ++ b) := by
  have he : bothE b.length = 0 := by unfold bothE; rw [if_pos ⟨by omega, by omega⟩]
  refine ⟨he, ?_⟩
  unfold bothV
  rw [if_pos he, Int.toNat_natCast, ← bitsL_len]
  have hA := reg_lt (n := 4294967295) (by omega) a
  have e1 : ofN (a ++ b) = 4294967295 ^^^ regOn (regOn 4294967295 a) b := by
    unfold ofN onN
    rw [Nat.sub_zero, reg_append, turn_xor (reg_lt hA b)]
  have e2 : regOn 4294967295 a = 4294967295 ^^^ ofN a := by
    unfold ofN onN
    rw [Nat.sub_zero, turn_xor hA, ← Nat.xor_assoc, Nat.xor_self, Nat.zero_xor]
  have e3 : regOn (4294967295 ^^^ ofN a) b = regOn 4294967295 b ^^^ runB (ofN a) (List.replicate (bitsL b).length false) := by
    have := run_xor (bitsL b) (List.replicate (bitsL b).length false) 4294967295 (ofN a) (by simp)
    rw [zip_none] at this
    exact this
  have e4 : ofN b = 4294967295 ^^^ regOn 4294967295 b := by
    unfold ofN onN
    rw [Nat.sub_zero, turn_xor (reg_lt (by omega) b)]
  rw [e1, e2, e3, e4]
  generalize runB _ _ = z
  generalize regOn 4294967295 b = y
  ac_rfl
theorem testBit_bool (n i : Nat) : n.testBit i = (n / 2 ^ i % 2 == 1) := by
  rw [Nat.testBit_eq_decide_div_mod_eq]
  rcases Nat.mod_two_eq_zero_or_one (n / 2 ^ i) with h | h <;> simp [h]
theorem num_bits (n k : Nat) : num ((List.range k).map fun i => n.testBit i) = n % 2 ^ k := by
  induction k generalizing n with
  | zero => simp [num, Nat.mod_one]
  | succ k ih =>
    rw [List.range_succ_eq_map, List.map_cons, List.map_map]
    have e : ((fun i => n.testBit i) ∘ Nat.succ) = fun i => (n / 2).testBit i := by
      funext i; simp [Function.comp, Nat.testBit_succ]
    rw [e]
    show (n.testBit 0).toNat + 2 * num _ = _
    rw [ih, Nat.pow_succ, Nat.mul_comm, Nat.mul_comm (2 ^ k) 2, Nat.mod_mul]
    rw [Nat.mul_comm]
    have : (n.testBit 0).toNat = n % 2 := by
      rw [Nat.testBit_zero]
      rcases Nat.mod_two_eq_zero_or_one n with h | h <;> simp [h]
    omega
theorem four_bits (n : Nat) : bitsL (fourL n) = (List.range 32).map fun i => n.testBit i := by
  have hb : ∀ m : Nat, m < 256 → bits8 (UInt8.ofNat m) = (List.range 8).map fun i => m.testBit i := fun m hm => by
    unfold bits8
    rw [UInt8.toNat_ofNat', Nat.mod_eq_of_lt hm]
  have hs : bitsL (fourL n) = bits8 (UInt8.ofNat (n % 256)) ++ (bits8 (UInt8.ofNat (n / 256 % 256)) ++ (bits8 (UInt8.ofNat (n / 65536 % 256)) ++ (bits8 (UInt8.ofNat (n / 16777216 % 256)) ++ []))) := by simp [bitsL, fourL]
  rw [hs, hb _ (by omega), hb _ (by omega), hb _ (by omega), hb _ (by omega), List.append_nil]
  refine List.ext_getElem (by simp) fun i h1 h2 => ?_
  have hi : i < 32 := by simpa using h2
  have key : ∀ (q j : Nat), j < 8 → (n / 256 ^ q % 256).testBit j = n.testBit (8 * q + j) := fun q j hj => by
    rw [show (256 : Nat) = 2 ^ 8 from rfl, Nat.testBit_mod_two_pow, ← Nat.pow_mul, Nat.testBit_div_two_pow]
    simp [hj, Nat.add_comm]
  have k0 := key 0; have k1 := key 1; have k2 := key 2; have k3 := key 3
  simp only [Nat.pow_zero, Nat.div_one, Nat.mul_zero, Nat.zero_add] at k0
  simp only [Nat.pow_one, Nat.mul_one] at k1
  rw [show (256 : Nat) ^ 2 = 65536 from rfl] at k2
  rw [show (256 : Nat) ^ 3 = 16777216 from rfl] at k3
  simp only [List.getElem_append, List.length_map, List.length_range, List.getElem_map, List.getElem_range]
  split
  · rw [k0 _ (by omega)]
  · split
    · rw [k1 _ (by omega)]; congr 1; omega
    · split
      · rw [k2 _ (by omega)]; congr 1; omega
      · rw [k3 _ (by omega)]; congr 1; omega
/-- The register behind any sealed bytes. -/
theorem seal_reg (l : List UInt8) : regOn 4294967295 (sealL l) = runB 0 (List.replicate 32 true) := by
  unfold sealL
  rw [reg_append]
  have hA := reg_lt (n := 4294967295) (by omega) l
  have e1 : ofN l = 4294967295 ^^^ regOn 4294967295 l := by
    unfold ofN onN
    rw [Nat.sub_zero, turn_xor hA]
  generalize regOn 4294967295 l = A at *
  have e2 : bitsL (fourL (ofN l)) = turned ((List.range 32).map fun i => A.testBit i) := by
    rw [four_bits, e1]
    unfold turned
    rw [List.map_map]
    refine List.map_congr_left fun i hi => ?_
    have hi : i < 32 := List.mem_range.1 hi
    rw [Nat.testBit_xor, show (4294967295 : Nat) = 2 ^ 32 - 1 from rfl, Nat.testBit_two_pow_sub_one]
    simp [hi]
  show runB A (bitsL (fourL (ofN l))) = _
  have e3 : num ((List.range 32).map fun i => A.testBit i) = A := by rw [num_bits]; exact Nat.mod_eq_of_lt hA
  have := run_seal ((List.range 32).map fun i => A.testBit i)
  rw [e3] at this
  rw [e2, this]
  simp
theorem four_len (n : Nat) : (fourL n).length = 4 := rfl
theorem un_seal (l : List UInt8) : unE (sealL l) = 0 ∧ unL (sealL l) = l := by
  have hl : (sealL l).length - 4 = l.length := by unfold sealL; rw [List.length_append, four_len]; omega
  have h4 : ¬ (sealL l).length < 4 := by unfold sealL; rw [List.length_append, four_len]; omega
  have ht : (sealL l).take l.length = l := by unfold sealL; rw [List.take_left]
  have hd : (sealL l).drop l.length = fourL (ofN l) := by unfold sealL; rw [List.drop_left]
  have he : unE (sealL l) = 0 := by unfold unE; rw [if_neg h4, hl, ht, hd, if_pos rfl]
  exact ⟨he, by unfold unL; rw [if_pos he, hl, ht]⟩
theorem un_fine {u : List UInt8} (h : unE u = 0) : u = sealL (unL u) := by
  have hL : unL u = u.take (u.length - 4) := by unfold unL; rw [if_pos h]
  unfold unE at h
  split at h
  · omega
  · split at h
    · rename_i h2
      rw [hL]
      unfold sealL
      rw [h2, List.take_append_drop]
    · omega
/-- The bit at a place. -/
def bitAt (l : List UInt8) (j : Nat) : Bool := (l.getD (j / 8) 0).toNat.testBit (j % 8)
theorem bitsL_at (l : List UInt8) (j : Nat) (h : j < (bitsL l).length) : (bitsL l)[j] = bitAt l j := by
  induction l generalizing j with
  | nil => simp [bitsL] at h
  | cons c l ih =>
    have e : bitsL (c :: l) = bits8 c ++ bitsL l := by simp [bitsL]
    have hl : (bitsL (c :: l)).length = 8 + (bitsL l).length := by rw [e, List.length_append, bits_len]
    have h3 : (bits8 c ++ bitsL l)[j]'(by rw [List.length_append, bits_len]; omega) = bitAt (c :: l) j := by
      rw [List.getElem_append]
      split
      · rename_i h1
        rw [bits_len] at h1
        unfold bitAt
        rw [Nat.div_eq_of_lt h1, Nat.mod_eq_of_lt h1]
        simp [bits8]
      · rename_i h1
        rw [bits_len] at h1
        rw [ih]
        unfold bitAt
        simp only [bits_len]
        have e1 : j / 8 = (j - 8) / 8 + 1 := by omega
        have e2 : j % 8 = (j - 8) % 8 := by omega
        rw [e1, e2, List.getD_cons_succ]
    rw [← h3]
    congr 1
/-- One bit turned. -/
def flip7 (l : List UInt8) (k : Nat) : List UInt8 := l.set (k / 8) (l.getD (k / 8) 0 ^^^ UInt8.ofNat (2 ^ (k % 8)))
theorem flip_len (l : List UInt8) (k : Nat) : (flip7 l k).length = l.length := by simp [flip7]
theorem flip_at (l : List UInt8) (k j : Nat) (hk : k < 8 * l.length) : bitAt (flip7 l k) j = (bitAt l j != decide (j = k)) := by
  unfold bitAt flip7
  by_cases h : j / 8 = k / 8
  · rw [h]
    have e1 : (l.set (k / 8) (l.getD (k / 8) 0 ^^^ UInt8.ofNat (2 ^ (k % 8)))).getD (k / 8) 0 = l.getD (k / 8) 0 ^^^ UInt8.ofNat (2 ^ (k % 8)) := by
      rw [List.getD_eq_getElem?_getD, List.getElem?_set_self (by omega)]; rfl
    have hp : 2 ^ (k % 8) < 256 := by
      have := Nat.pow_lt_pow_right (a := 2) (by omega) (show k % 8 < 8 by omega)
      omega
    rw [e1, UInt8.toNat_xor, UInt8.toNat_ofNat', Nat.mod_eq_of_lt hp, Nat.testBit_xor, Nat.testBit_two_pow]
    have e2 : decide (k % 8 = j % 8) = decide (j = k) := by
      rw [Bool.eq_iff_iff, decide_eq_true_iff, decide_eq_true_iff]; omega
    rw [e2]
  · have e1 : ∀ c, (l.set (k / 8) c).getD (j / 8) 0 = l.getD (j / 8) 0 := fun c => by
      rw [List.getD_eq_getElem?_getD, List.getD_eq_getElem?_getD, List.getElem?_set_ne (fun e => h e.symm)]
    rw [e1, decide_eq_false (fun e => h (by rw [e]))]
    simp
/-- As many of a word's 32 bits turned, from a place on. -/
def Turned (t u : List UInt8) (at' : Nat) (by' : Nat) (i : Nat) : Prop := u.length = t.length ∧ ∀ j, bitAt u j = (bitAt t j != (decide (at' ≤ j ∧ j < at' + i) && by'.testBit (j - at')))
theorem Turned.none (t : List UInt8) (p y : Nat) : Turned t t p y 0 := ⟨rfl, fun j => by rw [decide_eq_false (by omega)]; simp⟩
theorem Turned.stay {t u : List UInt8} {p y i : Nat} (h : Turned t u p y i) (hb : y.testBit i = false) : Turned t u p y (i + 1) := by
  refine ⟨h.1, fun j => ?_⟩
  rw [h.2 j]
  by_cases hj : j = p + i
  · subst hj
    rw [decide_eq_false (by omega), decide_eq_true (by omega), show p + i - p = i by omega, hb]; simp
  · have e : decide (p ≤ j ∧ j < p + (i + 1)) = decide (p ≤ j ∧ j < p + i) := by
      rw [Bool.eq_iff_iff, decide_eq_true_iff, decide_eq_true_iff]; omega
    rw [e]
theorem Turned.turn {t u : List UInt8} {p y i : Nat} (h : Turned t u p y i) (hb : y.testBit i = true) (hk : p + i < 8 * t.length) : Turned t (flip7 u (p + i)) p y (i + 1) := by
  refine ⟨by rw [flip_len]; exact h.1, fun j => ?_⟩
  rw [flip_at u (p + i) j (by rw [h.1]; exact hk), h.2 j]
  by_cases hj : j = p + i
  · subst hj
    rw [decide_eq_false (show ¬ (p ≤ p + i ∧ p + i < p + i) by omega), decide_eq_true (show p ≤ p + i ∧ p + i < p + (i + 1) by omega), decide_eq_true rfl, show p + i - p = i by omega, hb]; simp
  · have e : decide (p ≤ j ∧ j < p + (i + 1)) = decide (p ≤ j ∧ j < p + i) := by
      rw [Bool.eq_iff_iff, decide_eq_true_iff, decide_eq_true_iff]; omega
    rw [e, decide_eq_false hj]; simp
/-- A sealed text that is changed within 32 bits, and just there, is not unsealed. -/
theorem burst_told {s u : List UInt8} {p y : Nat} (h : Turned (sealL s) u p y 32) (hy : y < 4294967296) (hy0 : y ≠ 0) (hp : p + 32 ≤ 8 * (sealL s).length) : unE u = 7 ∧ unL u = [] := by
  have h4 : ¬ u.length < 4 := by rw [h.1]; unfold sealL; rw [List.length_append, four_len]; omega
  have hne : unE u ≠ 0 := by
    intro h0
    have h1 := un_fine h0
    have r1 := seal_reg s
    have r2 := seal_reg (unL u)
    rw [← h1] at r2
    have hl : (bitsL (sealL s)).length = (bitsL u).length := by rw [bitsL_len, bitsL_len, h.1]
    have he : List.zipWith (fun x y => x != y) (bitsL (sealL s)) (bitsL u) = List.replicate p false ++ (((List.range 32).map fun i => y.testBit i) ++ List.replicate (8 * (sealL s).length - (p + 32)) false) := by
      refine List.ext_getElem ?_ fun j g1 g2 => ?_
      · simp [bitsL_len, h.1]; omega
      · have gj : j < 8 * (sealL s).length := by
          rw [List.length_zipWith, bitsL_len, bitsL_len, h.1] at g1; omega
        rw [List.getElem_zipWith, bitsL_at, bitsL_at, h.2 j]
        simp only [List.getElem_append, List.length_replicate, List.length_map, List.length_range, List.getElem_replicate, List.getElem_map, List.getElem_range]
        by_cases a1 : j < p
        · rw [dif_pos a1, decide_eq_false (by omega)]; simp
        · rw [dif_neg a1]
          by_cases a2 : j - p < 32
          · rw [dif_pos a2, decide_eq_true (by omega)]
            cases bitAt (sealL s) j <;> simp
          · rw [dif_neg a2, decide_eq_false (by omega)]; simp
    have h0' := burst hl he (by simp) (r1.trans r2.symm)
    rw [num_bits, Nat.mod_eq_of_lt (by omega)] at h0'
    exact hy0 h0'
  have h7 : unE u = 7 := by
    unfold unE at hne ⊢
    rw [if_neg h4] at hne ⊢
    split at hne
    · exact absurd rfl hne
    · rename_i h5; rw [if_neg h5]
  exact ⟨h7, by unfold unL; rw [if_neg hne]⟩
end Go.Proofs.YtpjahfobjnajcaaDoor
