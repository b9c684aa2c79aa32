/- Questions, their noes, what they weigh and the answers of noes, in plain words. -/
import Derived.Test.YtifihejogbcbgaaInts
import Derived.Test.YtifihejogbcbgaaMSameInts
namespace Go.Proofs.Ytifihejogbcbgaa

def AskAt (l : List Int) (j : Nat) : Prop := 0 ≤ numAt l j ∧ numAt l j ≤ 1000
instance (l : List Int) (j : Nat) : Decidable (AskAt l j) := by unfold AskAt; infer_instance
def Asks (l : List Int) : Prop := 0 < l.length ∧ l.length ≤ 8 ∧ ∀ j, j < l.length → AskAt l j
instance (l : List Int) : Decidable (Asks l) := by unfold Asks; infer_instance
def asksE (l : List Int) : Int := if Asks l then 0 else 36
theorem asks_yes {l : List Int} (h : Asks l) : asksE l = 0 := if_pos h
theorem asks_no {l : List Int} (h : ¬ Asks l) : asksE l = 36 := if_neg h
theorem asks_iff {l : List Int} : asksE l = 0 ↔ Asks l := by
  by_cases h : Asks l
  · exact ⟨fun _ => h, fun _ => asks_yes h⟩
  · refine ⟨fun q => ?_, fun q => absurd q h⟩
    rw [asks_no h] at q
    cases q

/-- Question i is answered by yes. -/
def yesN (a : Int) (i : Nat) : Bool := a.toNat.testBit i
/-- The numbers of the first k questions that are answered by no. -/
def noesTo (a : Int) : Nat → List Int
  | 0 => []
  | k + 1 => if yesN a k = true then noesTo a k else noesTo a k ++ [(k : Int)]
def sumF (l : List Int) : List Int → Int
  | [] => 0
  | i :: f => numAt l i.toNat + sumF l f
theorem sumF_more (l f : List Int) (i : Int) : sumF l (f ++ [i]) = sumF l f + numAt l i.toNat := by
  induction f with
  | nil => simp [sumF]
  | cons x f ih => simp [sumF, ih]; omega
def worstTo (l : List Int) : Nat → Int
  | 0 => 0
  | k + 1 => worstTo l k + numAt l k
def InA (l : List Int) (a : Int) : Prop := 0 ≤ a ∧ a < ((2 ^ l.length : Nat) : Int)
instance (l : List Int) (a : Int) : Decidable (InA l a) := by unfold InA; infer_instance
def failE (l : List Int) (a : Int) : Int := if Asks l then if InA l a then 0 else 2 else 36
def failV (l : List Int) (a : Int) : List Int := if Asks l ∧ InA l a then noesTo a l.length else []
def scoreV (l : List Int) (a : Int) : Int := sumF l (failV l a)
def worstV (l : List Int) : Int := if Asks l then worstTo l l.length else 0
theorem fail_yes {l : List Int} {a : Int} (h : Asks l) (h2 : InA l a) : failE l a = 0 ∧ failV l a = noesTo a l.length := ⟨by rw [failE, if_pos h, if_pos h2], if_pos ⟨h, h2⟩⟩
theorem fail_out {l : List Int} {a : Int} (h : Asks l) (h2 : ¬ InA l a) : failE l a = 2 ∧ failV l a = [] := ⟨by rw [failE, if_pos h, if_neg h2], if_neg fun q => h2 q.2⟩
theorem fail_no {l : List Int} {a : Int} (h : ¬ Asks l) : failE l a = 36 ∧ failV l a = [] := ⟨if_neg h, if_neg fun q => h q.1⟩
theorem fail_zero {l : List Int} {a : Int} (h : failE l a = 0) : Asks l ∧ InA l a := by
  by_cases q : Asks l
  · by_cases q2 : InA l a
    · exact ⟨q, q2⟩
    · rw [(fail_out q q2).1] at h; cases h
  · rw [(fail_no q).1] at h; cases h
theorem fail_off {l : List Int} {a : Int} (h : failE l a ≠ 0) : failV l a = [] ∧ scoreV l a = 0 := by
  have e : failV l a = [] := if_neg fun q => h (fail_yes q.1 q.2).1
  exact ⟨e, by rw [scoreV, e]; rfl⟩

/-- Numbers of questions that rise. -/
def FailAt (n : Nat) (f : List Int) (j : Nat) : Prop := 0 ≤ numAt f j ∧ numAt f j < n ∧ (0 < j → numAt f (j - 1) < numAt f j)
instance (n : Nat) (f : List Int) (j : Nat) : Decidable (FailAt n f j) := by unfold FailAt; infer_instance
def Fails (n : Nat) (f : List Int) : Prop := ∀ j, j < f.length → FailAt n f j
instance (n : Nat) (f : List Int) : Decidable (Fails n f) := by unfold Fails; infer_instance
def ansTo (f : List Int) : Nat → Int
  | 0 => 0
  | k + 1 => if (k : Int) ∈ f then ansTo f k else ansTo f k + ((2 ^ k : Nat) : Int)
def ansE (l f : List Int) : Int := if Asks l then if Fails l.length f then 0 else 2 else 36
def ansV (l f : List Int) : Int := if Asks l ∧ Fails l.length f then ansTo f l.length else 0
theorem ans_yes {l f : List Int} (h : Asks l) (h2 : Fails l.length f) : ansE l f = 0 ∧ ansV l f = ansTo f l.length := ⟨by rw [ansE, if_pos h, if_pos h2], if_pos ⟨h, h2⟩⟩
theorem ans_out {l f : List Int} (h : Asks l) (h2 : ¬ Fails l.length f) : ansE l f = 2 ∧ ansV l f = 0 := ⟨by rw [ansE, if_pos h, if_neg h2], if_neg fun q => h2 q.2⟩
theorem ans_no {l f : List Int} (h : ¬ Asks l) : ansE l f = 36 ∧ ansV l f = 0 := ⟨if_neg h, if_neg fun q => h q.1⟩

/-! Bits. -/
theorem yes_nat (m i : Nat) : yesN (m : Int) i = m.testBit i := rfl
theorem noes_len (a : Int) (k : Nat) : (noesTo a k).length ≤ k := by
  induction k with
  | zero => exact Nat.le_refl _
  | succ k ih => rw [noesTo]; split
                 · omega
                 · rw [List.length_append]; simp; omega
theorem noes_mem (a : Int) (k : Nat) (x : Int) : x ∈ noesTo a k ↔ ∃ i : Nat, x = i ∧ i < k ∧ yesN a i = false := by
  induction k with
  | zero => rw [noesTo]; exact ⟨fun h => absurd h (by simp), fun ⟨i, _, h, _⟩ => absurd h (by omega)⟩
  | succ k ih =>
    rw [noesTo]
    split
    · rw [ih]
      refine ⟨fun ⟨i, h1, h2, h3⟩ => ⟨i, h1, by omega, h3⟩, fun ⟨i, h1, h2, h3⟩ => ⟨i, h1, ?_, h3⟩⟩
      rcases (by omega : i < k ∨ i = k) with q | q
      · exact q
      · rw [q] at h3; simp_all
    · rename_i hy
      rw [List.mem_append, ih, List.mem_singleton]
      constructor
      · rintro (⟨i, h1, h2, h3⟩ | h)
        · exact ⟨i, h1, by omega, h3⟩
        · exact ⟨k, h, by omega, by simpa using hy⟩
      · rintro ⟨i, h1, h2, h3⟩
        rcases (by omega : i < k ∨ i = k) with q | q
        · exact Or.inl ⟨i, h1, q, h3⟩
        · exact Or.inr (by rw [h1, q])
theorem numAt_low (l : List Int) (x : Int) (j : Nat) (h : j < l.length) : numAt (l ++ [x]) j = numAt l j := by
  unfold numAt
  rw [List.getD_eq_getElem?_getD, List.getD_eq_getElem?_getD, List.getElem?_append_left h]
theorem numAt_top (l : List Int) (x : Int) : numAt (l ++ [x]) l.length = x := by
  unfold numAt
  rw [List.getD_eq_getElem?_getD, List.getElem?_append_right (Nat.le_refl _)]
  simp
theorem noes_fails (a : Int) (k : Nat) : Fails k (noesTo a k) := by
  induction k with
  | zero => intro j hj; rw [noesTo] at hj; exact absurd hj (by simp)
  | succ k ih =>
    have up : ∀ j, j < (noesTo a k).length → FailAt (k + 1) (noesTo a k) j := fun j hj => ⟨(ih j hj).1, by have := (ih j hj).2.1; omega, (ih j hj).2.2⟩
    rw [noesTo]
    split
    · exact up
    · intro j hj
      rw [List.length_append] at hj
      simp at hj
      rcases (by omega : j < (noesTo a k).length ∨ j = (noesTo a k).length) with q | q
      · have := up j q
        unfold FailAt at this ⊢
        rw [numAt_low _ _ _ q]
        refine ⟨this.1, this.2.1, fun h0 => ?_⟩
        rw [numAt_low _ _ _ (by omega)]
        exact this.2.2 h0
      · subst q
        unfold FailAt
        rw [numAt_top]
        refine ⟨by omega, by omega, fun h0 => ?_⟩
        rw [numAt_low _ _ _ (by omega)]
        exact (ih _ (by omega)).2.1
theorem mod_next (m k : Nat) : m % 2 ^ (k + 1) = m % 2 ^ k + if m.testBit k = true then 2 ^ k else 0 := by
  rw [Nat.mod_pow_succ, Nat.testBit_eq_decide_div_mod_eq]
  rcases Nat.mod_two_eq_zero_or_one (m / 2 ^ k) with h | h <;> simp [h]
/-- The answers come back of their noes. -/
theorem ans_noes {m n : Nat} (hm : m < 2 ^ n) : ansTo (noesTo (m : Int) n) n = m := by
  have go : ∀ k, k ≤ n → ansTo (noesTo (m : Int) n) k = ((m % 2 ^ k : Nat) : Int) := by
    intro k
    induction k with
    | zero => intro _; rw [ansTo, Nat.pow_zero, Nat.mod_one]; rfl
    | succ k ih =>
      intro hk
      have e : ((k : Int) ∈ noesTo (m : Int) n) ↔ m.testBit k = false := by
        rw [noes_mem]
        constructor
        · rintro ⟨i, h1, h2, h3⟩
          have : i = k := by omega
          subst this; exact h3
        · intro h; exact ⟨k, rfl, by omega, h⟩
      rw [ansTo, ih (by omega), mod_next]
      cases hb : m.testBit k with
      | true => rw [if_neg (by rw [e, hb]; simp), if_pos rfl]; omega
      | false => rw [if_pos (e.2 hb), if_neg (by simp)]; omega
  rw [go n (Nat.le_refl _), Nat.mod_eq_of_lt hm]
/-- One yes taken away. -/
theorem bit_less {m t : Nat} (h : m.testBit t = true) (i : Nat) : (m - 2 ^ t).testBit i = if i = t then false else m.testBit i := by
  have h1 := Nat.testBit_eq_decide_div_mod_eq (x := m) (i := t)
  rw [h] at h1
  have h2 : m / 2 ^ t % 2 = 1 := of_decide_eq_true h1.symm
  have hp : 0 < 2 ^ t := Nat.two_pow_pos t
  have e : m = 2 ^ t * (m / 2 ^ t) + m % 2 ^ t := (Nat.div_add_mod m (2 ^ t)).symm
  have hr : m % 2 ^ t < 2 ^ t := Nat.mod_lt _ hp
  obtain ⟨q, hq⟩ : ∃ q, q = m / 2 ^ t := ⟨_, rfl⟩
  obtain ⟨r, hrr⟩ : ∃ r, r = m % 2 ^ t := ⟨_, rfl⟩
  rw [← hq] at h2
  rw [← hq, ← hrr] at e
  rw [← hrr] at hr
  have e2 : m - 2 ^ t = 2 ^ t * (q - 1) + r := by
    obtain ⟨p, hp2⟩ : ∃ p, q = p + 1 := ⟨q - 1, by omega⟩
    rw [e, hp2, Nat.mul_add]; simp; omega
  rw [e2, Nat.testBit_two_pow_mul_add _ hr]
  have e3 : m.testBit i = if i < t then r.testBit i else q.testBit (i - t) := by rw [e, Nat.testBit_two_pow_mul_add _ hr]
  rw [e3]
  by_cases hi : i < t
  · rw [if_pos hi, if_neg (by omega), if_pos hi]
  · rw [if_neg hi, if_neg hi]
    by_cases hit : i = t
    · subst hit
      rw [if_pos rfl, Nat.sub_self, Nat.testBit_zero]
      simp; omega
    · rw [if_neg hit]
      obtain ⟨d, hd⟩ : ∃ d, i - t = d + 1 := ⟨i - t - 1, by omega⟩
      rw [hd, Nat.testBit_succ, Nat.testBit_succ]
      congr 1
      omega
theorem sum_noes (l : List Int) (a : Int) (k : Nat) : sumF l (noesTo a (k + 1)) = sumF l (noesTo a k) + if yesN a k = true then 0 else numAt l k := by
  rw [noesTo]
  split
  · omega
  · rw [sumF_more]; rfl
theorem sum_less (l : List Int) {m t : Nat} (h : m.testBit t = true) (k : Nat) : sumF l (noesTo ((m - 2 ^ t : Nat) : Int) k) = sumF l (noesTo (m : Int) k) + if t < k then numAt l t else 0 := by
  induction k with
  | zero => simp [noesTo, sumF]
  | succ k ih =>
    rw [sum_noes, sum_noes, ih, yes_nat, yes_nat, bit_less h]
    by_cases q : k = t
    · subst q
      rw [if_pos rfl, h, if_neg (by omega), if_neg (by simp), if_pos rfl, if_pos (show k < k + 1 by omega)]
    · rw [if_neg q]
      by_cases q2 : t < k
      · rw [if_pos q2, if_pos (show t < k + 1 by omega)]; omega
      · rw [if_neg q2, if_neg (show ¬ t < k + 1 by omega)]; omega
theorem sum_all (l : List Int) {n : Nat} (k : Nat) (hk : k ≤ n) : sumF l (noesTo ((2 ^ n - 1 : Nat) : Int) k) = 0 := by
  induction k with
  | zero => rfl
  | succ k ih =>
    rw [sum_noes, ih (by omega), yes_nat, Nat.testBit_two_pow_sub_one]
    simp; omega
theorem sum_none (l : List Int) (k : Nat) : sumF l (noesTo 0 k) = worstTo l k := by
  induction k with
  | zero => rfl
  | succ k ih =>
    have e : yesN 0 k = false := Nat.zero_testBit k
    rw [sum_noes, ih, e, worstTo]; simp
theorem sum_bounds (l : List Int) (a : Int) (h : ∀ j, j < l.length → AskAt l j) (k : Nat) (hk : k ≤ l.length) : 0 ≤ sumF l (noesTo a k) ∧ sumF l (noesTo a k) ≤ worstTo l k ∧ worstTo l k ≤ 1000 * k := by
  induction k with
  | zero => simp [noesTo, sumF, worstTo]
  | succ k ih =>
    have := ih (by omega)
    have hj := h k (by omega)
    unfold AskAt at hj
    rw [sum_noes, worstTo]
    split <;> omega
theorem pow_small {n : Nat} (h : n ≤ 8) : 2 ^ n ≤ 256 := by
  have := Nat.pow_le_pow_right (show 2 > 0 by omega) h
  omega
end Go.Proofs.Ytifihejogbcbgaa
namespace Go.Proofs.Ytifihejogbcbgaa
open Go.RowKit

/-- A slice of numbers and an error are told. -/
def Gives16 (w : World) (e : Ending) (w' : World) (ys : List Int) (E : Int) : Prop :=
  ∃ a c, e = .returned (.tuple #[.slice a ys.length c, .int .i64 E]) ∧ ys.length ≤ c ∧ Ints w'.heap.size w' a ys ∧ Below w.heap.size w w'
theorem lit16 (W : World) (o : Obj) : Below W.heap.size W (W.alloc o) := (Below.refl _ W).alloc (Nat.le_refl _) o
/-- A slice of numbers that came in: its length is no more than its capacity. -/
theorem ints_cap16 {H : Type} {enc : TypeId × Value → H} {base : Nat} {held : Bool} {t e : TypeId} {fuel : Nat} {a : Option Addr} {len cap : Nat} {W : World} {x : DataW H × List MemPlace} (ht : Try.prog.underlying t = some (.slice e)) (he : Try.prog.underlying e = some (.int .i64)) (hc : Try.prog.cellsOf e = 1)
    (h : DataW.trod enc Try.prog W base (fun _ => true) held fuel t (Value.slice a len cap).cells.toList = some x) :
    ∃ xs : List Int, xs.length = len ∧ len ≤ cap ∧ xs.length ≤ maxLen ∧ Ints W.heap.size W a xs := by
  obtain ⟨xs, h1, h2, h3, _⟩ := ints_of ht he hc h
  refine ⟨xs, h1, ?_, h2, h3⟩
  rcases ChangeShapes.open_ints ht he hc h with ⟨hcs, _⟩ | ⟨y, l, c, zs, hcs, _, hl, hm, hz, _, hcell, hwz⟩
  · simp [Value.cells] at hcs
    obtain ⟨_, rfl, rfl⟩ := hcs
    exact Nat.le_refl _
  · simp [Value.cells] at hcs
    obtain ⟨_, rfl, rfl⟩ := hcs
    first | exact hl | omega
end Go.Proofs.Ytifihejogbcbgaa
