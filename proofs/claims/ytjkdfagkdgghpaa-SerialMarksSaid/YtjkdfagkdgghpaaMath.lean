/- Why unlike texts have unlike marks: a factor 2 has an inverse modulo 37. Plain words, no program. -/
import Derived.Test.YtjkdfagkdgghpaaLawb
namespace Go.Proofs.Ytjkdfagkdgghpaa
open Go.RowKit

theorem num_step_inj (a b v : Int) (ha : 0 ≤ a ∧ a < 37) (hb : 0 ≤ b ∧ b < 37) (h : (a + v) * 2 % 37 = (b + v) * 2 % 37) : a = b := by omega
theorem numOf_inj (l : List UInt8) : ∀ a b : Int, 0 ≤ a ∧ a < 37 → 0 ≤ b ∧ b < 37 → numOf a l = numOf b l → a = b := by
  induction l with
  | nil => intro a b _ _ h; exact h
  | cons c l ih =>
    intro a b ha hb h
    simp only [numOf] at h
    split at h
    · exact ih a b ha hb h
    · exact num_step_inj a b _ ha hb (ih _ _ (by omega) (by omega) h)
theorem numOf_append (l m : List UInt8) : ∀ n : Int, numOf n (l ++ m) = numOf (numOf n l) m := by
  induction l with
  | nil => intro n; rfl
  | cons c l ih => intro n; simp only [List.cons_append, numOf, ih]
theorem value_inj {c d : UInt8} (hc : okC c = true) (hd : okC d = true) (h : valueOf (c.toNat : Int) = valueOf (d.toNat : Int)) : c = d := by
  unfold okC at hc hd
  simp at hc hd
  apply UInt8.toNat_inj.1
  unfold valueOf at h
  split at h
  · split at h
    · omega
    · split at h
      · omega
      · split at h <;> omega
  · split at h
    · split at h
      · omega
      · split at h
        · omega
        · split at h <;> omega
    · split at h
      · omega
      · omega
theorem symAt_inj (i j : Int) (hi : 0 ≤ i ∧ i < 37) (hj : 0 ≤ j ∧ j < 37) (h : symAt i = symAt j) : i = j := by
  unfold symAt at h
  split at h
  · split at h
    · omega
    · split at h <;> omega
  · split at h
    · split at h
      · omega
      · split at h <;> omega
    · split at h
      · omega
      · split at h <;> omega
theorem value_symAt (j : Int) (hj : 0 ≤ j ∧ j < 37) : valueOf (symAt j) = j := by
  obtain ⟨k, rfl⟩ : ∃ k : Nat, j = k := ⟨j.toNat, by omega⟩
  exact (sym_value k (by omega) _).1 rfl
theorem mark_serial {l : List UInt8} (h : checkOf l = 0) : serialB okC l = true ∧ markR l = symAt ((38 - numOf 0 l) % 37) := by
  unfold checkOf at h
  split at h
  · rename_i hq
    exact ⟨hq, by unfold markR; rw [if_pos hq]⟩
  · omega
theorem mark_none {l : List UInt8} (h : checkOf l = 9) : markR l = 0 := by
  unfold checkOf at h
  split at h
  · omega
  · rename_i hq
    unfold markR; rw [if_neg hq]
theorem mark_num {l m : List UInt8} (hl : checkOf l = 0) (hm : checkOf m = 0) (h : markR l = markR m) : numOf 0 l = numOf 0 m := by
  rw [(mark_serial hl).2, (mark_serial hm).2] at h
  have h1 := numOf_bd l
  have h2 := numOf_bd m
  have := symAt_inj _ _ (by omega) (by omega) h
  omega
theorem mark_value {l : List UInt8} (h : checkOf l = 0) : 0 ≤ valueOf (markR l) := by
  rw [(mark_serial h).2, value_symAt _ (by omega)]; omega
theorem mark_bd (l : List UInt8) : 0 ≤ markR l ∧ markR l ≤ 90 := by
  unfold markR
  split
  · have := symAt_bd ((38 - numOf 0 l) % 37) (by omega) (by omega); omega
  · omega

/-- One sign changed, neither of the two a dash. -/
theorem mark_changed (p q : List UInt8) (c d : UInt8) (hc5 : ¬ c.toNat = 45) (hd5 : ¬ d.toNat = 45) (hcd : c ≠ d) (h1 : checkOf (p ++ c :: q) = 0) (h2 : checkOf (p ++ d :: q) = 0) : markR (p ++ d :: q) ≠ markR (p ++ c :: q) := by
  intro h
  have hn := mark_num h2 h1 h
  have okc := serial_all (mark_serial h1).1 c (by simp)
  have okd := serial_all (mark_serial h2).1 d (by simp)
  have vc := value_okC okc hc5
  have vd := value_okC okd hd5
  rw [numOf_append, numOf_append] at hn
  simp only [numOf] at hn
  rw [if_neg hd5, if_neg hc5] at hn
  have hb := numOf_bd p
  have h3 := numOf_inj q _ _ (by omega) (by omega) hn
  exact hcd (value_inj okc okd (by omega))
/-- Two unlike signs side by side swapped, neither of them a dash. -/
theorem mark_swapped (p q : List UInt8) (c d : UInt8) (hc5 : ¬ c.toNat = 45) (hd5 : ¬ d.toNat = 45) (hcd : c ≠ d) (h1 : checkOf (p ++ c :: d :: q) = 0) : checkOf (p ++ d :: c :: q) = 0 ∧ markR (p ++ d :: c :: q) ≠ markR (p ++ c :: d :: q) := by
  have hs := (mark_serial h1).1
  have okc := serial_all hs c (by simp)
  have okd := serial_all hs d (by simp)
  have h2 : checkOf (p ++ d :: c :: q) = 0 := by
    have e : serialB okC (p ++ d :: c :: q) = serialB okC (p ++ c :: d :: q) := by
      unfold serialB
      rw [run_append, run_append]
      have : ∀ x, run okC x (d :: c :: q) = run okC x (c :: d :: q) := by
        intro x
        simp only [run]
        rw [okc, okd, decide_eq_false hc5, decide_eq_false hd5]
      simp [this]
    unfold checkOf; rw [e, hs]; rfl
  refine ⟨h2, fun h => ?_⟩
  have hn := mark_num h2 h1 h
  have vc := value_okC okc hc5
  have vd := value_okC okd hd5
  rw [numOf_append, numOf_append] at hn
  simp only [numOf] at hn
  rw [if_neg hd5, if_neg hc5] at hn
  have hb := numOf_bd p
  have h3 := numOf_inj q _ _ (by omega) (by omega) hn
  exact hcd (value_inj okc okd (by omega))
end Go.Proofs.Ytjkdfagkdgghpaa
