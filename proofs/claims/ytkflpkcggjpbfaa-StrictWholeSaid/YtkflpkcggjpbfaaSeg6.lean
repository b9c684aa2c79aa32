/- What was read without a fault, laid anew, is the bytes: in plain words. -/
import Derived.Test.YtkflpkcggjpbfaaPlain6
namespace Go.Proofs.Ytkflpkcggjpbfaa

/-- The bytes from one place up to another one. -/
def seg (S : List UInt8) (a b : Int) : List UInt8 := (S.drop a.toNat).take (b - a).toNat
theorem seg_join {S : List UInt8} {a b c : Int} (h0 : 0 ≤ a) (h1 : a ≤ b) (h2 : b ≤ c) : seg S a b ++ seg S b c = seg S a c := by
  unfold seg
  obtain ⟨i, rfl⟩ : ∃ i : Nat, a = i := ⟨a.toNat, by omega⟩
  obtain ⟨j, rfl⟩ : ∃ j : Nat, b = i + j := ⟨(b - i).toNat, by omega⟩
  obtain ⟨n, rfl⟩ : ∃ n : Nat, c = i + j + n := ⟨(c - i - j).toNat, by omega⟩
  rw [show ((i : Int)).toNat = i by omega, show ((i : Int) + j).toNat = i + j by omega, show ((i : Int) + j - i).toNat = j by omega, show ((i : Int) + j + n - (i + j)).toNat = n by omega, show ((i : Int) + j + n - i).toNat = j + n by omega]
  rw [List.take_add, List.drop_drop]
theorem seg_none {S : List UInt8} {a : Int} : seg S a a = [] := by unfold seg; rw [Int.sub_self]; rfl
theorem seg_all {S : List UInt8} : seg S 0 S.length = S := by
  unfold seg
  rw [show (0 : Int).toNat = 0 from rfl, List.drop_zero, show ((S.length : Int) - 0).toNat = S.length by omega, List.take_length]
theorem stp_zero {r : Rs} {t e : Int} (h : (stp r t e).e = 0) : e = 0 ∧ (stp r t e).p = t := by
  unfold stp at h ⊢
  split at h
  · rename_i h0; rw [if_pos h0]; exact ⟨h0, rfl⟩
  · rename_i h0; exact absurd h h0
theorem num_text {S : List UInt8} {r : Rs} {x m : Int} (h : r.e = 0) (h2 : (numR S r x m).e = 0) : putL (numV S r x m) x = seg S r.p (numR S r x m).p ∧ r.p ≤ (numR S r x m).p := by
  unfold numR at h2 ⊢
  rw [if_pos h] at h2 ⊢
  obtain ⟨e0, e1⟩ := stp_zero h2
  obtain ⟨g, _⟩ := num_zero e0
  obtain ⟨gw, _, _, _⟩ := get_fine g
  obtain ⟨w1, _, _⟩ := wide_nat gw
  have hT : getT S r.p x = r.p + x := by unfold getT; rw [if_pos g]
  have hV : numV S r x m = getV S r.p x := by unfold numV; rw [if_pos h, if_pos e0]
  rw [e1, hT, hV, (get_canon g).2]
  unfold seg
  exact ⟨by rw [show r.p + x - r.p = x by omega], by omega⟩
theorem text_text {S : List UInt8} {r : Rs} {m : Int} (h : r.e = 0) (h2 : (textR S r m).e = 0) : layL (textL S r m) = seg S r.p (textR S r m).p ∧ r.p ≤ (textR S r m).p := by
  unfold textR at h2 ⊢
  rw [if_pos h] at h2 ⊢
  obtain ⟨e0, e1⟩ := stp_zero h2
  have hV : textL S r m = takeL S r.p m := by unfold textL; rw [if_pos h]
  obtain ⟨_, c1, c2, _, _⟩ := take_canon e0
  rw [e1, hV]
  exact ⟨c1, c2⟩
theorem ser_text {S : List UInt8} {r : Rs} (h : r.e = 0) (h2 : (serR S r).e = 0) : layL (serL S r) = seg S r.p (serR S r).p ∧ r.p ≤ (serR S r).p := by
  unfold serR at h2 ⊢
  rw [if_pos h] at h2 ⊢
  obtain ⟨e0, e1⟩ := stp_zero h2
  have hV : serL S r = takeL S r.p 16 := by unfold serL; rw [if_pos h, if_pos e0]
  obtain ⟨_, c1, c2, _, _⟩ := take_canon (ser_zero e0).1
  rw [e1, hV]
  exact ⟨c1, c2⟩
theorem row_text {S : List UInt8} {r : Rs} {x m : Int} (h : r.e = 0) (h2 : (rowR S r x m).e = 0) : rowL x (rowV S r x m) = seg S r.p (rowR S r x m).p ∧ r.p ≤ (rowR S r x m).p := by
  unfold rowR at h2 ⊢
  rw [if_pos h] at h2 ⊢
  obtain ⟨e0, e1⟩ := stp_zero h2
  have hV : rowV S r x m = unrowL S r.p x m := by unfold rowV; rw [if_pos h]
  obtain ⟨_, c1, c2, _, _⟩ := unrow_canon e0
  rw [e1, hV]
  exact ⟨c1, c2⟩
theorem flag_text {S : List UInt8} {r : Rs} (h : r.e = 0) (h2 : (flagR S r).e = 0) : [if flagB S r then (1 : UInt8) else 0] = seg S r.p (flagR S r).p ∧ r.p ≤ (flagR S r).p := by
  unfold flagR at h2 ⊢
  rw [if_pos h] at h2 ⊢
  obtain ⟨e0, e1⟩ := stp_zero h2
  obtain ⟨g, g1⟩ := flag_zero e0
  have hT : getT S r.p 1 = r.p + 1 := by unfold getT; rw [if_pos g]
  have hV : flagB S r = decide (getV S r.p 1 = 1) := by unfold flagB; rw [if_pos h, if_pos e0]
  have hc := (get_canon g).2
  have h0 := (get_bound g).1
  rw [e1, hT, hV]
  have hs : seg S r.p (r.p + 1) = putL (getV S r.p 1) 1 := by rw [hc]; unfold seg; rw [show r.p + 1 - r.p = 1 by omega]
  rw [hs]
  refine ⟨?_, by omega⟩
  rcases (by omega : getV S r.p 1 = 0 ∨ getV S r.p 1 = 1) with h3 | h3
  · rw [h3]; decide
  · rw [h3]; decide
theorem sers_on_text {S : List UInt8} (n : Nat) : ∀ (r : Rs) (l : List (List UInt8)), Within S r → r.e = 0 → (sersOn S n r l).1.e = 0 → ∃ l2, (sersOn S n r l).2 = l ++ l2 ∧ l2.length = n ∧ l2.flatMap layL = seg S r.p (sersOn S n r l).1.p ∧ r.p ≤ (sersOn S n r l).1.p := by
  induction n with
  | zero => intro r l _ _ _; exact ⟨[], by simp [sersOn], rfl, by simp [sersOn, seg_none], by simp [sersOn]⟩
  | succ n ih =>
    intro r l hw h h2
    rw [sers_go h] at h2 ⊢
    have h3 : (serR S r).e = 0 := by
      by_cases h4 : (serR S r).e = 0
      · exact h4
      · rw [sers_stop h4] at h2; exact h2
    obtain ⟨l2, e1, e2, e3, e4⟩ := ih (serR S r) (l ++ [serL S r]) (ser_in hw) h3 h2
    obtain ⟨t1, t2⟩ := ser_text h h3
    refine ⟨serL S r :: l2, by rw [e1]; simp, by simp [e2], ?_, by omega⟩
    rw [List.flatMap_cons, e3, t1, seg_join hw.1 t2 e4]
theorem sers_text {S : List UInt8} {r : Rs} {m : Int} (hw : Within S r) (h : r.e = 0) (h2 : (sersR S r m).e = 0) : putL (sersL S r m).length 1 ++ (sersL S r m).flatMap layL = seg S r.p (sersR S r m).p ∧ r.p ≤ (sersR S r m).p := by
  have hL : sersL S r m = (sersAll S r m).2 := by unfold sersL; rw [if_pos h2]
  rw [hL]
  unfold sersR at h2 ⊢
  unfold sersAll at h2 ⊢
  have h3 : (numR S r 1 m).e = 0 := by
    by_cases h4 : (numR S r 1 m).e = 0
    · exact h4
    · rw [sers_stop h4] at h2; exact h2
  obtain ⟨l2, e1, e2, e3, e4⟩ := sers_on_text (numV S r 1 m).toNat (numR S r 1 m) [] (num_in hw) h3 h2
  obtain ⟨t1, t2⟩ := num_text h h3
  have hn := (byte_lt (S := S) (r := r) (m := m)).1
  rw [e1, List.nil_append, e2, e3, show ((numV S r 1 m).toNat : Int) = numV S r 1 m by omega, t1, seg_join hw.1 t2 e4]
  exact ⟨rfl, by omega⟩

/-- What StrictWhole lays of a piece, and the reader behind it. -/
def wholeR (S : List UInt8) (r : Rs) (k x m : Int) : Rs := if k = 0 then numR S r x m else if k = 1 then textR S r m else if k = 2 then serR S r else if k = 3 then rowR S r x m else if k = 4 then sersR S r m else if k = 5 then flagR S r else r
def wholeT (S : List UInt8) (r : Rs) (k x m : Int) : List UInt8 := if k = 0 then putL (numV S r x m) x else if k = 1 then layL (textL S r m) else if k = 2 then layL (serL S r) else if k = 3 then rowL x (rowV S r x m) else if k = 4 then putL (sersL S r m).length 1 ++ (sersL S r m).flatMap layL else if k = 5 then [if flagB S r then (1 : UInt8) else 0] else []
theorem whole_in {S : List UInt8} {r : Rs} {k x m : Int} (h : Within S r) : Within S (wholeR S r k x m) := by
  unfold wholeR
  split; exact num_in h
  split; exact text_in h
  split; exact ser_in h
  split; exact row_in h
  split; exact sers_in h
  split; exact flag_in h
  exact h
theorem whole_text {S : List UInt8} {r : Rs} {k x m : Int} (hw : Within S r) (h : r.e = 0) (h2 : (wholeR S r k x m).e = 0) : wholeT S r k x m = seg S r.p (wholeR S r k x m).p ∧ r.p ≤ (wholeR S r k x m).p := by
  unfold wholeR at h2 ⊢
  unfold wholeT
  split at h2
  · rename_i c; rw [if_pos c, if_pos c]; exact num_text h h2
  · rename_i c; rw [if_neg c, if_neg c]
    split at h2
    · rename_i c; rw [if_pos c, if_pos c]; exact text_text h h2
    · rename_i c; rw [if_neg c, if_neg c]
      split at h2
      · rename_i c; rw [if_pos c, if_pos c]; exact ser_text h h2
      · rename_i c; rw [if_neg c, if_neg c]
        split at h2
        · rename_i c; rw [if_pos c, if_pos c]; exact row_text h h2
        · rename_i c; rw [if_neg c, if_neg c]
          split at h2
          · rename_i c; rw [if_pos c, if_pos c]; exact sers_text hw h h2
          · rename_i c; rw [if_neg c, if_neg c]
            split at h2
            · rename_i c; rw [if_pos c, if_pos c]; exact flag_text h h2
            · rename_i c; rw [if_neg c, if_neg c]; exact ⟨seg_none.symm, Int.le_refl _⟩
/-! How long what is laid can be. -/
theorem put_sz (n x : Int) : (putL n x).length ≤ 8 := by
  unfold putL
  split
  · rename_i h
    unfold putE at h
    split at h
    · rename_i hw; rw [be_len]; unfold wideW at hw; omega
    · omega
  · simp
theorem lay_sz (t : List UInt8) : (layL t).length ≤ 2 + t.length := by
  unfold layL
  split
  · rw [List.length_append, be_len]; omega
  · simp
theorem flat_sz (c : Nat) (f : List UInt8 → List UInt8) (l : List (List UInt8)) (h : ∀ x ∈ l, (f x).length ≤ c) : (l.flatMap f).length ≤ l.length * c := by
  induction l with
  | nil => simp
  | cons x l ih =>
    rw [List.flatMap_cons, List.length_append, List.length_cons, Nat.add_mul]
    have h1 := h x (List.mem_cons_self ..)
    have h2 := ih fun y hy => h y (List.mem_cons_of_mem _ hy)
    omega
theorem flat_be (w : Nat) (l : List Int) : (l.flatMap (fun x => be w x.toNat)).length = l.length * w := by
  induction l with
  | nil => simp
  | cons x l ih => rw [List.flatMap_cons, List.length_append, List.length_cons, Nat.add_mul, be_len, ih]; omega
theorem rowL_sz (x : Int) (l : List Int) (h : l.length ≤ 1000) : (rowL x l).length ≤ 10000 := by
  unfold rowL
  split
  · rename_i he
    unfold rowE at he
    split at he
    · rename_i hw
      rw [List.length_append, be_len, flat_be]
      have h2 : l.length * x.toNat ≤ 1000 * 8 := Nat.mul_le_mul h (by unfold wideW at hw; omega)
      omega
    · omega
  · simp
end Go.Proofs.Ytkflpkcggjpbfaa
