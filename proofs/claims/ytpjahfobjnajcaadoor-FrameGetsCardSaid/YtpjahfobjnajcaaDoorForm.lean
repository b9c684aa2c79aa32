/- Numbers, texts and rows come back of their bytes wherever these stand, and what is taken was put so: in plain words. -/
import Derived.Test.YtpjahfobjnajcaaDoorByte
namespace Go.Proofs.YtpjahfobjnajcaaDoor

theorem wide_nat {w : Int} (h : wideW w) : 1 ≤ w ∧ w ≤ 8 ∧ (w.toNat : Int) = w := by unfold wideW at h; omega
theorem wide_pow {w : Int} (n : Int) : (w = 8 → n ≤ 9223372036854775807) → n < (256 : Int) ^ w.toNat → n.toNat < 256 ^ w.toNat := by
  intro _ h1
  have e : ((256 ^ w.toNat : Nat) : Int) = (256 : Int) ^ w.toNat := by rw [Int.natCast_pow]; rfl
  have h2 : 0 < 256 ^ w.toNat := Nat.pow_pos (by omega)
  omega
theorem mid_part (A M B : List UInt8) (p w : Int) (hp : p = A.length) (hw : w = M.length) : ((A ++ (M ++ B)).drop p.toNat).take w.toNat = M := by
  subst hp; subst hw
  rw [Int.toNat_natCast, Int.toNat_natCast, List.drop_left, List.take_left]
theorem first_byte {l : List UInt8} (h : l.length = 8) (hv : val l ≤ 9223372036854775807) : (l.getD 0 0).toNat ≤ 127 := by
  cases l with
  | nil => simp at h
  | cons c l =>
    have e : val (c :: l) = valOn (256 * 0 + c.toNat) l := rfl
    have hl : l.length = 7 := by simpa using h
    rw [e, val_on, hl] at hv
    simp only [List.getD_cons_zero]
    omega
theorem get_good {A M B : List UInt8} {p w : Int} (hw : wideW w) (hp : p = A.length) (hM : w = M.length) (h8 : w = 8 → val M ≤ 9223372036854775807) : getE (A ++ (M ++ B)) p w = 0 ∧ getV (A ++ (M ++ B)) p w = val M ∧ getT (A ++ (M ++ B)) p w = p + w := by
  have hl : (A ++ (M ++ B)).length = A.length + M.length + B.length := by simp; omega
  obtain ⟨w1, w2, w3⟩ := wide_nat hw
  have e : getE (A ++ (M ++ B)) p w = 0 := by
    unfold getE
    rw [if_pos ⟨hw, by omega, by omega⟩, if_neg (by omega), if_neg]
    rintro ⟨e8, h1⟩
    have h2 : (A ++ (M ++ B)).getD p.toNat 0 = M.getD 0 0 := by
      subst hp
      rw [Int.toNat_natCast]
      cases M with
      | nil => simp at hM; omega
      | cons c M => simp
    rw [h2] at h1
    have := first_byte (l := M) (by omega) (h8 e8)
    omega
  refine ⟨e, ?_, ?_⟩
  · unfold getV; rw [if_pos e, mid_part A M B p w hp hM]
  · unfold getT; rw [if_pos e]
/-- A number comes back of its bytes. -/
theorem get_back {A B : List UInt8} {n w : Int} (hn : n ≤ 9223372036854775807) (h : putE n w = 0) (p : Int) (hp : p = A.length) : getE (A ++ (putL n w ++ B)) p w = 0 ∧ getV (A ++ (putL n w ++ B)) p w = n ∧ getT (A ++ (putL n w ++ B)) p w = p + w ∧ ((putL n w).length : Int) = w := by
  have hE := h
  unfold putE at h
  by_cases hw : wideW w
  · rw [if_pos hw] at h
    by_cases hr : 0 ≤ n ∧ n < (256 : Int) ^ w.toNat
    · obtain ⟨w1, w2, w3⟩ := wide_nat hw
      have hlt := wide_pow n (fun _ => hn) hr.2
      have hv : val (putL n w) = n.toNat := by unfold putL; rw [if_pos hE, val_be _ _ hlt]
      have hl : ((putL n w).length : Int) = w := by unfold putL; rw [if_pos hE, be_len]; exact w3
      obtain ⟨g1, g2, g3⟩ := get_good (A := A) (M := putL n w) (B := B) hw hp hl.symm (fun _ => by rw [hv]; omega)
      exact ⟨g1, by rw [g2, hv]; omega, g3, hl⟩
    · rw [if_neg hr] at h; omega
  · rw [if_neg hw] at h; omega
/-- The bytes ahead, at, and behind a place. -/
theorem three_parts (s : List UInt8) (p w : Nat) (h : p + w ≤ s.length) : ∃ A M B, s = A ++ (M ++ B) ∧ A.length = p ∧ M.length = w ∧ M = (s.drop p).take w := by
  refine ⟨s.take p, (s.drop p).take w, (s.drop p).drop w, ?_, by simp; omega, by simp; omega, rfl⟩
  rw [List.take_append_drop, List.take_append_drop]
theorem get_fine {s : List UInt8} {p w : Int} (h : getE s p w = 0) : wideW w ∧ 0 ≤ p ∧ p + w ≤ s.length ∧ (w = 8 → (s.getD p.toNat 0).toNat ≤ 127) := by
  unfold getE at h
  split at h
  · rename_i h1
    split at h
    · omega
    · split at h
      · omega
      · rename_i h2 h3
        exact ⟨h1.1, h1.2.1, by omega, fun e => by rcases Nat.lt_or_ge 127 (s.getD p.toNat 0).toNat with g | g; exact absurd ⟨e, g⟩ h3; exact g⟩
  · omega
theorem val_eight {l : List UInt8} (h : l.length = 8) (h0 : (l.getD 0 0).toNat ≤ 127) : val l ≤ 9223372036854775807 := by
  cases l with
  | nil => simp at h
  | cons c l =>
    have e : val (c :: l) = valOn (256 * 0 + c.toNat) l := rfl
    have hl : l.length = 7 := by simpa using h
    have hv := val_lt l
    simp only [List.getD_cons_zero] at h0
    rw [hl] at hv
    rw [e, val_on, hl]
    omega
theorem get_bound {s : List UInt8} {p w : Int} (h : getE s p w = 0) : 0 ≤ getV s p w ∧ getV s p w ≤ 9223372036854775807 ∧ getV s p w < (256 : Int) ^ w.toNat ∧ (w = 2 → getV s p w ≤ 65535) := by
  obtain ⟨hw, h0, h1, h8⟩ := get_fine h
  obtain ⟨w1, w2, w3⟩ := wide_nat hw
  have hl : ((s.drop p.toNat).take w.toNat).length = w.toNat := by simp; omega
  have hv := val_lt ((s.drop p.toNat).take w.toNat)
  rw [hl] at hv
  unfold getV
  rw [if_pos h]
  have e : ((256 ^ w.toNat : Nat) : Int) = (256 : Int) ^ w.toNat := by rw [Int.natCast_pow]; rfl
  refine ⟨by omega, ?_, by omega, ?_⟩
  · unfold wideW at hw
    rcases hw with rfl | rfl | rfl | rfl
    · rw [show (1 : Int).toNat = 1 from rfl] at hv ⊢; omega
    · rw [show (2 : Int).toNat = 2 from rfl] at hv ⊢; omega
    · rw [show (4 : Int).toNat = 4 from rfl] at hv ⊢; omega
    · have h9 := h8 rfl
      have := val_eight hl (by
        have e2 : ((s.drop p.toNat).take (8 : Int).toNat).getD 0 0 = s.getD p.toNat 0 := by
          simp [List.getD_eq_getElem?_getD]
        rw [e2]; exact h9)
      omega
  · intro e2; subst e2; rw [show (2 : Int).toNat = 2 from rfl] at hv ⊢; omega
/-- What is taken as a number was put so. -/
theorem get_canon {s : List UInt8} {p w : Int} (h : getE s p w = 0) : putE (getV s p w) w = 0 ∧ putL (getV s p w) w = (s.drop p.toNat).take w.toNat := by
  obtain ⟨hw, h0, h1, h8⟩ := get_fine h
  obtain ⟨w1, w2, w3⟩ := wide_nat hw
  obtain ⟨b1, b2, b3, _⟩ := get_bound h
  have hp : putE (getV s p w) w = 0 := by unfold putE; rw [if_pos hw, if_pos ⟨b1, b3⟩]
  refine ⟨hp, ?_⟩
  have hl : ((s.drop p.toNat).take w.toNat).length = w.toNat := by simp; omega
  unfold putL
  rw [if_pos hp]
  unfold getV
  rw [if_pos h, Int.toNat_natCast, be_val _ _ hl]
/-- A text comes back of its bytes. -/
theorem take_back {A B t : List UInt8} (ht : t.length ≤ 65535) (p m : Int) (hp : p = A.length) (hm : (t.length : Int) ≤ m) : layE t = 0 ∧ takeE (A ++ (layL t ++ B)) p m = 0 ∧ takeL (A ++ (layL t ++ B)) p m = t ∧ takeT (A ++ (layL t ++ B)) p m = p + (layL t).length := by
  have hE : layE t = 0 := by unfold layE; rw [if_pos ht]
  have hL : layL t = be 2 t.length ++ t := by unfold layL; rw [if_pos hE]
  have hs : A ++ (layL t ++ B) = A ++ (be 2 t.length ++ (t ++ B)) := by rw [hL, List.append_assoc]
  have hv : val (be 2 t.length) = t.length := val_be 2 _ (by simp; omega)
  obtain ⟨g1, g2, g3⟩ := get_good (A := A) (M := be 2 t.length) (B := t ++ B) (p := p) (w := 2) (by unfold wideW; omega) hp (by rw [be_len]; rfl) (fun e => by omega)
  rw [hv] at g2
  have hlen : (A ++ (be 2 t.length ++ (t ++ B))).length = A.length + 2 + t.length + B.length := by simp [be_len]; omega
  have hT : takeE (A ++ (be 2 t.length ++ (t ++ B))) p m = 0 := by
    unfold takeE
    rw [if_pos ⟨by omega, by omega, by omega⟩, if_pos g1, if_neg (by omega), if_neg (by omega)]
  have hLL : ((layL t).length : Int) = 2 + t.length := by rw [hL, List.length_append, be_len]; omega
  rw [hs]
  refine ⟨hE, hT, ?_, ?_⟩
  · unfold takeL
    rw [if_pos hT, g2]
    have e : A ++ (be 2 t.length ++ (t ++ B)) = (A ++ be 2 t.length) ++ (t ++ B) := by rw [List.append_assoc]
    rw [e]
    have hq : (p + 2).toNat = (A ++ be 2 t.length).length := by simp [be_len]; omega
    rw [hq, List.drop_left, Int.toNat_natCast, List.take_left]
  · unfold takeT; rw [if_pos hT, g2, hLL]; omega
theorem take_fine {s : List UInt8} {p m : Int} (h : takeE s p m = 0) : getE s p 2 = 0 ∧ 0 ≤ p ∧ getV s p 2 ≤ m ∧ p + 2 + getV s p 2 ≤ s.length := by
  unfold takeE at h
  split at h
  · rename_i h1
    split at h
    · rename_i h2
      split at h
      · omega
      · split at h
        · omega
        · exact ⟨h2, h1.2.1, by omega, by omega⟩
    · rename_i h2; exact absurd h h2
  · omega
/-- What is taken as a text was laid so. -/
theorem take_canon {s : List UInt8} {p m : Int} (h : takeE s p m = 0) : layE (takeL s p m) = 0 ∧ layL (takeL s p m) = (s.drop p.toNat).take (takeT s p m - p).toNat ∧ p ≤ takeT s p m ∧ takeT s p m ≤ s.length ∧ ((takeL s p m).length : Int) = getV s p 2 := by
  obtain ⟨h1, h2, h3, h4⟩ := take_fine h
  obtain ⟨b1, b2, b3, b4⟩ := get_bound h1
  have hn := b4 rfl
  obtain ⟨_, c2⟩ := get_canon h1
  have hT : takeT s p m = p + 2 + getV s p 2 := by unfold takeT; rw [if_pos h]
  have hL : takeL s p m = (s.drop (p + 2).toNat).take (getV s p 2).toNat := by unfold takeL; rw [if_pos h]
  have hlen : ((takeL s p m).length : Int) = getV s p 2 := by rw [hL]; simp; omega
  have hE : layE (takeL s p m) = 0 := by unfold layE; rw [if_pos (by omega)]
  refine ⟨hE, ?_, by omega, by omega, hlen⟩
  have hP : putE (getV s p 2) 2 = 0 := (get_canon h1).1
  unfold putL at c2
  rw [if_pos hP] at c2
  unfold layL
  rw [if_pos hE, show (takeL s p m).length = (getV s p 2).toNat by omega]
  have e1 : be 2 (getV s p 2).toNat = (s.drop p.toNat).take 2 := c2
  rw [e1, hL, show (p + 2).toNat = p.toNat + 2 by omega, show (takeT s p m - p).toNat = 2 + (getV s p 2).toNat by omega, ← List.drop_drop, List.take_add]
end Go.Proofs.YtpjahfobjnajcaaDoor
