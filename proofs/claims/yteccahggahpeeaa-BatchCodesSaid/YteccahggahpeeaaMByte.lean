/- Numbers, texts and rows as bytes, in plain words over lists of bytes: what they are, and that each has one form and comes back of it. -/
import Derived.Test.YteccahggahpeeaaMLeaf
namespace Go.Proofs.Yteccahggahpeeaa

/-- The last w bytes of a number, the greatest place first. -/
def be : Nat → Nat → List UInt8
  | 0, _ => []
  | w + 1, n => be w (n / 256) ++ [UInt8.ofNat (n % 256)]
/-- The number that bytes tell, gone on from one. -/
def valOn (a : Nat) (l : List UInt8) : Nat := l.foldl (fun a c => 256 * a + c.toNat) a
def val (l : List UInt8) : Nat := valOn 0 l
theorem be_len (w n : Nat) : (be w n).length = w := by
  induction w generalizing n with
  | zero => rfl
  | succ w ih => simp [be, ih]
theorem val_more (a : Nat) (l : List UInt8) (c : UInt8) : valOn a (l ++ [c]) = 256 * valOn a l + c.toNat := by unfold valOn; rw [List.foldl_append]; rfl
theorem val_on (a : Nat) (l : List UInt8) : valOn a l = a * 256 ^ l.length + val l := by
  induction l generalizing a with
  | nil => simp [valOn, val]
  | cons c l ih =>
    have e1 : valOn a (c :: l) = valOn (256 * a + c.toNat) l := rfl
    have e2 : val (c :: l) = valOn (256 * 0 + c.toNat) l := rfl
    rw [e1, e2, ih, ih (256 * 0 + c.toNat), List.length_cons, Nat.pow_succ, Nat.add_mul, Nat.add_mul]
    have e3 : 256 * a * 256 ^ l.length = a * (256 ^ l.length * 256) := by rw [Nat.mul_comm 256 a, Nat.mul_assoc, Nat.mul_comm 256]
    omega
theorem val_append (a b : List UInt8) : val (a ++ b) = val a * 256 ^ b.length + val b := by
  rw [← val_on]
  unfold val valOn
  rw [List.foldl_append]
theorem val_lt (l : List UInt8) : val l < 256 ^ l.length := by
  induction l with
  | nil => simp [val, valOn]
  | cons c l ih =>
    have e : val (c :: l) = valOn (256 * 0 + c.toNat) l := rfl
    rw [e, val_on, List.length_cons, Nat.pow_succ]
    have hc := c.toNat_lt
    have h1 : (256 * 0 + c.toNat) * 256 ^ l.length ≤ 255 * 256 ^ l.length := Nat.mul_le_mul_right _ (by omega)
    omega
theorem val_be (w n : Nat) (h : n < 256 ^ w) : val (be w n) = n := by
  induction w generalizing n with
  | zero => simp at h; subst h; rfl
  | succ w ih =>
    rw [Nat.pow_succ] at h
    have e : val (be (w + 1) n) = 256 * val (be w (n / 256)) + (UInt8.ofNat (n % 256)).toNat := val_more 0 _ _
    rw [e, ih _ (by omega)]
    have : (UInt8.ofNat (n % 256)).toNat = n % 256 := by
      rw [UInt8.toNat_ofNat']; omega
    omega
theorem val_snoc (l : List UInt8) (c : UInt8) : val (l ++ [c]) = 256 * val l + c.toNat := val_more 0 l c
theorem snoc_of {l : List UInt8} {w : Nat} (h : l.length = w + 1) : ∃ m c, l = m ++ [c] ∧ m.length = w := by
  refine ⟨l.dropLast, l.getLast (by intro e; subst e; simp at h), (List.dropLast_concat_getLast _).symm, by simp [h]⟩
theorem be_val (w : Nat) (l : List UInt8) (h : l.length = w) : be w (val l) = l := by
  induction w generalizing l with
  | zero => rw [List.length_eq_zero_iff.1 h]; rfl
  | succ w ih =>
    obtain ⟨m, c, rfl, hm⟩ := snoc_of h
    have hc := c.toNat_lt
    unfold be
    rw [val_snoc, show (256 * val m + c.toNat) / 256 = val m by omega, show (256 * val m + c.toNat) % 256 = c.toNat by omega, ih m hm, UInt8.ofNat_toNat]
/-- Of one width the greater number has the greater bytes. -/
theorem lex_val : ∀ (a b : List UInt8), a.length = b.length → ((a < b) ↔ val a < val b) := by
  intro a
  induction a with
  | nil =>
    intro b h
    have : b = [] := List.length_eq_zero_iff.1 h.symm
    subst this
    constructor
    · intro h1; exact absurd h1 (List.lt_irrefl _)
    · intro h1; omega
  | cons x a ih =>
    intro b h
    cases b with
    | nil => simp at h
    | cons y b =>
      have hl : a.length = b.length := by simpa using h
      rw [List.cons_lt_cons_iff, ih b hl]
      have e1 : val (x :: a) = valOn (256 * 0 + x.toNat) a := rfl
      have e2 : val (y :: b) = valOn (256 * 0 + y.toNat) b := rfl
      have l1 := val_lt a
      have l2 := val_lt b
      rw [e1, e2, val_on, val_on, hl]
      rw [hl] at l1
      have hxy : x < y ↔ x.toNat < y.toNat := UInt8.lt_iff_toNat_lt
      have hee : x = y ↔ x.toNat = y.toNat := UInt8.toNat_inj.symm
      rw [hxy, hee]
      generalize 256 ^ b.length = K at *
      generalize x.toNat = X at *
      generalize y.toNat = Y at *
      rw [show 256 * 0 + X = X by omega, show 256 * 0 + Y = Y by omega]
      rcases Nat.lt_trichotomy X Y with g | g | g
      · have := Nat.mul_le_mul_right K (show X + 1 ≤ Y from g)
        rw [Nat.add_mul] at this
        constructor
        · intro _; omega
        · intro _; exact Or.inl g
      · subst g
        constructor
        · rintro (h1 | ⟨_, h1⟩)
          · omega
          · omega
        · intro h1; exact Or.inr ⟨rfl, by omega⟩
      · have := Nat.mul_le_mul_right K (show Y + 1 ≤ X from g)
        rw [Nat.add_mul] at this
        constructor
        · rintro (h1 | ⟨h1, _⟩) <;> omega
        · intro _; omega

def wideW (w : Int) : Prop := w = 1 ∨ w = 2 ∨ w = 4 ∨ w = 8
instance (w : Int) : Decidable (wideW w) := by unfold wideW; infer_instance
def putE (n w : Int) : Int := if wideW w then (if 0 ≤ n ∧ n < 256 ^ w.toNat then 0 else 8) else 2
def putL (n w : Int) : List UInt8 := if putE n w = 0 then be w.toNat n.toNat else []
def getE (s : List UInt8) (p w : Int) : Int := if wideW w ∧ 0 ≤ p ∧ p ≤ s.length then (if s.length - p < w then 4 else if w = 8 ∧ 127 < (s.getD p.toNat 0).toNat then 8 else 0) else 2
def getV (s : List UInt8) (p w : Int) : Int := if getE s p w = 0 then (val ((s.drop p.toNat).take w.toNat) : Int) else 0
def getT (s : List UInt8) (p w : Int) : Int := if getE s p w = 0 then p + w else 0
def layE (t : List UInt8) : Int := if t.length ≤ 65535 then 0 else 3
def layL (t : List UInt8) : List UInt8 := if layE t = 0 then be 2 t.length ++ t else []
def takeE (s : List UInt8) (p m : Int) : Int := if 0 ≤ m ∧ 0 ≤ p ∧ p ≤ s.length then (if getE s p 2 = 0 then (if m < getV s p 2 then 3 else if s.length < p + 2 + getV s p 2 then 4 else 0) else getE s p 2) else 2
def takeL (s : List UInt8) (p m : Int) : List UInt8 := if takeE s p m = 0 then (s.drop (p + 2).toNat).take (getV s p 2).toNat else []
def takeT (s : List UInt8) (p m : Int) : Int := if takeE s p m = 0 then p + 2 + getV s p 2 else 0
def rowE (w : Int) (l : List Int) : Int := if wideW w then (if 1000 < l.length then 3 else if ∀ x ∈ l, putE x w = 0 then 0 else 8) else 2
def rowL (w : Int) (l : List Int) : List UInt8 := if rowE w l = 0 then be 2 l.length ++ l.flatMap (fun x => be w.toNat x.toNat) else []
/-- The first element that does not stand there. -/
def badAt (s : List UInt8) (q w : Int) (n : Nat) : Option Nat := (List.range n).find? (fun (i : Nat) => getE s (q + i * w) w != 0)
def unrowE (s : List UInt8) (p w m : Int) : Int := if wideW w ∧ 0 ≤ p ∧ p ≤ s.length ∧ 0 ≤ m then (if getE s p 2 = 0 then (if m < getV s p 2 ∨ 1000 < getV s p 2 then 3 else match badAt s (p + 2) w (getV s p 2).toNat with | some i => getE s (p + 2 + i * w) w | none => 0) else getE s p 2) else 2
def unrowL (s : List UInt8) (p w m : Int) : List Int := if unrowE s p w m = 0 then (List.range (getV s p 2).toNat).map (fun (i : Nat) => getV s (p + 2 + i * w) w) else []
def unrowT (s : List UInt8) (p w m : Int) : Int := if unrowE s p w m = 0 then p + 2 + getV s p 2 * w else 0
end Go.Proofs.Yteccahggahpeeaa
namespace Go.Proofs.Yteccahggahpeeaa

theorem wide_nat {w : Int} (h : wideW w) : 1 ≤ w ∧ w ≤ 8 ∧ (w.toNat : Int) = w := by unfold wideW at h; omega
theorem wide_pow {w : Int} (n : Int) : (w = 8 → n ≤ 9223372036854775807) → n < (256 : Int) ^ w.toNat → n.toNat < 256 ^ w.toNat := by
  intro _ h1
  have e : ((256 ^ w.toNat : Nat) : Int) = (256 : Int) ^ w.toNat := by rw [Int.natCast_pow]; rfl
  have h2 : 0 < 256 ^ w.toNat := Nat.pow_pos (by omega)
  omega
theorem mid_part (A M B : List UInt8) (p w : Int) (hp : p = A.length) (hw : w = M.length) : ((A ++ (M ++ B)).drop p.toNat).take w.toNat = M := by
  subst hp; subst hw
  rw [Int.toNat_natCast, Int.toNat_natCast, List.drop_left, List.take_left]
theorem first_byte {l : List UInt8} (h : l.length = 8) (hv : val l ≤ 9223372036854775807) : (l.getD 0 0).toNat ≤ 127 := by
  cases l with
  | nil => simp at h
  | cons c l =>
    have e : val (c :: l) = valOn (256 * 0 + c.toNat) l := rfl
    have hl : l.length = 7 := by simpa using h
    rw [e, val_on, hl] at hv
    simp only [List.getD_cons_zero]
    omega
theorem get_good {A M B : List UInt8} {p w : Int} (hw : wideW w) (hp : p = A.length) (hM : w = M.length) (h8 : w = 8 → val M ≤ 9223372036854775807) : getE (A ++ (M ++ B)) p w = 0 ∧ getV (A ++ (M ++ B)) p w = val M ∧ getT (A ++ (M ++ B)) p w = p + w := by
  have hl : (A ++ (M ++ B)).length = A.length + M.length + B.length := by simp; omega
  obtain ⟨w1, w2, w3⟩ := wide_nat hw
  have e : getE (A ++ (M ++ B)) p w = 0 := by
    unfold getE
    rw [if_pos ⟨hw, by omega, by omega⟩, if_neg (by omega), if_neg]
    rintro ⟨e8, h1⟩
    have h2 : (A ++ (M ++ B)).getD p.toNat 0 = M.getD 0 0 := by
      subst hp
      rw [Int.toNat_natCast]
      cases M with
      | nil => simp at hM; omega
      | cons c M => simp
    rw [h2] at h1
    have := first_byte (l := M) (by omega) (h8 e8)
    omega
  refine ⟨e, ?_, ?_⟩
  · unfold getV; rw [if_pos e, mid_part A M B p w hp hM]
  · unfold getT; rw [if_pos e]
/-- A number comes back of its bytes. -/
theorem get_back {A B : List UInt8} {n w : Int} (hn : n ≤ 9223372036854775807) (h : putE n w = 0) (p : Int) (hp : p = A.length) : getE (A ++ (putL n w ++ B)) p w = 0 ∧ getV (A ++ (putL n w ++ B)) p w = n ∧ getT (A ++ (putL n w ++ B)) p w = p + w ∧ ((putL n w).length : Int) = w := by
  have hE := h
  unfold putE at h
  by_cases hw : wideW w
  · rw [if_pos hw] at h
    by_cases hr : 0 ≤ n ∧ n < (256 : Int) ^ w.toNat
    · obtain ⟨w1, w2, w3⟩ := wide_nat hw
      have hlt := wide_pow n (fun _ => hn) hr.2
      have hv : val (putL n w) = n.toNat := by unfold putL; rw [if_pos hE, val_be _ _ hlt]
      have hl : ((putL n w).length : Int) = w := by unfold putL; rw [if_pos hE, be_len]; exact w3
      obtain ⟨g1, g2, g3⟩ := get_good (A := A) (M := putL n w) (B := B) hw hp hl.symm (fun _ => by rw [hv]; omega)
      exact ⟨g1, by rw [g2, hv]; omega, g3, hl⟩
    · rw [if_neg hr] at h; omega
  · rw [if_neg hw] at h; omega
/-- The bytes ahead, at, and behind a place. -/
theorem three_parts (s : List UInt8) (p w : Nat) (h : p + w ≤ s.length) : ∃ A M B, s = A ++ (M ++ B) ∧ A.length = p ∧ M.length = w ∧ M = (s.drop p).take w := by
  refine ⟨s.take p, (s.drop p).take w, (s.drop p).drop w, ?_, by simp; omega, by simp; omega, rfl⟩
  rw [List.take_append_drop, List.take_append_drop]
theorem get_fine {s : List UInt8} {p w : Int} (h : getE s p w = 0) : wideW w ∧ 0 ≤ p ∧ p + w ≤ s.length ∧ (w = 8 → (s.getD p.toNat 0).toNat ≤ 127) := by
  unfold getE at h
  split at h
  · rename_i h1
    split at h
    · omega
    · split at h
      · omega
      · rename_i h2 h3
        exact ⟨h1.1, h1.2.1, by omega, fun e => by rcases Nat.lt_or_ge 127 (s.getD p.toNat 0).toNat with g | g; exact absurd ⟨e, g⟩ h3; exact g⟩
  · omega
theorem val_eight {l : List UInt8} (h : l.length = 8) (h0 : (l.getD 0 0).toNat ≤ 127) : val l ≤ 9223372036854775807 := by
  cases l with
  | nil => simp at h
  | cons c l =>
    have e : val (c :: l) = valOn (256 * 0 + c.toNat) l := rfl
    have hl : l.length = 7 := by simpa using h
    have hv := val_lt l
    simp only [List.getD_cons_zero] at h0
    rw [hl] at hv
    rw [e, val_on, hl]
    omega
theorem get_bound {s : List UInt8} {p w : Int} (h : getE s p w = 0) : 0 ≤ getV s p w ∧ getV s p w ≤ 9223372036854775807 ∧ getV s p w < (256 : Int) ^ w.toNat ∧ (w = 2 → getV s p w ≤ 65535) := by
  obtain ⟨hw, h0, h1, h8⟩ := get_fine h
  obtain ⟨w1, w2, w3⟩ := wide_nat hw
  have hl : ((s.drop p.toNat).take w.toNat).length = w.toNat := by simp; omega
  have hv := val_lt ((s.drop p.toNat).take w.toNat)
  rw [hl] at hv
  unfold getV
  rw [if_pos h]
  have e : ((256 ^ w.toNat : Nat) : Int) = (256 : Int) ^ w.toNat := by rw [Int.natCast_pow]; rfl
  refine ⟨by omega, ?_, by omega, ?_⟩
  · unfold wideW at hw
    rcases hw with rfl | rfl | rfl | rfl
    · rw [show (1 : Int).toNat = 1 from rfl] at hv ⊢; omega
    · rw [show (2 : Int).toNat = 2 from rfl] at hv ⊢; omega
    · rw [show (4 : Int).toNat = 4 from rfl] at hv ⊢; omega
    · have h9 := h8 rfl
      have := val_eight hl (by
        have e2 : ((s.drop p.toNat).take (8 : Int).toNat).getD 0 0 = s.getD p.toNat 0 := by
          simp [List.getD_eq_getElem?_getD]
        rw [e2]; exact h9)
      omega
  · intro e2; subst e2; rw [show (2 : Int).toNat = 2 from rfl] at hv ⊢; omega
/-- What is taken as a number was put so. -/
theorem get_canon {s : List UInt8} {p w : Int} (h : getE s p w = 0) : putE (getV s p w) w = 0 ∧ putL (getV s p w) w = (s.drop p.toNat).take w.toNat := by
  obtain ⟨hw, h0, h1, h8⟩ := get_fine h
  obtain ⟨w1, w2, w3⟩ := wide_nat hw
  obtain ⟨b1, b2, b3, _⟩ := get_bound h
  have hp : putE (getV s p w) w = 0 := by unfold putE; rw [if_pos hw, if_pos ⟨b1, b3⟩]
  refine ⟨hp, ?_⟩
  have hl : ((s.drop p.toNat).take w.toNat).length = w.toNat := by simp; omega
  unfold putL
  rw [if_pos hp]
  unfold getV
  rw [if_pos h, Int.toNat_natCast, be_val _ _ hl]
/-- A text comes back of its bytes. -/
theorem take_back {A B t : List UInt8} (ht : t.length ≤ 65535) (p m : Int) (hp : p = A.length) (hm : (t.length : Int) ≤ m) : layE t = 0 ∧ takeE (A ++ (layL t ++ B)) p m = 0 ∧ takeL (A ++ (layL t ++ B)) p m = t ∧ takeT (A ++ (layL t ++ B)) p m = p + (layL t).length := by
  have hE : layE t = 0 := by unfold layE; rw [if_pos ht]
  have hL : layL t = be 2 t.length ++ t := by unfold layL; rw [if_pos hE]
  have hs : A ++ (layL t ++ B) = A ++ (be 2 t.length ++ (t ++ B)) := by rw [hL, List.append_assoc]
  have hv : val (be 2 t.length) = t.length := val_be 2 _ (by simp; omega)
  obtain ⟨g1, g2, g3⟩ := get_good (A := A) (M := be 2 t.length) (B := t ++ B) (p := p) (w := 2) (by unfold wideW; omega) hp (by rw [be_len]; rfl) (fun e => by omega)
  rw [hv] at g2
  have hlen : (A ++ (be 2 t.length ++ (t ++ B))).length = A.length + 2 + t.length + B.length := by simp [be_len]; omega
  have hT : takeE (A ++ (be 2 t.length ++ (t ++ B))) p m = 0 := by
    unfold takeE
    rw [if_pos ⟨by omega, by omega, by omega⟩, if_pos g1, if_neg (by omega), if_neg (by omega)]
  have hLL : ((layL t).length : Int) = 2 + t.length := by rw [hL, List.length_append, be_len]; omega
  rw [hs]
  refine ⟨hE, hT, ?_, ?_⟩
  · unfold takeL
    rw [if_pos hT, g2]
    have e : A ++ (be 2 t.length ++ (t ++ B)) = (A ++ be 2 t.length) ++ (t ++ B) := by rw [List.append_assoc]
    rw [e]
    have hq : (p + 2).toNat = (A ++ be 2 t.length).length := by simp [be_len]; omega
    rw [hq, List.drop_left, Int.toNat_natCast, List.take_left]
  · unfold takeT; rw [if_pos hT, g2, hLL]; omega
theorem take_fine {s : List UInt8} {p m : Int} (h : takeE s p m = 0) : getE s p 2 = 0 ∧ 0 ≤ p ∧ getV s p 2 ≤ m ∧ p + 2 + getV s p 2 ≤ s.length := by
  unfold takeE at h
  split at h
  · rename_i h1
    split at h
    · rename_i h2
      split at h
      · omega
      · split at h
        · omega
        · exact ⟨h2, h1.2.1, by omega, by omega⟩
    · rename_i h2; exact absurd h h2
  · omega
/-- What is taken as a text was laid so. -/
theorem take_canon {s : List UInt8} {p m : Int} (h : takeE s p m = 0) : layE (takeL s p m) = 0 ∧ layL (takeL s p m) = (s.drop p.toNat).take (takeT s p m - p).toNat ∧ p ≤ takeT s p m ∧ takeT s p m ≤ s.length ∧ ((takeL s p m).length : Int) = getV s p 2 := by
  obtain ⟨h1, h2, h3, h4⟩ := take_fine h
  obtain ⟨b1, b2, b3, b4⟩ := get_bound h1
  have hn := b4 rfl
  obtain ⟨_, c2⟩ := get_canon h1
  have hT : takeT s p m = p + 2 + getV s p 2 := by unfold takeT; rw [if_pos h]
  have hL : takeL s p m = (s.drop (p + 2).toNat).take (getV s p 2).toNat := by unfold takeL; rw [if_pos h]
  have hlen : ((takeL s p m).length : Int) = getV s p 2 := by rw [hL]; simp; omega
  have hE : layE (takeL s p m) = 0 := by unfold layE; rw [if_pos (by omega)]
  refine ⟨hE, ?_, by omega, by omega, hlen⟩
  have hP : putE (getV s p 2) 2 = 0 := (get_canon h1).1
  unfold putL at c2
  rw [if_pos hP] at c2
  unfold layL
  rw [if_pos hE, show (takeL s p m).length = (getV s p 2).toNat by omega]
  have e1 : be 2 (getV s p 2).toNat = (s.drop p.toNat).take 2 := c2
  rw [e1, hL, show (p + 2).toNat = p.toNat + 2 by omega, show (takeT s p m - p).toNat = 2 + (getV s p 2).toNat by omega, ← List.drop_drop, List.take_add]
end Go.Proofs.Yteccahggahpeeaa
namespace Go.Proofs.Yteccahggahpeeaa

def flat (w : Nat) (l : List Int) : List UInt8 := l.flatMap (fun x => be w x.toNat)
theorem flat_more (w : Nat) (a b : List Int) : flat w (a ++ b) = flat w a ++ flat w b := by unfold flat; rw [List.flatMap_append]
theorem flat_one (w : Nat) (x : Int) (l : List Int) : flat w (x :: l) = be w x.toNat ++ flat w l := by unfold flat; rw [List.flatMap_cons]
theorem flat_len (w : Nat) (l : List Int) : (flat w l).length = l.length * w := by
  induction l with
  | nil => simp [flat]
  | cons x l ih => rw [flat_one, List.length_append, be_len, ih, List.length_cons, Nat.add_mul]; omega
theorem bad_none {s : List UInt8} {q w : Int} {n : Nat} (h : ∀ i : Nat, i < n → getE s (q + i * w) w = 0) : badAt s q w n = none := by
  unfold badAt
  rw [List.find?_eq_none]
  intro i hi
  simp [h i (List.mem_range.1 hi)]
theorem bad_all {s : List UInt8} {q w : Int} {n : Nat} (h : badAt s q w n = none) : ∀ i : Nat, i < n → getE s (q + i * w) w = 0 := by
  unfold badAt at h
  rw [List.find?_eq_none] at h
  intro i hi
  have := h i (List.mem_range.2 hi)
  simpa using this
theorem bad_some {s : List UInt8} {q w : Int} {n i : Nat} (h : badAt s q w n = some i) : i < n ∧ getE s (q + i * w) w ≠ 0 ∧ ∀ j : Nat, j < i → getE s (q + j * w) w = 0 := by
  unfold badAt at h
  rw [List.find?_range_eq_some] at h
  refine ⟨List.mem_range.1 h.2.1, by simpa using h.1, fun j hj => ?_⟩
  have := h.2.2 j hj
  simpa using this
theorem bad_first {s : List UInt8} {q w : Int} {n i : Nat} (hi : i < n) (h1 : getE s (q + i * w) w ≠ 0) (h2 : ∀ j : Nat, j < i → getE s (q + j * w) w = 0) : badAt s q w n = some i := by
  unfold badAt
  rw [List.find?_range_eq_some]
  refine ⟨by simpa using h1, List.mem_range.2 hi, fun j hj => ?_⟩
  simp [h2 j hj]
/-- A row comes back of its bytes. -/
theorem row_back {A B : List UInt8} {l : List Int} {w : Int} (hx : ∀ x ∈ l, x ≤ 9223372036854775807) (h : rowE w l = 0) (p m : Int) (hp : p = A.length) (hm : (l.length : Int) ≤ m) :
    unrowE (A ++ (rowL w l ++ B)) p w m = 0 ∧ unrowL (A ++ (rowL w l ++ B)) p w m = l ∧ unrowT (A ++ (rowL w l ++ B)) p w m = p + (rowL w l).length := by
  have hE := h
  unfold rowE at h
  by_cases hw : wideW w
  · rw [if_pos hw] at h
    obtain ⟨w1, w2, w3⟩ := wide_nat hw
    by_cases hb : 1000 < l.length
    · rw [if_pos hb] at h; omega
    · rw [if_neg hb] at h
      by_cases ha : ∀ x ∈ l, putE x w = 0
      · have hL : rowL w l = be 2 l.length ++ flat w.toNat l := by unfold rowL flat; rw [if_pos hE]
        have hv : val (be 2 l.length) = l.length := val_be 2 _ (by simp; omega)
        have hs : A ++ (rowL w l ++ B) = A ++ (be 2 l.length ++ (flat w.toNat l ++ B)) := by rw [hL, List.append_assoc]
        obtain ⟨g1, g2, g3⟩ := get_good (A := A) (M := be 2 l.length) (B := flat w.toNat l ++ B) (p := p) (w := 2) (by unfold wideW; omega) hp (by rw [be_len]; rfl) (fun e => by omega)
        rw [hv] at g2
        have hel : ∀ i : Nat, (hi : i < l.length) → getE (A ++ (rowL w l ++ B)) (p + 2 + i * w) w = 0 ∧ getV (A ++ (rowL w l ++ B)) (p + 2 + i * w) w = l[i] := by
          intro i hi
          have hsp : l = l.take i ++ (l[i] :: l.drop (i + 1)) := by
            rw [List.getElem_cons_drop, List.take_append_drop]
          have hf : flat w.toNat l = flat w.toNat (l.take i) ++ (be w.toNat l[i].toNat ++ flat w.toNat (l.drop (i + 1))) := by
            conv => lhs; rw [hsp]
            rw [flat_more, flat_one]
          have hm := List.getElem_mem hi
          have hpe := ha _ hm
          have hpl : putL l[i] w = be w.toNat l[i].toNat := by unfold putL; rw [if_pos hpe]
          have hs2 : A ++ (rowL w l ++ B) = (A ++ (be 2 l.length ++ flat w.toNat (l.take i))) ++ (putL l[i] w ++ (flat w.toNat (l.drop (i + 1)) ++ B)) := by
            rw [hs, hf, hpl]; simp only [List.append_assoc]
          have hlen : p + 2 + i * w = ((A ++ (be 2 l.length ++ flat w.toNat (l.take i))).length : Int) := by
            rw [List.length_append, List.length_append, be_len, flat_len, List.length_take, Nat.min_eq_left (Nat.le_of_lt hi)]
            have e : ((i * w.toNat : Nat) : Int) = i * w := by rw [Int.natCast_mul, w3]
            omega
          obtain ⟨k1, k2, _, _⟩ := get_back (A := A ++ (be 2 l.length ++ flat w.toNat (l.take i))) (B := flat w.toNat (l.drop (i + 1)) ++ B) (hx _ hm) hpe (p + 2 + i * w) hlen
          rw [hs2]
          exact ⟨k1, k2⟩
        have hn : (getV (A ++ (rowL w l ++ B)) p 2).toNat = l.length := by rw [hs, g2]; omega
        have hU : unrowE (A ++ (rowL w l ++ B)) p w m = 0 := by
          have hlen : (A ++ (rowL w l ++ B)).length = A.length + (rowL w l).length + B.length := by simp; omega
          have hg1 : getE (A ++ (rowL w l ++ B)) p 2 = 0 := by rw [hs]; exact g1
          have hg2 : getV (A ++ (rowL w l ++ B)) p 2 = l.length := by rw [hs]; exact g2
          unfold unrowE
          rw [if_pos ⟨hw, by omega, by omega, by omega⟩, if_pos hg1, if_neg (by omega), hn, bad_none fun i hi => (hel i hi).1]
        refine ⟨hU, ?_, ?_⟩
        · unfold unrowL
          rw [if_pos hU, hn]
          refine List.ext_getElem (by simp) fun i h1 h2 => ?_
          rw [List.getElem_map, List.getElem_range]
          exact (hel i h2).2
        · unfold unrowT
          rw [if_pos hU, hL, List.length_append, be_len, flat_len]
          have e : getV (A ++ (be 2 l.length ++ flat w.toNat l ++ B)) p 2 = l.length := by rw [← hL, hs]; exact g2
          have e2 : ((l.length * w.toNat : Nat) : Int) = l.length * w := by rw [Int.natCast_mul, w3]
          rw [e]
          omega
      · rw [if_neg ha] at h; omega
  · rw [if_neg hw] at h; omega
theorem unrow_fine {s : List UInt8} {p w m : Int} (h : unrowE s p w m = 0) : wideW w ∧ 0 ≤ p ∧ getE s p 2 = 0 ∧ getV s p 2 ≤ m ∧ getV s p 2 ≤ 1000 ∧ ∀ i : Nat, i < (getV s p 2).toNat → getE s (p + 2 + i * w) w = 0 := by
  unfold unrowE at h
  split at h
  · rename_i h1
    split at h
    · rename_i h2
      split at h
      · omega
      · rename_i h3
        split at h
        · rename_i i hb
          exact absurd h (bad_some hb).2.1
        · rename_i hb
          exact ⟨h1.1, h1.2.1, h2, by omega, by omega, bad_all hb⟩
    · rename_i h2; exact absurd h h2
  · omega
/-- What is taken as a row was put so. -/
theorem unrow_canon {s : List UInt8} {p w m : Int} (h : unrowE s p w m = 0) : rowE w (unrowL s p w m) = 0 ∧ rowL w (unrowL s p w m) = (s.drop p.toNat).take (unrowT s p w m - p).toNat ∧ p ≤ unrowT s p w m ∧ unrowT s p w m ≤ s.length ∧ (unrowL s p w m).length = (getV s p 2).toNat := by
  obtain ⟨hw, hp0, h2, hm, hk, hel⟩ := unrow_fine h
  obtain ⟨w1, w2, w3⟩ := wide_nat hw
  obtain ⟨b1, _, _, _⟩ := get_bound h2
  obtain ⟨_, _, hf, _⟩ := get_fine h2
  have hL : unrowL s p w m = (List.range (getV s p 2).toNat).map (fun (i : Nat) => getV s (p + 2 + i * w) w) := by unfold unrowL; rw [if_pos h]
  have hT : unrowT s p w m = p + 2 + getV s p 2 * w := by unfold unrowT; rw [if_pos h]
  have hlen : (unrowL s p w m).length = (getV s p 2).toNat := by rw [hL]; simp
  have hall : ∀ x ∈ unrowL s p w m, putE x w = 0 := by
    intro x hx
    rw [hL] at hx
    obtain ⟨i, hi, rfl⟩ := List.mem_map.1 hx
    exact (get_canon (hel i (List.mem_range.1 hi))).1
  have hE : rowE w (unrowL s p w m) = 0 := by
    unfold rowE
    rw [if_pos hw, if_neg (by omega), if_pos hall]
  -- the bytes of the first k elements
  have hfl : ∀ k : Nat, k ≤ (getV s p 2).toNat → flat w.toNat ((List.range k).map (fun (i : Nat) => getV s (p + 2 + i * w) w)) = (s.drop (p.toNat + 2)).take (k * w.toNat) ∧ p.toNat + 2 + k * w.toNat ≤ s.length := by
    intro k
    induction k with
    | zero => intro _; refine ⟨by simp [flat], by omega⟩
    | succ k ih =>
      intro hkn
      obtain ⟨ih1, ih2⟩ := ih (by omega)
      have he := hel k (by omega)
      obtain ⟨q1, q2⟩ := get_canon he
      obtain ⟨_, f1, f2, _⟩ := get_fine he
      unfold putL at q2
      rw [if_pos q1] at q2
      have e : ((k * w.toNat : Nat) : Int) = k * w := by rw [Int.natCast_mul, w3]
      have hq : (p + 2 + k * w).toNat = p.toNat + 2 + k * w.toNat := by omega
      rw [hq] at q2
      rw [List.range_succ, List.map_append, flat_more, ih1]
      refine ⟨?_, by rw [Nat.add_mul]; omega⟩
      have e2 : flat w.toNat (List.map (fun (i : Nat) => getV s (p + 2 + i * w) w) [k]) = be w.toNat (getV s (p + 2 + k * w) w).toNat := by simp [flat]
      rw [e2, q2, Nat.add_mul, Nat.one_mul, List.take_add, List.drop_drop]
  obtain ⟨f1, f2⟩ := hfl _ (Nat.le_refl _)
  have e : (((getV s p 2).toNat * w.toNat : Nat) : Int) = getV s p 2 * w := by rw [Int.natCast_mul, w3, Int.toNat_of_nonneg b1]
  refine ⟨hE, ?_, by rw [hT]; have : 0 ≤ getV s p 2 * w := Int.mul_nonneg b1 (by omega); omega, by rw [hT]; omega, hlen⟩
  obtain ⟨q1, q2⟩ := get_canon h2
  unfold putL at q2
  rw [if_pos q1] at q2
  have q3 : be 2 (getV s p 2).toNat = (s.drop p.toNat).take 2 := q2
  have hR : rowL w (unrowL s p w m) = be 2 (getV s p 2).toNat ++ flat w.toNat (unrowL s p w m) := by unfold rowL flat; rw [if_pos hE, hlen]
  rw [hR, q3, hL, f1, show (unrowT s p w m - p).toNat = 2 + (getV s p 2).toNat * w.toNat by rw [hT]; omega, List.take_add, List.drop_drop]
end Go.Proofs.Yteccahggahpeeaa
namespace Go.Proofs.Yteccahggahpeeaa

/-- A place, and a fault (0: none). -/
structure Rs where
  p : Int
  e : Int
/-- A reader behind a piece, or with its fault. -/
def stp (r : Rs) (t e : Int) : Rs := if e = 0 then ⟨t, r.e⟩ else ⟨r.p, e⟩
def numE (S : List UInt8) (p x m : Int) : Int := if getE S p x = 0 then (if m < getV S p x then 3 else 0) else getE S p x
def numR (S : List UInt8) (r : Rs) (x m : Int) : Rs := if r.e = 0 then stp r (getT S r.p x) (numE S r.p x m) else r
def numV (S : List UInt8) (r : Rs) (x m : Int) : Int := if r.e = 0 then (if numE S r.p x m = 0 then getV S r.p x else 0) else 0
def textR (S : List UInt8) (r : Rs) (m : Int) : Rs := if r.e = 0 then stp r (takeT S r.p m) (takeE S r.p m) else r
def textL (S : List UInt8) (r : Rs) (m : Int) : List UInt8 := if r.e = 0 then takeL S r.p m else []
def serE (S : List UInt8) (p : Int) : Int := if takeE S p 16 = 0 then checkOf (takeL S p 16) else takeE S p 16
def serR (S : List UInt8) (r : Rs) : Rs := if r.e = 0 then stp r (takeT S r.p 16) (serE S r.p) else r
def serL (S : List UInt8) (r : Rs) : List UInt8 := if r.e = 0 then (if serE S r.p = 0 then takeL S r.p 16 else []) else []
def rowR (S : List UInt8) (r : Rs) (x m : Int) : Rs := if r.e = 0 then stp r (unrowT S r.p x m) (unrowE S r.p x m) else r
def rowV (S : List UInt8) (r : Rs) (x m : Int) : List Int := if r.e = 0 then unrowL S r.p x m else []
def flagE (S : List UInt8) (p : Int) : Int := if getE S p 1 = 0 then (if 1 < getV S p 1 then 5 else 0) else getE S p 1
def flagR (S : List UInt8) (r : Rs) : Rs := if r.e = 0 then stp r (getT S r.p 1) (flagE S r.p) else r
def flagB (S : List UInt8) (r : Rs) : Bool := if r.e = 0 then (if flagE S r.p = 0 then decide (getV S r.p 1 = 1) else false) else false
def endR (S : List UInt8) (r : Rs) : Rs := if r.e = 0 ∧ r.p < S.length then ⟨r.p, 6⟩ else r
/-- At most n serials, up to the first fault, behind those that were read. -/
def sersOn (S : List UInt8) : Nat → Rs → List (List UInt8) → Rs × List (List UInt8)
  | 0, r, l => (r, l)
  | n + 1, r, l => if r.e = 0 then sersOn S n (serR S r) (l ++ [serL S r]) else (r, l)
def sersAll (S : List UInt8) (r : Rs) (m : Int) : Rs × List (List UInt8) := sersOn S (numV S r 1 m).toNat (numR S r 1 m) []
def sersR (S : List UInt8) (r : Rs) (m : Int) : Rs := (sersAll S r m).1
def sersL (S : List UInt8) (r : Rs) (m : Int) : List (List UInt8) := if (sersR S r m).e = 0 then (sersAll S r m).2 else []
/-- The place lies within the text. -/
def Within (S : List UInt8) (r : Rs) : Prop := 0 ≤ r.p ∧ r.p ≤ S.length
theorem stp_in {S : List UInt8} {r : Rs} {t e : Int} (h : Within S r) (ht : e = 0 → 0 ≤ t ∧ t ≤ S.length) : Within S (stp r t e) := by
  unfold stp
  split
  · rename_i h0; exact ht h0
  · exact h
theorem get_in {S : List UInt8} {p w : Int} (h : getE S p w = 0) : 0 ≤ getT S p w ∧ getT S p w ≤ S.length := by
  obtain ⟨h1, h2, h3, _⟩ := get_fine h
  obtain ⟨w1, _, _⟩ := wide_nat h1
  unfold getT; rw [if_pos h]; omega
theorem num_zero {S : List UInt8} {p x m : Int} (h : numE S p x m = 0) : getE S p x = 0 ∧ getV S p x ≤ m := by
  unfold numE at h
  split at h
  · split at h
    · omega
    · exact ⟨by assumption, by omega⟩
  · exact absurd h (by assumption)
theorem flag_zero {S : List UInt8} {p : Int} (h : flagE S p = 0) : getE S p 1 = 0 ∧ getV S p 1 ≤ 1 := by
  unfold flagE at h
  split at h
  · split at h
    · omega
    · exact ⟨by assumption, by omega⟩
  · exact absurd h (by assumption)
theorem ser_zero {S : List UInt8} {p : Int} (h : serE S p = 0) : takeE S p 16 = 0 ∧ checkOf (takeL S p 16) = 0 := by
  unfold serE at h
  split at h
  · exact ⟨by assumption, h⟩
  · exact absurd h (by assumption)
theorem num_in {S : List UInt8} {r : Rs} {x m : Int} (h : Within S r) : Within S (numR S r x m) := by
  unfold numR; split
  · exact stp_in h fun e => get_in (num_zero e).1
  · exact h
theorem text_in {S : List UInt8} {r : Rs} {m : Int} (h : Within S r) : Within S (textR S r m) := by
  unfold textR; split
  · exact stp_in h fun e => by obtain ⟨_, _, h1, h2, _⟩ := take_canon e; have := h.1; omega
  · exact h
theorem ser_in {S : List UInt8} {r : Rs} (h : Within S r) : Within S (serR S r) := by
  unfold serR; split
  · exact stp_in h fun e => by obtain ⟨_, _, h1, h2, _⟩ := take_canon (ser_zero e).1; have := h.1; omega
  · exact h
theorem row_in {S : List UInt8} {r : Rs} {x m : Int} (h : Within S r) : Within S (rowR S r x m) := by
  unfold rowR; split
  · exact stp_in h fun e => by obtain ⟨_, _, h1, h2, _⟩ := unrow_canon e; have := h.1; omega
  · exact h
theorem flag_in {S : List UInt8} {r : Rs} (h : Within S r) : Within S (flagR S r) := by
  unfold flagR; split
  · exact stp_in h fun e => get_in (flag_zero e).1
  · exact h
theorem end_in {S : List UInt8} {r : Rs} (h : Within S r) : Within S (endR S r) := by
  unfold endR; split
  · exact h
  · exact h
theorem sers_on_in {S : List UInt8} (n : Nat) : ∀ (r : Rs) (l : List (List UInt8)), Within S r → Within S (sersOn S n r l).1 := by
  induction n with
  | zero => intro r l h; exact h
  | succ n ih =>
    intro r l h
    unfold sersOn
    split
    · exact ih _ _ (ser_in h)
    · exact h
theorem sers_in {S : List UInt8} {r : Rs} {m : Int} (h : Within S r) : Within S (sersR S r m) := sers_on_in _ _ _ (num_in h)
theorem sers_stop {S : List UInt8} {n : Nat} {r : Rs} {l : List (List UInt8)} (h : r.e ≠ 0) : sersOn S n r l = (r, l) := by
  cases n with
  | zero => rfl
  | succ n => unfold sersOn; rw [if_neg h]
theorem sers_go {S : List UInt8} {n : Nat} {r : Rs} {l : List (List UInt8)} (h : r.e = 0) : sersOn S (n + 1) r l = sersOn S n (serR S r) (l ++ [serL S r]) := by
  conv => lhs; unfold sersOn
  rw [if_pos h]
theorem byte_lt {S : List UInt8} {r : Rs} {m : Int} : 0 ≤ numV S r 1 m ∧ numV S r 1 m ≤ 255 := by
  unfold numV
  split
  · split
    · obtain ⟨h1, _, h2, _⟩ := get_bound (num_zero (by assumption)).1
      refine ⟨h1, ?_⟩
      have : (256 : Int) ^ (1 : Int).toNat = 256 := by decide
      omega
    · omega
  · omega
end Go.Proofs.Yteccahggahpeeaa
namespace Go.Proofs.Yteccahggahpeeaa

/-- The bytes from one place up to another one. -/
def seg (S : List UInt8) (a b : Int) : List UInt8 := (S.drop a.toNat).take (b - a).toNat
theorem seg_join {S : List UInt8} {a b c : Int} (h0 : 0 ≤ a) (h1 : a ≤ b) (h2 : b ≤ c) : seg S a b ++ seg S b c = seg S a c := by
  unfold seg
  obtain ⟨i, rfl⟩ : ∃ i : Nat, a = i := ⟨a.toNat, by omega⟩
  obtain ⟨j, rfl⟩ : ∃ j : Nat, b = i + j := ⟨(b - i).toNat, by omega⟩
  obtain ⟨n, rfl⟩ : ∃ n : Nat, c = i + j + n := ⟨(c - i - j).toNat, by omega⟩
  rw [show ((i : Int)).toNat = i by omega, show ((i : Int) + j).toNat = i + j by omega, show ((i : Int) + j - i).toNat = j by omega, show ((i : Int) + j + n - (i + j)).toNat = n by omega, show ((i : Int) + j + n - i).toNat = j + n by omega]
  rw [List.take_add, List.drop_drop]
theorem seg_none {S : List UInt8} {a : Int} : seg S a a = [] := by unfold seg; rw [Int.sub_self]; rfl
theorem seg_all {S : List UInt8} : seg S 0 S.length = S := by
  unfold seg
  rw [show (0 : Int).toNat = 0 from rfl, List.drop_zero, show ((S.length : Int) - 0).toNat = S.length by omega, List.take_length]
theorem stp_zero {r : Rs} {t e : Int} (h : (stp r t e).e = 0) : e = 0 ∧ (stp r t e).p = t := by
  unfold stp at h ⊢
  split at h
  · rename_i h0; rw [if_pos h0]; exact ⟨h0, rfl⟩
  · rename_i h0; exact absurd h h0
theorem num_text {S : List UInt8} {r : Rs} {x m : Int} (h : r.e = 0) (h2 : (numR S r x m).e = 0) : putL (numV S r x m) x = seg S r.p (numR S r x m).p ∧ r.p ≤ (numR S r x m).p := by
  unfold numR at h2 ⊢
  rw [if_pos h] at h2 ⊢
  obtain ⟨e0, e1⟩ := stp_zero h2
  obtain ⟨g, _⟩ := num_zero e0
  obtain ⟨gw, _, _, _⟩ := get_fine g
  obtain ⟨w1, _, _⟩ := wide_nat gw
  have hT : getT S r.p x = r.p + x := by unfold getT; rw [if_pos g]
  have hV : numV S r x m = getV S r.p x := by unfold numV; rw [if_pos h, if_pos e0]
  rw [e1, hT, hV, (get_canon g).2]
  unfold seg
  exact ⟨by rw [show r.p + x - r.p = x by omega], by omega⟩
theorem text_text {S : List UInt8} {r : Rs} {m : Int} (h : r.e = 0) (h2 : (textR S r m).e = 0) : layL (textL S r m) = seg S r.p (textR S r m).p ∧ r.p ≤ (textR S r m).p := by
  unfold textR at h2 ⊢
  rw [if_pos h] at h2 ⊢
  obtain ⟨e0, e1⟩ := stp_zero h2
  have hV : textL S r m = takeL S r.p m := by unfold textL; rw [if_pos h]
  obtain ⟨_, c1, c2, _, _⟩ := take_canon e0
  rw [e1, hV]
  exact ⟨c1, c2⟩
theorem ser_text {S : List UInt8} {r : Rs} (h : r.e = 0) (h2 : (serR S r).e = 0) : layL (serL S r) = seg S r.p (serR S r).p ∧ r.p ≤ (serR S r).p := by
  unfold serR at h2 ⊢
  rw [if_pos h] at h2 ⊢
  obtain ⟨e0, e1⟩ := stp_zero h2
  have hV : serL S r = takeL S r.p 16 := by unfold serL; rw [if_pos h, if_pos e0]
  obtain ⟨_, c1, c2, _, _⟩ := take_canon (ser_zero e0).1
  rw [e1, hV]
  exact ⟨c1, c2⟩
theorem row_text {S : List UInt8} {r : Rs} {x m : Int} (h : r.e = 0) (h2 : (rowR S r x m).e = 0) : rowL x (rowV S r x m) = seg S r.p (rowR S r x m).p ∧ r.p ≤ (rowR S r x m).p := by
  unfold rowR at h2 ⊢
  rw [if_pos h] at h2 ⊢
  obtain ⟨e0, e1⟩ := stp_zero h2
  have hV : rowV S r x m = unrowL S r.p x m := by unfold rowV; rw [if_pos h]
  obtain ⟨_, c1, c2, _, _⟩ := unrow_canon e0
  rw [e1, hV]
  exact ⟨c1, c2⟩
theorem flag_text {S : List UInt8} {r : Rs} (h : r.e = 0) (h2 : (flagR S r).e = 0) : [if flagB S r then (1 : UInt8) else 0] = seg S r.p (flagR S r).p ∧ r.p ≤ (flagR S r).p := by
  unfold flagR at h2 ⊢
  rw [if_pos h] at h2 ⊢
  obtain ⟨e0, e1⟩ := stp_zero h2
  obtain ⟨g, g1⟩ := flag_zero e0
  have hT : getT S r.p 1 = r.p + 1 := by unfold getT; rw [if_pos g]
  have hV : flagB S r = decide (getV S r.p 1 = 1) := by unfold flagB; rw [if_pos h, if_pos e0]
  have hc := (get_canon g).2
  have h0 := (get_bound g).1
  rw [e1, hT, hV]
  have hs : seg S r.p (r.p + 1) = putL (getV S r.p 1) 1 := by rw [hc]; unfold seg; rw [show r.p + 1 - r.p = 1 by omega]
  rw [hs]
  refine ⟨?_, by omega⟩
  rcases (by omega : getV S r.p 1 = 0 ∨ getV S r.p 1 = 1) with h3 | h3
  · rw [h3]; decide
  · rw [h3]; decide
theorem sers_on_text {S : List UInt8} (n : Nat) : ∀ (r : Rs) (l : List (List UInt8)), Within S r → r.e = 0 → (sersOn S n r l).1.e = 0 → ∃ l2, (sersOn S n r l).2 = l ++ l2 ∧ l2.length = n ∧ l2.flatMap layL = seg S r.p (sersOn S n r l).1.p ∧ r.p ≤ (sersOn S n r l).1.p := by
  induction n with
  | zero => intro r l _ _ _; exact ⟨[], by simp [sersOn], rfl, by simp [sersOn, seg_none], by simp [sersOn]⟩
  | succ n ih =>
    intro r l hw h h2
    rw [sers_go h] at h2 ⊢
    have h3 : (serR S r).e = 0 := by
      by_cases h4 : (serR S r).e = 0
      · exact h4
      · rw [sers_stop h4] at h2; exact h2
    obtain ⟨l2, e1, e2, e3, e4⟩ := ih (serR S r) (l ++ [serL S r]) (ser_in hw) h3 h2
    obtain ⟨t1, t2⟩ := ser_text h h3
    refine ⟨serL S r :: l2, by rw [e1]; simp, by simp [e2], ?_, by omega⟩
    rw [List.flatMap_cons, e3, t1, seg_join hw.1 t2 e4]
theorem sers_text {S : List UInt8} {r : Rs} {m : Int} (hw : Within S r) (h : r.e = 0) (h2 : (sersR S r m).e = 0) : putL (sersL S r m).length 1 ++ (sersL S r m).flatMap layL = seg S r.p (sersR S r m).p ∧ r.p ≤ (sersR S r m).p := by
  have hL : sersL S r m = (sersAll S r m).2 := by unfold sersL; rw [if_pos h2]
  rw [hL]
  unfold sersR at h2 ⊢
  unfold sersAll at h2 ⊢
  have h3 : (numR S r 1 m).e = 0 := by
    by_cases h4 : (numR S r 1 m).e = 0
    · exact h4
    · rw [sers_stop h4] at h2; exact h2
  obtain ⟨l2, e1, e2, e3, e4⟩ := sers_on_text (numV S r 1 m).toNat (numR S r 1 m) [] (num_in hw) h3 h2
  obtain ⟨t1, t2⟩ := num_text h h3
  have hn := (byte_lt (S := S) (r := r) (m := m)).1
  rw [e1, List.nil_append, e2, e3, show ((numV S r 1 m).toNat : Int) = numV S r 1 m by omega, t1, seg_join hw.1 t2 e4]
  exact ⟨rfl, by omega⟩

/-- What StrictWhole lays of a piece, and the reader behind it. -/
def wholeR (S : List UInt8) (r : Rs) (k x m : Int) : Rs := if k = 0 then numR S r x m else if k = 1 then textR S r m else if k = 2 then serR S r else if k = 3 then rowR S r x m else if k = 4 then sersR S r m else if k = 5 then flagR S r else r
def wholeT (S : List UInt8) (r : Rs) (k x m : Int) : List UInt8 := if k = 0 then putL (numV S r x m) x else if k = 1 then layL (textL S r m) else if k = 2 then layL (serL S r) else if k = 3 then rowL x (rowV S r x m) else if k = 4 then putL (sersL S r m).length 1 ++ (sersL S r m).flatMap layL else if k = 5 then [if flagB S r then (1 : UInt8) else 0] else []
theorem whole_in {S : List UInt8} {r : Rs} {k x m : Int} (h : Within S r) : Within S (wholeR S r k x m) := by
  unfold wholeR
  split; exact num_in h
  split; exact text_in h
  split; exact ser_in h
  split; exact row_in h
  split; exact sers_in h
  split; exact flag_in h
  exact h
theorem whole_text {S : List UInt8} {r : Rs} {k x m : Int} (hw : Within S r) (h : r.e = 0) (h2 : (wholeR S r k x m).e = 0) : wholeT S r k x m = seg S r.p (wholeR S r k x m).p ∧ r.p ≤ (wholeR S r k x m).p := by
  unfold wholeR at h2 ⊢
  unfold wholeT
  split at h2
  · rename_i c; rw [if_pos c, if_pos c]; exact num_text h h2
  · rename_i c; rw [if_neg c, if_neg c]
    split at h2
    · rename_i c; rw [if_pos c, if_pos c]; exact text_text h h2
    · rename_i c; rw [if_neg c, if_neg c]
      split at h2
      · rename_i c; rw [if_pos c, if_pos c]; exact ser_text h h2
      · rename_i c; rw [if_neg c, if_neg c]
        split at h2
        · rename_i c; rw [if_pos c, if_pos c]; exact row_text h h2
        · rename_i c; rw [if_neg c, if_neg c]
          split at h2
          · rename_i c; rw [if_pos c, if_pos c]; exact sers_text hw h h2
          · rename_i c; rw [if_neg c, if_neg c]
            split at h2
            · rename_i c; rw [if_pos c, if_pos c]; exact flag_text h h2
            · rename_i c; rw [if_neg c, if_neg c]; exact ⟨seg_none.symm, Int.le_refl _⟩
/-! How long what is laid can be. -/
theorem put_sz (n x : Int) : (putL n x).length ≤ 8 := by
  unfold putL
  split
  · rename_i h
    unfold putE at h
    split at h
    · rename_i hw; rw [be_len]; unfold wideW at hw; omega
    · omega
  · simp
theorem lay_sz (t : List UInt8) : (layL t).length ≤ 2 + t.length := by
  unfold layL
  split
  · rw [List.length_append, be_len]; omega
  · simp
theorem flat_sz (c : Nat) (f : List UInt8 → List UInt8) (l : List (List UInt8)) (h : ∀ x ∈ l, (f x).length ≤ c) : (l.flatMap f).length ≤ l.length * c := by
  induction l with
  | nil => simp
  | cons x l ih =>
    rw [List.flatMap_cons, List.length_append, List.length_cons, Nat.add_mul]
    have h1 := h x (List.mem_cons_self ..)
    have h2 := ih fun y hy => h y (List.mem_cons_of_mem _ hy)
    omega
theorem flat_be (w : Nat) (l : List Int) : (l.flatMap (fun x => be w x.toNat)).length = l.length * w := by
  induction l with
  | nil => simp
  | cons x l ih => rw [List.flatMap_cons, List.length_append, List.length_cons, Nat.add_mul, be_len, ih]; omega
theorem rowL_sz (x : Int) (l : List Int) (h : l.length ≤ 1000) : (rowL x l).length ≤ 10000 := by
  unfold rowL
  split
  · rename_i he
    unfold rowE at he
    split at he
    · rename_i hw
      rw [List.length_append, be_len, flat_be]
      have h2 : l.length * x.toNat ≤ 1000 * 8 := Nat.mul_le_mul h (by unfold wideW at hw; omega)
      omega
    · omega
  · simp
end Go.Proofs.Yteccahggahpeeaa
