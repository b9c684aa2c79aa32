/- Numbers, texts and rows as bytes, in plain words over lists of bytes: what they are, and that each has one form and comes back of it. -/
namespace Go.Proofs.YtpjahfobjnajcaaDoor

/-- The last w bytes of a number, the greatest place first. -/
def be : Nat → Nat → List UInt8
  | 0, _ => []
  | w + 1, n => be w (n / 256) ++ [UInt8.ofNat (n % 256)]
/-- The number that bytes tell, gone on from one. -/
def valOn (a : Nat) (l : List UInt8) : Nat := l.foldl (fun a c => 256 * a + c.toNat) a
def val (l : List UInt8) : Nat := valOn 0 l
theorem be_len (w n : Nat) : (be w n).length = w := by
  induction w generalizing n with
  | zero => rfl
  | succ w ih => simp [be, ih]
theorem val_more (a : Nat) (l : List UInt8) (c : UInt8) : valOn a (l ++ [c]) = 256 * valOn a l + c.toNat := by unfold valOn; rw [List.foldl_append]; rfl
theorem val_on (a : Nat) (l : List UInt8) : valOn a l = a * 256 ^ l.length + val l := by
  induction l generalizing a with
  | nil => simp [valOn, val]
  | cons c l ih =>
    have e1 : valOn a (c :: l) = valOn (256 * a + c.toNat) l := rfl
    have e2 : val (c :: l) = valOn (256 * 0 + c.toNat) l := rfl
    rw [e1, e2, ih, ih (256 * 0 + c.toNat), List.length_cons, Nat.pow_succ, Nat.add_mul, Nat.add_mul]
    have e3 : 256 * a * 256 ^ l.length = a * (256 ^ l.length * 256) := by rw [Nat.mul_comm 256 a, Nat.mul_assoc, Nat.mul_comm 256]
    omega
theorem val_append (a b : List UInt8) : val (a ++ b) = val a * 256 ^ b.length + val b := by
  rw [← val_on]
  unfold val valOn
  rw [List.foldl_append]
theorem val_lt (l : List UInt8) : val l < 256 ^ l.length := by
  induction l with
  | nil => simp [val, valOn]
  | cons c l ih =>
    have e : val (c :: l) = valOn (256 * 0 + c.toNat) l := rfl
    rw [e, val_on, List.length_cons, Nat.pow_succ]
    have hc := c.toNat_lt
    have h1 : (256 * 0 + c.toNat) * 256 ^ l.length ≤ 255 * 256 ^ l.length := Nat.mul_le_mul_right _ (by omega)
    omega
theorem val_be (w n : Nat) (h : n < 256 ^ w) : val (be w n) = n := by
  induction w generalizing n with
  | zero => simp at h; subst h; rfl
  | succ w ih =>
    rw [Nat.pow_succ] at h
    have e : val (be (w + 1) n) = 256 * val (be w (n / 256)) + (UInt8.ofNat (n % 256)).toNat := val_more 0 _ _
    rw [e, ih _ (by omega)]
    have : (UInt8.ofNat (n % 256)).toNat = n % 256 := by
      rw [UInt8.toNat_ofNat']; omega
    omega
theorem val_snoc (l : List UInt8) (c : UInt8) : val (l ++ [c]) = 256 * val l + c.toNat := val_more 0 l c
theorem snoc_of {l : List UInt8} {w : Nat} (h : l.length = w + 1) : ∃ m c, l = m ++ [c] ∧ m.length = w := by
  refine ⟨l.dropLast, l.getLast (by intro e; subst e; simp at h), (List.dropLast_concat_getLast _).symm, by simp [h]⟩
theorem be_val (w : Nat) (l : List UInt8) (h : l.length = w) : be w (val l) = l := by
  induction w generalizing l with
  | zero => rw [List.length_eq_zero_iff.1 h]; rfl
  | succ w ih =>
    obtain ⟨m, c, rfl, hm⟩ := snoc_of h
    have hc := c.toNat_lt
    unfold be
    rw [val_snoc, show (256 * val m + c.toNat) / 256 = val m by omega, show (256 * val m + c.toNat) % 256 = c.toNat by omega, ih m hm, UInt8.ofNat_toNat]
/-- Of one width the greater number has the greater bytes. -/
theorem lex_val : ∀ (a b : List UInt8), a.length = b.length → ((a < b) ↔ val a < val b) := by
  intro a
  induction a with
  | nil =>
    intro b h
    have : b = [] := List.length_eq_zero_iff.1 h.symm
    subst this
    constructor
    · intro h1; exact absurd h1 (List.lt_irrefl _)
    · intro h1; omega
  | cons x a ih =>
    intro b h
    cases b with
    | nil => simp at h
    | cons y b =>
      have hl : a.length = b.length := by simpa using h
      rw [List.cons_lt_cons_iff, ih b hl]
      have e1 : val (x :: a) = valOn (256 * 0 + x.toNat) a := rfl
      have e2 : val (y :: b) = valOn (256 * 0 + y.toNat) b := rfl
      have l1 := val_lt a
      have l2 := val_lt b
      rw [e1, e2, val_on, val_on, hl]
      rw [hl] at l1
      have hxy : x < y ↔ x.toNat < y.toNat := UInt8.lt_iff_toNat_lt
      have hee : x = y ↔ x.toNat = y.toNat := UInt8.toNat_inj.symm
      rw [hxy, hee]
      generalize 256 ^ b.length = K at *
      generalize x.toNat = X at *
      generalize y.toNat = Y at *
      rw [show 256 * 0 + X = X by omega, show 256 * 0 + Y = Y by omega]
      rcases Nat.lt_trichotomy X Y with g | g | g
      · have := Nat.mul_le_mul_right K (show X + 1 ≤ Y from g)
        rw [Nat.add_mul] at this
        constructor
        · intro _; omega
        · intro _; exact Or.inl g
      · subst g
        constructor
        · rintro (h1 | ⟨_, h1⟩)
          · omega
          · omega
        · intro h1; exact Or.inr ⟨rfl, by omega⟩
      · have := Nat.mul_le_mul_right K (show Y + 1 ≤ X from g)
        rw [Nat.add_mul] at this
        constructor
        · rintro (h1 | ⟨h1, _⟩) <;> omega
        · intro _; omega

def wideW (w : Int) : Prop := w = 1 ∨ w = 2 ∨ w = 4 ∨ w = 8
instance (w : Int) : Decidable (wideW w) := by unfold wideW; infer_instance
def putE (n w : Int) : Int := if wideW w then (if 0 ≤ n ∧ n < 256 ^ w.toNat then 0 else 8) else 2
def putL (n w : Int) : List UInt8 := if putE n w = 0 then be w.toNat n.toNat else []
def getE (s : List UInt8) (p w : Int) : Int := if wideW w ∧ 0 ≤ p ∧ p ≤ s.length then (if s.length - p < w then 4 else if w = 8 ∧ 127 < (s.getD p.toNat 0).toNat then 8 else 0) else 2
def getV (s : List UInt8) (p w : Int) : Int := if getE s p w = 0 then (val ((s.drop p.toNat).take w.toNat) : Int) else 0
def getT (s : List UInt8) (p w : Int) : Int := if getE s p w = 0 then p + w else 0
def layE (t : List UInt8) : Int := if t.length ≤ 65535 then 0 else 3
def layL (t : List UInt8) : List UInt8 := if layE t = 0 then be 2 t.length ++ t else []
def takeE (s : List UInt8) (p m : Int) : Int := if 0 ≤ m ∧ 0 ≤ p ∧ p ≤ s.length then (if getE s p 2 = 0 then (if m < getV s p 2 then 3 else if s.length < p + 2 + getV s p 2 then 4 else 0) else getE s p 2) else 2
def takeL (s : List UInt8) (p m : Int) : List UInt8 := if takeE s p m = 0 then (s.drop (p + 2).toNat).take (getV s p 2).toNat else []
def takeT (s : List UInt8) (p m : Int) : Int := if takeE s p m = 0 then p + 2 + getV s p 2 else 0
def rowE (w : Int) (l : List Int) : Int := if wideW w then (if 1000 < l.length then 3 else if ∀ x ∈ l, putE x w = 0 then 0 else 8) else 2
def rowL (w : Int) (l : List Int) : List UInt8 := if rowE w l = 0 then be 2 l.length ++ l.flatMap (fun x => be w.toNat x.toNat) else []
/-- The first element that does not stand there. -/
def badAt (s : List UInt8) (q w : Int) (n : Nat) : Option Nat := (List.range n).find? (fun (i : Nat) => getE s (q + i * w) w != 0)
def unrowE (s : List UInt8) (p w m : Int) : Int := if wideW w ∧ 0 ≤ p ∧ p ≤ s.length ∧ 0 ≤ m then (if getE s p 2 = 0 then (if m < getV s p 2 ∨ 1000 < getV s p 2 then 3 else match badAt s (p + 2) w (getV s p 2).toNat with | some i => getE s (p + 2 + i * w) w | none => 0) else getE s p 2) else 2
def unrowL (s : List UInt8) (p w m : Int) : List Int := if unrowE s p w m = 0 then (List.range (getV s p 2).toNat).map (fun (i : Nat) => getV s (p + 2 + i * w) w) else []
def unrowT (s : List UInt8) (p w m : Int) : Int := if unrowE s p w m = 0 then p + 2 + getV s p 2 * w else 0
end Go.Proofs.YtpjahfobjnajcaaDoor
