/- Numbers, texts and rows as bytes, in plain words over lists of bytes: what they are, and that each has one form and comes back of it. -/
namespace Go.Proofs.YtcbmecpeockdeaaGreatDoor

/-- The last w bytes of a number, the greatest place first. -/
def be : Nat → Nat → List UInt8
  | 0, _ => []
  | w + 1, n => be w (n / 256) ++ [UInt8.ofNat (n % 256)]
/-- The number that bytes tell, gone on from one. -/
def valOn (a : Nat) (l : List UInt8) : Nat := l.foldl (fun a c => 256 * a + c.toNat) a
def val (l : List UInt8) : Nat := valOn 0 l
theorem be_len (w n : Nat) : (be w n).length = w := by
  induction w generalizing n with
  | zero => rfl
  | succ w ih => simp [be, ih]
theorem val_more (a : Nat) (l : List UInt8) (c : UInt8) : valOn a (l ++ [c]) = 256 * valOn a l + c.toNat := by unfold valOn; rw [List.foldl_append]; rfl
theorem val_on (a : Nat) (l : List UInt8) : valOn a l = a * 256 ^ l.length + val l := by
  induction l generalizing a with
  | nil => simp [valOn, val]
  | cons c l ih =>
    have e1 : valOn a (c :: l) = valOn (256 * a + c.toNat) l := rfl
    have e2 : val (c :: l) = valOn (256 * 0 + c.toNat) l := rfl
    rw [e1, e2, ih, ih (256 * 0 + c.toNat), List.length_cons, Nat.pow_succ, Nat.add_mul, Nat.add_mul]
    have e3 : 256 * a * 256 ^ l.length = a * (256 ^ l.length * 256) := by rw [Nat.mul_comm 256 a, Nat.mul_assoc, Nat.mul_comm 256]
    omega
theorem val_append (a b : List UInt8) : val (a ++ b) = val a * 256 ^ b.length + val b := by
  rw [← val_on]
  unfold val valOn
  rw [List.foldl_append]
theorem val_lt (l : List UInt8) : val l < 256 ^ l.length := by
  induction l with
  | nil => simp [val, valOn]
  | cons c l ih =>
    have e : val (c :: l) = valOn (256 * 0 + c.toNat) l := rfl
    rw [e, val_on, List.length_cons, Nat.pow_succ]
    have hc := c.toNat_lt
    have h1 : (256 * 0 + c.toNat) * 256 ^ l.length ≤ 255 * 256 ^ l.length := Nat.mul_le_mul_right _ (by omega)
    omega
theorem val_be (w n : Nat) (h : n < 256 ^ w) : val (be w n) = n := by
  induction w generalizing n with
  | zero => simp at h; subst h; rfl
  | succ w ih =>
    rw [Nat.pow_succ] at h
    have e : val (be (w + 1) n) = 256 * val (be w (n / 256)) + (UInt8.ofNat (n % 256)).toNat := val_more 0 _ _
    rw [e, ih _ (by omega)]
    have : (UInt8.ofNat (n % 256)).toNat = n % 256 := by
      rw [UInt8.toNat_ofNat']; omega
    omega
theorem val_snoc (l : List UInt8) (c : UInt8) : val (l ++ [c]) = 256 * val l + c.toNat := val_more 0 l c
theorem snoc_of {l : List UInt8} {w : Nat} (h : l.length = w + 1) : ∃ m c, l = m ++ [c] ∧ m.length = w := by
  refine ⟨l.dropLast, l.getLast (by intro e; subst e; simp at h), (List.dropLast_concat_getLast _).symm, by simp [h]⟩
theorem be_val (w : Nat) (l : List UInt8) (h : l.length = w) : be w (val l) = l := by
  induction w generalizing l with
  | zero => rw [List.length_eq_zero_iff.1 h]; rfl
  | succ w ih =>
    obtain ⟨m, c, rfl, hm⟩ := snoc_of h
    have hc := c.toNat_lt
    unfold be
    rw [val_snoc, show (256 * val m + c.toNat) / 256 = val m by omega, show (256 * val m + c.toNat) % 256 = c.toNat by omega, ih m hm, UInt8.ofNat_toNat]
/-- Of one width the greater number has the greater bytes. -/
theorem lex_val : ∀ (a b : List UInt8), a.length = b.length → ((a < b) ↔ val a < val b) := by
  intro a
  induction a with
  | nil =>
    intro b h
    have : b = [] := List.length_eq_zero_iff.1 h.symm
    subst this
    constructor
    · intro h1; exact absurd h1 (List.lt_irrefl _)
    · intro h1; omega
  | cons x a ih =>
    intro b h
    cases b with
    | nil => simp at h
    | cons y b =>
      have hl : a.length = b.length := by simpa using h
      rw [List.cons_lt_cons_iff, ih b hl]
      have e1 : val (x :: a) = valOn (256 * 0 + x.toNat) a := rfl
      have e2 : val (y :: b) = valOn (256 * 0 + y.toNat) b := rfl
      have l1 := val_lt a
      have l2 := val_lt b
      rw [e1, e2, val_on, val_on, hl]
      rw [hl] at l1
      have hxy : x < y ↔ x.toNat < y.toNat := UInt8.lt_iff_toNat_lt
      have hee : x = y ↔ x.toNat = y.toNat := UInt8.toNat_inj.symm
      rw [hxy, hee]
      generalize 256 ^ b.length = K at *
      generalize x.toNat = X at *
      generalize y.toNat = Y at *
      rw [show 256 * 0 + X = X by omega, show 256 * 0 + Y = Y by omega]
      rcases Nat.lt_trichotomy X Y with g | g | g
      · have := Nat.mul_le_mul_right K (show X + 1 ≤ Y from g)
        rw [Nat.add_mul] at this
        constructor
        · intro _; omega
        · intro _; exact Or.inl g
      · subst g
        constructor
        · rintro (h1 | ⟨_, h1⟩)
          · omega
          · omega
        · intro h1; exact Or.inr ⟨rfl, by omega⟩
      · have := Nat.mul_le_mul_right K (show Y + 1 ≤ X from g)
        rw [Nat.add_mul] at this
        constructor
        · rintro (h1 | ⟨h1, _⟩) <;> omega
        · intro _; omega

def wideW (w : Int) : Prop := w = 1 ∨ w = 2 ∨ w = 4 ∨ w = 8
instance (w : Int) : Decidable (wideW w) := by unfold wideW; infer_instance
def putE (n w : Int) : Int := if wideW w then (if 0 ≤ n ∧ n < 256 ^ w.toNat then 0 else 8) else 2
def putL (n w : Int) : List UInt8 := if putE n w = 0 then be w.toNat n.toNat else []
def getE (s : List UInt8) (p w : Int) : Int := if wideW w ∧ 0 ≤ p ∧ p ≤ s.length then (if s.length - p < w then 4 else if w = 8 ∧ 127 < (s.getD p.toNat 0).toNat then 8 else 0) else 2
def getV (s : List UInt8) (p w : Int) : Int := if getE s p w = 0 then (val ((s.drop p.toNat).take w.toNat) : Int) else 0
def getT (s : List UInt8) (p w : Int) : Int := if getE s p w = 0 then p + w else 0
def layE (t : List UInt8) : Int := if t.length ≤ 65535 then 0 else 3
def layL (t : List UInt8) : List UInt8 := if layE t = 0 then be 2 t.length ++ t else []
def takeE (s : List UInt8) (p m : Int) : Int := if 0 ≤ m ∧ 0 ≤ p ∧ p ≤ s.length then (if getE s p 2 = 0 then (if m < getV s p 2 then 3 else if s.length < p + 2 + getV s p 2 then 4 else 0) else getE s p 2) else 2
def takeL (s : List UInt8) (p m : Int) : List UInt8 := if takeE s p m = 0 then (s.drop (p + 2).toNat).take (getV s p 2).toNat else []
def takeT (s : List UInt8) (p m : Int) : Int := if takeE s p m = 0 then p + 2 + getV s p 2 else 0
def rowE (w : Int) (l : List Int) : Int := if wideW w then (if 1000 < l.length then 3 else if ∀ x ∈ l, putE x w = 0 then 0 else 8) else 2
def rowL (w : Int) (l : List Int) : List UInt8 := if rowE w l = 0 then be 2 l.length ++ l.flatMap (fun x => be w.toNat x.toNat) else []
/-- The first element that does not stand there. -/
def badAt (s : List UInt8) (q w : Int) (n : Nat) : Option Nat := (List.range n).find? (fun (i : Nat) => getE s (q + i * w) w != 0)
def unrowE (s : List UInt8) (p w m : Int) : Int := if wideW w ∧ 0 ≤ p ∧ p ≤ s.length ∧ 0 ≤ m then (if getE s p 2 = 0 then (if m < getV s p 2 ∨ 1000 < getV s p 2 then 3 else match badAt s (p + 2) w (getV s p 2).toNat with | some i => getE s (p + 2 + i * w) w | none => 0) else getE s p 2) else 2
def unrowL (s : List UInt8) (p w m : Int) : List Int := if unrowE s p w m = 0 then (List.range (getV s p 2).toNat).map (fun (i : Nat) => getV s (p + 2 + i * w) w) else []
def unrowT (s : List UInt8) (p w m : Int) : Int := if unrowE s p w m = 0 then p + 2 + getV s p 2 * w else 0
end Go.Proofs.YtcbmecpeockdeaaGreatDoor
namespace Go.Proofs.YtcbmecpeockdeaaGreatDoor

theorem wide_nat {w : Int} (h : wideW w) : 1 ≤ w ∧ w ≤ 8 ∧ (w.toNat : Int) = w := by unfold wideW at h; omega
theorem wide_pow {w : Int} (n : Int) : (w = 8 → n ≤ 9223372036854775807) → n < (256 : Int) ^ w.toNat → n.toNat < 256 ^ w.toNat := by
  intro _ h1
  have e : ((256 ^ w.toNat : Nat) : Int) = (256 : Int) ^ w.toNat := by rw [Int.natCast_pow]; rfl
  have h2 : 0 < 256 ^ w.toNat := Nat.pow_pos (by omega)
  omega
theorem mid_part (A M B : List UInt8) (p w : Int) (hp : p = A.length) (hw : w = M.length) : ((A ++ (M ++ B)).drop p.toNat).take w.toNat = M := by
  subst hp; subst hw
  rw [Int.toNat_natCast, Int.toNat_natCast, List.drop_left, List.take_left]
theorem first_byte {l : List UInt8} (h : l.length = 8) (hv : val l ≤ 9223372036854775807) : (l.getD 0 0).toNat ≤ 127 := by
  cases l with
  | nil => simp at h
  | cons c l =>
    have e : val (c :: l) = valOn (256 * 0 + c.toNat) l := rfl
    have hl : l.length = 7 := by simpa using h
    rw [e, val_on, hl] at hv
    simp only [List.getD_cons_zero]
    omega
theorem get_good {A M B : List UInt8} {p w : Int} (hw : wideW w) (hp : p = A.length) (hM : w = M.length) (h8 : w = 8 → val M ≤ 9223372036854775807) : getE (A ++ (M ++ B)) p w = 0 ∧ getV (A ++ (M ++ B)) p w = val M ∧ getT (A ++ (M ++ B)) p w = p + w := by
  have hl : (A ++ (M ++ B)).length = A.length + M.length + B.length := by simp; omega
  obtain ⟨w1, w2, w3⟩ := wide_nat hw
  have e : getE (A ++ (M ++ B)) p w = 0 := by
    unfold getE
    rw [if_pos ⟨hw, by omega, by omega⟩, if_neg (by omega), if_neg]
    rintro ⟨e8, h1⟩
    have h2 : (A ++ (M ++ B)).getD p.toNat 0 = M.getD 0 0 := by
      subst hp
      rw [Int.toNat_natCast]
      cases M with
      | nil => simp at hM; omega
      | cons c M => simp
    rw [h2] at h1
    have := first_byte (l := M) (by omega) (h8 e8)
    omega
  refine ⟨e, ?_, ?_⟩
  · unfold getV; rw [if_pos e, mid_part A M B p w hp hM]
  · unfold getT; rw [if_pos e]
/-- A number comes back of its bytes. -/
theorem get_back {A B : List UInt8} {n w : Int} (hn : n ≤ 9223372036854775807) (h : putE n w = 0) (p : Int) (hp : p = A.length) : getE (A ++ (putL n w ++ B)) p w = 0 ∧ getV (A ++ (putL n w ++ B)) p w = n ∧ getT (A ++ (putL n w ++ B)) p w = p + w ∧ ((putL n w).length : Int) = w := by
  have hE := h
  unfold putE at h
  by_cases hw : wideW w
  · rw [if_pos hw] at h
    by_cases hr : 0 ≤ n ∧ n < (256 : Int) ^ w.toNat
    · obtain ⟨w1, w2, w3⟩ := wide_nat hw
      have hlt := wide_pow n (fun _ => hn) hr.2
      have hv : val (putL n w) = n.toNat := by unfold putL; rw [if_pos hE, val_be _ _ hlt]
      have hl : ((putL n w).length : Int) = w := by unfold putL; rw [if_pos hE, be_len]; exact w3
      obtain ⟨g1, g2, g3⟩ := get_good (A := A) (M := putL n w) (B := B) hw hp hl.symm (fun _ => by rw [hv]; omega)
      exact ⟨g1, by rw [g2, hv]; omega, g3, hl⟩
    · rw [if_neg hr] at h; omega
  · rw [if_neg hw] at h; omega
/-- The bytes ahead, at, and behind a place. -/
theorem three_parts (s : List UInt8) (p w : Nat) (h : p + w ≤ s.length) : ∃ A M B, s = A ++ (M ++ B) ∧ A.length = p ∧ M.length = w ∧ M = (s.drop p).take w := by
  refine ⟨s.take p, (s.drop p).take w, (s.drop p).drop w, ?_, by simp; omega, by simp; omega, rfl⟩
  rw [List.take_append_drop, List.take_append_drop]
theorem get_fine {s : List UInt8} {p w : Int} (h : getE s p w = 0) : wideW w ∧ 0 ≤ p ∧ p + w ≤ s.length ∧ (w = 8 → (s.getD p.toNat 0).toNat ≤ 127) := by
  unfold getE at h
  split at h
  · rename_i h1
    split at h
    · omega
    · split at h
      · omega
      · rename_i h2 h3
        exact ⟨h1.1, h1.2.1, by omega, fun e => by rcases Nat.lt_or_ge 127 (s.getD p.toNat 0).toNat with g | g; exact absurd ⟨e, g⟩ h3; exact g⟩
  · omega
theorem val_eight {l : List UInt8} (h : l.length = 8) (h0 : (l.getD 0 0).toNat ≤ 127) : val l ≤ 9223372036854775807 := by
  cases l with
  | nil => simp at h
  | cons c l =>
    have e : val (c :: l) = valOn (256 * 0 + c.toNat) l := rfl
    have hl : l.length = 7 := by simpa using h
    have hv := val_lt l
    simp only [List.getD_cons_zero] at h0
    rw [hl] at hv
    rw [e, val_on, hl]
    omega
theorem get_bound {s : List UInt8} {p w : Int} (h : getE s p w = 0) : 0 ≤ getV s p w ∧ getV s p w ≤ 9223372036854775807 ∧ getV s p w < (256 : Int) ^ w.toNat ∧ (w = 2 → getV s p w ≤ 65535) := by
  obtain ⟨hw, h0, h1, h8⟩ := get_fine h
  obtain ⟨w1, w2, w3⟩ := wide_nat hw
  have hl : ((s.drop p.toNat).take w.toNat).length = w.toNat := by simp; omega
  have hv := val_lt ((s.drop p.toNat).take w.toNat)
  rw [hl] at hv
  unfold getV
  rw [if_pos h]
  have e : ((256 ^ w.toNat : Nat) : Int) = (256 : Int) ^ w.toNat := by rw [Int.natCast_pow]; rfl
  refine ⟨by omega, ?_, by omega, ?_⟩
  · unfold wideW at hw
    rcases hw with rfl | rfl | rfl | rfl
    · rw [show (1 : Int).toNat = 1 from rfl] at hv ⊢; omega
    · rw [show (2 : Int).toNat = 2 from rfl] at hv ⊢; omega
    · rw [show (4 : Int).toNat = 4 from rfl] at hv ⊢; omega
    · have h9 := h8 rfl
      have := val_eight hl (by
        have e2 : ((s.drop p.toNat).take (8 : Int).toNat).getD 0 0 = s.getD p.toNat 0 := by
          simp [List.getD_eq_getElem?_getD]
        rw [e2]; exact h9)
      omega
  · intro e2; subst e2; rw [show (2 : Int).toNat = 2 from rfl] at hv ⊢; omega
/-- What is taken as a number was put so. -/
theorem get_canon {s : List UInt8} {p w : Int} (h : getE s p w = 0) : putE (getV s p w) w = 0 ∧ putL (getV s p w) w = (s.drop p.toNat).take w.toNat := by
  obtain ⟨hw, h0, h1, h8⟩ := get_fine h
  obtain ⟨w1, w2, w3⟩ := wide_nat hw
  obtain ⟨b1, b2, b3, _⟩ := get_bound h
  have hp : putE (getV s p w) w = 0 := by unfold putE; rw [if_pos hw, if_pos ⟨b1, b3⟩]
  refine ⟨hp, ?_⟩
  have hl : ((s.drop p.toNat).take w.toNat).length = w.toNat := by simp; omega
  unfold putL
  rw [if_pos hp]
  unfold getV
  rw [if_pos h, Int.toNat_natCast, be_val _ _ hl]
/-- A text comes back of its bytes. -/
theorem take_back {A B t : List UInt8} (ht : t.length ≤ 65535) (p m : Int) (hp : p = A.length) (hm : (t.length : Int) ≤ m) : layE t = 0 ∧ takeE (A ++ (layL t ++ B)) p m = 0 ∧ takeL (A ++ (layL t ++ B)) p m = t ∧ takeT (A ++ (layL t ++ B)) p m = p + (layL t).length := by
  have hE : layE t = 0 := by unfold layE; rw [if_pos ht]
  have hL : layL t = be 2 t.length ++ t := by unfold layL; rw [if_pos hE]
  have hs : A ++ (layL t ++ B) = A ++ (be 2 t.length ++ (t ++ B)) := by rw [hL, List.append_assoc]
  have hv : val (be 2 t.length) = t.length := val_be 2 _ (by simp; omega)
  obtain ⟨g1, g2, g3⟩ := get_good (A := A) (M := be 2 t.length) (B := t ++ B) (p := p) (w := 2) (by unfold wideW; omega) hp (by rw [be_len]; rfl) (fun e => by omega)
  rw [hv] at g2
  have hlen : (A ++ (be 2 t.length ++ (t ++ B))).length = A.length + 2 + t.length + B.length := by simp [be_len]; omega
  have hT : takeE (A ++ (be 2 t.length ++ (t ++ B))) p m = 0 := by
    unfold takeE
    rw [if_pos ⟨by omega, by omega, by omega⟩, if_pos g1, if_neg (by omega), if_neg (by omega)]
  have hLL : ((layL t).length : Int) = 2 + t.length := by rw [hL, List.length_append, be_len]; omega
  rw [hs]
  refine ⟨hE, hT, ?_, ?_⟩
  · unfold takeL
    rw [if_pos hT, g2]
    have e : A ++ (be 2 t.length ++ (t ++ B)) = (A ++ be 2 t.length) ++ (t ++ B) := by rw [List.append_assoc]
    rw [e]
    have hq : (p + 2).toNat = (A ++ be 2 t.length).length := by simp [be_len]; omega
    rw [hq, List.drop_left, Int.toNat_natCast, List.take_left]
  · unfold takeT; rw [if_pos hT, g2, hLL]; omega
theorem take_fine {s : List UInt8} {p m : Int} (h : takeE s p m = 0) : getE s p 2 = 0 ∧ 0 ≤ p ∧ getV s p 2 ≤ m ∧ p + 2 + getV s p 2 ≤ s.length := by
  unfold takeE at h
  split at h
  · rename_i h1
    split at h
    · rename_i h2
      split at h
      · omega
      · split at h
        · omega
        · exact ⟨h2, h1.2.1, by omega, by omega⟩
    · rename_i h2; exact absurd h h2
  · omega
/-- What is taken as a text was laid so. -/
theorem take_canon {s : List UInt8} {p m : Int} (h : takeE s p m = 0) : layE (takeL s p m) = 0 ∧ layL (takeL s p m) = (s.drop p.toNat).take (takeT s p m - p).toNat ∧ p ≤ takeT s p m ∧ takeT s p m ≤ s.length ∧ ((takeL s p m).length : Int) = getV s p 2 := by
  obtain ⟨h1, h2, h3, h4⟩ := take_fine h
  obtain ⟨b1, b2, b3, b4⟩ := get_bound h1
  have hn := b4 rfl
  obtain ⟨_, c2⟩ := get_canon h1
  have hT : takeT s p m = p + 2 + getV s p 2 := by unfold takeT; rw [if_pos h]
  have hL : takeL s p m = (s.drop (p + 2).toNat).take (getV s p 2).toNat := by unfold takeL; rw [if_pos h]
  have hlen : ((takeL s p m).length : Int) = getV s p 2 := by rw [hL]; simp; omega
  have hE : layE (takeL s p m) = 0 := by unfold layE; rw [if_pos (by omega)]
  refine ⟨hE, ?_, by omega, by omega, hlen⟩
  have hP : putE (getV s p 2) 2 = 0 := (get_canon h1).1
  unfold putL at c2
  rw [if_pos hP] at c2
  unfold layL
  rw [if_pos hE, show (takeL s p m).length = (getV s p 2).toNat by omega]
  have e1 : be 2 (getV s p 2).toNat = (s.drop p.toNat).take 2 := c2
  rw [e1, hL, show (p + 2).toNat = p.toNat + 2 by omega, show (takeT s p m - p).toNat = 2 + (getV s p 2).toNat by omega, ← List.drop_drop, List.take_add]
end Go.Proofs.YtcbmecpeockdeaaGreatDoor
namespace Go.Proofs.YtcbmecpeockdeaaGreatDoor

/-- One bit into the register. -/
def stepB (n : Nat) (b : Bool) : Nat := (n / 2) ^^^ (if (n % 2 == 1) != b then 2197175160 else 0)
def runB (n : Nat) (bs : List Bool) : Nat := bs.foldl stepB n
/-- The number that bits tell, the lowest first. -/
def num : List Bool → Nat
  | [] => 0
  | b :: bs => b.toNat + 2 * num bs
theorem run_append7 (n : Nat) (a b : List Bool) : runB n (a ++ b) = runB (runB n a) b := List.foldl_append
theorem step_lt {n : Nat} {b : Bool} (h : n < 4294967296) : stepB n b < 4294967296 := by
  unfold stepB
  refine Nat.xor_lt_two_pow (n := 32) (by omega) ?_
  split <;> omega
theorem run_lt {bs : List Bool} : ∀ {n : Nat}, n < 4294967296 → runB n bs < 4294967296 := by
  induction bs with
  | nil => intro n h; exact h
  | cons b bs ih => intro n h; exact ih (step_lt h)
theorem par (n m : Nat) : ((n ^^^ m) % 2 == 1) = ((n % 2 == 1) != (m % 2 == 1)) := by
  have h := Nat.testBit_xor n m 0
  simp only [Nat.testBit_zero] at h
  rcases Nat.mod_two_eq_zero_or_one n with h1 | h1 <;> rcases Nat.mod_two_eq_zero_or_one m with g | g <;> rcases Nat.mod_two_eq_zero_or_one (n ^^^ m) with f | f <;> simp_all
theorem step_xor (n m : Nat) (b c : Bool) : stepB (n ^^^ m) (b != c) = stepB n b ^^^ stepB m c := by
  unfold stepB
  rw [par, Nat.xor_div_two]
  cases hn : (n % 2 == 1) <;> cases hm : (m % 2 == 1) <;> cases b <;> cases c <;> simp <;>
    first
      | ac_rfl
      | (rw [show ∀ x y p : Nat, (x ^^^ p) ^^^ (y ^^^ p) = x ^^^ y from fun x y p => by rw [Nat.xor_assoc, Nat.xor_comm p, Nat.xor_assoc, Nat.xor_self, Nat.xor_zero]])
theorem run_xor : ∀ (a b : List Bool) (n m : Nat), a.length = b.length → runB (n ^^^ m) (List.zipWith (fun x y => x != y) a b) = runB n a ^^^ runB m b := by
  intro a
  induction a with
  | nil => intro b n m h; rw [List.length_eq_zero_iff.1 h.symm]; rfl
  | cons x a ih =>
    intro b n m h
    cases b with
    | nil => simp at h
    | cons y b =>
      rw [List.zipWith_cons_cons]
      show runB (stepB (n ^^^ m) (x != y)) _ = _
      rw [step_xor]
      exact ih b _ _ (by simpa using h)
/-- A register whose top place is free came of a shift alone. -/
theorem step_back {n k : Nat} {b : Bool} (hn : n < 4294967296) (h : stepB n b = k) (hk : k < 2147483648) : n = b.toNat + 2 * k := by
  unfold stepB at h
  cases hx : ((n % 2 == 1) != b) with
  | true =>
    rw [hx, if_pos rfl] at h
    have h1 : k.testBit 31 = true := by
      rw [← h, Nat.testBit_xor]
      have h2 : (n / 2).testBit 31 = false := Nat.testBit_lt_two_pow (by omega)
      rw [h2]
      decide
    have h3 : k.testBit 31 = false := Nat.testBit_lt_two_pow (by omega)
    rw [h1] at h3; cases h3
  | false =>
    rw [hx] at h
    simp at h
    have h4 : (n % 2 == 1) = b := by cases hb : (n % 2 == 1) <;> cases b <;> simp_all
    subst h4
    rcases Nat.mod_two_eq_zero_or_one n with g | g <;> simp [g] <;> omega
theorem num_lt : ∀ bs : List Bool, num bs < 2 ^ bs.length := by
  intro bs
  induction bs with
  | nil => simp [num]
  | cons c bs ih =>
    simp only [num, List.length_cons, Nat.pow_succ]
    have : c.toNat ≤ 1 := by cases c <;> simp
    omega
/-- A register that bits, at most 32, make empty held just these bits. -/
theorem run_back : ∀ (bs : List Bool) (n : Nat), n < 4294967296 → bs.length ≤ 32 → runB n bs = 0 → n = num bs := by
  intro bs
  induction bs with
  | nil => intro n _ _ h; exact h
  | cons b bs ih =>
    intro n hn hl h
    rw [List.length_cons] at hl
    have h1 := ih (stepB n b) (step_lt hn) (by omega) h
    have h2 := num_lt bs
    have h3 := Nat.pow_le_pow_right (n := 2) (by omega) (show bs.length ≤ 31 by omega)
    exact step_back hn h1 (by omega)
theorem run_own : ∀ bs : List Bool, runB (num bs) bs = 0 := by
  intro bs
  induction bs with
  | nil => rfl
  | cons b bs ih =>
    have h : stepB (num (b :: bs)) b = num bs := by
      rw [show num (b :: bs) = b.toNat + 2 * num bs from rfl]
      unfold stepB
      have h1 : ((b.toNat + 2 * num bs) % 2 == 1) = b := by cases b <;> simp [Nat.add_mod]
      have h2 : (b.toNat + 2 * num bs) / 2 = num bs := by cases b <;> simp <;> omega
      rw [h1, h2]
      simp
    show runB (stepB (num (b :: bs)) b) bs = 0
    rw [h]; exact ih
/-- Bits 0 empty no register. -/
theorem run_zeros : ∀ (L n : Nat), n < 4294967296 → runB n (List.replicate L false) = 0 → n = 0 := by
  intro L
  induction L with
  | zero => intro n _ h; exact h
  | succ L ih =>
    intro n hn h
    rw [List.replicate_succ] at h
    have h1 := ih (stepB n false) (step_lt hn) h
    have := step_back hn h1 (by omega)
    simpa using this
theorem run_none : ∀ L : Nat, runB 0 (List.replicate L false) = 0 := by
  intro L
  induction L with
  | zero => rfl
  | succ L ih => rw [List.replicate_succ]; exact ih
/-- The register behind any bits that are followed by their own sum, turned, is always the same. -/
def turned (bs : List Bool) : List Bool := bs.map (fun b => !b)
theorem turned_zip (bs : List Bool) : turned bs = List.zipWith (fun x y => x != y) bs (List.replicate bs.length true) := by
  induction bs with
  | nil => rfl
  | cons b bs ih => simp only [turned, List.map_cons, List.length_cons, List.replicate_succ, List.zipWith_cons_cons]; rw [← ih]; simp [turned]
theorem run_seal (bs : List Bool) : runB (num bs) (turned bs) = runB 0 (List.replicate bs.length true) := by
  rw [turned_zip]
  have h := run_xor bs (List.replicate bs.length true) (num bs) 0 (by simp)
  rw [Nat.xor_zero, run_own, Nat.zero_xor] at h
  exact h
/-- Two rows of bits that leave the same behind: what parts them, if it lies within 32 bits, is nothing. -/
theorem burst {m : Nat} {t u w : List Bool} {a c : Nat} (hl : t.length = u.length) (he : List.zipWith (fun x y => x != y) t u = List.replicate a false ++ (w ++ List.replicate c false)) (hw : w.length ≤ 32) (h : runB m t = runB m u) : num w = 0 := by
  have h1 := run_xor t u m m hl
  rw [Nat.xor_self, h, Nat.xor_self, he, run_append7, run_append7, run_none] at h1
  have h2 := run_zeros c (runB 0 w) (run_lt (by omega)) h1
  exact (run_back w 0 (by omega) hw h2).symm
end Go.Proofs.YtcbmecpeockdeaaGreatDoor
namespace Go.Proofs.YtcbmecpeockdeaaGreatDoor

def bits8 (c : UInt8) : List Bool := (List.range 8).map (fun i => c.toNat.testBit i)
def bitsL (l : List UInt8) : List Bool := l.flatMap bits8
/-- The register, gone on with bytes. -/
def regOn (n : Nat) (l : List UInt8) : Nat := runB n (bitsL l)
def onN (sum : Nat) (l : List UInt8) : Nat := 4294967295 - regOn (4294967295 - sum) l
def ofN (l : List UInt8) : Nat := onN 0 l
def fourL (n : Nat) : List UInt8 := [UInt8.ofNat (n % 256), UInt8.ofNat (n / 256 % 256), UInt8.ofNat (n / 65536 % 256), UInt8.ofNat (n / 16777216 % 256)]
def sealL (l : List UInt8) : List UInt8 := l ++ fourL (ofN l)
def unE (l : List UInt8) : Int := if l.length < 4 then 4 else if fourL (ofN (l.take (l.length - 4))) = l.drop (l.length - 4) then 0 else 7
def unL (l : List UInt8) : List UInt8 := if unE l = 0 then l.take (l.length - 4) else []
def bothE (n : Int) : Int := if 0 ≤ n ∧ n ≤ 1000000 then 0 else 2
def bothV (a b : Nat) (n : Int) : Nat := if bothE n = 0 then runB a (List.replicate (8 * n.toNat) false) ^^^ b else 0

theorem bits_len (c : UInt8) : (bits8 c).length = 8 := by simp [bits8]
theorem bitsL_more (a b : List UInt8) : bitsL (a ++ b) = bitsL a ++ bitsL b := by unfold bitsL; rw [List.flatMap_append]
theorem bitsL_one (c : UInt8) : bitsL [c] = bits8 c := by simp [bitsL]
theorem bitsL_len (l : List UInt8) : (bitsL l).length = 8 * l.length := by
  induction l with
  | nil => rfl
  | cons c l ih =>
    have e : bitsL (c :: l) = bits8 c ++ bitsL l := by simp [bitsL]
    rw [e, List.length_append, bits_len, ih, List.length_cons]; omega
theorem reg_append (n : Nat) (a b : List UInt8) : regOn n (a ++ b) = regOn (regOn n a) b := by
  unfold regOn; rw [bitsL_more, run_append7]
theorem reg_snoc (n : Nat) (a : List UInt8) (c : UInt8) : regOn n (a ++ [c]) = runB (regOn n a) (bits8 c) := by
  rw [reg_append]; unfold regOn; rw [bitsL_one]
theorem reg_lt {n : Nat} (h : n < 4294967296) (l : List UInt8) : regOn n l < 4294967296 := run_lt h
theorem on_lt (n : Nat) (l : List UInt8) : onN n l < 4294967296 := by unfold onN; omega
theorem turn_xor {n : Nat} (h : n < 4294967296) : 4294967295 - n = 4294967295 ^^^ n := by
  have h1 : 4294967295 - n = 2 ^ 32 - (n + 1) := by omega
  rw [h1]
  refine Nat.eq_of_testBit_eq fun i => ?_
  rw [Nat.testBit_two_pow_sub_succ (by omega), Nat.testBit_xor, show (4294967295 : Nat) = 2 ^ 32 - 1 from rfl, Nat.testBit_two_pow_sub_one]
  by_cases hi : i < 32
  · simp [hi]
  · have : n.testBit i = false := Nat.testBit_lt_two_pow (Nat.lt_of_lt_of_le h (by
      have := Nat.pow_le_pow_right (n := 2) (by omega) (show 32 ≤ i by omega)
      omega))
    simp [hi, this]
/-- A sum goes on. -/
theorem on_two (a b : List UInt8) : onN (ofN a) b = ofN (a ++ b) := by
  unfold ofN onN
  have h := reg_lt (n := 4294967295) (by omega) a
  rw [reg_append, show 4294967295 - (4294967295 - regOn (4294967295 - 0) a) = regOn (4294967295 - 0) a by simp only [Nat.sub_zero]; omega]
theorem zip_none (l : List Bool) : List.zipWith (fun x y => x != y) l (List.replicate l.length false) = l := by
  induction l with
  | nil => rfl
  | cons b l ih => rw [List.length_cons, List.replicate_succ, List.zipWith_cons_cons, ih]; simp
/-- Two sums put together. -/
theorem both_two (a b : List UInt8) (h : b.length ≤ 1000000) : bothE b.length = 0 ∧ bothV (ofN a) (ofN b) b.length = ofN (a ++ b) := by
  have he : bothE b.length = 0 := by unfold bothE; rw [if_pos ⟨by omega, by omega⟩]
  refine ⟨he, ?_⟩
  unfold bothV
  rw [if_pos he, Int.toNat_natCast, ← bitsL_len]
  have hA := reg_lt (n := 4294967295) (by omega) a
  have e1 : ofN (a ++ b) = 4294967295 ^^^ regOn (regOn 4294967295 a) b := by
    unfold ofN onN
    rw [Nat.sub_zero, reg_append, turn_xor (reg_lt hA b)]
  have e2 : regOn 4294967295 a = 4294967295 ^^^ ofN a := by
    unfold ofN onN
    rw [Nat.sub_zero, turn_xor hA, ← Nat.xor_assoc, Nat.xor_self, Nat.zero_xor]
  have e3 : regOn (4294967295 ^^^ ofN a) b = regOn 4294967295 b ^^^ runB (ofN a) (List.replicate (bitsL b).length false) := by
    have := run_xor (bitsL b) (List.replicate (bitsL b).length false) 4294967295 (ofN a) (by simp)
    rw [zip_none] at this
    exact this
  have e4 : ofN b = 4294967295 ^^^ regOn 4294967295 b := by
    unfold ofN onN
    rw [Nat.sub_zero, turn_xor (reg_lt (by omega) b)]
  rw [e1, e2, e3, e4]
  generalize runB _ _ = z
  generalize regOn 4294967295 b = y
  ac_rfl
theorem testBit_bool (n i : Nat) : n.testBit i = (n / 2 ^ i % 2 == 1) := by
  rw [Nat.testBit_eq_decide_div_mod_eq]
  rcases Nat.mod_two_eq_zero_or_one (n / 2 ^ i) with h | h <;> simp [h]
theorem num_bits (n k : Nat) : num ((List.range k).map fun i => n.testBit i) = n % 2 ^ k := by
  induction k generalizing n with
  | zero => simp [num, Nat.mod_one]
  | succ k ih =>
    rw [List.range_succ_eq_map, List.map_cons, List.map_map]
    have e : ((fun i => n.testBit i) ∘ Nat.succ) = fun i => (n / 2).testBit i := by
      funext i; simp [Function.comp, Nat.testBit_succ]
    rw [e]
    show (n.testBit 0).toNat + 2 * num _ = _
    rw [ih, Nat.pow_succ, Nat.mul_comm, Nat.mul_comm (2 ^ k) 2, Nat.mod_mul]
    rw [Nat.mul_comm]
    have : (n.testBit 0).toNat = n % 2 := by
      rw [Nat.testBit_zero]
      rcases Nat.mod_two_eq_zero_or_one n with h | h <;> simp [h]
    omega
theorem four_bits (n : Nat) : bitsL (fourL n) = (List.range 32).map fun i => n.testBit i := by
  have hb : ∀ m : Nat, m < 256 → bits8 (UInt8.ofNat m) = (List.range 8).map fun i => m.testBit i := fun m hm => by
    unfold bits8
    rw [UInt8.toNat_ofNat', Nat.mod_eq_of_lt hm]
  have hs : bitsL (fourL n) = bits8 (UInt8.ofNat (n % 256)) ++ (bits8 (UInt8.ofNat (n / 256 % 256)) ++ (bits8 (UInt8.ofNat (n / 65536 % 256)) ++ (bits8 (UInt8.ofNat (n / 16777216 % 256)) ++ []))) := by simp [bitsL, fourL]
  rw [hs, hb _ (by omega), hb _ (by omega), hb _ (by omega), hb _ (by omega), List.append_nil]
  refine List.ext_getElem (by simp) fun i h1 h2 => ?_
  have hi : i < 32 := by simpa using h2
  have key : ∀ (q j : Nat), j < 8 → (n / 256 ^ q % 256).testBit j = n.testBit (8 * q + j) := fun q j hj => by
    rw [show (256 : Nat) = 2 ^ 8 from rfl, Nat.testBit_mod_two_pow, ← Nat.pow_mul, Nat.testBit_div_two_pow]
    simp [hj, Nat.add_comm]
  have k0 := key 0; have k1 := key 1; have k2 := key 2; have k3 := key 3
  simp only [Nat.pow_zero, Nat.div_one, Nat.mul_zero, Nat.zero_add] at k0
  simp only [Nat.pow_one, Nat.mul_one] at k1
  rw [show (256 : Nat) ^ 2 = 65536 from rfl] at k2
  rw [show (256 : Nat) ^ 3 = 16777216 from rfl] at k3
  simp only [List.getElem_append, List.length_map, List.length_range, List.getElem_map, List.getElem_range]
  split
  · rw [k0 _ (by omega)]
  · split
    · rw [k1 _ (by omega)]; congr 1; omega
    · split
      · rw [k2 _ (by omega)]; congr 1; omega
      · rw [k3 _ (by omega)]; congr 1; omega
/-- The register behind any sealed bytes. -/
theorem seal_reg (l : List UInt8) : regOn 4294967295 (sealL l) = runB 0 (List.replicate 32 true) := by
  unfold sealL
  rw [reg_append]
  have hA := reg_lt (n := 4294967295) (by omega) l
  have e1 : ofN l = 4294967295 ^^^ regOn 4294967295 l := by
    unfold ofN onN
    rw [Nat.sub_zero, turn_xor hA]
  generalize regOn 4294967295 l = A at *
  have e2 : bitsL (fourL (ofN l)) = turned ((List.range 32).map fun i => A.testBit i) := by
    rw [four_bits, e1]
    unfold turned
    rw [List.map_map]
    refine List.map_congr_left fun i hi => ?_
    have hi : i < 32 := List.mem_range.1 hi
    rw [Nat.testBit_xor, show (4294967295 : Nat) = 2 ^ 32 - 1 from rfl, Nat.testBit_two_pow_sub_one]
    simp [hi]
  show runB A (bitsL (fourL (ofN l))) = _
  have e3 : num ((List.range 32).map fun i => A.testBit i) = A := by rw [num_bits]; exact Nat.mod_eq_of_lt hA
  have := run_seal ((List.range 32).map fun i => A.testBit i)
  rw [e3] at this
  rw [e2, this]
  simp
theorem four_len (n : Nat) : (fourL n).length = 4 := rfl
theorem un_seal (l : List UInt8) : unE (sealL l) = 0 ∧ unL (sealL l) = l := by
  have hl : (sealL l).length - 4 = l.length := by unfold sealL; rw [List.length_append, four_len]; omega
  have h4 : ¬ (sealL l).length < 4 := by unfold sealL; rw [List.length_append, four_len]; omega
  have ht : (sealL l).take l.length = l := by unfold sealL; rw [List.take_left]
  have hd : (sealL l).drop l.length = fourL (ofN l) := by unfold sealL; rw [List.drop_left]
  have he : unE (sealL l) = 0 := by unfold unE; rw [if_neg h4, hl, ht, hd, if_pos rfl]
  exact ⟨he, by unfold unL; rw [if_pos he, hl, ht]⟩
theorem un_fine {u : List UInt8} (h : unE u = 0) : u = sealL (unL u) := by
  have hL : unL u = u.take (u.length - 4) := by unfold unL; rw [if_pos h]
  unfold unE at h
  split at h
  · omega
  · split at h
    · rename_i h2
      rw [hL]
      unfold sealL
      rw [h2, List.take_append_drop]
    · omega
/-- The bit at a place. -/
def bitAt (l : List UInt8) (j : Nat) : Bool := (l.getD (j / 8) 0).toNat.testBit (j % 8)
theorem bitsL_at (l : List UInt8) (j : Nat) (h : j < (bitsL l).length) : (bitsL l)[j] = bitAt l j := by
  induction l generalizing j with
  | nil => simp [bitsL] at h
  | cons c l ih =>
    have e : bitsL (c :: l) = bits8 c ++ bitsL l := by simp [bitsL]
    have hl : (bitsL (c :: l)).length = 8 + (bitsL l).length := by rw [e, List.length_append, bits_len]
    have h3 : (bits8 c ++ bitsL l)[j]'(by rw [List.length_append, bits_len]; omega) = bitAt (c :: l) j := by
      rw [List.getElem_append]
      split
      · rename_i h1
        rw [bits_len] at h1
        unfold bitAt
        rw [Nat.div_eq_of_lt h1, Nat.mod_eq_of_lt h1]
        simp [bits8]
      · rename_i h1
        rw [bits_len] at h1
        rw [ih]
        unfold bitAt
        simp only [bits_len]
        have e1 : j / 8 = (j - 8) / 8 + 1 := by omega
        have e2 : j % 8 = (j - 8) % 8 := by omega
        rw [e1, e2, List.getD_cons_succ]
    rw [← h3]
    congr 1
/-- One bit turned. -/
def flip7 (l : List UInt8) (k : Nat) : List UInt8 := l.set (k / 8) (l.getD (k / 8) 0 ^^^ UInt8.ofNat (2 ^ (k % 8)))
theorem flip_len (l : List UInt8) (k : Nat) : (flip7 l k).length = l.length := by simp [flip7]
theorem flip_at (l : List UInt8) (k j : Nat) (hk : k < 8 * l.length) : bitAt (flip7 l k) j = (bitAt l j != decide (j = k)) := by
  unfold bitAt flip7
  by_cases h : j / 8 = k / 8
  · rw [h]
    have e1 : (l.set (k / 8) (l.getD (k / 8) 0 ^^^ UInt8.ofNat (2 ^ (k % 8)))).getD (k / 8) 0 = l.getD (k / 8) 0 ^^^ UInt8.ofNat (2 ^ (k % 8)) := by
      rw [List.getD_eq_getElem?_getD, List.getElem?_set_self (by omega)]; rfl
    have hp : 2 ^ (k % 8) < 256 := by
      have := Nat.pow_lt_pow_right (a := 2) (by omega) (show k % 8 < 8 by omega)
      omega
    rw [e1, UInt8.toNat_xor, UInt8.toNat_ofNat', Nat.mod_eq_of_lt hp, Nat.testBit_xor, Nat.testBit_two_pow]
    have e2 : decide (k % 8 = j % 8) = decide (j = k) := by
      rw [Bool.eq_iff_iff, decide_eq_true_iff, decide_eq_true_iff]; omega
    rw [e2]
  · have e1 : ∀ c, (l.set (k / 8) c).getD (j / 8) 0 = l.getD (j / 8) 0 := fun c => by
      rw [List.getD_eq_getElem?_getD, List.getD_eq_getElem?_getD, List.getElem?_set_ne (fun e => h e.symm)]
    rw [e1, decide_eq_false (fun e => h (by rw [e]))]
    simp
/-- As many of a word's 32 bits turned, from a place on. -/
def Turned (t u : List UInt8) (at' : Nat) (by' : Nat) (i : Nat) : Prop := u.length = t.length ∧ ∀ j, bitAt u j = (bitAt t j != (decide (at' ≤ j ∧ j < at' + i) && by'.testBit (j - at')))
theorem Turned.none (t : List UInt8) (p y : Nat) : Turned t t p y 0 := ⟨rfl, fun j => by rw [decide_eq_false (by omega)]; simp⟩
theorem Turned.stay {t u : List UInt8} {p y i : Nat} (h : Turned t u p y i) (hb : y.testBit i = false) : Turned t u p y (i + 1) := by
  refine ⟨h.1, fun j => ?_⟩
  rw [h.2 j]
  by_cases hj : j = p + i
  · subst hj
    rw [decide_eq_false (by omega), decide_eq_true (by omega), show p + i - p = i by omega, hb]; simp
  · have e : decide (p ≤ j ∧ j < p + (i + 1)) = decide (p ≤ j ∧ j < p + i) := by
      rw [Bool.eq_iff_iff, decide_eq_true_iff, decide_eq_true_iff]; omega
    rw [e]
theorem Turned.turn {t u : List UInt8} {p y i : Nat} (h : Turned t u p y i) (hb : y.testBit i = true) (hk : p + i < 8 * t.length) : Turned t (flip7 u (p + i)) p y (i + 1) := by
  refine ⟨by rw [flip_len]; exact h.1, fun j => ?_⟩
  rw [flip_at u (p + i) j (by rw [h.1]; exact hk), h.2 j]
  by_cases hj : j = p + i
  · subst hj
    rw [decide_eq_false (show ¬ (p ≤ p + i ∧ p + i < p + i) by omega), decide_eq_true (show p ≤ p + i ∧ p + i < p + (i + 1) by omega), decide_eq_true rfl, show p + i - p = i by omega, hb]; simp
  · have e : decide (p ≤ j ∧ j < p + (i + 1)) = decide (p ≤ j ∧ j < p + i) := by
      rw [Bool.eq_iff_iff, decide_eq_true_iff, decide_eq_true_iff]; omega
    rw [e, decide_eq_false hj]; simp
/-- A sealed text that is changed within 32 bits, and just there, is not unsealed. -/
theorem burst_told {s u : List UInt8} {p y : Nat} (h : Turned (sealL s) u p y 32) (hy : y < 4294967296) (hy0 : y ≠ 0) (hp : p + 32 ≤ 8 * (sealL s).length) : unE u = 7 ∧ unL u = [] := by
  have h4 : ¬ u.length < 4 := by rw [h.1]; unfold sealL; rw [List.length_append, four_len]; omega
  have hne : unE u ≠ 0 := by
    intro h0
    have h1 := un_fine h0
    have r1 := seal_reg s
    have r2 := seal_reg (unL u)
    rw [← h1] at r2
    have hl : (bitsL (sealL s)).length = (bitsL u).length := by rw [bitsL_len, bitsL_len, h.1]
    have he : List.zipWith (fun x y => x != y) (bitsL (sealL s)) (bitsL u) = List.replicate p false ++ (((List.range 32).map fun i => y.testBit i) ++ List.replicate (8 * (sealL s).length - (p + 32)) false) := by
      refine List.ext_getElem ?_ fun j g1 g2 => ?_
      · simp [bitsL_len, h.1]; omega
      · have gj : j < 8 * (sealL s).length := by
          rw [List.length_zipWith, bitsL_len, bitsL_len, h.1] at g1; omega
        rw [List.getElem_zipWith, bitsL_at, bitsL_at, h.2 j]
        simp only [List.getElem_append, List.length_replicate, List.length_map, List.length_range, List.getElem_replicate, List.getElem_map, List.getElem_range]
        by_cases a1 : j < p
        · rw [dif_pos a1, decide_eq_false (by omega)]; simp
        · rw [dif_neg a1]
          by_cases a2 : j - p < 32
          · rw [dif_pos a2, decide_eq_true (by omega)]
            cases bitAt (sealL s) j <;> simp
          · rw [dif_neg a2, decide_eq_false (by omega)]; simp
    have h0' := burst hl he (by simp) (r1.trans r2.symm)
    rw [num_bits, Nat.mod_eq_of_lt (by omega)] at h0'
    exact hy0 h0'
  have h7 : unE u = 7 := by
    unfold unE at hne ⊢
    rw [if_neg h4] at hne ⊢
    split at hne
    · exact absurd rfl hne
    · rename_i h5; rw [if_neg h5]
  exact ⟨h7, by unfold unL; rw [if_neg hne]⟩
end Go.Proofs.YtcbmecpeockdeaaGreatDoor
namespace Go.Proofs.YtcbmecpeockdeaaGreatDoor

def sect9 (n : Nat) : Nat := (n + 16 + 63) / 64
def putE9 (g : Int) (t : List UInt8) : Int := if 1 ≤ g ∧ g ≤ 1000000000 then (if t.length ≤ 100000 then 0 else 3) else 2
def body9 (g : Int) (t : List UInt8) : List UInt8 := be 8 g.toNat ++ (be 4 t.length ++ t)
/-- The bytes of a snapshot. -/
def put9 (g : Int) (t : List UInt8) : List UInt8 := sealL (body9 g t) ++ List.replicate (64 * sect9 t.length - (t.length + 16)) 0
def putL9 (g : Int) (t : List UInt8) : List UInt8 := if putE9 g t = 0 then put9 g t else []
def gen9 (s : List UInt8) : Nat := val (s.take 8)
def len9 (s : List UInt8) : Nat := val ((s.drop 8).take 4)
/-- The bytes up to whole sectors. -/
def pad9 (s : List UInt8) : List UInt8 := (s.drop (len9 s + 16)).take (64 * sect9 (len9 s) - (len9 s + 16))
def getE9 (s : List UInt8) : Int :=
  if s.length < 16 then 4
  else if 127 < (s.getD 0 0).toNat then 8
  else if 1 ≤ gen9 s ∧ gen9 s ≤ 1000000000 then
    (if 100000 < len9 s then 3
     else if s.length < 64 * sect9 (len9 s) then 4
     else if unE (s.take (len9 s + 16)) = 0 then (if ∀ c ∈ pad9 s, c = 0 then 0 else 5)
     else unE (s.take (len9 s + 16)))
  else 2
def getG9 (s : List UInt8) : Int := if getE9 s = 0 then (gen9 s : Int) else 0
def getT9 (s : List UInt8) : List UInt8 := if getE9 s = 0 then (s.drop 12).take (len9 s) else []
/-- Which of two counts: -1 none, 0 the first, 1 the second. -/
def pickI (a b : List UInt8) : Int := if getE9 a ≠ 0 ∧ getE9 b ≠ 0 then -1 else if getE9 a = 0 ∧ (getE9 b ≠ 0 ∨ getG9 b ≤ getG9 a) then 0 else 1
def pickG (a b : List UInt8) : Int := if pickI a b = -1 then 0 else if pickI a b = 0 then getG9 a else getG9 b
def pickT (a b : List UInt8) : List UInt8 := if pickI a b = -1 then [] else if pickI a b = 0 then getT9 a else getT9 b
def nextG (a b : List UInt8) : Int := if pickI a b = -1 then 1 else if pickG a b = 1000000000 then 0 else pickG a b + 1
def nextS (a b : List UInt8) : Int := if pickI a b = -1 then 0 else 1 - pickI a b

theorem sect_up (n : Nat) : n + 16 ≤ 64 * sect9 n ∧ 64 * sect9 n < n + 16 + 64 := by unfold sect9; omega
theorem body_len (g : Int) (t : List UInt8) : (body9 g t).length = t.length + 12 := by
  unfold body9; rw [List.length_append, List.length_append, be_len, be_len]; omega
theorem seal_len9 (l : List UInt8) : (sealL l).length = l.length + 4 := by unfold sealL; rw [List.length_append, four_len]
theorem put9_len (g : Int) (t : List UInt8) : (put9 g t).length = 64 * sect9 t.length := by
  have := sect_up t.length
  unfold put9
  rw [List.length_append, seal_len9, body_len, List.length_replicate]
  omega
/-- A snapshot is taken of its bytes, whatever stands behind. -/
theorem back9 (g : Int) (t z : List UInt8) (h : putE9 g t = 0) : getE9 (put9 g t ++ z) = 0 ∧ getG9 (put9 g t ++ z) = g ∧ getT9 (put9 g t ++ z) = t := by
  have hg : 1 ≤ g ∧ g ≤ 1000000000 := by
    unfold putE9 at h
    split at h
    · assumption
    · omega
  have ht : t.length ≤ 100000 := by
    unfold putE9 at h
    rw [if_pos hg] at h
    split at h
    · assumption
    · omega
  obtain ⟨n, rfl⟩ : ∃ n : Nat, g = n := ⟨g.toNat, by omega⟩
  have hn : n ≤ 1000000000 := by omega
  have hl := put9_len (n : Int) t
  have hu := sect_up t.length
  have h8 : (be 8 n).length = 8 := be_len 8 n
  have h4 : (be 4 t.length).length = 4 := be_len 4 t.length
  have e0 : put9 (n : Int) t ++ z = be 8 n ++ (be 4 t.length ++ (t ++ (fourL (ofN (body9 n t)) ++ (List.replicate (64 * sect9 t.length - (t.length + 16)) 0 ++ z)))) := by
    unfold put9 sealL
    rw [show body9 (n : Int) t ++ fourL (ofN (body9 (n : Int) t)) = (be 8 n ++ (be 4 t.length ++ t)) ++ fourL (ofN (body9 (n : Int) t)) from rfl]
    simp only [List.append_assoc]
  have eg : gen9 (put9 (n : Int) t ++ z) = n := by
    unfold gen9
    rw [e0, List.take_append_of_le_length (by omega), List.take_of_length_le (by omega)]
    exact val_be 8 n (by omega)
  have el : len9 (put9 (n : Int) t ++ z) = t.length := by
    unfold len9
    rw [e0, List.drop_append, List.drop_of_length_le (show (be 8 n).length ≤ 8 by omega), List.nil_append, h8, Nat.sub_self, List.drop_zero, List.take_append_of_le_length (by omega), List.take_of_length_le (by omega)]
    exact val_be 4 t.length (by omega)
  have e1 : (put9 (n : Int) t ++ z).take (t.length + 16) = sealL (body9 n t) := by
    unfold put9
    rw [List.append_assoc, List.take_append_of_le_length (by rw [seal_len9, body_len]; omega), List.take_of_length_le (by rw [seal_len9, body_len]; omega)]
  have e2 : pad9 (put9 (n : Int) t ++ z) = List.replicate (64 * sect9 t.length - (t.length + 16)) 0 := by
    unfold pad9
    rw [el]
    unfold put9
    rw [List.append_assoc, List.drop_append, List.drop_of_length_le (by rw [seal_len9, body_len]; omega), List.nil_append, seal_len9, body_len, show t.length + 16 - (t.length + 12 + 4) = 0 by omega, List.drop_zero, List.take_append_of_le_length (by rw [List.length_replicate]; omega), List.take_of_length_le (by rw [List.length_replicate]; omega)]
  have e3 : ((put9 (n : Int) t ++ z).getD 0 0).toNat ≤ 127 := by
    have hb := first_byte (l := be 8 n) h8 (by rw [val_be 8 n (by omega)]; omega)
    rw [e0, List.getD_eq_getElem?_getD, List.getElem?_append_left (by omega), ← List.getD_eq_getElem?_getD]
    exact hb
  have hu2 := un_seal (body9 n t)
  have hE : getE9 (put9 (n : Int) t ++ z) = 0 := by
    unfold getE9
    rw [eg, el, e1, e2, if_neg (by rw [List.length_append]; omega), if_neg (by omega), if_pos (by omega), if_neg (by omega), if_neg (by rw [List.length_append]; omega), if_pos hu2.1, if_pos (fun c hc => (List.mem_replicate.1 hc).2)]
  refine ⟨hE, ?_, ?_⟩
  · unfold getG9; rw [if_pos hE, eg]
  · unfold getT9
    rw [if_pos hE, el, e0, List.drop_append, List.drop_of_length_le (by omega), List.nil_append, h8, List.drop_append, List.drop_of_length_le (by omega), List.nil_append, h4, show 12 - 8 - 4 = 0 by omega, List.drop_zero, List.take_append_of_le_length (by omega), List.take_of_length_le (by omega)]
theorem get_parts {s : List UInt8} (h : getE9 s = 0) : 16 ≤ s.length ∧ (s.getD 0 0).toNat ≤ 127 ∧ (1 ≤ gen9 s ∧ gen9 s ≤ 1000000000) ∧ len9 s ≤ 100000 ∧ 64 * sect9 (len9 s) ≤ s.length ∧ unE (s.take (len9 s + 16)) = 0 ∧ ∀ c ∈ pad9 s, c = 0 := by
  unfold getE9 at h
  split at h
  · omega
  split at h
  · omega
  split at h
  · split at h
    · omega
    split at h
    · omega
    split at h
    · split at h
      · exact ⟨by omega, by omega, by assumption, by omega, by omega, by assumption, by assumption⟩
      · omega
    · rename_i h1
      exact absurd h h1
  · omega
/-- What is taken is just that which was put. -/
theorem canon9 {s : List UInt8} (h : getE9 s = 0) : putE9 (getG9 s) (getT9 s) = 0 ∧ put9 (getG9 s) (getT9 s) = s.take (64 * sect9 (getT9 s).length) ∧ (getT9 s).length = len9 s ∧ 64 * sect9 (len9 s) ≤ s.length := by
  obtain ⟨h16, _, hg, hl, hs, hu, hz⟩ := get_parts h
  have hup := sect_up (len9 s)
  have eG : getG9 s = (gen9 s : Int) := by unfold getG9; rw [if_pos h]
  have eT : getT9 s = (s.drop 12).take (len9 s) := by unfold getT9; rw [if_pos h]
  have hTl : (getT9 s).length = len9 s := by rw [eT, List.length_take, List.length_drop]; omega
  have hE : putE9 (getG9 s) (getT9 s) = 0 := by
    unfold putE9
    rw [eG, hTl, if_pos (by omega), if_pos hl]
  refine ⟨hE, ?_, hTl, hs⟩
  have hb : body9 (getG9 s) (getT9 s) = s.take (len9 s + 12) := by
    unfold body9
    rw [eG, Int.toNat_natCast, hTl]
    have a8 : be 8 (gen9 s) = s.take 8 := be_val 8 _ (by rw [List.length_take]; omega)
    have a4 : be 4 (len9 s) = (s.drop 8).take 4 := be_val 4 _ (by rw [List.length_take, List.length_drop]; omega)
    rw [a8, a4, eT, show s.drop 12 = (s.drop 8).drop 4 by rw [List.drop_drop], ← List.take_add, ← List.take_add]
    congr 1
    omega
  have hsl : sealL (body9 (getG9 s) (getT9 s)) = s.take (len9 s + 16) := by
    have hf := un_fine hu
    rw [hf]
    congr 1
    rw [hb]
    unfold unL
    rw [if_pos hu, List.length_take, Nat.min_eq_left (by omega), List.take_take, Nat.min_eq_left (by omega)]
    congr 1
  have hp : List.replicate (64 * sect9 (getT9 s).length - ((getT9 s).length + 16)) (0 : UInt8) = pad9 s := by
    rw [hTl]
    refine (List.eq_replicate_iff.2 ⟨?_, fun c hc => hz c hc⟩).symm
    unfold pad9
    rw [List.length_take, List.length_drop]
    omega
  unfold put9
  rw [hsl, hp, hTl]
  unfold pad9
  rw [← List.take_add]
  congr 1
  omega
theorem pick_cases (a b : List UInt8) : (pickI a b = -1 ∧ getE9 a ≠ 0 ∧ getE9 b ≠ 0) ∨ (pickI a b = 0 ∧ getE9 a = 0 ∧ (getE9 b ≠ 0 ∨ getG9 b ≤ getG9 a)) ∨ (pickI a b = 1 ∧ getE9 b = 0 ∧ (getE9 a ≠ 0 ∨ getG9 a < getG9 b)) := by
  unfold pickI
  by_cases ha : getE9 a = 0 <;> by_cases hb : getE9 b = 0
  · by_cases hg : getG9 b ≤ getG9 a
    · simp [ha, hb, hg]
    · simp [ha, hb, hg]; omega
  · simp [ha, hb]
  · simp [ha, hb]
  · simp [ha, hb]
end Go.Proofs.YtcbmecpeockdeaaGreatDoor
namespace Go.Proofs.YtcbmecpeockdeaaGreatDoor

/-- How many sectors a frame with a body of that length has. -/
def nsec (n : Nat) : Nat := (n + 82) / 63
def wrong10 (ep sq : Int) (n : Nat) : Int := if (1 ≤ ep ∧ ep ≤ 1000000000) ∧ 1 ≤ sq ∧ sq ≤ 1000000 then (if 3000 < n then 3 else 0) else 2
def head10 (ep sq : Int) (b : List UInt8) : List UInt8 := be 8 ep.toNat ++ (be 4 sq.toNat ++ (be 4 b.length ++ b))
/-- The sealed text with the zeros behind it. -/
def full10 (ep sq : Int) (b : List UInt8) : List UInt8 := sealL (head10 ep sq b) ++ List.replicate (63 * nsec b.length - (b.length + 20)) 0
/-- Pieces of 63 bytes, each with a byte ahead: h ahead of the first, 2 ahead of the others. -/
def chop (h : UInt8) : Nat → List UInt8 → List UInt8
  | 0, _ => []
  | k + 1, t => h :: (t.take 63 ++ chop 2 k (t.drop 63))
def put10 (ep sq : Int) (b : List UInt8) : List UInt8 := chop 1 (nsec b.length) (full10 ep sq b)
def putL10 (ep sq : Int) (b : List UInt8) : List UInt8 := if wrong10 ep sq b.length = 0 then put10 ep sq b else []
/-- The pieces of k sectors, without the bytes ahead. -/
def join10 : Nat → List UInt8 → List UInt8
  | 0, _ => []
  | k + 1, r => (r.drop 1).take 63 ++ join10 k (r.drop 64)
def ep10 (r : List UInt8) : Nat := val ((r.drop 1).take 8)
def sq10 (r : List UInt8) : Nat := val ((r.drop 9).take 4)
def n10 (r : List UInt8) : Nat := val ((r.drop 13).take 4)
/-- What stands behind the sealed text. -/
def rest10 (r : List UInt8) : List UInt8 := (join10 (nsec (n10 r)) r).drop (n10 r + 20)
/-- What is wrong with the frame with which sectors begin. -/
def gotE (r : List UInt8) : Int :=
  if r.length = 0 then 4
  else if r.getD 0 0 ≠ 1 then 5
  else if 127 < (r.getD 1 0).toNat then 8
  else if wrong10 (ep10 r) (sq10 r) (n10 r) ≠ 0 then wrong10 (ep10 r) (sq10 r) (n10 r)
  else if r.length < 64 * nsec (n10 r) then 4
  else if ∃ i, i < nsec (n10 r) ∧ 1 ≤ i ∧ r.getD (64 * i) 0 ≠ 2 then 5
  else if unE ((join10 (nsec (n10 r)) r).take (n10 r + 20)) ≠ 0 then unE ((join10 (nsec (n10 r)) r).take (n10 r + 20))
  else if ∀ c ∈ rest10 r, c = 0 then 0 else 5
def gotB (r : List UInt8) : List UInt8 := ((join10 (nsec (n10 r)) r).drop 16).take (n10 r)
def getE10 (s : List UInt8) (p : Int) : Int := if 0 ≤ p ∧ s.length % 64 = 0 ∧ p ≤ s.length / 64 then gotE (s.drop (64 * p.toNat)) else 2
def getEp (s : List UInt8) (p : Int) : Int := if getE10 s p = 0 then (ep10 (s.drop (64 * p.toNat)) : Int) else 0
def getSq (s : List UInt8) (p : Int) : Int := if getE10 s p = 0 then (sq10 (s.drop (64 * p.toNat)) : Int) else 0
def getB (s : List UInt8) (p : Int) : List UInt8 := if getE10 s p = 0 then gotB (s.drop (64 * p.toNat)) else []
def getTo (s : List UInt8) (p : Int) : Int := if getE10 s p = 0 then p + nsec (n10 (s.drop (64 * p.toNat))) else 0
/-- The bodies of the frames that follow one another, and how many sectors they have. -/
def scan10 (ep : Int) : Nat → List UInt8 → Nat → List (List UInt8) × Nat
  | 0, _, _ => ([], 0)
  | f + 1, r, m => if gotE r = 0 ∧ (ep10 r : Int) = ep ∧ sq10 r = m + 1 then
      (gotB r :: (scan10 ep f (r.drop (64 * nsec (n10 r))) (m + 1)).1, nsec (n10 r) + (scan10 ep f (r.drop (64 * nsec (n10 r))) (m + 1)).2)
    else ([], 0)
def scanV (s : List UInt8) (ep : Int) : List (List UInt8) × Nat := if s.length % 64 = 0 then scan10 ep (s.length / 64) s 0 else ([], 0)

theorem nsec_up (n : Nat) : n + 20 ≤ 63 * nsec n ∧ 63 * nsec n < n + 20 + 63 ∧ 1 ≤ nsec n := by unfold nsec; omega
theorem head_len (ep sq : Int) (b : List UInt8) : (head10 ep sq b).length = b.length + 16 := by
  unfold head10; rw [List.length_append, List.length_append, List.length_append, be_len, be_len, be_len]; omega
theorem seal_len10 (l : List UInt8) : (sealL l).length = l.length + 4 := by unfold sealL; rw [List.length_append, four_len]
theorem full_len (ep sq : Int) (b : List UInt8) : (full10 ep sq b).length = 63 * nsec b.length := by
  have := nsec_up b.length
  unfold full10
  rw [List.length_append, seal_len10, head_len, List.length_replicate]
  omega
theorem chop_len (h : UInt8) (k : Nat) (t : List UInt8) (ht : t.length = 63 * k) : (chop h k t).length = 64 * k := by
  induction k generalizing h t with
  | zero => rfl
  | succ k ih =>
    unfold chop
    rw [List.length_cons, List.length_append, List.length_take, ih 2 (t.drop 63) (by rw [List.length_drop]; omega)]
    omega
theorem put10_len (ep sq : Int) (b : List UInt8) : (put10 ep sq b).length = 64 * nsec b.length := chop_len _ _ _ (full_len ep sq b)
theorem join_len (k : Nat) (r : List UInt8) (h : 64 * k ≤ r.length) : (join10 k r).length = 63 * k := by
  induction k generalizing r with
  | zero => rfl
  | succ k ih =>
    unfold join10
    rw [List.length_append, List.length_take, List.length_drop, ih (r.drop 64) (by rw [List.length_drop]; omega)]
    omega
theorem join_chop (h : UInt8) (k : Nat) (t z : List UInt8) (ht : t.length = 63 * k) : join10 k (chop h k t ++ z) = t := by
  induction k generalizing h t with
  | zero => obtain rfl : t = [] := List.length_eq_zero_iff.1 (by omega); rfl
  | succ k ih =>
    have e1 : (t.take 63).length = 63 := by rw [List.length_take]; omega
    unfold join10 chop
    have e2 : (h :: (t.take 63 ++ chop 2 k (t.drop 63)) ++ z).drop 1 = t.take 63 ++ (chop 2 k (t.drop 63) ++ z) := by simp
    have e3 : (h :: (t.take 63 ++ chop 2 k (t.drop 63)) ++ z).drop 64 = chop 2 k (t.drop 63) ++ z := by
      rw [show (h :: (t.take 63 ++ chop 2 k (t.drop 63)) ++ z) = (h :: t.take 63) ++ (chop 2 k (t.drop 63) ++ z) by simp]
      rw [List.drop_append, List.drop_of_length_le (by rw [List.length_cons]; omega), List.nil_append, List.length_cons, e1, Nat.sub_self, List.drop_zero]
    rw [e2, e3, List.take_append_of_le_length (by omega), List.take_of_length_le (by omega), ih 2 (t.drop 63) (by rw [List.length_drop]; omega), List.take_append_drop]
theorem chop_at (h : UInt8) (k i : Nat) (t z : List UInt8) (ht : t.length = 63 * k) (hi : i < k) : (chop h k t ++ z).getD (64 * i) 0 = if i = 0 then h else 2 := by
  induction k generalizing h t i with
  | zero => omega
  | succ k ih =>
    unfold chop
    cases i with
    | zero => simp
    | succ i =>
      have e1 : (t.take 63).length = 63 := by rw [List.length_take]; omega
      have e2 := ih 2 i (t.drop 63) (by rw [List.length_drop]; omega) (by omega)
      rw [show (h :: (t.take 63 ++ chop 2 k (t.drop 63)) ++ z) = (h :: t.take 63) ++ (chop 2 k (t.drop 63) ++ z) by simp]
      rw [List.getD_eq_getElem?_getD, List.getElem?_append_right (by rw [List.length_cons]; omega), List.length_cons, e1, show 64 * (i + 1) - (63 + 1) = 64 * i by omega, ← List.getD_eq_getElem?_getD, e2, if_neg (show ¬ (i + 1 = 0) by omega), ite_self]
theorem chop_join (h : UInt8) (k : Nat) (r : List UInt8) (hl : 64 * k ≤ r.length) (h0 : 0 < k → r.getD 0 0 = h) (h1 : ∀ i, i < k → 1 ≤ i → r.getD (64 * i) 0 = 2) : chop h k (join10 k r) = r.take (64 * k) := by
  induction k generalizing h r with
  | zero => simp [chop]
  | succ k ih =>
    have e1 : ((r.drop 1).take 63).length = 63 := by rw [List.length_take, List.length_drop]; omega
    have e2 := ih 2 (r.drop 64) (by rw [List.length_drop]; omega) (fun hk => by
      have := h1 1 (by omega) (by omega)
      rw [List.getD_eq_getElem?_getD] at this ⊢
      rw [List.getElem?_drop]
      exact this) (fun i hi hi1 => by
      have := h1 (i + 1) (by omega) (by omega)
      rw [List.getD_eq_getElem?_getD] at this ⊢
      rw [List.getElem?_drop, show 64 + 64 * i = 64 * (i + 1) by omega]
      exact this)
    unfold join10 chop
    have e4 : ((r.drop 1).take 63 ++ join10 k (r.drop 64)).take 63 = (r.drop 1).take 63 := by
      rw [List.take_append_of_le_length (by omega), List.take_of_length_le (by omega)]
    have e5 : ((r.drop 1).take 63 ++ join10 k (r.drop 64)).drop 63 = join10 k (r.drop 64) := by
      rw [List.drop_append, List.drop_of_length_le (by omega), List.nil_append, e1, Nat.sub_self, List.drop_zero]
    rw [e4, e5, e2]
    have e3 : r = h :: r.drop 1 := by
      have := h0 (by omega)
      cases r with
      | nil => simp at hl
      | cons a r => simp at this; subst this; rfl
    rw [show 64 * (k + 1) = 1 + (63 + 64 * k) by omega, List.take_add, List.take_add, List.drop_drop]
    rw [show List.take 1 r = [h] by rw [e3]; rfl]
    rfl
theorem join_part (k j w : Nat) (r : List UInt8) (hk : 1 ≤ k) (hl : 64 * k ≤ r.length) (hj : j + w ≤ 63) : ((join10 k r).drop j).take w = (r.drop (j + 1)).take w := by
  obtain ⟨m, rfl⟩ : ∃ m, k = m + 1 := ⟨k - 1, by omega⟩
  have e1 : ((r.drop 1).take 63).length = 63 := by rw [List.length_take, List.length_drop]; omega
  unfold join10
  rw [List.drop_append_of_le_length (by omega), List.take_append_of_le_length (by rw [List.length_drop]; omega), List.drop_take, List.take_take, Nat.min_eq_left (by omega), List.drop_drop, Nat.add_comm 1 j]
theorem getD_one (r : List UInt8) : r.getD 1 0 = ((r.drop 1).take 8).getD 0 0 := by
  rw [List.getD_eq_getElem?_getD, List.getD_eq_getElem?_getD, List.getElem?_take_of_lt (by omega), List.getElem?_drop]
theorem wrong_none {ep sq : Int} {n : Nat} (h : wrong10 ep sq n = 0) : (1 ≤ ep ∧ ep ≤ 1000000000) ∧ (1 ≤ sq ∧ sq ≤ 1000000) ∧ n ≤ 3000 := by
  unfold wrong10 at h
  split at h
  · split at h
    · omega
    · omega
  · omega
/-- A frame is taken of its sectors, whatever stands behind. -/
theorem got_back (ep sq : Int) (b z : List UInt8) (h : wrong10 ep sq b.length = 0) : gotE (put10 ep sq b ++ z) = 0 ∧ (ep10 (put10 ep sq b ++ z) : Int) = ep ∧ (sq10 (put10 ep sq b ++ z) : Int) = sq ∧ n10 (put10 ep sq b ++ z) = b.length ∧ gotB (put10 ep sq b ++ z) = b := by
  obtain ⟨h1, h2, h3⟩ := wrong_none h
  obtain ⟨E, rfl⟩ : ∃ E : Nat, ep = E := ⟨ep.toNat, by omega⟩
  obtain ⟨Q, rfl⟩ : ∃ Q : Nat, sq = Q := ⟨sq.toNat, by omega⟩
  have hup := nsec_up b.length
  have hfl := full_len (E : Int) (Q : Int) b
  have hpl := put10_len (E : Int) (Q : Int) b
  obtain ⟨r, hr⟩ : ∃ r, put10 (E : Int) (Q : Int) b ++ z = r := ⟨_, rfl⟩
  obtain ⟨k, hk⟩ : ∃ k, nsec b.length = k := ⟨_, rfl⟩
  have hrl : 64 * k ≤ r.length := by rw [← hr, List.length_append, hpl, hk]; omega
  have hj : join10 k r = full10 (E : Int) (Q : Int) b := by
    rw [← hr, ← hk]
    exact join_chop 1 _ _ z hfl
  have h8 : (be 8 E).length = 8 := be_len 8 E
  have h4 : (be 4 Q).length = 4 := be_len 4 Q
  have h5 : (be 4 b.length).length = 4 := be_len 4 b.length
  have e0 : full10 (E : Int) (Q : Int) b = be 8 E ++ (be 4 Q ++ (be 4 b.length ++ (b ++ (fourL (ofN (head10 (E : Int) (Q : Int) b)) ++ List.replicate (63 * nsec b.length - (b.length + 20)) 0)))) := by
    unfold full10 sealL
    rw [show head10 (E : Int) (Q : Int) b ++ fourL (ofN (head10 (E : Int) (Q : Int) b)) = (be 8 E ++ (be 4 Q ++ (be 4 b.length ++ b))) ++ fourL (ofN (head10 (E : Int) (Q : Int) b)) from rfl]
    simp only [List.append_assoc]
  have p1 : (r.drop 1).take 8 = be 8 E := by
    have := join_part k 0 8 r (by omega) hrl (by omega)
    rw [hj, List.drop_zero] at this
    rw [← this, e0, List.take_append_of_le_length (by omega), List.take_of_length_le (by omega)]
  have p2 : (r.drop 9).take 4 = be 4 Q := by
    have := join_part k 8 4 r (by omega) hrl (by omega)
    rw [hj] at this
    rw [← this, e0, List.drop_append, List.drop_of_length_le (by omega), List.nil_append, h8, Nat.sub_self, List.drop_zero, List.take_append_of_le_length (by omega), List.take_of_length_le (by omega)]
  have p3 : (r.drop 13).take 4 = be 4 b.length := by
    have := join_part k 12 4 r (by omega) hrl (by omega)
    rw [hj] at this
    rw [← this, e0, List.drop_append, List.drop_of_length_le (by omega), List.nil_append, h8, List.drop_append, List.drop_of_length_le (by omega), List.nil_append, h4, show 12 - 8 - 4 = 0 by omega, List.drop_zero, List.take_append_of_le_length (by omega), List.take_of_length_le (by omega)]
  have q1 : ep10 r = E := by unfold ep10; rw [p1]; exact val_be 8 E (by omega)
  have q2 : sq10 r = Q := by unfold sq10; rw [p2]; exact val_be 4 Q (by omega)
  have q3 : n10 r = b.length := by unfold n10; rw [p3]; exact val_be 4 b.length (by omega)
  have q4 : r.getD 0 0 = 1 := by
    have := chop_at 1 k 0 (full10 (E : Int) (Q : Int) b) z (by rw [hfl, hk]) (by omega)
    rw [← hr]
    unfold put10
    rw [hk]
    exact this
  have q5 : ∀ i, i < k → 1 ≤ i → r.getD (64 * i) 0 = 2 := fun i hi h1 => by
    have := chop_at 1 k i (full10 (E : Int) (Q : Int) b) z (by rw [hfl, hk]) hi
    rw [if_neg (by omega)] at this
    rw [← hr]
    unfold put10
    rw [hk]
    exact this
  have q6 : (r.getD 1 0).toNat ≤ 127 := by
    rw [getD_one, p1]
    exact first_byte h8 (by rw [val_be 8 E (by omega)]; omega)
  have q7 : (join10 k r).take (b.length + 20) = sealL (head10 (E : Int) (Q : Int) b) := by
    rw [hj]
    unfold full10
    rw [List.take_append_of_le_length (by rw [seal_len10, head_len]; omega), List.take_of_length_le (by rw [seal_len10, head_len]; omega)]
  have q8 : (join10 k r).drop (b.length + 20) = List.replicate (63 * nsec b.length - (b.length + 20)) 0 := by
    rw [hj]
    unfold full10
    rw [List.drop_append, List.drop_of_length_le (by rw [seal_len10, head_len]; omega), List.nil_append, seal_len10, head_len, show b.length + 20 - (b.length + 16 + 4) = 0 by omega, List.drop_zero]
  have q9 : ((join10 k r).drop 16).take b.length = b := by
    rw [hj, e0, List.drop_append, List.drop_of_length_le (by omega), List.nil_append, h8, List.drop_append, List.drop_of_length_le (by omega), List.nil_append, h4, List.drop_append, List.drop_of_length_le (by omega), List.nil_append, h5, show 16 - 8 - 4 - 4 = 0 by omega, List.drop_zero, List.take_append_of_le_length (by omega), List.take_of_length_le (by omega)]
  rw [hr]
  refine ⟨?_, by rw [q1], by rw [q2], q3, ?_⟩
  · have q10 : rest10 r = List.replicate (63 * nsec b.length - (b.length + 20)) 0 := by unfold rest10; rw [q3, hk, q8, hk]
    unfold gotE
    rw [q1, q2, q3, hk, q7, q10, if_neg (by omega), if_neg (by rw [q4]; exact fun h => h rfl), if_neg (by omega), if_neg (by rw [h]; exact fun h => h rfl), if_neg (by omega), if_neg (by
      rintro ⟨i, hi, h1, h2⟩
      exact h2 (q5 i hi h1)), if_neg (by rw [(un_seal _).1]; exact fun h => h rfl), if_pos (fun c hc => (List.mem_replicate.1 hc).2)]
  · unfold gotB
    rw [q3, hk, q9]
theorem got_parts {r : List UInt8} (h : gotE r = 0) : r.length ≠ 0 ∧ r.getD 0 0 = 1 ∧ (r.getD 1 0).toNat ≤ 127 ∧ wrong10 (ep10 r) (sq10 r) (n10 r) = 0 ∧ 64 * nsec (n10 r) ≤ r.length ∧ (∀ i, i < nsec (n10 r) → 1 ≤ i → r.getD (64 * i) 0 = 2) ∧ unE ((join10 (nsec (n10 r)) r).take (n10 r + 20)) = 0 ∧ ∀ c ∈ rest10 r, c = 0 := by
  unfold gotE at h
  split at h
  · omega
  rename_i h1
  split at h
  · omega
  rename_i h2
  split at h
  · omega
  rename_i h3
  split at h
  · rename_i h4; exact absurd h h4
  rename_i h4
  split at h
  · omega
  rename_i h5
  split at h
  · omega
  rename_i h6
  split at h
  · rename_i h7; exact absurd h h7
  rename_i h7
  split at h
  · rename_i h8
    refine ⟨h1, Decidable.not_not.1 h2, by omega, Decidable.not_not.1 h4, by omega, fun i hi h1 => ?_, Decidable.not_not.1 h7, h8⟩
    by_cases q : r.getD (64 * i) 0 = 2
    · exact q
    · exact absurd ⟨i, hi, h1, q⟩ h6
  · omega
/-- What is taken is just that which was put. -/
theorem got_canon {r : List UInt8} (h : gotE r = 0) : put10 (ep10 r) (sq10 r) (gotB r) = r.take (64 * nsec (n10 r)) ∧ (gotB r).length = n10 r ∧ wrong10 (ep10 r) (sq10 r) (n10 r) = 0 ∧ 64 * nsec (n10 r) ≤ r.length := by
  obtain ⟨h1, h2, h3, h4, h5, h6, h7, h8⟩ := got_parts h
  have hup := nsec_up (n10 r)
  obtain ⟨k, hk⟩ : ∃ k, nsec (n10 r) = k := ⟨_, rfl⟩
  obtain ⟨n, hn⟩ : ∃ n, n10 r = n := ⟨_, rfl⟩
  rw [hk] at h5 h6 h7 hup
  unfold rest10 at h8
  rw [hk] at h8
  have hjl := join_len k r h5
  have hB : gotB r = ((join10 k r).drop 16).take n := by unfold gotB; rw [hk, hn]
  have hBl : (gotB r).length = n := by rw [hB, List.length_take, List.length_drop]; omega
  have c1 := join_part k 0 8 r (by omega) h5 (by omega)
  have c2 := join_part k 8 4 r (by omega) h5 (by omega)
  have c3 := join_part k 12 4 r (by omega) h5 (by omega)
  have hh : head10 (ep10 r) (sq10 r) (gotB r) = (join10 k r).take (n + 16) := by
    unfold head10
    rw [Int.toNat_natCast, Int.toNat_natCast, hBl]
    have a1 : be 8 (ep10 r) = ((join10 k r).drop 0).take 8 := by rw [c1]; exact be_val 8 _ (by rw [List.length_take, List.length_drop]; omega)
    have a2 : be 4 (sq10 r) = ((join10 k r).drop 8).take 4 := by rw [c2]; exact be_val 4 _ (by rw [List.length_take, List.length_drop]; omega)
    have a3 : be 4 n = ((join10 k r).drop 12).take 4 := by rw [c3, ← hn]; exact be_val 4 _ (by rw [List.length_take, List.length_drop]; omega)
    rw [a1, a2, a3, hB, List.drop_zero, show (join10 k r).drop 16 = ((join10 k r).drop 12).drop 4 by rw [List.drop_drop], ← List.take_add, show (join10 k r).drop 12 = ((join10 k r).drop 8).drop 4 by rw [List.drop_drop], ← List.take_add, ← List.take_add]
    congr 1
    omega
  have hs : sealL (head10 (ep10 r) (sq10 r) (gotB r)) = (join10 k r).take (n + 20) := by
    rw [hn] at h7
    have hf := un_fine h7
    rw [hf]
    congr 1
    rw [hh]
    unfold unL
    rw [if_pos h7, List.length_take, hjl, Nat.min_eq_left (by omega), List.take_take]
    congr 1
    omega
  have hF : full10 (ep10 r) (sq10 r) (gotB r) = join10 k r := by
    unfold full10
    rw [hs, hBl, ← hn, hk]
    have : List.replicate (63 * k - (n10 r + 20)) (0 : UInt8) = (join10 k r).drop (n10 r + 20) := by
      refine (List.eq_replicate_iff.2 ⟨?_, fun c hc => h8 c hc⟩).symm
      rw [List.length_drop, hjl]
    rw [this, List.take_append_drop]
  refine ⟨?_, by rw [hBl, hn], h4, by rw [hk]; exact h5⟩
  unfold put10
  rw [hBl, ← hn, hk, hF]
  exact chop_join 1 k r h5 (fun _ => h2) h6
/-- No sector of a frame but its first one begins a frame. -/
theorem got_apart (ep sq : Int) (b z : List UInt8) (i : Nat) (h1 : 1 ≤ i) (h2 : i < nsec b.length) : gotE ((put10 ep sq b ++ z).drop (64 * i)) = 5 := by
  have hfl := full_len ep sq b
  have hpl := put10_len ep sq b
  have hc := chop_at 1 (nsec b.length) i (full10 ep sq b) z hfl h2
  rw [if_neg (by omega)] at hc
  unfold gotE
  rw [if_neg (by rw [List.length_drop, List.length_append, hpl]; omega), if_pos]
  rw [List.getD_eq_getElem?_getD, List.getElem?_drop, Nat.add_zero, ← List.getD_eq_getElem?_getD]
  unfold put10
  rw [hc]
  decide
theorem got_nil : gotE [] = 4 := rfl
/-- What is scanned stands in just as many sectors. -/
theorem scan_sum (ep : Int) (f : Nat) (r : List UInt8) (m : Nat) : (scan10 ep f r m).2 = ((scan10 ep f r m).1.map fun b => nsec b.length).sum ∧ 64 * (scan10 ep f r m).2 ≤ r.length := by
  induction f generalizing r m with
  | zero => exact ⟨rfl, Nat.zero_le _⟩
  | succ f ih =>
    unfold scan10
    split
    · rename_i h
      obtain ⟨h1, h2, h3, h4⟩ := got_canon h.1
      obtain ⟨i1, i2⟩ := ih (r.drop (64 * nsec (n10 r))) (m + 1)
      rw [List.length_drop] at i2
      refine ⟨?_, by simp only; omega⟩
      simp only [List.map_cons, List.sum_cons]
      rw [h2, ← i1]
    · exact ⟨rfl, Nat.zero_le _⟩
theorem scan_once (ep : Int) (f : Nat) (m : Nat) (b : List UInt8) (h : wrong10 ep ((m : Int) + 1) b.length = 0) (hf : nsec b.length ≤ f) : scan10 ep f (put10 ep ((m : Int) + 1) b) m = ([b], nsec b.length) := by
  have hup := nsec_up b.length
  obtain ⟨g1, g2, g3, g4, g5⟩ := got_back ep ((m : Int) + 1) b [] h
  rw [List.append_nil] at g1 g2 g3 g4 g5
  obtain ⟨g, rfl⟩ : ∃ g, f = g + 1 := ⟨f - 1, by omega⟩
  conv => lhs; unfold scan10
  rw [if_pos ⟨g1, g2, by omega⟩, g4, g5, List.drop_of_length_le (Nat.le_of_eq (put10_len _ _ _))]
  have e : scan10 ep g [] (m + 1) = ([], 0) := by
    cases g with
    | zero => rfl
    | succ g => unfold scan10; rw [if_neg (fun h => by rw [got_nil] at h; omega)]
  rw [e]
  rfl
/-- With the frame of the next number more behind those that are scanned that is scanned, too. -/
theorem scan_grows (ep : Int) (f : Nat) (r : List UInt8) (m : Nat) (b : List UInt8) (f' : Nat) (hf : r.length ≤ 64 * f)
    (h : wrong10 ep ((m : Int) + (scan10 ep f r m).1.length + 1) b.length = 0) (hf' : (scan10 ep f r m).2 + nsec b.length ≤ f') :
    scan10 ep f' (r.take (64 * (scan10 ep f r m).2) ++ put10 ep ((m : Int) + (scan10 ep f r m).1.length + 1) b) m = ((scan10 ep f r m).1 ++ [b], (scan10 ep f r m).2 + nsec b.length) := by
  induction f generalizing r m f' with
  | zero =>
    have e : scan10 ep 0 r m = ([], 0) := rfl
    rw [e] at h hf' ⊢
    simp only [List.length_nil, Int.natCast_zero, Int.add_zero, Nat.mul_zero, List.take_zero, List.nil_append, Nat.zero_add] at h hf' ⊢
    exact scan_once ep f' m b h hf'
  | succ f ih =>
    by_cases hc : gotE r = 0 ∧ (ep10 r : Int) = ep ∧ sq10 r = m + 1
    · obtain ⟨h1, h2, h3, h4⟩ := got_canon hc.1
      have hup := nsec_up (n10 r)
      have e : scan10 ep (f + 1) r m = (gotB r :: (scan10 ep f (r.drop (64 * nsec (n10 r))) (m + 1)).1, nsec (n10 r) + (scan10 ep f (r.drop (64 * nsec (n10 r))) (m + 1)).2) := by
        conv => lhs; unfold scan10
        rw [if_pos hc]
      rw [e] at h hf' ⊢
      obtain ⟨R, hR⟩ : ∃ R, r.drop (64 * nsec (n10 r)) = R := ⟨_, rfl⟩
      rw [hR] at h hf' ⊢
      simp only at h hf' ⊢
      have hRl : R.length ≤ 64 * f := by rw [← hR, List.length_drop]; omega
      obtain ⟨g, rfl⟩ : ∃ g, f' = g + 1 := ⟨f' - 1, by omega⟩
      have hi := ih R (m + 1) g hRl (by
        rw [List.length_cons] at h
        rw [← h]
        congr 1
        omega) (by omega)
      have hsame : ((m + 1 : Nat) : Int) + ((scan10 ep f R (m + 1)).1.length : Int) + 1 = (m : Int) + ((gotB r :: (scan10 ep f R (m + 1)).1).length : Int) + 1 := by rw [List.length_cons]; omega
      rw [hsame] at hi
      generalize put10 ep ((m : Int) + ((gotB r :: (scan10 ep f R (m + 1)).1).length : Int) + 1) b = T at *
      have hsplit : r.take (64 * (nsec (n10 r) + (scan10 ep f R (m + 1)).2)) ++ T = put10 (ep10 r) (sq10 r) (gotB r) ++ (R.take (64 * (scan10 ep f R (m + 1)).2) ++ T) := by
        rw [h1, ← List.append_assoc, Nat.mul_add, List.take_add, hR]
      obtain ⟨g1, g2, g3, g4, g5⟩ := got_back (ep10 r) (sq10 r) (gotB r) (R.take (64 * (scan10 ep f R (m + 1)).2) ++ T) (by rw [h2]; exact h3)
      rw [hsplit]
      have e2 : (put10 (ep10 r) (sq10 r) (gotB r) ++ (R.take (64 * (scan10 ep f R (m + 1)).2) ++ T)).drop (64 * nsec (gotB r).length) = R.take (64 * (scan10 ep f R (m + 1)).2) ++ T := by
        rw [List.drop_append, List.drop_of_length_le (Nat.le_of_eq (put10_len _ _ _)), List.nil_append, put10_len, Nat.sub_self, List.drop_zero]
      conv => lhs; unfold scan10
      rw [if_pos ⟨g1, by rw [g2]; exact hc.2.1, by have := hc.2.2; omega⟩, g4, g5, e2, hi, h2]
      simp only [List.cons_append, Nat.add_assoc]
    · have e : scan10 ep (f + 1) r m = ([], 0) := by
        conv => lhs; unfold scan10
        rw [if_neg hc]
      rw [e] at h hf' ⊢
      simp only [List.length_nil, Int.natCast_zero, Int.add_zero, Nat.mul_zero, List.take_zero, List.nil_append, Nat.zero_add] at h hf' ⊢
      exact scan_once ep f' m b h hf'
end Go.Proofs.YtcbmecpeockdeaaGreatDoor
namespace Go.Proofs.YtcbmecpeockdeaaGreatDoor

/-- Behind some rounds of a scan: the bodies that were found, and the sector behind them. -/
def Sc (L : List UInt8) (ep : Int) (xs : List (List UInt8)) (at_ : Nat) : Prop :=
  (L.length % 64 ≠ 0 ∧ xs = [] ∧ at_ = 0) ∨
  (L.length % 64 = 0 ∧ 64 * at_ ≤ L.length ∧ xs.length ≤ at_ ∧ ∃ f, L.length - 64 * at_ ≤ 64 * f ∧
    scanV L ep = (xs ++ (scan10 ep f (L.drop (64 * at_)) xs.length).1, at_ + (scan10 ep f (L.drop (64 * at_)) xs.length).2))
theorem sc_start (L : List UInt8) (ep : Int) : Sc L ep [] 0 := by
  by_cases h : L.length % 64 = 0
  · refine Or.inr ⟨h, by omega, Nat.le_refl _, L.length / 64, by omega, ?_⟩
    unfold scanV
    rw [if_pos h]
    simp
  · exact Or.inl ⟨h, rfl, rfl⟩
theorem sc_len {L : List UInt8} {ep : Int} {xs : List (List UInt8)} {at_ : Nat} (h : Sc L ep xs at_) : xs.length ≤ at_ ∧ 64 * at_ ≤ L.length := by
  rcases h with ⟨_, rfl, rfl⟩ | ⟨_, h2, h3, _⟩
  · exact ⟨Nat.le_refl _, by omega⟩
  · exact ⟨h3, h2⟩
theorem scan10_stop {ep : Int} {f : Nat} {r : List UInt8} {m : Nat} (h : ¬ (gotE r = 0 ∧ (ep10 r : Int) = ep ∧ sq10 r = m + 1)) : scan10 ep f r m = ([], 0) := by
  cases f with
  | zero => rfl
  | succ f => unfold scan10; rw [if_neg h]
theorem get_in {L : List UInt8} {at_ : Nat} (h1 : L.length % 64 = 0) (h2 : 64 * at_ ≤ L.length) : getE10 L (at_ : Int) = gotE (L.drop (64 * at_)) := by
  unfold getE10
  rw [if_pos ⟨by omega, h1, by omega⟩, Int.toNat_natCast]
theorem sc_stop {L : List UInt8} {ep : Int} {xs : List (List UInt8)} {at_ : Nat} (h : Sc L ep xs at_)
    (hn : ¬ (getE10 L at_ = 0 ∧ getEp L at_ = ep ∧ getSq L at_ = (xs.length : Int) + 1)) : scanV L ep = (xs, at_) := by
  rcases h with ⟨h1, rfl, rfl⟩ | ⟨h1, h2, h3, f, _, h5⟩
  · unfold scanV; rw [if_neg h1]
  · rw [h5, scan10_stop, List.append_nil, Nat.add_zero]
    rintro ⟨g1, g2, g3⟩
    have e := get_in h1 h2
    apply hn
    rw [e]
    refine ⟨g1, ?_, ?_⟩
    · unfold getEp; rw [e, if_pos g1, Int.toNat_natCast]; exact g2
    · unfold getSq; rw [e, if_pos g1, Int.toNat_natCast]; omega
theorem sc_step {L : List UInt8} {ep : Int} {xs : List (List UInt8)} {at_ : Nat} (h : Sc L ep xs at_)
    (g1 : getE10 L at_ = 0) (g2 : getEp L at_ = ep) (g3 : getSq L at_ = (xs.length : Int) + 1) :
    ∃ to : Nat, getTo L at_ = to ∧ at_ < to ∧ 64 * to ≤ L.length ∧ Sc L ep (xs ++ [getB L at_]) to := by
  rcases h with ⟨h1, rfl, rfl⟩ | ⟨h1, h2, h3, f, h4, h5⟩
  · unfold getE10 at g1
    rw [if_neg (fun h => h1 h.2.1)] at g1
    omega
  · have e := get_in h1 h2
    unfold getEp at g2
    unfold getSq at g3
    rw [if_pos g1, Int.toNat_natCast] at g2 g3
    rw [e] at g1
    obtain ⟨c1, c2, c3, c4⟩ := got_canon g1
    have hup := nsec_up (n10 (L.drop (64 * at_)))
    have hto : getTo L at_ = ((at_ + nsec (n10 (L.drop (64 * at_))) : Nat) : Int) := by
      unfold getTo
      rw [e, if_pos g1, Int.toNat_natCast]
      omega
    have hb : getB L at_ = gotB (L.drop (64 * at_)) := by unfold getB; rw [e, if_pos g1, Int.toNat_natCast]
    rw [List.length_drop] at c4
    refine ⟨_, hto, by omega, by omega, ?_⟩
    rw [hb]
    obtain ⟨g, rfl⟩ : ∃ g, f = g + 1 := ⟨f - 1, by omega⟩
    refine Or.inr ⟨h1, by omega, by rw [List.length_append]; simp; omega, g, by omega, ?_⟩
    rw [h5]
    conv => lhs; unfold scan10
    rw [if_pos ⟨g1, g2, by omega⟩, List.drop_drop, List.length_append, List.append_assoc, ← Nat.mul_add]
    simp only [List.length_cons, List.length_nil, Nat.zero_add, List.cons_append, List.nil_append, Nat.add_assoc]
/-- What is scanned stands in just as many sectors. -/
theorem scanV_sum (L : List UInt8) (ep : Int) : (scanV L ep).2 = ((scanV L ep).1.map fun b => nsec b.length).sum ∧ 64 * (scanV L ep).2 ≤ L.length := by
  unfold scanV
  split
  · exact scan_sum ep _ L 0
  · exact ⟨rfl, Nat.zero_le _⟩
/-- With the frame of the next number more that is scanned, too. -/
theorem scanV_grows (L : List UInt8) (ep : Int) (b : List UInt8) (h : wrong10 ep (((scanV L ep).1.length : Int) + 1) b.length = 0) :
    scanV (L.take (64 * (scanV L ep).2) ++ put10 ep (((scanV L ep).1.length : Int) + 1) b) ep = ((scanV L ep).1 ++ [b], (scanV L ep).2 + nsec b.length) := by
  have hs := scanV_sum L ep
  have hl : (L.take (64 * (scanV L ep).2) ++ put10 ep (((scanV L ep).1.length : Int) + 1) b).length = 64 * ((scanV L ep).2 + nsec b.length) := by
    rw [List.length_append, List.length_take, put10_len, Nat.min_eq_left hs.2]; omega
  have e : ∀ M : List UInt8, M.length = 64 * ((scanV L ep).2 + nsec b.length) → scanV M ep = scan10 ep ((scanV L ep).2 + nsec b.length) M 0 := fun M hM => by
    unfold scanV at hM ⊢
    rw [if_pos (by omega), hM]
    congr 1
    omega
  rw [e _ hl]
  by_cases hw : L.length % 64 = 0
  · have e2 : scanV L ep = scan10 ep (L.length / 64) L 0 := by unfold scanV; rw [if_pos hw]
    rw [e2] at h ⊢
    have hz : ((0 : Nat) : Int) + ((scan10 ep (L.length / 64) L 0).1.length : Int) + 1 = ((scan10 ep (L.length / 64) L 0).1.length : Int) + 1 := by omega
    have hg := scan_grows ep (L.length / 64) L 0 b ((scan10 ep (L.length / 64) L 0).2 + nsec b.length) (by omega) (by rw [hz]; exact h) (Nat.le_refl _)
    rw [hz] at hg
    exact hg
  · have e2 : scanV L ep = ([], 0) := by unfold scanV; rw [if_neg hw]
    rw [e2] at h ⊢
    simp only [List.length_nil, Nat.mul_zero, List.take_zero, List.nil_append, Nat.zero_add] at h ⊢
    exact scan_once ep _ 0 b h (Nat.le_refl _)
theorem get_bad10 {L : List UInt8} {p : Int} (h : getE10 L p ≠ 0) : getEp L p = 0 ∧ getSq L p = 0 ∧ getB L p = [] ∧ getTo L p = 0 := by
  unfold getEp getSq getB getTo
  rw [if_neg h, if_neg h, if_neg h, if_neg h]
  exact ⟨rfl, rfl, rfl, rfl⟩
/-- What is taken of a place, and where it ends. -/
theorem get_fine10 {L : List UInt8} {p : Int} (h : getE10 L p = 0) : ∃ q n : Nat, p = q ∧ getTo L p = ((q + nsec n : Nat) : Int) ∧ (getB L p).length = n ∧ wrong10 (getEp L p) (getSq L p) n = 0 ∧ 64 * (q + nsec n) ≤ L.length ∧ put10 (getEp L p) (getSq L p) (getB L p) = (L.drop (64 * q)).take (64 * nsec n) := by
  have h0 := h
  unfold getE10 at h
  split at h
  · rename_i h1
    obtain ⟨c1, c2, c3, c4⟩ := got_canon h
    obtain ⟨q, rfl⟩ : ∃ q : Nat, p = q := ⟨p.toNat, by omega⟩
    rw [Int.toNat_natCast] at c1 c2 c3 c4 h
    rw [List.length_drop] at c4
    have hup := nsec_up (n10 (L.drop (64 * q)))
    refine ⟨q, n10 (L.drop (64 * q)), rfl, ?_, ?_, ?_, by omega, ?_⟩
    · unfold getTo; rw [if_pos h0, Int.toNat_natCast]; omega
    · unfold getB; rw [if_pos h0, Int.toNat_natCast]; exact c2
    · unfold getEp getSq; rw [if_pos h0, if_pos h0, Int.toNat_natCast]; exact c3
    · unfold getEp getSq getB; rw [if_pos h0, if_pos h0, if_pos h0, Int.toNat_natCast]; exact c1
  · omega
/-- A frame is taken of its sectors, whatever whole sectors stand ahead and behind. -/
theorem get_back10 (ep sq : Int) (b A Z : List UInt8) (k : Nat) (hA : A.length = 64 * k) (hZ : Z.length % 64 = 0) (h : wrong10 ep sq b.length = 0) :
    getE10 (A ++ (put10 ep sq b ++ Z)) k = 0 ∧ getEp (A ++ (put10 ep sq b ++ Z)) k = ep ∧ getSq (A ++ (put10 ep sq b ++ Z)) k = sq ∧ getB (A ++ (put10 ep sq b ++ Z)) k = b ∧ getTo (A ++ (put10 ep sq b ++ Z)) k = ((k + nsec b.length : Nat) : Int) := by
  have hp := put10_len ep sq b
  have hd : (A ++ (put10 ep sq b ++ Z)).drop (64 * k) = put10 ep sq b ++ Z := by rw [← hA, List.drop_left]
  obtain ⟨g1, g2, g3, g4, g5⟩ := got_back ep sq b Z h
  have e : getE10 (A ++ (put10 ep sq b ++ Z)) k = 0 := by
    rw [get_in (by rw [List.length_append, List.length_append]; omega) (by rw [List.length_append]; omega), hd]
    exact g1
  refine ⟨e, ?_, ?_, ?_, ?_⟩
  · unfold getEp; rw [if_pos e, Int.toNat_natCast, hd]; exact g2
  · unfold getSq; rw [if_pos e, Int.toNat_natCast, hd]; exact g3
  · unfold getB; rw [if_pos e, Int.toNat_natCast, hd]; exact g5
  · unfold getTo; rw [if_pos e, Int.toNat_natCast, hd, g4]; omega
/-- No sector of a frame but its first one begins a frame. -/
theorem get_apart10 (ep sq : Int) (b Z : List UInt8) (i : Nat) (h1 : 1 ≤ i) (h2 : i < nsec b.length) (hZ : Z.length % 64 = 0) : getE10 (put10 ep sq b ++ Z) i = 5 := by
  have hp := put10_len ep sq b
  rw [get_in (by rw [List.length_append]; omega) (by rw [List.length_append]; omega)]
  exact got_apart ep sq b Z i h1 h2
end Go.Proofs.YtcbmecpeockdeaaGreatDoor
namespace Go.Proofs.YtcbmecpeockdeaaGreatDoor

/-- Frames of one epoch, numbered from m + 1 on, one behind the other. -/
def framesL (ep : Int) : Nat → List (List UInt8) → List UInt8
  | _, [] => []
  | m, b :: l => put10 ep ((m : Int) + 1) b ++ framesL ep (m + 1) l
def sumN (l : List (List UInt8)) : Nat := (l.map fun b => nsec b.length).sum
theorem sumN_cons (b : List UInt8) (l : List (List UInt8)) : sumN (b :: l) = nsec b.length + sumN l := by unfold sumN; simp
theorem sumN_snoc (b : List UInt8) (l : List (List UInt8)) : sumN (l ++ [b]) = sumN l + nsec b.length := by unfold sumN; simp
theorem framesL_len (ep : Int) (m : Nat) (l : List (List UInt8)) : (framesL ep m l).length = 64 * sumN l := by
  induction l generalizing m with
  | nil => rfl
  | cons b l ih => rw [framesL, List.length_append, put10_len, ih, sumN_cons]; omega
theorem framesL_snoc (ep : Int) (m : Nat) (l : List (List UInt8)) (b : List UInt8) : framesL ep m (l ++ [b]) = framesL ep m l ++ put10 ep ((m : Int) + l.length + 1) b := by
  induction l generalizing m with
  | nil => simp [framesL]
  | cons c l ih =>
    rw [List.cons_append, framesL, framesL, ih, List.append_assoc, List.length_cons]
    congr 4
    omega
/-- All of them may be put. -/
def Puts (ep : Int) : Nat → List (List UInt8) → Prop
  | _, [] => True
  | m, b :: l => wrong10 ep ((m : Int) + 1) b.length = 0 ∧ Puts ep (m + 1) l
/-- No frame of the epoch and of the number m + 1 begins there. -/
def NoNext (ep : Int) (m : Nat) (Z : List UInt8) : Prop := ¬ (gotE Z = 0 ∧ (ep10 Z : Int) = ep ∧ sq10 Z = m + 1)
/-- What was put one behind the other is scanned, just that, if what lies behind goes on with none. -/
theorem scan_frames (ep : Int) (m : Nat) (l : List (List UInt8)) (Z : List UInt8) (f : Nat) (hp : Puts ep m l) (hf : sumN l ≤ f) (hz : NoNext ep (m + l.length) Z) :
    scan10 ep f (framesL ep m l ++ Z) m = (l, sumN l) := by
  induction l generalizing m f with
  | nil => rw [framesL, List.nil_append]; exact scan10_stop hz
  | cons b l ih =>
    obtain ⟨p1, p2⟩ := hp
    rw [sumN_cons] at hf ⊢
    have hup := nsec_up b.length
    obtain ⟨g, rfl⟩ : ∃ g, f = g + 1 := ⟨f - 1, by omega⟩
    rw [framesL, List.append_assoc]
    obtain ⟨g1, g2, g3, g4, g5⟩ := got_back ep ((m : Int) + 1) b (framesL ep (m + 1) l ++ Z) p1
    conv => lhs; unfold scan10
    rw [if_pos ⟨g1, g2, by omega⟩, g4, g5, List.drop_append, List.drop_of_length_le (Nat.le_of_eq (put10_len _ _ _)), List.nil_append, put10_len, Nat.sub_self, List.drop_zero]
    rw [ih (m + 1) g p2 (by omega) (by
      rw [List.length_cons] at hz
      rw [show m + 1 + l.length = m + (l.length + 1) by omega]
      exact hz)]
theorem scanV_frames (ep : Int) (l : List (List UInt8)) (Z : List UInt8) (hp : Puts ep 0 l) (hZ : Z.length % 64 = 0) (hz : NoNext ep l.length Z) :
    scanV (framesL ep 0 l ++ Z) ep = (l, sumN l) := by
  have hl := framesL_len ep 0 l
  unfold scanV
  rw [if_pos (by rw [List.length_append, hl]; omega)]
  refine scan_frames ep 0 l Z _ hp (by rw [List.length_append, hl]; omega) ?_
  rw [Nat.zero_add]
  exact hz
/-- Zeros begin no frame. -/
theorem zeros_none (n : Nat) : gotE (List.replicate n 0) ≠ 0 := by
  unfold gotE
  split
  · omega
  · rename_i h
    rw [List.length_replicate] at h
    rw [if_pos]
    · omega
    · cases n with
      | zero => exact absurd rfl h
      | succ n => rw [List.replicate_succ]; exact (by decide : (0 : UInt8) ≠ 1)
/-- What begins no sector with the byte 1 begins no frame. -/
theorem other_none {Z : List UInt8} (h : Z.getD 0 0 ≠ 1) : gotE Z ≠ 0 := by
  intro hg
  exact h (got_parts hg).2.1
/-- Of another epoch none is scanned. -/
theorem scanV_other (ep ep' : Int) (l : List (List UInt8)) (n : Nat) (hp : Puts ep 0 l) (he : ep' ≠ ep) : scanV (framesL ep 0 l ++ List.replicate (64 * n) 0) ep' = ([], 0) := by
  have hl := framesL_len ep 0 l
  unfold scanV
  rw [if_pos (by rw [List.length_append, hl, List.length_replicate]; omega)]
  apply scan10_stop
  cases l with
  | nil =>
    rw [framesL, List.nil_append]
    exact fun h => zeros_none _ h.1
  | cons b l =>
    rw [framesL, List.append_assoc]
    obtain ⟨g1, g2, _⟩ := got_back ep (((0 : Nat) : Int) + 1) b (framesL ep (0 + 1) l ++ List.replicate (64 * n) 0) hp.1
    exact fun h => he (h.2.1.symm.trans g2)
/-- What is taken of a place depends on the frame's own sectors alone. -/
theorem got_same {A B : List UInt8} (h : gotE A = 0) (hs : B.take (64 * nsec (n10 A)) = A.take (64 * nsec (n10 A))) : gotE B = 0 ∧ ep10 B = ep10 A ∧ sq10 B = sq10 A ∧ n10 B = n10 A ∧ gotB B = gotB A := by
  obtain ⟨c1, c2, c3, c4⟩ := got_canon h
  have hB : B = put10 (ep10 A) (sq10 A) (gotB A) ++ B.drop (64 * nsec (n10 A)) := by
    rw [c1, ← hs, List.take_append_drop]
  obtain ⟨g1, g2, g3, g4, g5⟩ := got_back (ep10 A) (sq10 A) (gotB A) (B.drop (64 * nsec (n10 A))) (by rw [c2]; exact c3)
  rw [← hB] at g1 g2 g3 g4 g5
  exact ⟨g1, by omega, by omega, by rw [g4, c2], g5⟩
end Go.Proofs.YtcbmecpeockdeaaGreatDoor
namespace Go.Proofs.YtcbmecpeockdeaaGreatDoor

/-- No sector from there on begins a frame of the epoch. -/
def NoEp (ep : Int) (O : List UInt8) : Prop := ∀ j, ¬ (gotE (O.drop (64 * j)) = 0 ∧ (ep10 (O.drop (64 * j)) : Int) = ep)
theorem NoEp.drop {ep : Int} {O : List UInt8} (h : NoEp ep O) (k : Nat) : NoEp ep (O.drop (64 * k)) := fun j => by
  rw [List.drop_drop, ← Nat.mul_add]
  exact h (k + j)
theorem NoEp.next {ep : Int} {O : List UInt8} (h : NoEp ep O) (m : Nat) : NoNext ep m O := fun hn => h 0 (by
  rw [Nat.mul_zero, List.drop_zero]
  exact ⟨hn.1, hn.2.1⟩)
/-- No epoch's frames but of others: what begins no frame at all. -/
theorem noep_zeros (ep : Int) (n : Nat) : NoEp ep (List.replicate n 0) := fun j h => by
  rw [List.drop_replicate] at h
  exact zeros_none _ h.1
/-- A frame of another epoch ahead. -/
theorem noep_put {ep ep' sq : Int} {b Z : List UInt8} (hw : wrong10 ep' sq b.length = 0) (he : ep' ≠ ep) (hz : NoEp ep Z) : NoEp ep (put10 ep' sq b ++ Z) := fun j h => by
  have hp := put10_len ep' sq b
  rcases (by omega : j = 0 ∨ (1 ≤ j ∧ j < nsec b.length) ∨ nsec b.length ≤ j) with q | q | q
  · subst q
    rw [Nat.mul_zero, List.drop_zero] at h
    exact he ((got_back ep' sq b Z hw).2.1.symm.trans h.2)
  · exact absurd h.1 (by rw [got_apart ep' sq b Z j q.1 q.2]; omega)
  · have e : (put10 ep' sq b ++ Z).drop (64 * j) = Z.drop (64 * (j - nsec b.length)) := by
      rw [List.drop_append, List.drop_of_length_le (by omega), List.nil_append, hp, ← Nat.mul_sub]
    rw [e] at h
    exact hz _ h
/-- Zeros ahead, by whole sectors. -/
theorem noep_pad {ep : Int} {Z : List UInt8} (n : Nat) (hz : NoEp ep Z) : NoEp ep (List.replicate (64 * n) 0 ++ Z) := fun j h => by
  by_cases q : n ≤ j
  · have e : (List.replicate (64 * n) (0 : UInt8) ++ Z).drop (64 * j) = Z.drop (64 * (j - n)) := by
      rw [List.drop_append, List.drop_of_length_le (by rw [List.length_replicate]; omega), List.nil_append, List.length_replicate, ← Nat.mul_sub]
    rw [e] at h
    exact hz _ h
  · refine other_none ?_ h.1
    rw [List.drop_append_of_le_length (by rw [List.length_replicate]; omega), List.drop_replicate]
    obtain ⟨k, hk⟩ : ∃ k, 64 * n - 64 * j = k + 1 := ⟨64 * n - 64 * j - 1, by omega⟩
    rw [hk, List.replicate_succ]
    exact (by decide : (0 : UInt8) ≠ 1)
/-- Is what begins at a sector a frame that is neither what was there nor what is written? -/
def Mixed (left was now : List UInt8) (a : Nat) : Prop :=
  getE10 left a = 0 ∧ (left.drop (64 * a)).take (64 * (nsec (n10 (left.drop (64 * a))))) ≠ (was.drop (64 * a)).take (64 * (nsec (n10 (left.drop (64 * a))))) ∧
    (left.drop (64 * a)).take (64 * (nsec (n10 (left.drop (64 * a))))) ≠ (now.drop (64 * a)).take (64 * (nsec (n10 (left.drop (64 * a)))))
/-- What is scanned of what is left: the frames ahead, and the new one or not; the new one where it was written as a whole. -/
theorem falls_scan (ep : Int) (l : List (List UInt8)) (b O X : List UInt8) (hp : Puts ep 0 (l ++ [b])) (hO : NoEp ep O) (h64 : O.length % 64 = 0) (hk : 64 * nsec b.length ≤ O.length) (hX : X.length = 64 * nsec b.length)
    (hm : ¬ Mixed (framesL ep 0 l ++ (X ++ O.drop (64 * nsec b.length))) (framesL ep 0 l ++ O) (framesL ep 0 l ++ (put10 ep ((l.length : Int) + 1) b ++ O.drop (64 * nsec b.length))) (sumN l)) :
    scanV (framesL ep 0 l ++ (X ++ O.drop (64 * nsec b.length))) ep = (l, sumN l) ∨ scanV (framesL ep 0 l ++ (X ++ O.drop (64 * nsec b.length))) ep = (l ++ [b], sumN (l ++ [b])) := by
  have hfl := framesL_len ep 0 l
  have puts_left : ∀ (m : Nat) (xs : List (List UInt8)), Puts ep m (xs ++ [b]) → Puts ep m xs ∧ wrong10 ep ((m : Int) + xs.length + 1) b.length = 0 := by
    intro m xs
    induction xs generalizing m with
    | nil => intro h; exact ⟨trivial, by simpa using h.1⟩
    | cons x xs ih =>
      intro h
      obtain ⟨i1, i2⟩ := ih (m + 1) h.2
      refine ⟨⟨h.1, i1⟩, ?_⟩
      rw [← i2, List.length_cons]
      congr 1
      omega
  obtain ⟨hp1, hp2⟩ := puts_left 0 l hp
  rw [show ((0 : Nat) : Int) + (l.length : Int) + 1 = (l.length : Int) + 1 by omega] at hp2
  obtain ⟨O', hO'⟩ : ∃ O', O.drop (64 * nsec b.length) = O' := ⟨_, rfl⟩
  have hO2 : NoEp ep O' := by rw [← hO']; exact hO.drop _
  have hOl : O'.length = O.length - 64 * nsec b.length := by rw [← hO', List.length_drop]
  rw [hO'] at hm ⊢
  have hd : ∀ Z : List UInt8, (framesL ep 0 l ++ Z).drop (64 * sumN l) = Z := fun Z => by rw [← hfl, List.drop_left]
  by_cases hn : gotE (X ++ O') = 0 ∧ (ep10 (X ++ O') : Int) = ep ∧ sq10 (X ++ O') = l.length + 1
  · right
    have hge : getE10 (framesL ep 0 l ++ (X ++ O')) (sumN l : Nat) = 0 := by
      rw [get_in (by rw [List.length_append, List.length_append, hfl]; omega) (by rw [List.length_append, hfl]; omega), hd]
      exact hn.1
    unfold Mixed at hm
    rw [hd, hd, hd] at hm
    obtain ⟨k, hkk⟩ : ∃ k, nsec (n10 (X ++ O')) = k := ⟨_, rfl⟩
    rw [hkk] at hm
    by_cases h1 : (X ++ O').take (64 * k) = O.take (64 * k)
    · obtain ⟨s1, s2, _⟩ := got_same (A := X ++ O') (B := O) hn.1 (by rw [hkk]; exact h1.symm)
      exact absurd ⟨by rw [Nat.mul_zero, List.drop_zero]; exact s1, by rw [Nat.mul_zero, List.drop_zero, s2]; exact hn.2.1⟩ (hO 0)
    by_cases h2 : (X ++ O').take (64 * k) = (put10 ep ((l.length : Int) + 1) b ++ O').take (64 * k)
    · obtain ⟨s1, s2, s3, s4, s5⟩ := got_same (A := X ++ O') (B := put10 ep ((l.length : Int) + 1) b ++ O') hn.1 (by rw [hkk]; exact h2.symm)
      obtain ⟨_, _, _, g4, _⟩ := got_back ep ((l.length : Int) + 1) b O' hp2
      have hkb : k = nsec b.length := by rw [← hkk, ← s4, g4]
      have hXP : X = put10 ep ((l.length : Int) + 1) b := by
        have e1 : (X ++ O').take (64 * k) = X := by rw [hkb, ← hX, List.take_left]
        have e2 : (put10 ep ((l.length : Int) + 1) b ++ O').take (64 * k) = put10 ep ((l.length : Int) + 1) b := by rw [hkb, ← put10_len ep ((l.length : Int) + 1) b, List.take_left]
        rw [e1, e2] at h2
        exact h2
      have e3 : framesL ep 0 l ++ (X ++ O') = framesL ep 0 (l ++ [b]) ++ O' := by
        rw [hXP, framesL_snoc, List.append_assoc]
        congr 3
        omega
      rw [e3]
      exact scanV_frames ep (l ++ [b]) O' hp (by omega) (hO2.next _)
    · exact absurd ⟨hge, h1, h2⟩ hm
  · left
    exact scanV_frames ep l (X ++ O') hp1 (by rw [List.length_append]; omega) hn
end Go.Proofs.YtcbmecpeockdeaaGreatDoor
namespace Go.Proofs.YtcbmecpeockdeaaGreatDoor

/-- A sector: what it has, what is safe of it, whether it is loose. -/
structure Sec where
  now : ByteArray
  safe : ByteArray
  loose : Bool
/-- A device: its sectors, the ops, the armed one (0: none), whether the power is off. -/
structure Dv where
  cells : List Sec
  ops : Int
  armed : Int
  dead : Bool
def zero64 : ByteArray := ⟨Array.replicate 64 0⟩
def sec0 : Sec := ⟨zero64, zero64, false⟩
def Dv.new (n : Nat) : Dv := ⟨List.replicate n sec0, 0, 0, false⟩
/-- Each sector has 64 bytes, and is safe of 64. -/
def Dv.Fit (d : Dv) : Prop := ∀ c ∈ d.cells, c.now.size = 64 ∧ c.safe.size = 64
/-- One op is counted; was it the armed one? -/
def Dv.count (d : Dv) : Dv := ⟨d.cells, d.ops + 1, if 0 < d.armed then d.armed - 1 else d.armed, if d.armed = 1 then true else d.dead⟩
def Dv.hit (d : Dv) : Bool := decide (d.armed = 1)
/-- The i-th sector of a text. -/
def secOf (t : ByteArray) (i : Nat) : ByteArray := t.extract (64 * i) (64 * i + 64)
/-- The sectors behind as many writings from a place on. -/
def wrote (l : List Sec) (p : Nat) (t : ByteArray) (i : Nat) : List Sec := l.mapIdx fun k c => if p ≤ k ∧ k < p + i then ⟨secOf t (k - p), c.safe, true⟩ else c
/-- How many sectors of n are written ahead of, and with, the armed one. -/
def Dv.reach (d : Dv) (n : Nat) : Nat := if 1 ≤ d.armed ∧ d.armed ≤ n then d.armed.toNat else n
def Dv.falls (d : Dv) (n : Nat) : Bool := decide (1 ≤ d.armed ∧ d.armed ≤ n)
/-- The device behind i sectors written. -/
def Dv.wrote (d : Dv) (p : Nat) (t : ByteArray) (i : Nat) : Dv := ⟨Go.Proofs.YtcbmecpeockdeaaGreatDoor.wrote d.cells p t i, d.ops + i, if 0 < d.armed then d.armed - i else d.armed, if 0 < d.armed ∧ d.armed ≤ i then true else d.dead⟩
def Dv.writeE (d : Dv) (p : Int) (t : ByteArray) : Int :=
  if d.dead = true then 20 else if t.size = 0 ∨ t.size % 64 ≠ 0 then 2 else if 0 ≤ p ∧ p + (t.size / 64 : Nat) ≤ d.cells.length then (if d.falls (t.size / 64) = true then 20 else 0) else 21
def Dv.writable (d : Dv) (p : Int) (t : ByteArray) : Bool := decide (d.dead = false ∧ t.size ≠ 0 ∧ t.size % 64 = 0 ∧ 0 ≤ p ∧ p + (t.size / 64 : Nat) ≤ d.cells.length)
def Dv.write (d : Dv) (p : Int) (t : ByteArray) : Dv := if d.writable p t = true then d.wrote p.toNat t (d.reach (t.size / 64)) else d
def cat : List ByteArray → ByteArray
  | [] => ⟨#[]⟩
  | a :: l => a ++ cat l
def Dv.readE (d : Dv) (p n : Int) : Int := if d.dead = true then 20 else if n < 1 then 2 else if 0 ≤ p ∧ p + n ≤ d.cells.length then 0 else 21
def Dv.readT (d : Dv) (p n : Int) : ByteArray := if d.readE p n = 0 then cat (((d.cells.drop p.toNat).take n.toNat).map Sec.now) else ⟨#[]⟩
def Dv.flushE (d : Dv) : Int := if d.dead = true then 20 else if d.hit = true then 20 else 0
def flushed (l : List Sec) : List Sec := l.map fun c => ⟨c.now, c.now, false⟩
def Dv.flush (d : Dv) : Dv := if d.dead = true then d else if d.hit = true then d.count else { d.count with cells := flushed d.cells }
def Dv.loose (d : Dv) : List Int := if d.dead = true then [] else ((List.range d.cells.length).filter fun k => (d.cells.getD k sec0).loose).map fun (k : Nat) => (k : Int)
def Dv.armE (d : Dv) (n : Int) : Int := if d.dead = true then 20 else if n < 1 then 2 else 0
def Dv.arm (d : Dv) (n : Int) : Dv := if d.armE n = 0 then { d with armed := n } else d
def Dv.off (d : Dv) : Dv := { d with dead := true, armed := 0 }
/-- How many bytes of a torn sector are written. -/
def cutAt (c : Int) : Nat := if c < 0 then 0 else if 64 < c then 64 else c.toNat
/-- What is left of the loose sector of a number. -/
def leftOf (c : Sec) (k : Nat) (keep : List Bool) (torn cut : Int) : ByteArray :=
  if (k : Int) = torn then c.now.extract 0 (cutAt cut) ++ c.safe.extract (cutAt cut) c.safe.size else if keep.getD k false = true then c.now else c.safe
/-- How many of the first k sectors are loose. -/
def looseTo (l : List Sec) (k : Nat) : Nat := (l.take k).countP Sec.loose
def booted (l : List Sec) (keep : List Bool) (torn cut : Int) (i : Nat) : List Sec := l.mapIdx fun k c => if k < i ∧ c.loose = true then ⟨leftOf c (looseTo l k) keep torn cut, leftOf c (looseTo l k) keep torn cut, false⟩ else c
def Dv.boot (d : Dv) (keep : List Bool) (torn cut : Int) : Dv := ⟨booted d.cells keep torn cut d.cells.length, d.ops, 0, false⟩

theorem wrote_len (l : List Sec) (p : Nat) (t : ByteArray) (i : Nat) : (wrote l p t i).length = l.length := by simp [wrote]
theorem booted_len (l : List Sec) (keep : List Bool) (torn cut : Int) (i : Nat) : (booted l keep torn cut i).length = l.length := by simp [booted]
theorem wrote_none (l : List Sec) (p : Nat) (t : ByteArray) : wrote l p t 0 = l := by
  refine List.ext_getElem (by simp [wrote]) fun k h1 h2 => ?_
  simp only [wrote, List.getElem_mapIdx]
  rw [if_neg (by omega)]
/-- One sector more. -/
theorem wrote_more (l : List Sec) (p : Nat) (t : ByteArray) (i : Nat) (h : p + i < l.length) : wrote l p t (i + 1) = (wrote l p t i).set (p + i) ⟨secOf t i, (l[p + i]).safe, true⟩ := by
  refine List.ext_getElem (by simp [wrote]) fun k h1 h2 => ?_
  have hk : k < l.length := by rw [wrote_len] at h1; exact h1
  rw [List.getElem_set]
  simp only [wrote, List.getElem_mapIdx]
  by_cases e : p + i = k
  · subst e
    rw [if_pos (by omega), if_pos rfl, show p + i - p = i by omega]
  · rw [if_neg e]
    by_cases g : p ≤ k ∧ k < p + i
    · rw [if_pos g, if_pos (by omega)]
    · rw [if_neg g, if_neg (by omega)]
theorem wrote_at (l : List Sec) (p : Nat) (t : ByteArray) (i k : Nat) (h : k < l.length) (hk : p + i ≤ k) : (wrote l p t i)[k]'(by rw [wrote_len]; exact h) = l[k] := by
  simp only [wrote, List.getElem_mapIdx]
  rw [if_neg (by omega)]
theorem booted_none (l : List Sec) (keep : List Bool) (torn cut : Int) : booted l keep torn cut 0 = l := by
  refine List.ext_getElem (by simp [booted]) fun k h1 h2 => ?_
  simp only [booted, List.getElem_mapIdx]
  rw [if_neg (by omega)]
theorem booted_at (l : List Sec) (keep : List Bool) (torn cut : Int) (i k : Nat) (h : k < l.length) (hk : i ≤ k) : (booted l keep torn cut i)[k]'(by rw [booted_len]; exact h) = l[k] := by
  simp only [booted, List.getElem_mapIdx]
  rw [if_neg (by omega)]
theorem booted_stay (l : List Sec) (keep : List Bool) (torn cut : Int) (i : Nat) (h : i < l.length) (hl : l[i].loose = false) : booted l keep torn cut (i + 1) = booted l keep torn cut i := by
  refine List.ext_getElem (by simp [booted]) fun k h1 h2 => ?_
  simp only [booted, List.getElem_mapIdx]
  have hkl : k < l.length := by rw [booted_len] at h1; exact h1
  by_cases e : k = i
  · subst e; rw [if_neg (by rw [hl]; simp), if_neg (by omega)]
  · by_cases g : k < i ∧ l[k].loose = true
    · rw [if_pos g, if_pos ⟨by omega, g.2⟩]
    · rw [if_neg g, if_neg (by rintro ⟨h3, h4⟩; exact g ⟨by omega, h4⟩)]
theorem booted_more (l : List Sec) (keep : List Bool) (torn cut : Int) (i : Nat) (h : i < l.length) (hl : l[i].loose = true) :
    booted l keep torn cut (i + 1) = (booted l keep torn cut i).set i ⟨leftOf l[i] (looseTo l i) keep torn cut, leftOf l[i] (looseTo l i) keep torn cut, false⟩ := by
  refine List.ext_getElem (by simp [booted]) fun k h1 h2 => ?_
  rw [List.getElem_set]
  simp only [booted, List.getElem_mapIdx]
  have hkl : k < l.length := by rw [booted_len] at h1; exact h1
  by_cases e : i = k
  · subst e; rw [if_pos ⟨by omega, hl⟩, if_pos rfl]
  · rw [if_neg e]
    by_cases g : k < i ∧ l[k].loose = true
    · rw [if_pos g, if_pos ⟨by omega, g.2⟩]
    · rw [if_neg g, if_neg (by rintro ⟨h3, h4⟩; exact g ⟨by omega, h4⟩)]
theorem loose_more (l : List Sec) (i : Nat) (h : i < l.length) : looseTo l (i + 1) = looseTo l i + if l[i].loose = true then 1 else 0 := by
  unfold looseTo
  rw [List.take_succ_eq_append_getElem h, List.countP_append]
  simp [List.countP_cons]
theorem sec_size (t : ByteArray) (i n : Nat) (h : t.size = 64 * n) (hi : i < n) : (secOf t i).size = 64 := by
  unfold secOf
  rw [ByteArray.size_extract]
  omega
theorem cut_le (c : Int) : cutAt c ≤ 64 := by unfold cutAt; split; omega; split <;> omega
theorem left_size (c : Sec) (k : Nat) (keep : List Bool) (torn cut : Int) (h : c.now.size = 64 ∧ c.safe.size = 64) : (leftOf c k keep torn cut).size = 64 := by
  have := cut_le cut
  unfold leftOf
  split
  · rw [ByteArray.size_append, ByteArray.size_extract, ByteArray.size_extract, h.1, h.2]; omega
  · split
    · exact h.1
    · exact h.2
theorem zero_size : zero64.size = 64 := rfl
theorem Dv.Fit.new (n : Nat) : (Dv.new n).Fit := by
  intro c hc
  have := (List.mem_replicate.1 hc).2
  subst this
  exact ⟨rfl, rfl⟩
theorem fit_wrote {l : List Sec} (h : ∀ c ∈ l, c.now.size = 64 ∧ c.safe.size = 64) (p : Nat) (t : ByteArray) (i n : Nat) (ht : t.size = 64 * n) (hi : i ≤ n) : ∀ c ∈ wrote l p t i, c.now.size = 64 ∧ c.safe.size = 64 := by
  intro c hc
  obtain ⟨k, hk, rfl⟩ := List.getElem_of_mem hc
  have hk' : k < l.length := by rw [wrote_len] at hk; exact hk
  have h1 := h l[k] (List.getElem_mem hk')
  simp only [wrote, List.getElem_mapIdx]
  split
  · exact ⟨sec_size t (k - p) n ht (by omega), h1.2⟩
  · exact h1
theorem fit_booted {l : List Sec} (h : ∀ c ∈ l, c.now.size = 64 ∧ c.safe.size = 64) (keep : List Bool) (torn cut : Int) (i : Nat) : ∀ c ∈ booted l keep torn cut i, c.now.size = 64 ∧ c.safe.size = 64 := by
  intro c hc
  obtain ⟨k, hk, rfl⟩ := List.getElem_of_mem hc
  have hk' : k < l.length := by rw [booted_len] at hk; exact hk
  have h1 := h l[k] (List.getElem_mem hk')
  simp only [booted, List.getElem_mapIdx]
  split
  · exact ⟨left_size _ _ _ _ _ h1, left_size _ _ _ _ _ h1⟩
  · exact h1
theorem fit_flushed {l : List Sec} (h : ∀ c ∈ l, c.now.size = 64 ∧ c.safe.size = 64) : ∀ c ∈ flushed l, c.now.size = 64 ∧ c.safe.size = 64 := by
  intro c hc
  obtain ⟨x, hx, rfl⟩ := List.mem_map.1 hc
  exact ⟨(h x hx).1, (h x hx).1⟩
theorem writable_iff (d : Dv) (p : Int) (t : ByteArray) : d.writable p t = true ↔ d.dead = false ∧ t.size ≠ 0 ∧ t.size % 64 = 0 ∧ 0 ≤ p ∧ p + (t.size / 64 : Nat) ≤ d.cells.length := by unfold Dv.writable; exact decide_eq_true_iff
theorem reach_le (d : Dv) (n : Nat) : d.reach n ≤ n := by unfold Dv.reach; split <;> omega
theorem Dv.Fit.write {d : Dv} (h : d.Fit) (p : Int) (t : ByteArray) : (d.write p t).Fit := by
  unfold Dv.write
  split
  · rename_i hw
    obtain ⟨_, h1, h2, _, _⟩ := (writable_iff d p t).1 hw
    exact fit_wrote h _ t _ (t.size / 64) (by omega) (reach_le d _)
  · exact h
theorem Dv.Fit.flush {d : Dv} (h : d.Fit) : d.flush.Fit := by
  unfold Dv.flush
  split
  · exact h
  · split
    · exact h
    · exact fit_flushed h
theorem Dv.Fit.boot {d : Dv} (h : d.Fit) (keep : List Bool) (torn cut : Int) : (d.boot keep torn cut).Fit := fit_booted h keep torn cut _
theorem Dv.Fit.arm {d : Dv} (h : d.Fit) (n : Int) : (d.arm n).Fit := by unfold Dv.arm; split <;> exact h
theorem Dv.Fit.off {d : Dv} (h : d.Fit) : d.off.Fit := h
end Go.Proofs.YtcbmecpeockdeaaGreatDoor
namespace Go.Proofs.YtcbmecpeockdeaaGreatDoor

/-- The bytes of sectors, one behind the other. -/
def bytesOf (N : List ByteArray) : List UInt8 := (N.map fun c => c.data.toList).flatten
def Dv.bytes (d : Dv) : List UInt8 := bytesOf (d.cells.map Sec.now)
theorem bytesOf_append (M N : List ByteArray) : bytesOf (M ++ N) = bytesOf M ++ bytesOf N := by unfold bytesOf; simp
theorem bytesOf_len {N : List ByteArray} (h : ∀ c ∈ N, c.size = 64) : (bytesOf N).length = 64 * N.length := by
  induction N with
  | nil => rfl
  | cons c N ih =>
    have h1 := h c (by simp)
    have h2 := ih fun x hx => h x (by simp [hx])
    have h3 : c.data.toList.length = c.size := by simp
    unfold bytesOf at h2 ⊢
    rw [List.map_cons, List.flatten_cons, List.length_append, h2, List.length_cons]
    omega
theorem bytesOf_take {N : List ByteArray} (h : ∀ c ∈ N, c.size = 64) (p : Nat) (hp : p ≤ N.length) : bytesOf (N.take p) = (bytesOf N).take (64 * p) := by
  have h1 : N = N.take p ++ N.drop p := (List.take_append_drop p N).symm
  have h2 : (bytesOf (N.take p)).length = 64 * p := by
    rw [bytesOf_len fun c hc => h c (List.mem_of_mem_take hc), List.length_take, Nat.min_eq_left hp]
  conv => rhs; rw [h1]
  rw [bytesOf_append, ← h2, List.take_left]
theorem bytesOf_drop {N : List ByteArray} (h : ∀ c ∈ N, c.size = 64) (p : Nat) (hp : p ≤ N.length) : bytesOf (N.drop p) = (bytesOf N).drop (64 * p) := by
  have h1 : N = N.take p ++ N.drop p := (List.take_append_drop p N).symm
  have h2 : (bytesOf (N.take p)).length = 64 * p := by
    rw [bytesOf_len fun c hc => h c (List.mem_of_mem_take hc), List.length_take, Nat.min_eq_left hp]
  conv => rhs; rw [h1]
  rw [bytesOf_append, ← h2, List.drop_left]
/-- What is other only between two places. -/
theorem bytesOf_between {N M : List ByteArray} (hN : ∀ c ∈ N, c.size = 64) (hM : ∀ c ∈ M, c.size = 64) (hl : M.length = N.length) (p k : Nat) (hp : p + k ≤ N.length)
    (ho : ∀ j, j < N.length → j < p ∨ p + k ≤ j → M[j]? = N[j]?) : ∃ X, X.length = 64 * k ∧ X = bytesOf ((M.drop p).take k) ∧ bytesOf M = (bytesOf N).take (64 * p) ++ (X ++ (bytesOf N).drop (64 * (p + k))) := by
  have e1 : M.take p = N.take p := by
    refine List.ext_getElem? fun j => ?_
    by_cases hj : j < p
    · rw [List.getElem?_take_of_lt hj, List.getElem?_take_of_lt hj]
      exact ho j (by omega) (Or.inl hj)
    · rw [List.getElem?_eq_none (by rw [List.length_take]; omega), List.getElem?_eq_none (by rw [List.length_take]; omega)]
  have e2 : M.drop (p + k) = N.drop (p + k) := by
    refine List.ext_getElem? fun j => ?_
    rw [List.getElem?_drop, List.getElem?_drop]
    by_cases hj : p + k + j < N.length
    · exact ho _ hj (Or.inr (by omega))
    · rw [List.getElem?_eq_none (by omega), List.getElem?_eq_none (by omega)]
  have e3 : M = M.take p ++ ((M.drop p).take k ++ M.drop (p + k)) := by
    rw [← List.drop_drop, List.take_append_drop, List.take_append_drop]
  refine ⟨bytesOf ((M.drop p).take k), ?_, rfl, ?_⟩
  · rw [bytesOf_len fun c hc => hM c (List.mem_of_mem_drop (List.mem_of_mem_take hc)), List.length_take, List.length_drop, Nat.min_eq_left (by omega)]
  · conv => lhs; rw [e3]
    rw [bytesOf_append, bytesOf_append, e1, e2, bytesOf_take hN p (by omega), bytesOf_drop hN (p + k) hp]
/-- Power on, nothing armed, nothing loose: so many sectors, and their bytes. -/
structure Still (d : Dv) (n : Nat) (C : List UInt8) : Prop where
  len : d.cells.length = n
  fit : d.Fit
  on : d.dead = false
  arm : d.armed = 0
  safe : ∀ c ∈ d.cells, c.safe = c.now ∧ c.loose = false
  bytes : d.bytes = C
theorem Still.clen {d : Dv} {n : Nat} {C : List UInt8} (h : Still d n C) : C.length = 64 * n := by
  rw [← h.bytes]
  unfold Dv.bytes
  rw [bytesOf_len fun c hc => by
    obtain ⟨x, hx, rfl⟩ := List.mem_map.1 hc
    exact (h.fit x hx).1, List.length_map, h.len]
theorem still_new (n : Nat) : Still (Dv.new n) n (List.replicate (64 * n) 0) := by
  refine ⟨by simp [Dv.new], Dv.Fit.new n, rfl, rfl, ?_, ?_⟩
  · intro c hc
    obtain rfl := (List.mem_replicate.1 hc).2
    exact ⟨rfl, rfl⟩
  · unfold Dv.bytes Dv.new bytesOf
    rw [List.map_replicate, List.map_replicate]
    induction n with
    | zero => rfl
    | succ n ih =>
      rw [List.replicate_succ, List.flatten_cons, ih, show (sec0.now).data.toList = List.replicate 64 0 by unfold sec0 zero64; simp, List.replicate_append_replicate]
      congr 1
      omega
theorem secOf_list (t : ByteArray) (k : Nat) : (secOf t k).data.toList = (t.data.toList.drop (64 * k)).take 64 := by
  unfold secOf
  rw [ByteArray.data_extract, Array.toList_extract, List.extract_eq_take_drop]
  congr 1
  omega
theorem bytesOf_secs (t : ByteArray) (k : Nat) (h : 64 * k ≤ t.size) : bytesOf ((List.range k).map (secOf t)) = t.data.toList.take (64 * k) := by
  induction k with
  | zero => simp [bytesOf]
  | succ k ih =>
    rw [List.range_succ, List.map_append, bytesOf_append, ih (by omega), Nat.mul_add, List.take_add]
    congr 1
    show ([secOf t k].map fun c => c.data.toList).flatten = _
    rw [List.map_singleton, List.flatten_singleton, secOf_list]
/-- The middle of what is written. -/
theorem wrote_mid (l : List Sec) (p : Nat) (t : ByteArray) (k : Nat) (h : p + k ≤ l.length) : (((wrote l p t k).map Sec.now).drop p).take k = (List.range k).map (secOf t) := by
  refine List.ext_getElem? fun j => ?_
  by_cases hj : j < k
  · rw [List.getElem?_take_of_lt hj, List.getElem?_drop, List.getElem?_map, List.getElem?_map, List.getElem?_range hj]
    rw [List.getElem?_eq_getElem (by rw [wrote_len]; omega)]
    simp only [wrote, List.getElem_mapIdx, Option.map_some]
    rw [if_pos (by omega), show p + j - p = j by omega]
  · rw [List.getElem?_eq_none (by rw [List.length_take]; omega), List.getElem?_eq_none (by simp; omega)]
theorem wrote_out (l : List Sec) (p : Nat) (t : ByteArray) (k j : Nat) (hj : j < p ∨ p + k ≤ j) : (wrote l p t k)[j]? = l[j]? := by
  by_cases h : j < l.length
  · rw [List.getElem?_eq_getElem (by rw [wrote_len]; exact h), List.getElem?_eq_getElem h]
    simp only [wrote, List.getElem_mapIdx]
    rw [if_neg (by omega)]
  · rw [List.getElem?_eq_none (by rw [wrote_len]; omega), List.getElem?_eq_none (by omega)]
theorem now_size {d : Dv} (h : d.Fit) : ∀ c ∈ d.cells.map Sec.now, c.size = 64 := fun c hc => by
  obtain ⟨x, hx, rfl⟩ := List.mem_map.1 hc
  exact (h x hx).1
theorem flushed_now (l : List Sec) : (flushed l).map Sec.now = l.map Sec.now := by unfold flushed; simp
/-- What is written and flushed is there, and all is safe. -/
theorem Still.put {d : Dv} {n : Nat} {C : List UInt8} (h : Still d n C) (p k : Nat) (t : ByteArray) (ht : t.size = 64 * k) (h1 : 1 ≤ k) (h2 : p + k ≤ n) :
    d.writeE p t = 0 ∧ (d.write p t).flushE = 0 ∧ Still (d.write p t).flush n (C.take (64 * p) ++ (t.data.toList ++ C.drop (64 * (p + k)))) := by
  have hk : t.size / 64 = k := by omega
  have hf : d.falls k = false := by unfold Dv.falls; rw [h.arm]; simp
  have hr : d.reach k = k := by unfold Dv.reach; rw [h.arm, if_neg (by omega)]
  have hw : d.writable p t = true := by
    rw [writable_iff]
    refine ⟨h.on, by omega, by omega, by omega, ?_⟩
    rw [hk, h.len]
    omega
  have hE : d.writeE p t = 0 := by
    unfold Dv.writeE
    rw [h.on, if_neg (by simp), if_neg (by omega), hk, if_pos ⟨by omega, by rw [h.len]; omega⟩, hf]
    rfl
  have hd : d.write p t = d.wrote p t k := by unfold Dv.write; rw [if_pos hw, hk, hr, Int.toNat_natCast]
  have ha : (d.wrote p t k).armed = 0 := by unfold Dv.wrote; simp only; rw [h.arm, if_neg (by omega)]
  have ho : (d.wrote p t k).dead = false := by unfold Dv.wrote; simp only; rw [h.arm, if_neg (by omega), h.on]
  have hh : (d.wrote p t k).hit = false := by unfold Dv.hit; rw [ha]; simp
  have hfl : (d.write p t).flushE = 0 := by rw [hd]; unfold Dv.flushE; rw [ho, hh]; rfl
  have hfit := (h.fit.write p t).flush
  have hcells : ((d.write p t).flush).cells = flushed (wrote d.cells p t k) := by rw [hd]; unfold Dv.flush; rw [ho, hh]; rfl
  refine ⟨hE, hfl, ⟨by rw [hcells]; unfold flushed; rw [List.length_map, wrote_len, h.len], hfit, ?_, ?_, ?_, ?_⟩⟩
  · rw [hd]; unfold Dv.flush; rw [ho, hh]
    show (if (d.wrote p t k).armed = 1 then true else (d.wrote p t k).dead) = false
    rw [ha, if_neg (by omega), ho]
  · rw [hd]; unfold Dv.flush; rw [ho, hh]
    show (if 0 < (d.wrote p t k).armed then (d.wrote p t k).armed - 1 else (d.wrote p t k).armed) = 0
    rw [ha, if_neg (by omega)]
  · intro c hc
    rw [hcells] at hc
    obtain ⟨x, _, rfl⟩ := List.mem_map.1 hc
    exact ⟨rfl, rfl⟩
  · unfold Dv.bytes
    rw [hcells, flushed_now]
    have hN := now_size h.fit
    have hM : ∀ c ∈ (wrote d.cells p t k).map Sec.now, c.size = 64 := fun c hc => by
      obtain ⟨x, hx, rfl⟩ := List.mem_map.1 hc
      exact (fit_wrote h.fit p t k k ht (Nat.le_refl _) x hx).1
    obtain ⟨X, _, x2, x3⟩ := bytesOf_between hN hM (by rw [List.length_map, List.length_map, wrote_len]) p k (by rw [List.length_map, h.len]; exact h2) (fun j hj hjo => by
      rw [List.getElem?_map, List.getElem?_map, wrote_out _ _ _ _ _ hjo])
    have hb : bytesOf (d.cells.map Sec.now) = C := h.bytes
    have htl : t.data.toList.take (64 * k) = t.data.toList := List.take_of_length_le (by
      have : t.data.toList.length = t.size := by simp
      omega)
    rw [wrote_mid _ _ _ _ (by rw [h.len]; exact h2), bytesOf_secs t k (by omega), htl] at x2
    rw [x3, hb, x2]
end Go.Proofs.YtcbmecpeockdeaaGreatDoor
namespace Go.Proofs.YtcbmecpeockdeaaGreatDoor

/-- Sectors are written, and flushed if that went well. -/
def Dv.lasting (d : Dv) (p : Int) (t : ByteArray) : Dv := if d.writeE p t = 0 then (d.write p t).flush else d.write p t
def Dv.lastingE (d : Dv) (p : Int) (t : ByteArray) : Int := if d.writeE p t = 0 then (d.write p t).flushE else d.writeE p t
/-- Sectors that are as they were but for k of them, each loose or safe. -/
structure Half (d : Dv) (p k : Nat) (cs : List Sec) : Prop where
  len : cs.length = d.cells.length
  fit : ∀ c ∈ cs, c.now.size = 64 ∧ c.safe.size = 64
  calm : ∀ c ∈ cs, c.loose = false → c.safe = c.now
  out : ∀ j, j < p ∨ p + k ≤ j → cs[j]? = d.cells[j]?
theorem half_wrote {d : Dv} {n : Nat} {C : List UInt8} (h : Still d n C) (p k i : Nat) (t : ByteArray) (ht : t.size = 64 * k) (hi : i ≤ k) : Half d p k (wrote d.cells p t i) := by
  refine ⟨wrote_len _ _ _ _, fit_wrote h.fit p t i k ht hi, fun c hc hl => ?_, fun j hj => wrote_out _ _ _ _ _ (by omega)⟩
  obtain ⟨j, hj, rfl⟩ := List.getElem_of_mem hc
  simp only [wrote, List.getElem_mapIdx] at hl ⊢
  split at hl
  · simp at hl
  · rename_i hn
    rw [if_neg hn]
    exact (h.safe _ (List.getElem_mem _)).1
theorem half_flushed {d : Dv} {n : Nat} {C : List UInt8} (h : Still d n C) {p k : Nat} {cs : List Sec} (hh : Half d p k cs) : Half d p k (flushed cs) := by
  refine ⟨by unfold flushed; rw [List.length_map, hh.len], fit_flushed hh.fit, fun c hc _ => ?_, fun j hj => ?_⟩
  · obtain ⟨x, _, rfl⟩ := List.mem_map.1 hc
    rfl
  · unfold flushed
    rw [List.getElem?_map, hh.out j hj]
    cases e : d.cells[j]? with
    | none => rfl
    | some c =>
      obtain ⟨s1, s2⟩ := h.safe c (List.mem_of_getElem? e)
      cases c
      simp at s1 s2
      simp [s1, s2]
/-- Behind a loss of power: all is still again, and only those k sectors may be others. -/
theorem half_boot {d e : Dv} {n : Nat} {C : List UInt8} (h : Still d n C) {p k : Nat} (hp : p + k ≤ n) (hh : Half d p k e.cells) (keep : List Bool) (torn cut : Int) :
    ∃ X, X.length = 64 * k ∧ X = bytesOf ((((booted e.cells keep torn cut e.cells.length).map Sec.now).drop p).take k) ∧ Still (e.off.boot keep torn cut) n (C.take (64 * p) ++ (X ++ C.drop (64 * (p + k)))) := by
  have hfit : (e.off.boot keep torn cut).Fit := fit_booted hh.fit keep torn cut _
  have hpt : ∀ j, j < p ∨ p + k ≤ j → (booted e.cells keep torn cut e.cells.length)[j]? = d.cells[j]? := fun j hj => by
    rw [← hh.out j hj]
    by_cases hl : j < e.cells.length
    · rw [List.getElem?_eq_getElem (by rw [booted_len]; exact hl), List.getElem?_eq_getElem hl]
      simp only [booted, List.getElem_mapIdx]
      have h1 := hh.out j hj
      rw [List.getElem?_eq_getElem hl] at h1
      have h2 := (h.safe _ (List.mem_of_getElem? h1.symm)).2
      rw [if_neg (by rw [h2]; simp)]
    · rw [List.getElem?_eq_none (by rw [booted_len]; omega), List.getElem?_eq_none (by omega)]
  have hM : ∀ c ∈ (booted e.cells keep torn cut e.cells.length).map Sec.now, c.size = 64 := fun c hc => by
    obtain ⟨x, hx, rfl⟩ := List.mem_map.1 hc
    exact (fit_booted hh.fit keep torn cut _ x hx).1
  obtain ⟨X, x1, x2, x3⟩ := bytesOf_between (now_size h.fit) hM (by rw [List.length_map, List.length_map, booted_len, hh.len]) p k (by rw [List.length_map, h.len]; exact hp) (fun j _ hjo => by
    rw [List.getElem?_map, List.getElem?_map, hpt j hjo])
  have hb : bytesOf (d.cells.map Sec.now) = C := h.bytes
  rw [hb] at x3
  refine ⟨X, x1, x2, ⟨?_, hfit, rfl, rfl, ?_, x3⟩⟩
  · show (booted e.cells keep torn cut e.cells.length).length = n
    rw [booted_len, hh.len, h.len]
  · intro c hc
    have hc' : c ∈ booted e.cells keep torn cut e.cells.length := hc
    obtain ⟨j, hj, rfl⟩ := List.getElem_of_mem hc'
    have hj' : j < e.cells.length := by rw [booted_len] at hj; exact hj
    simp only [booted, List.getElem_mapIdx]
    split
    · exact ⟨rfl, rfl⟩
    · rename_i hn
      have hl : e.cells[j].loose = false := by
        cases q : e.cells[j].loose with
        | false => rfl
        | true => exact absurd ⟨hj', q⟩ hn
      exact ⟨hh.calm _ (List.getElem_mem _) hl, hl⟩
/-- Wherever the power goes while sectors are written and flushed, and whatever is left. -/
theorem Still.fall {d : Dv} {n : Nat} {C : List UInt8} (h : Still d n C) (a : Int) (ha : 1 ≤ a) (p k : Nat) (t : ByteArray) (ht : t.size = 64 * k) (h1 : 1 ≤ k) (h2 : p + k ≤ n) (keep : List Bool) (torn cut : Int) :
    ∃ X, X.length = 64 * k ∧ Still (((d.arm a).lasting p t).off.boot keep torn cut) n (C.take (64 * p) ++ (X ++ C.drop (64 * (p + k)))) ∧ ((d.arm a).lastingE p t = 0 → X = t.data.toList) := by
  have hk : t.size / 64 = k := by omega
  have hA0 : d.armE a = 0 := by unfold Dv.armE; rw [h.on, if_neg (by simp), if_neg (by omega)]
  have hA : d.arm a = { d with armed := a } := by unfold Dv.arm; rw [if_pos hA0]
  obtain ⟨A, hAA⟩ : ∃ A, d.arm a = A := ⟨_, rfl⟩
  have ac : A.cells = d.cells := by rw [← hAA, hA]
  have ad : A.dead = false := by rw [← hAA, hA]; exact h.on
  rw [hAA]
  have hw : A.writable p t = true := by
    rw [writable_iff]
    refine ⟨ad, by omega, by omega, by omega, ?_⟩
    rw [hk, ac, h.len]
    omega
  have hd : A.write p t = A.wrote p t (A.reach k) := by unfold Dv.write; rw [if_pos hw, hk, Int.toNat_natCast]
  have hr := reach_le A k
  have hcells : (A.write p t).cells = wrote d.cells p t (A.reach k) := by rw [hd]; unfold Dv.wrote; rw [ac]
  have hH : Half d p k (A.write p t).cells := by rw [hcells]; exact half_wrote h p k _ t ht hr
  have hF : Half d p k (A.write p t).flush.cells := by
    unfold Dv.flush
    split
    · exact hH
    · split
      · exact hH
      · exact half_flushed h hH
  by_cases hE : A.writeE p t = 0
  · have hl : A.lasting p t = (A.write p t).flush := by unfold Dv.lasting; rw [if_pos hE]
    have hlE : A.lastingE p t = (A.write p t).flushE := by unfold Dv.lastingE; rw [if_pos hE]
    rw [hl, hlE]
    obtain ⟨X, x1, x2, x3⟩ := half_boot h h2 hF keep torn cut
    refine ⟨X, x1, x3, fun hz => ?_⟩
    -- all was written and flushed
    have hnf : A.falls k = false := by
      have h3 := hE
      unfold Dv.writeE at h3
      rw [ad, if_neg (by simp), if_neg (by omega), hk, if_pos ⟨by omega, by rw [ac, h.len]; omega⟩] at h3
      cases q : A.falls k with
      | false => rfl
      | true => rw [q] at h3; simp at h3
    have hrk : A.reach k = k := by
      unfold Dv.falls at hnf
      unfold Dv.reach
      rw [if_neg (by simpa using hnf)]
    have hfc : (A.write p t).flush.cells = flushed (wrote d.cells p t k) := by
      unfold Dv.flushE at hz
      unfold Dv.flush
      split at hz
      · simp at hz
      · rename_i g1
        rw [if_neg g1]
        split at hz
        · simp at hz
        · rename_i g2
          rw [if_neg g2]
          show flushed (A.write p t).cells = _
          rw [hcells, hrk]
    rw [hfc] at x2
    have hbt : booted (flushed (wrote d.cells p t k)) keep torn cut (flushed (wrote d.cells p t k)).length = flushed (wrote d.cells p t k) := by
      refine List.ext_getElem (by rw [booted_len]) fun j g1 g2 => ?_
      simp only [booted, List.getElem_mapIdx]
      rw [if_neg]
      rintro ⟨_, g3⟩
      unfold flushed at g3
      rw [List.getElem_map] at g3
      simp at g3
    rw [hbt, flushed_now, wrote_mid _ _ _ _ (by rw [h.len]; exact h2), bytesOf_secs t k (by omega), List.take_of_length_le (by
      have : t.data.toList.length = t.size := by simp
      omega)] at x2
    exact x2
  · have hl : A.lasting p t = A.write p t := by unfold Dv.lasting; rw [if_neg hE]
    have hlE : A.lastingE p t = A.writeE p t := by unfold Dv.lastingE; rw [if_neg hE]
    rw [hl, hlE]
    obtain ⟨X, x1, _, x3⟩ := half_boot h h2 hH keep torn cut
    exact ⟨X, x1, x3, fun hz => absurd hz hE⟩
/-- Behind a loss of power a still device is as it was. -/
theorem Still.again {d : Dv} {n : Nat} {C : List UInt8} (h : Still d n C) (keep : List Bool) (torn cut : Int) : Still (d.off.boot keep torn cut) n C := by
  obtain ⟨X, x1, _, x3⟩ := half_boot (e := d) (p := 0) (k := 0) h (Nat.zero_le _) ⟨rfl, h.fit, fun c hc _ => (h.safe c hc).1, fun _ _ => rfl⟩ keep torn cut
  obtain rfl : X = [] := List.length_eq_zero_iff.1 (by omega)
  simpa using x3
/-- What is read of a still device. -/
theorem Still.read {d : Dv} {n : Nat} {C : List UInt8} (h : Still d n C) (p k : Nat) (h1 : 1 ≤ k) (h2 : p + k ≤ n) : d.readE p k = 0 ∧ (d.readT p k).data.toList = (C.drop (64 * p)).take (64 * k) := by
  have hE : d.readE p k = 0 := by
    unfold Dv.readE
    rw [h.on, if_neg (by simp), if_neg (by omega), if_pos ⟨by omega, by rw [h.len]; omega⟩]
  refine ⟨hE, ?_⟩
  have hcat : ∀ l : List ByteArray, (cat l).data.toList = bytesOf l := fun l => by
    induction l with
    | nil => rfl
    | cons c l ih => rw [cat, ByteArray.data_append, Array.toList_append, ih]; rfl
  unfold Dv.readT
  rw [if_pos hE, hcat, Int.toNat_natCast, Int.toNat_natCast, List.map_take, List.map_drop]
  have hN := now_size h.fit
  have hl : (d.cells.map Sec.now).length = n := by rw [List.length_map, h.len]
  rw [bytesOf_take (fun c hc => hN c (List.mem_of_mem_drop hc)) k (by rw [List.length_drop, hl]; omega), bytesOf_drop hN p (by omega)]
  have hb : bytesOf (d.cells.map Sec.now) = C := h.bytes
  rw [hb]
end Go.Proofs.YtcbmecpeockdeaaGreatDoor
namespace Go.Proofs.YtcbmecpeockdeaaGreatDoor

/-- Power on, nothing armed: so many sectors, and their bytes. -/
structure Up (d : Dv) (n : Nat) (C : List UInt8) : Prop where
  len : d.cells.length = n
  fit : d.Fit
  on : d.dead = false
  arm : d.armed = 0
  bytes : d.bytes = C
theorem Still.up {d : Dv} {n : Nat} {C : List UInt8} (h : Still d n C) : Up d n C := ⟨h.len, h.fit, h.on, h.arm, h.bytes⟩
theorem Up.clen {d : Dv} {n : Nat} {C : List UInt8} (h : Up d n C) : C.length = 64 * n := by
  rw [← h.bytes]
  unfold Dv.bytes
  rw [bytesOf_len (now_size h.fit), List.length_map, h.len]
/-- What is written is there, though it may be loose. -/
theorem Up.put {d : Dv} {n : Nat} {C : List UInt8} (h : Up d n C) (p k : Nat) (t : ByteArray) (ht : t.size = 64 * k) (h1 : 1 ≤ k) (h2 : p + k ≤ n) :
    d.writeE p t = 0 ∧ Up (d.write p t) n (C.take (64 * p) ++ (t.data.toList ++ C.drop (64 * (p + k)))) := by
  have hk : t.size / 64 = k := by omega
  have hf : d.falls k = false := by unfold Dv.falls; rw [h.arm]; simp
  have hr : d.reach k = k := by unfold Dv.reach; rw [h.arm, if_neg (by omega)]
  have hw : d.writable p t = true := by
    rw [writable_iff]
    refine ⟨h.on, by omega, by omega, by omega, ?_⟩
    rw [hk, h.len]
    omega
  have hE : d.writeE p t = 0 := by
    unfold Dv.writeE
    rw [h.on, if_neg (by simp), if_neg (by omega), hk, if_pos ⟨by omega, by rw [h.len]; omega⟩, hf]
    rfl
  have hd : d.write p t = d.wrote p t k := by unfold Dv.write; rw [if_pos hw, hk, hr, Int.toNat_natCast]
  have hc : (d.write p t).cells = wrote d.cells p t k := by rw [hd]; rfl
  refine ⟨hE, ⟨by rw [hc, wrote_len, h.len], h.fit.write p t, ?_, ?_, ?_⟩⟩
  · rw [hd]; unfold Dv.wrote; simp only; rw [h.arm, if_neg (by omega), h.on]
  · rw [hd]; unfold Dv.wrote; simp only; rw [h.arm, if_neg (by omega)]
  · unfold Dv.bytes
    rw [hc]
    have hM : ∀ c ∈ (wrote d.cells p t k).map Sec.now, c.size = 64 := fun c hc => by
      obtain ⟨x, hx, rfl⟩ := List.mem_map.1 hc
      exact (fit_wrote h.fit p t k k ht (Nat.le_refl _) x hx).1
    obtain ⟨X, _, x2, x3⟩ := bytesOf_between (now_size h.fit) hM (by rw [List.length_map, List.length_map, wrote_len]) p k (by rw [List.length_map, h.len]; exact h2) (fun j hj hjo => by
      rw [List.getElem?_map, List.getElem?_map, wrote_out _ _ _ _ _ hjo])
    have hb : bytesOf (d.cells.map Sec.now) = C := h.bytes
    rw [wrote_mid _ _ _ _ (by rw [h.len]; exact h2), bytesOf_secs t k (by omega), List.take_of_length_le (by
      have : t.data.toList.length = t.size := by simp
      omega)] at x2
    rw [x3, hb, x2]
theorem Up.flush {d : Dv} {n : Nat} {C : List UInt8} (h : Up d n C) : d.flushE = 0 ∧ Still d.flush n C := by
  have hh : d.hit = false := by unfold Dv.hit; rw [h.arm]; simp
  have hc : d.flush.cells = flushed d.cells := by unfold Dv.flush; rw [h.on, hh]; rfl
  refine ⟨by unfold Dv.flushE; rw [h.on, hh]; rfl, ⟨by rw [hc]; unfold flushed; rw [List.length_map, h.len], h.fit.flush, ?_, ?_, ?_, ?_⟩⟩
  · unfold Dv.flush; rw [h.on, hh]
    show (if d.armed = 1 then true else d.dead) = false
    rw [h.arm, if_neg (by omega), h.on]
  · unfold Dv.flush; rw [h.on, hh]
    show (if 0 < d.armed then d.armed - 1 else d.armed) = 0
    rw [h.arm, if_neg (by omega)]
  · intro c hx
    rw [hc] at hx
    obtain ⟨x, _, rfl⟩ := List.mem_map.1 hx
    exact ⟨rfl, rfl⟩
  · unfold Dv.bytes
    rw [hc, flushed_now]
    exact h.bytes
/-- A frame of another epoch is written over sectors: still no sector begins one of the epoch. -/
theorem noep_splice {ep ep' sq : Int} {b C : List UInt8} (hw : wrong10 ep' sq b.length = 0) (he : ep' ≠ ep) (hC : NoEp ep C) (p : Nat) (hp : 64 * (p + nsec b.length) ≤ C.length) :
    NoEp ep (C.take (64 * p) ++ (put10 ep' sq b ++ C.drop (64 * (p + nsec b.length)))) := fun j h => by
  have hpl := put10_len ep' sq b
  have htl : (C.take (64 * p)).length = 64 * p := by rw [List.length_take]; omega
  by_cases q : p ≤ j
  · have e : (C.take (64 * p) ++ (put10 ep' sq b ++ C.drop (64 * (p + nsec b.length)))).drop (64 * j) = (put10 ep' sq b ++ C.drop (64 * (p + nsec b.length))).drop (64 * (j - p)) := by
      rw [List.drop_append, List.drop_of_length_le (by omega), List.nil_append, htl, ← Nat.mul_sub]
    rw [e] at h
    exact noep_put hw he (hC.drop _) (j - p) h
  · have e : (C.take (64 * p) ++ (put10 ep' sq b ++ C.drop (64 * (p + nsec b.length)))).drop (64 * j) = (C.take (64 * p)).drop (64 * j) ++ (put10 ep' sq b ++ C.drop (64 * (p + nsec b.length))) := by
      rw [List.drop_append_of_le_length (by omega)]
    obtain ⟨M, hM⟩ : ∃ M, (C.take (64 * p)).drop (64 * j) = M := ⟨_, rfl⟩
    have hMl : M.length = 64 * (p - j) := by rw [← hM, List.length_drop, htl]; omega
    rw [e, hM] at h
    obtain ⟨_, _, _, _, h5, h6, _, _⟩ := got_parts h.1
    obtain ⟨k, hk⟩ : ∃ k, nsec (n10 (M ++ (put10 ep' sq b ++ C.drop (64 * (p + nsec b.length))))) = k := ⟨_, rfl⟩
    rw [hk] at h5 h6
    by_cases hkp : j + k ≤ p
    · have hsame : (C.drop (64 * j)).take (64 * k) = (M ++ (put10 ep' sq b ++ C.drop (64 * (p + nsec b.length)))).take (64 * k) := by
        rw [List.take_append_of_le_length (by omega), ← hM, List.drop_take, List.take_take]
        congr 1
        omega
      obtain ⟨s1, s2, _⟩ := got_same (B := C.drop (64 * j)) h.1 (by rw [hk]; exact hsame)
      exact hC j ⟨s1, by rw [s2]; exact h.2⟩
    · have h7 := h6 (p - j) (by omega) (by omega)
      rw [← hMl, List.getD_eq_getElem?_getD, List.getElem?_append_right (Nat.le_refl _), Nat.sub_self, ← List.getD_eq_getElem?_getD] at h7
      have h8 := chop_at 1 (nsec b.length) 0 (full10 ep' sq b) (C.drop (64 * (p + nsec b.length))) (full_len ep' sq b) (nsec_up b.length).2.2
      rw [if_pos rfl, Nat.mul_zero] at h8
      unfold put10 at h7
      rw [h8] at h7
      exact absurd h7 (by decide)
/-- One frame more behind those that lie there. -/
theorem keeps_step (ep : Int) (A R : List UInt8) (q : Nat) (l : List (List UInt8)) (b : List UInt8) (hA : A.length = 64 * q) :
    ((A ++ (framesL ep 0 l ++ R)).take (64 * (q + sumN l)) ++ (put10 ep ((l.length : Int) + 1) b ++ (A ++ (framesL ep 0 l ++ R)).drop (64 * (q + sumN l + nsec b.length)))) = A ++ (framesL ep 0 (l ++ [b]) ++ R.drop (64 * nsec b.length)) := by
  have hfl := framesL_len ep 0 l
  have hAF : (A ++ framesL ep 0 l).length = 64 * (q + sumN l) := by rw [List.length_append, hA, hfl]; omega
  rw [← List.append_assoc A, ← hAF, List.take_left, Nat.mul_add (64) (q + sumN l), ← hAF, ← List.drop_drop, List.drop_left, framesL_snoc]
  simp only [List.append_assoc]
  congr 4
  omega
end Go.Proofs.YtcbmecpeockdeaaGreatDoor
namespace Go.Proofs.YtcbmecpeockdeaaGreatDoor

def flat (w : Nat) (l : List Int) : List UInt8 := l.flatMap (fun x => be w x.toNat)
theorem flat_more (w : Nat) (a b : List Int) : flat w (a ++ b) = flat w a ++ flat w b := by unfold flat; rw [List.flatMap_append]
theorem flat_one (w : Nat) (x : Int) (l : List Int) : flat w (x :: l) = be w x.toNat ++ flat w l := by unfold flat; rw [List.flatMap_cons]
theorem flat_len (w : Nat) (l : List Int) : (flat w l).length = l.length * w := by
  induction l with
  | nil => simp [flat]
  | cons x l ih => rw [flat_one, List.length_append, be_len, ih, List.length_cons, Nat.add_mul]; omega
theorem bad_none {s : List UInt8} {q w : Int} {n : Nat} (h : ∀ i : Nat, i < n → getE s (q + i * w) w = 0) : badAt s q w n = none := by
  unfold badAt
  rw [List.find?_eq_none]
  intro i hi
  simp [h i (List.mem_range.1 hi)]
theorem bad_all {s : List UInt8} {q w : Int} {n : Nat} (h : badAt s q w n = none) : ∀ i : Nat, i < n → getE s (q + i * w) w = 0 := by
  unfold badAt at h
  rw [List.find?_eq_none] at h
  intro i hi
  have := h i (List.mem_range.2 hi)
  simpa using this
theorem bad_some {s : List UInt8} {q w : Int} {n i : Nat} (h : badAt s q w n = some i) : i < n ∧ getE s (q + i * w) w ≠ 0 ∧ ∀ j : Nat, j < i → getE s (q + j * w) w = 0 := by
  unfold badAt at h
  rw [List.find?_range_eq_some] at h
  refine ⟨List.mem_range.1 h.2.1, by simpa using h.1, fun j hj => ?_⟩
  have := h.2.2 j hj
  simpa using this
theorem bad_first {s : List UInt8} {q w : Int} {n i : Nat} (hi : i < n) (h1 : getE s (q + i * w) w ≠ 0) (h2 : ∀ j : Nat, j < i → getE s (q + j * w) w = 0) : badAt s q w n = some i := by
  unfold badAt
  rw [List.find?_range_eq_some]
  refine ⟨by simpa using h1, List.mem_range.2 hi, fun j hj => ?_⟩
  simp [h2 j hj]
/-- A row comes back of its bytes. -/
theorem row_back {A B : List UInt8} {l : List Int} {w : Int} (hx : ∀ x ∈ l, x ≤ 9223372036854775807) (h : rowE w l = 0) (p m : Int) (hp : p = A.length) (hm : (l.length : Int) ≤ m) :
    unrowE (A ++ (rowL w l ++ B)) p w m = 0 ∧ unrowL (A ++ (rowL w l ++ B)) p w m = l ∧ unrowT (A ++ (rowL w l ++ B)) p w m = p + (rowL w l).length := by
  have hE := h
  unfold rowE at h
  by_cases hw : wideW w
  · rw [if_pos hw] at h
    obtain ⟨w1, w2, w3⟩ := wide_nat hw
    by_cases hb : 1000 < l.length
    · rw [if_pos hb] at h; omega
    · rw [if_neg hb] at h
      by_cases ha : ∀ x ∈ l, putE x w = 0
      · have hL : rowL w l = be 2 l.length ++ flat w.toNat l := by unfold rowL flat; rw [if_pos hE]
        have hv : val (be 2 l.length) = l.length := val_be 2 _ (by simp; omega)
        have hs : A ++ (rowL w l ++ B) = A ++ (be 2 l.length ++ (flat w.toNat l ++ B)) := by rw [hL, List.append_assoc]
        obtain ⟨g1, g2, g3⟩ := get_good (A := A) (M := be 2 l.length) (B := flat w.toNat l ++ B) (p := p) (w := 2) (by unfold wideW; omega) hp (by rw [be_len]; rfl) (fun e => by omega)
        rw [hv] at g2
        have hel : ∀ i : Nat, (hi : i < l.length) → getE (A ++ (rowL w l ++ B)) (p + 2 + i * w) w = 0 ∧ getV (A ++ (rowL w l ++ B)) (p + 2 + i * w) w = l[i] := by
          intro i hi
          have hsp : l = l.take i ++ (l[i] :: l.drop (i + 1)) := by
            rw [List.getElem_cons_drop, List.take_append_drop]
          have hf : flat w.toNat l = flat w.toNat (l.take i) ++ (be w.toNat l[i].toNat ++ flat w.toNat (l.drop (i + 1))) := by
            conv => lhs; rw [hsp]
            rw [flat_more, flat_one]
          have hm := List.getElem_mem hi
          have hpe := ha _ hm
          have hpl : putL l[i] w = be w.toNat l[i].toNat := by unfold putL; rw [if_pos hpe]
          have hs2 : A ++ (rowL w l ++ B) = (A ++ (be 2 l.length ++ flat w.toNat (l.take i))) ++ (putL l[i] w ++ (flat w.toNat (l.drop (i + 1)) ++ B)) := by
            rw [hs, hf, hpl]; simp only [List.append_assoc]
          have hlen : p + 2 + i * w = ((A ++ (be 2 l.length ++ flat w.toNat (l.take i))).length : Int) := by
            rw [List.length_append, List.length_append, be_len, flat_len, List.length_take, Nat.min_eq_left (Nat.le_of_lt hi)]
            have e : ((i * w.toNat : Nat) : Int) = i * w := by rw [Int.natCast_mul, w3]
            omega
          obtain ⟨k1, k2, _, _⟩ := get_back (A := A ++ (be 2 l.length ++ flat w.toNat (l.take i))) (B := flat w.toNat (l.drop (i + 1)) ++ B) (hx _ hm) hpe (p + 2 + i * w) hlen
          rw [hs2]
          exact ⟨k1, k2⟩
        have hn : (getV (A ++ (rowL w l ++ B)) p 2).toNat = l.length := by rw [hs, g2]; omega
        have hU : unrowE (A ++ (rowL w l ++ B)) p w m = 0 := by
          have hlen : (A ++ (rowL w l ++ B)).length = A.length + (rowL w l).length + B.length := by simp; omega
          have hg1 : getE (A ++ (rowL w l ++ B)) p 2 = 0 := by rw [hs]; exact g1
          have hg2 : getV (A ++ (rowL w l ++ B)) p 2 = l.length := by rw [hs]; exact g2
          unfold unrowE
          rw [if_pos ⟨hw, by omega, by omega, by omega⟩, if_pos hg1, if_neg (by omega), hn, bad_none fun i hi => (hel i hi).1]
        refine ⟨hU, ?_, ?_⟩
        · unfold unrowL
          rw [if_pos hU, hn]
          refine List.ext_getElem (by simp) fun i h1 h2 => ?_
          rw [List.getElem_map, List.getElem_range]
          exact (hel i h2).2
        · unfold unrowT
          rw [if_pos hU, hL, List.length_append, be_len, flat_len]
          have e : getV (A ++ (be 2 l.length ++ flat w.toNat l ++ B)) p 2 = l.length := by rw [← hL, hs]; exact g2
          have e2 : ((l.length * w.toNat : Nat) : Int) = l.length * w := by rw [Int.natCast_mul, w3]
          rw [e]
          omega
      · rw [if_neg ha] at h; omega
  · rw [if_neg hw] at h; omega
theorem unrow_fine {s : List UInt8} {p w m : Int} (h : unrowE s p w m = 0) : wideW w ∧ 0 ≤ p ∧ getE s p 2 = 0 ∧ getV s p 2 ≤ m ∧ getV s p 2 ≤ 1000 ∧ ∀ i : Nat, i < (getV s p 2).toNat → getE s (p + 2 + i * w) w = 0 := by
  unfold unrowE at h
  split at h
  · rename_i h1
    split at h
    · rename_i h2
      split at h
      · omega
      · rename_i h3
        split at h
        · rename_i i hb
          exact absurd h (bad_some hb).2.1
        · rename_i hb
          exact ⟨h1.1, h1.2.1, h2, by omega, by omega, bad_all hb⟩
    · rename_i h2; exact absurd h h2
  · omega
/-- What is taken as a row was put so. -/
theorem unrow_canon {s : List UInt8} {p w m : Int} (h : unrowE s p w m = 0) : rowE w (unrowL s p w m) = 0 ∧ rowL w (unrowL s p w m) = (s.drop p.toNat).take (unrowT s p w m - p).toNat ∧ p ≤ unrowT s p w m ∧ unrowT s p w m ≤ s.length ∧ (unrowL s p w m).length = (getV s p 2).toNat := by
  obtain ⟨hw, hp0, h2, hm, hk, hel⟩ := unrow_fine h
  obtain ⟨w1, w2, w3⟩ := wide_nat hw
  obtain ⟨b1, _, _, _⟩ := get_bound h2
  obtain ⟨_, _, hf, _⟩ := get_fine h2
  have hL : unrowL s p w m = (List.range (getV s p 2).toNat).map (fun (i : Nat) => getV s (p + 2 + i * w) w) := by unfold unrowL; rw [if_pos h]
  have hT : unrowT s p w m = p + 2 + getV s p 2 * w := by unfold unrowT; rw [if_pos h]
  have hlen : (unrowL s p w m).length = (getV s p 2).toNat := by rw [hL]; simp
  have hall : ∀ x ∈ unrowL s p w m, putE x w = 0 := by
    intro x hx
    rw [hL] at hx
    obtain ⟨i, hi, rfl⟩ := List.mem_map.1 hx
    exact (get_canon (hel i (List.mem_range.1 hi))).1
  have hE : rowE w (unrowL s p w m) = 0 := by
    unfold rowE
    rw [if_pos hw, if_neg (by omega), if_pos hall]
  -- the bytes of the first k elements
  have hfl : ∀ k : Nat, k ≤ (getV s p 2).toNat → flat w.toNat ((List.range k).map (fun (i : Nat) => getV s (p + 2 + i * w) w)) = (s.drop (p.toNat + 2)).take (k * w.toNat) ∧ p.toNat + 2 + k * w.toNat ≤ s.length := by
    intro k
    induction k with
    | zero => intro _; refine ⟨by simp [flat], by omega⟩
    | succ k ih =>
      intro hkn
      obtain ⟨ih1, ih2⟩ := ih (by omega)
      have he := hel k (by omega)
      obtain ⟨q1, q2⟩ := get_canon he
      obtain ⟨_, f1, f2, _⟩ := get_fine he
      unfold putL at q2
      rw [if_pos q1] at q2
      have e : ((k * w.toNat : Nat) : Int) = k * w := by rw [Int.natCast_mul, w3]
      have hq : (p + 2 + k * w).toNat = p.toNat + 2 + k * w.toNat := by omega
      rw [hq] at q2
      rw [List.range_succ, List.map_append, flat_more, ih1]
      refine ⟨?_, by rw [Nat.add_mul]; omega⟩
      have e2 : flat w.toNat (List.map (fun (i : Nat) => getV s (p + 2 + i * w) w) [k]) = be w.toNat (getV s (p + 2 + k * w) w).toNat := by simp [flat]
      rw [e2, q2, Nat.add_mul, Nat.one_mul, List.take_add, List.drop_drop]
  obtain ⟨f1, f2⟩ := hfl _ (Nat.le_refl _)
  have e : (((getV s p 2).toNat * w.toNat : Nat) : Int) = getV s p 2 * w := by rw [Int.natCast_mul, w3, Int.toNat_of_nonneg b1]
  refine ⟨hE, ?_, by rw [hT]; have : 0 ≤ getV s p 2 * w := Int.mul_nonneg b1 (by omega); omega, by rw [hT]; omega, hlen⟩
  obtain ⟨q1, q2⟩ := get_canon h2
  unfold putL at q2
  rw [if_pos q1] at q2
  have q3 : be 2 (getV s p 2).toNat = (s.drop p.toNat).take 2 := q2
  have hR : rowL w (unrowL s p w m) = be 2 (getV s p 2).toNat ++ flat w.toNat (unrowL s p w m) := by unfold rowL flat; rw [if_pos hE, hlen]
  rw [hR, q3, hL, f1, show (unrowT s p w m - p).toNat = 2 + (getV s p 2).toNat * w.toNat by rw [hT]; omega, List.take_add, List.drop_drop]
end Go.Proofs.YtcbmecpeockdeaaGreatDoor
namespace Go.Proofs.YtcbmecpeockdeaaGreatDoor

def bits4 (h : Nat) : List Bool := (List.range 4).map fun i => h.testBit i
/-- As many bits 0 into the register. -/
def zer (k n : Nat) : Nat := runB n (List.replicate k false)
/-- The table's number at a place. -/
def tabN (h : Nat) : Nat := zer 4 h
theorem zer_succ (k n : Nat) : zer (k + 1) n = zer k (stepB n false) := rfl
theorem zer_zero (n : Nat) : zer 0 n = n := rfl
theorem zer_add (p q n : Nat) : zer p (zer q n) = zer (q + p) n := by
  unfold zer; rw [← run_append7, List.replicate_append_replicate]
theorem zer_lt {k n : Nat} (h : n < 4294967296) : zer k n < 4294967296 := run_lt h
theorem zer_xor (k n m : Nat) : zer k (n ^^^ m) = zer k n ^^^ zer k m := by
  have h := run_xor (List.replicate k false) (List.replicate k false) n m rfl
  have e : List.zipWith (fun x y => x != y) (List.replicate k false) (List.replicate k false) = List.replicate k false := by
    have := zip_none (List.replicate k false)
    rw [List.length_replicate] at this
    exact this
  rw [e] at h
  exact h
theorem zer_none (k : Nat) : zer k 0 = 0 := run_none k
/-- Bits taken in are bits that were in the register. -/
theorem run_zer (n : Nat) (bs : List Bool) : runB n bs = zer bs.length (n ^^^ num bs) := by
  have h := run_xor bs (List.replicate bs.length false) (num bs) (n ^^^ num bs) (by simp)
  rw [zip_none, run_own, Nat.zero_xor, Nat.xor_comm n, ← Nat.xor_assoc, Nat.xor_self, Nat.zero_xor, Nat.xor_comm] at h
  exact h
theorem step_two (q : Nat) : stepB (2 * q) false = q := by
  unfold stepB
  have h1 : 2 * q % 2 = 0 := by omega
  have h2 : 2 * q / 2 = q := by omega
  rw [h1, h2]; simp
theorem zer_four (m : Nat) : zer 4 m = (m / 16) ^^^ tabN (m % 16) := by
  have e : m = (16 * (m / 16)) ^^^ (m % 16) := by
    refine Nat.eq_of_testBit_eq fun i => ?_
    rw [Nat.testBit_xor, show 16 * (m / 16) = m / 2 ^ 4 * 2 ^ 4 by omega, Nat.testBit_mul_two_pow, Nat.testBit_div_two_pow, show m % 16 = m % 2 ^ 4 from rfl, Nat.testBit_mod_two_pow]
    by_cases h : i < 4
    · simp [h, Nat.not_le.2 h]
    · simp [h, Nat.not_lt.1 h]
  have e2 : zer 4 (16 * (m / 16)) = m / 16 := by
    rw [show 16 * (m / 16) = 2 * (2 * (2 * (2 * (m / 16)))) by omega, zer_succ, step_two, zer_succ, step_two, zer_succ, step_two, zer_succ, step_two, zer_zero]
  have h := zer_xor 4 (16 * (m / 16)) (m % 16)
  rw [← e, e2] at h
  exact h
theorem num4 {h : Nat} (hh : h < 16) : num (bits4 h) = h := by
  unfold bits4; rw [num_bits]; exact Nat.mod_eq_of_lt hh
/-- Half a byte into the register, by the table. -/
theorem half_step {n h : Nat} (hh : h < 16) : runB n (bits4 h) = (n / 16) ^^^ tabN (n % 16 ^^^ h) := by
  rw [run_zer, num4 hh, show (bits4 h).length = 4 by simp [bits4], zer_four]
  have e1 : (n ^^^ h) / 16 = n / 16 := by
    refine Nat.eq_of_testBit_eq fun i => ?_
    rw [show (16 : Nat) = 2 ^ 4 from rfl, Nat.testBit_div_two_pow, Nat.testBit_div_two_pow, Nat.testBit_xor]
    have : h.testBit (i + 4) = false := Nat.testBit_lt_two_pow (Nat.lt_of_lt_of_le hh (by
      have := Nat.pow_le_pow_right (n := 2) (by omega) (show 4 ≤ i + 4 by omega)
      omega))
    rw [this]; simp
  have e2 : (n ^^^ h) % 16 = n % 16 ^^^ h := by
    rw [show (16 : Nat) = 2 ^ 4 from rfl, Nat.xor_mod_two_pow, Nat.mod_eq_of_lt (show h < 2 ^ 4 from hh)]
  rw [e1, e2]
theorem byte_halves (c : UInt8) : bits8 c = bits4 (c.toNat % 16) ++ bits4 (c.toNat / 16) := by
  refine List.ext_getElem (by simp [bits8, bits4]) fun i h1 h2 => ?_
  simp only [bits8, bits4, List.getElem_map, List.getElem_range, List.getElem_append, List.length_map, List.length_range]
  split
  · rename_i h
    rw [show (16 : Nat) = 2 ^ 4 from rfl, Nat.testBit_mod_two_pow]; simp [h]
  · rename_i h
    rw [show (16 : Nat) = 2 ^ 4 from rfl, Nat.testBit_div_two_pow, Nat.sub_add_cancel (by omega)]
theorem reg_halves (n : Nat) (c : UInt8) : runB (runB n (bits4 (c.toNat % 16))) (bits4 (c.toNat / 16)) = runB n (bits8 c) := by
  rw [byte_halves, run_append7]
theorem tab_lt (i : Nat) (h : i < 16) : tabN i < 4294967296 := zer_lt (by omega)
theorem half_lt {n h : Nat} (hh : h < 16) : n % 16 ^^^ h < 16 := Nat.xor_lt_two_pow (n := 4) (by omega) hh
/-- The numbers of the table. -/
def tabZ : List Int := [0, 274646895, 549293790, 820201905, 1098587580, 1361435347, 1640403810, 1905808397, 2197175160, 2460548119, 2722870694, 2987750089, 3280807620, 3553878443, 3811616794, 4084100981]
theorem tab_at : ∀ i, i < 16 → tabZ.getD i 0 = (tabN i : Int) := by decide

/-- Of two sums the product: the first one's bits, the highest first, tell which moves of the second one are put together. -/
def prodV : Nat → Nat → Nat → Nat
  | 0, _, _ => 0
  | k + 1, a, b => (if 2147483648 ≤ a then b else 0) ^^^ prodV k (2 * a % 4294967296) (stepB b false)
def timesV (a b : Nat) : Nat := prodV 32 a b
theorem prod_none : ∀ k b, prodV k 0 b = 0 := by
  intro k
  induction k with
  | zero => intro b; rfl
  | succ k ih => intro b; unfold prodV; rw [if_neg (by omega), ih]; rfl
theorem prod_lt : ∀ k a b, b < 4294967296 → prodV k a b < 4294967296 := by
  intro k
  induction k with
  | zero => intro a b _; show 0 < _; omega
  | succ k ih =>
    intro a b h
    unfold prodV
    refine Nat.xor_lt_two_pow (n := 32) ?_ (ih _ _ (step_lt h))
    split <;> omega
theorem step_none : stepB 0 false = 0 := by decide
theorem prod_step : ∀ k a b, prodV k a (stepB b false) = stepB (prodV k a b) false := by
  intro k
  induction k with
  | zero => intro a b; exact step_none.symm
  | succ k ih =>
    intro a b
    have hx := step_xor (if 2147483648 ≤ a then b else 0) (prodV k (2 * a % 4294967296) (stepB b false)) false false
    rw [show (false != false) = false from rfl] at hx
    show (if 2147483648 ≤ a then stepB b false else 0) ^^^ prodV k (2 * a % 4294967296) (stepB (stepB b false) false) = stepB ((if 2147483648 ≤ a then b else 0) ^^^ prodV k (2 * a % 4294967296) (stepB b false)) false
    rw [hx, ih]
    congr 1
    split <;> rfl
theorem prod_zer : ∀ j k a b, prodV k a (zer j b) = zer j (prodV k a b) := by
  intro j
  induction j with
  | zero => intro k a b; rfl
  | succ j ih => intro k a b; rw [zer_succ, zer_succ, ih, prod_step]
theorem prod_one : ∀ k a, k ≤ 31 → a < 4294967296 → prodV (k + 1) a (2 ^ k) = a / 2 ^ (31 - k) := by
  intro k
  induction k with
  | zero =>
    intro a _ ha
    show (if 2147483648 ≤ a then 1 else 0) ^^^ 0 = a / 2147483648
    rw [Nat.xor_zero]
    split <;> omega
  | succ k ih =>
    intro a hk ha
    have h1 : stepB (2 ^ (k + 1)) false = 2 ^ k := by rw [Nat.pow_succ, Nat.mul_comm]; exact step_two _
    have h2 := ih (2 * a % 4294967296) (by omega) (Nat.mod_lt _ (by omega))
    show (if 2147483648 ≤ a then 2 ^ (k + 1) else 0) ^^^ prodV (k + 1) (2 * a % 4294967296) (stepB (2 ^ (k + 1)) false) = a / 2 ^ (31 - (k + 1))
    rw [h1, h2]
    refine Nat.eq_of_testBit_eq fun i => ?_
    rw [Nat.testBit_xor, Nat.testBit_div_two_pow, Nat.testBit_div_two_pow, show (4294967296 : Nat) = 2 ^ 32 from rfl, Nat.testBit_mod_two_pow, Nat.mul_comm 2 a, show a * 2 = a * 2 ^ 1 from rfl, Nat.testBit_mul_two_pow]
    have ht : ∀ j, 32 ≤ j → a.testBit j = false := fun j hj => Nat.testBit_lt_two_pow (Nat.lt_of_lt_of_le ha (by
      have := Nat.pow_le_pow_right (n := 2) (by omega) hj
      omega))
    have h31 : decide (2147483648 ≤ a) = a.testBit 31 := by
      rw [testBit_bool, show (2 : Nat) ^ 31 = 2147483648 from rfl]
      by_cases h : 2147483648 ≤ a
      · rw [decide_eq_true h]
        have : a / 2147483648 = 1 := by omega
        rw [this]; rfl
      · rw [decide_eq_false h]
        have : a / 2147483648 = 0 := by omega
        rw [this]; rfl
    have hif : (if 2147483648 ≤ a then 2 ^ (k + 1) else 0).testBit i = (a.testBit 31 && decide (k + 1 = i)) := by
      rw [← h31]
      by_cases h : 2147483648 ≤ a
      · rw [if_pos h, decide_eq_true h, Nat.testBit_two_pow]; simp
      · rw [if_neg h, decide_eq_false h]; simp
    rw [hif]
    by_cases c1 : i < k + 1
    · have e1 : i + (31 - k) - 1 = i + (31 - (k + 1)) := by omega
      rw [decide_eq_false (by omega : ¬ k + 1 = i), decide_eq_true (show i + (31 - k) < 32 by omega), decide_eq_true (show 1 ≤ i + (31 - k) by omega), e1]; simp
    · by_cases c2 : i = k + 1
      · subst c2
        rw [decide_eq_true rfl, decide_eq_false (show ¬ k + 1 + (31 - k) < 32 by omega), show k + 1 + (31 - (k + 1)) = 31 by omega]; simp
      · rw [decide_eq_false (by omega : ¬ k + 1 = i), decide_eq_false (show ¬ i + (31 - k) < 32 by omega), ht _ (show 32 ≤ i + (31 - (k + 1)) by omega)]; simp
/-- A product by a power of the move is as many moves. -/
theorem times_zer (a k : Nat) (ha : a < 4294967296) : timesV a (zer k 2147483648) = zer k a := by
  have h := prod_one 31 a (by omega) ha
  unfold timesV
  rw [prod_zer, show (2147483648 : Nat) = 2 ^ 31 from rfl, h, Nat.sub_self, Nat.pow_zero, Nat.div_one]
theorem times_zers (p q : Nat) : timesV (zer p 2147483648) (zer q 2147483648) = zer (p + q) 2147483648 := by
  rw [times_zer _ _ (zer_lt (by omega)), zer_add]
theorem eight_moves : zer 8 2147483648 = 8388608 := by decide
theorem bothV_zer (a b : Nat) (n : Int) (h : bothE n = 0) (ha : a < 4294967296) : bothV a b n = timesV a (zer (8 * n.toNat) 2147483648) ^^^ b := by
  rw [times_zer a _ ha]; unfold bothV; rw [if_pos h]; rfl
end Go.Proofs.YtcbmecpeockdeaaGreatDoor
