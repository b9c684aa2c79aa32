/- A reader of pieces in plain words: the place, the fault, and what each piece tells. -/
import Derived.Test.YtkflpkcggjpbfaaFlat
import Derived.Test.YtkflpkcggjpbfaaScan
namespace Go.Proofs.Ytkflpkcggjpbfaa

/-- A place, and a fault (0: none). -/
structure Rs where
  p : Int
  e : Int
/-- A reader behind a piece, or with its fault. -/
def stp (r : Rs) (t e : Int) : Rs := if e = 0 then ⟨t, r.e⟩ else ⟨r.p, e⟩
def numE (S : List UInt8) (p x m : Int) : Int := if getE S p x = 0 then (if m < getV S p x then 3 else 0) else getE S p x
def numR (S : List UInt8) (r : Rs) (x m : Int) : Rs := if r.e = 0 then stp r (getT S r.p x) (numE S r.p x m) else r
def numV (S : List UInt8) (r : Rs) (x m : Int) : Int := if r.e = 0 then (if numE S r.p x m = 0 then getV S r.p x else 0) else 0
def textR (S : List UInt8) (r : Rs) (m : Int) : Rs := if r.e = 0 then stp r (takeT S r.p m) (takeE S r.p m) else r
def textL (S : List UInt8) (r : Rs) (m : Int) : List UInt8 := if r.e = 0 then takeL S r.p m else []
def serE (S : List UInt8) (p : Int) : Int := if takeE S p 16 = 0 then checkOf (takeL S p 16) else takeE S p 16
def serR (S : List UInt8) (r : Rs) : Rs := if r.e = 0 then stp r (takeT S r.p 16) (serE S r.p) else r
def serL (S : List UInt8) (r : Rs) : List UInt8 := if r.e = 0 then (if serE S r.p = 0 then takeL S r.p 16 else []) else []
def rowR (S : List UInt8) (r : Rs) (x m : Int) : Rs := if r.e = 0 then stp r (unrowT S r.p x m) (unrowE S r.p x m) else r
def rowV (S : List UInt8) (r : Rs) (x m : Int) : List Int := if r.e = 0 then unrowL S r.p x m else []
def flagE (S : List UInt8) (p : Int) : Int := if getE S p 1 = 0 then (if 1 < getV S p 1 then 5 else 0) else getE S p 1
def flagR (S : List UInt8) (r : Rs) : Rs := if r.e = 0 then stp r (getT S r.p 1) (flagE S r.p) else r
def flagB (S : List UInt8) (r : Rs) : Bool := if r.e = 0 then (if flagE S r.p = 0 then decide (getV S r.p 1 = 1) else false) else false
def endR (S : List UInt8) (r : Rs) : Rs := if r.e = 0 ∧ r.p < S.length then ⟨r.p, 6⟩ else r
/-- At most n serials, up to the first fault, behind those that were read. -/
def sersOn (S : List UInt8) : Nat → Rs → List (List UInt8) → Rs × List (List UInt8)
  | 0, r, l => (r, l)
  | n + 1, r, l => if r.e = 0 then sersOn S n (serR S r) (l ++ [serL S r]) else (r, l)
def sersAll (S : List UInt8) (r : Rs) (m : Int) : Rs × List (List UInt8) := sersOn S (numV S r 1 m).toNat (numR S r 1 m) []
def sersR (S : List UInt8) (r : Rs) (m : Int) : Rs := (sersAll S r m).1
def sersL (S : List UInt8) (r : Rs) (m : Int) : List (List UInt8) := if (sersR S r m).e = 0 then (sersAll S r m).2 else []
/-- The place lies within the text. -/
def Within (S : List UInt8) (r : Rs) : Prop := 0 ≤ r.p ∧ r.p ≤ S.length
theorem stp_in {S : List UInt8} {r : Rs} {t e : Int} (h : Within S r) (ht : e = 0 → 0 ≤ t ∧ t ≤ S.length) : Within S (stp r t e) := by
  unfold stp
  split
  · rename_i h0; exact ht h0
  · exact h
theorem get_in {S : List UInt8} {p w : Int} (h : getE S p w = 0) : 0 ≤ getT S p w ∧ getT S p w ≤ S.length := by
  obtain ⟨h1, h2, h3, _⟩ := get_fine h
  obtain ⟨w1, _, _⟩ := wide_nat h1
  unfold getT; rw [if_pos h]; omega
theorem num_zero {S : List UInt8} {p x m : Int} (h : numE S p x m = 0) : getE S p x = 0 ∧ getV S p x ≤ m := by
  unfold numE at h
  split at h
  · split at h
    · omega
    · exact ⟨by assumption, by omega⟩
  · exact absurd h (by assumption)
theorem flag_zero {S : List UInt8} {p : Int} (h : flagE S p = 0) : getE S p 1 = 0 ∧ getV S p 1 ≤ 1 := by
  unfold flagE at h
  split at h
  · split at h
    · omega
    · exact ⟨by assumption, by omega⟩
  · exact absurd h (by assumption)
theorem ser_zero {S : List UInt8} {p : Int} (h : serE S p = 0) : takeE S p 16 = 0 ∧ checkOf (takeL S p 16) = 0 := by
  unfold serE at h
  split at h
  · exact ⟨by assumption, h⟩
  · exact absurd h (by assumption)
theorem num_in {S : List UInt8} {r : Rs} {x m : Int} (h : Within S r) : Within S (numR S r x m) := by
  unfold numR; split
  · exact stp_in h fun e => get_in (num_zero e).1
  · exact h
theorem text_in {S : List UInt8} {r : Rs} {m : Int} (h : Within S r) : Within S (textR S r m) := by
  unfold textR; split
  · exact stp_in h fun e => by obtain ⟨_, _, h1, h2, _⟩ := take_canon e; have := h.1; omega
  · exact h
theorem ser_in {S : List UInt8} {r : Rs} (h : Within S r) : Within S (serR S r) := by
  unfold serR; split
  · exact stp_in h fun e => by obtain ⟨_, _, h1, h2, _⟩ := take_canon (ser_zero e).1; have := h.1; omega
  · exact h
theorem row_in {S : List UInt8} {r : Rs} {x m : Int} (h : Within S r) : Within S (rowR S r x m) := by
  unfold rowR; split
  · exact stp_in h fun e => by obtain ⟨_, _, h1, h2, _⟩ := unrow_canon e; have := h.1; omega
  · exact h
theorem flag_in {S : List UInt8} {r : Rs} (h : Within S r) : Within S (flagR S r) := by
  unfold flagR; split
  · exact stp_in h fun e => get_in (flag_zero e).1
  · exact h
theorem end_in {S : List UInt8} {r : Rs} (h : Within S r) : Within S (endR S r) := by
  unfold endR; split
  · exact h
  · exact h
theorem sers_on_in {S : List UInt8} (n : Nat) : ∀ (r : Rs) (l : List (List UInt8)), Within S r → Within S (sersOn S n r l).1 := by
  induction n with
  | zero => intro r l h; exact h
  | succ n ih =>
    intro r l h
    unfold sersOn
    split
    · exact ih _ _ (ser_in h)
    · exact h
theorem sers_in {S : List UInt8} {r : Rs} {m : Int} (h : Within S r) : Within S (sersR S r m) := sers_on_in _ _ _ (num_in h)
theorem sers_stop {S : List UInt8} {n : Nat} {r : Rs} {l : List (List UInt8)} (h : r.e ≠ 0) : sersOn S n r l = (r, l) := by
  cases n with
  | zero => rfl
  | succ n => unfold sersOn; rw [if_neg h]
theorem sers_go {S : List UInt8} {n : Nat} {r : Rs} {l : List (List UInt8)} (h : r.e = 0) : sersOn S (n + 1) r l = sersOn S n (serR S r) (l ++ [serL S r]) := by
  conv => lhs; unfold sersOn
  rw [if_pos h]
theorem byte_lt {S : List UInt8} {r : Rs} {m : Int} : 0 ≤ numV S r 1 m ∧ numV S r 1 m ≤ 255 := by
  unfold numV
  split
  · split
    · obtain ⟨h1, _, h2, _⟩ := get_bound (num_zero (by assumption)).1
      refine ⟨h1, ?_⟩
      have : (256 : Int) ^ (1 : Int).toNat = 256 := by decide
      omega
    · omega
  · omega
end Go.Proofs.Ytkflpkcggjpbfaa
