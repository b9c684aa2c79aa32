/- Items, times, windows and warranties, in plain words. -/
import Derived.Test.YtcllgpblebkpdaaInts
namespace Go.Proofs.Ytcllgpblebkpdaa

structure Item20 where
  id : Int
  ven : Int
  win : Int
  war : Int
def TimeOk (t : Int) : Prop := 0 ≤ t ∧ t ≤ 1000000
instance (t : Int) : Decidable (TimeOk t) := by unfold TimeOk; infer_instance
def timeB (t : Int) : Bool := decide (TimeOk t)
def ItemOk (i : Item20) : Prop := 1 ≤ i.id ∧ i.id ≤ 999999 ∧ 1 ≤ i.ven ∧ i.ven ≤ 999999 ∧ TimeOk i.win ∧ TimeOk i.war
instance (i : Item20) : Decidable (ItemOk i) := by unfold ItemOk; infer_instance
def itemE (i : Item20) : Int := if ItemOk i then 0 else 2
theorem item_yes {i : Item20} (h : ItemOk i) : itemE i = 0 := if_pos h
theorem item_no {i : Item20} (h : ¬ ItemOk i) : itemE i = 2 := if_neg h
def May (i : Item20) (at_ now : Int) : Prop := ItemOk i ∧ TimeOk at_ ∧ TimeOk now ∧ at_ ≤ now
instance (i : Item20) (a n : Int) : Decidable (May i a n) := by unfold May; infer_instance
def mayB (i : Item20) (a n : Int) : Bool := decide (May i a n)
def openB (i : Item20) (a n : Int) : Bool := decide (May i a n ∧ n ≤ a + i.win)
def covB (i : Item20) (a n : Int) : Bool := decide (May i a n ∧ n ≤ a + i.war)
def topN (t : Int) : Int := if 1000000 < t then 1000000 else t
def UntOk (i : Item20) (a : Int) : Prop := ItemOk i ∧ TimeOk a
instance (i : Item20) (a : Int) : Decidable (UntOk i a) := by unfold UntOk; infer_instance
def untE (i : Item20) (a : Int) : Int := if UntOk i a then 0 else 2
def untA (i : Item20) (a : Int) : Int := if UntOk i a then topN (a + i.win) else 0
def untB (i : Item20) (a : Int) : Int := if UntOk i a then topN (a + i.war) else 0
theorem unt_yes {i : Item20} {a : Int} (h : UntOk i a) : untE i a = 0 ∧ untA i a = topN (a + i.win) ∧ untB i a = topN (a + i.war) := ⟨if_pos h, if_pos h, if_pos h⟩
theorem unt_no {i : Item20} {a : Int} (h : ¬ UntOk i a) : untE i a = 2 ∧ untA i a = 0 ∧ untB i a = 0 := ⟨if_neg h, if_neg h, if_neg h⟩
def passE (n d : Int) : Int := if TimeOk n ∧ TimeOk d then if 1000000 < n + d then 39 else 0 else 2
def passV (n d : Int) : Int := if TimeOk n ∧ TimeOk d ∧ n + d ≤ 1000000 then n + d else 0
/-- What is open at a time was open at each time between. -/
theorem open_between {i : Item20} {a s t : Int} (h : openB i a t = true) (h1 : a ≤ s) (h2 : s ≤ t) : openB i a s = true := by
  obtain ⟨⟨q1, q2, q3, q4⟩, q5⟩ := of_decide_eq_true h
  have q6 := q2.1
  have q7 := q3.2
  exact decide_eq_true ⟨⟨q1, q2, ⟨by omega, by omega⟩, h1⟩, by omega⟩
/-- A longer window. -/
theorem open_longer {i : Item20} {a t x : Int} (h : openB i a t = true) (h1 : i.win ≤ x) (h2 : x ≤ 1000000) : openB ⟨i.id, i.ven, x, i.war⟩ a t = true := by
  obtain ⟨⟨⟨q1, q2, q3, q4, q5, q6⟩, q7, q8, q9⟩, q10⟩ := of_decide_eq_true h
  have q11 := q5.1
  exact decide_eq_true ⟨⟨⟨q1, q2, q3, q4, ⟨by show 0 ≤ x; omega, h2⟩, q6⟩, q7, q8, q9⟩, by show t ≤ a + x; omega⟩
theorem open_no {i : Item20} {a n : Int} (h : ¬ UntOk i a) : openB i a n = false ∧ covB i a n = false := by
  constructor
  · exact decide_eq_false fun q => h ⟨q.1.1, q.1.2.1⟩
  · exact decide_eq_false fun q => h ⟨q.1.1, q.1.2.1⟩
theorem open_out {i : Item20} {a n : Int} (h : n < a ∨ 1000000 < n) : openB i a n = false ∧ covB i a n = false := by
  constructor
  · refine decide_eq_false fun q => ?_
    unfold May TimeOk at q
    omega
  · refine decide_eq_false fun q => ?_
    unfold May TimeOk at q
    omega
/-- Up to the time that is told. -/
theorem until_is {i : Item20} {a n : Int} (h : UntOk i a) (h1 : a ≤ n) (h2 : n ≤ 1000000) : openB i a n = decide (n ≤ untA i a) ∧ covB i a n = decide (n ≤ untB i a) ∧ a ≤ untA i a ∧ a ≤ untB i a := by
  rw [(unt_yes h).2.1, (unt_yes h).2.2]
  have hh := h
  unfold UntOk ItemOk TimeOk at hh
  have e : May i a n := ⟨h.1, h.2, ⟨by omega, h2⟩, h1⟩
  refine ⟨?_, ?_, ?_, ?_⟩
  · unfold openB topN
    rw [Bool.eq_iff_iff, decide_eq_true_iff, decide_eq_true_iff]
    constructor
    · intro q; split <;> omega
    · intro q; refine ⟨e, ?_⟩; split at q <;> omega
  · unfold covB topN
    rw [Bool.eq_iff_iff, decide_eq_true_iff, decide_eq_true_iff]
    constructor
    · intro q; split <;> omega
    · intro q; refine ⟨e, ?_⟩; split at q <;> omega
  · unfold topN; split <;> omega
  · unfold topN; split <;> omega
end Go.Proofs.Ytcllgpblebkpdaa
