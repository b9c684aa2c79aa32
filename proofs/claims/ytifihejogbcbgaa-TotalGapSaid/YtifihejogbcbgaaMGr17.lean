/- Cuts, grades, spans and counts, in plain words. -/
import Derived.Test.YtifihejogbcbgaaMQz16
import Derived.Test.YtifihejogbcbgaaRq16
import Derived.BigQuiet
import Derived.OwnWalk
namespace Go.Proofs.Ytifihejogbcbgaa

def Cuts (l : List Int) : Prop := l.length = 3 ∧ 0 ≤ numAt l 0 ∧ numAt l 0 ≤ numAt l 1 ∧ numAt l 1 ≤ numAt l 2 ∧ numAt l 2 ≤ 8000
instance (l : List Int) : Decidable (Cuts l) := by unfold Cuts; infer_instance
def cutsE (l : List Int) : Int := if Cuts l then 0 else 36
theorem cuts_yes {l : List Int} (h : Cuts l) : cutsE l = 0 := if_pos h
theorem cuts_no {l : List Int} (h : ¬ Cuts l) : cutsE l = 36 := if_neg h
theorem cuts_iff {l : List Int} : cutsE l = 0 ↔ Cuts l := by
  by_cases h : Cuts l
  · exact ⟨fun _ => h, fun _ => cuts_yes h⟩
  · refine ⟨fun q => ?_, fun q => absurd q h⟩
    rw [cuts_no h] at q
    cases q
/-- The grade of a score. -/
def gradeN (l : List Int) (s : Int) : Nat := if s ≤ numAt l 0 then 0 else if s ≤ numAt l 1 then 1 else if s ≤ numAt l 2 then 2 else 3
theorem grade_lt (l : List Int) (s : Int) : gradeN l s < 4 := by unfold gradeN; repeat (first | split | omega)
def Score17 (s : Int) : Prop := 0 ≤ s ∧ s ≤ 8000
instance (s : Int) : Decidable (Score17 s) := by unfold Score17; infer_instance
def ofE17 (l : List Int) (s : Int) : Int := if Cuts l then if Score17 s then 0 else 2 else 36
def ofV17 (l : List Int) (s : Int) : Int := if Cuts l ∧ Score17 s then (gradeN l s : Int) else 0
theorem of17_yes {l : List Int} {s : Int} (h : Cuts l) (h2 : Score17 s) : ofE17 l s = 0 ∧ ofV17 l s = gradeN l s := ⟨by rw [ofE17, if_pos h, if_pos h2], if_pos ⟨h, h2⟩⟩
theorem of17_out {l : List Int} {s : Int} (h : Cuts l) (h2 : ¬ Score17 s) : ofE17 l s = 2 ∧ ofV17 l s = 0 := ⟨by rw [ofE17, if_pos h, if_neg h2], if_neg fun q => h2 q.2⟩
theorem of17_no {l : List Int} {s : Int} (h : ¬ Cuts l) : ofE17 l s = 36 ∧ ofV17 l s = 0 := ⟨if_neg h, if_neg fun q => h q.1⟩
theorem of17_zero {l : List Int} {s : Int} (h : ofE17 l s = 0) : Cuts l ∧ Score17 s := by
  by_cases q : Cuts l
  · by_cases q2 : Score17 s
    · exact ⟨q, q2⟩
    · rw [(of17_out q q2).1] at h; cases h
  · rw [(of17_no q).1] at h; cases h
/-- The least and the greatest score that may have a grade. -/
def lowG (l : List Int) (g : Int) : Int := if g = 0 then 0 else numAt l (g - 1).toNat + 1
def topG (l : List Int) (g : Int) : Int := if g = 3 then 8000 else numAt l g.toNat
def Grade17 (g : Int) : Prop := 0 ≤ g ∧ g ≤ 3
instance (g : Int) : Decidable (Grade17 g) := by unfold Grade17; infer_instance
def spanE (l : List Int) (g : Int) : Int := if Cuts l then if Grade17 g then 0 else 2 else 36
def spanLo (l : List Int) (g : Int) : Int := if Cuts l ∧ Grade17 g then if lowG l g ≤ topG l g then lowG l g else 1 else 0
def spanHi (l : List Int) (g : Int) : Int := if Cuts l ∧ Grade17 g then if lowG l g ≤ topG l g then topG l g else 0 else 0
theorem span_yes {l : List Int} {g : Int} (h : Cuts l) (h2 : Grade17 g) : spanE l g = 0 ∧ spanLo l g = (if lowG l g ≤ topG l g then lowG l g else 1) ∧ spanHi l g = (if lowG l g ≤ topG l g then topG l g else 0) := ⟨by rw [spanE, if_pos h, if_pos h2], if_pos ⟨h, h2⟩, if_pos ⟨h, h2⟩⟩
theorem span_out {l : List Int} {g : Int} (h : Cuts l) (h2 : ¬ Grade17 g) : spanE l g = 2 ∧ spanLo l g = 0 ∧ spanHi l g = 0 := ⟨by rw [spanE, if_pos h, if_neg h2], if_neg fun q => h2 q.2, if_neg fun q => h2 q.2⟩
theorem span_no {l : List Int} {g : Int} (h : ¬ Cuts l) : spanE l g = 36 ∧ spanLo l g = 0 ∧ spanHi l g = 0 := ⟨if_neg h, if_neg fun q => h q.1, if_neg fun q => h q.1⟩
theorem four_g {g : Int} (h : Grade17 g) : g = 0 ∨ g = 1 ∨ g = 2 ∨ g = 3 := by unfold Grade17 at h; omega
theorem low_top (l : List Int) : (lowG l 0 = 0 ∧ topG l 0 = numAt l 0) ∧ (lowG l 1 = numAt l 0 + 1 ∧ topG l 1 = numAt l 1) ∧ (lowG l 2 = numAt l 1 + 1 ∧ topG l 2 = numAt l 2) ∧ (lowG l 3 = numAt l 2 + 1 ∧ topG l 3 = 8000) := ⟨⟨rfl, rfl⟩, ⟨rfl, rfl⟩, ⟨rfl, rfl⟩, ⟨rfl, rfl⟩⟩
/-- A score has a grade just if it lies between. -/
theorem grade_iff {l : List Int} {g s : Int} (h : Cuts l) (hg : Grade17 g) (hs : Score17 s) : (gradeN l s : Int) = g ↔ lowG l g ≤ s ∧ s ≤ topG l g := by
  obtain ⟨_, h1, h2, h3, h4⟩ := h
  obtain ⟨l0, l1, l2, l3⟩ := low_top l
  obtain ⟨s0, s1⟩ := hs
  rcases four_g hg with rfl | rfl | rfl | rfl
  · rw [l0.1, l0.2]; unfold gradeN; repeat (first | split | omega)
  · rw [l1.1, l1.2]; unfold gradeN; repeat (first | split | omega)
  · rw [l2.1, l2.2]; unfold gradeN; repeat (first | split | omega)
  · rw [l3.1, l3.2]; unfold gradeN; repeat (first | split | omega)
theorem low_top_in {l : List Int} {g : Int} (h : Cuts l) (hg : Grade17 g) : 0 ≤ lowG l g ∧ topG l g ≤ 8000 ∧ lowG l g ≤ 8001 := by
  obtain ⟨_, h1, h2, h3, h4⟩ := h
  obtain ⟨l0, l1, l2, l3⟩ := low_top l
  rcases four_g hg with rfl | rfl | rfl | rfl
  · rw [l0.1, l0.2]; omega
  · rw [l1.1, l1.2]; omega
  · rw [l2.1, l2.2]; omega
  · rw [l3.1, l3.2]; omega
/-- The score lies in the span of its grade alone. -/
theorem in_span {l : List Int} {g s : Int} (h : Cuts l) (hg : Grade17 g) (hs : Score17 s) : (spanLo l g ≤ s ∧ s ≤ spanHi l g) ↔ g = gradeN l s := by
  have h1 := grade_iff h hg hs
  rw [(span_yes h hg).2.1, (span_yes h hg).2.2]
  by_cases q : lowG l g ≤ topG l g
  · rw [if_pos q, if_pos q, ← h1]
    exact ⟨fun z => z.symm, fun z => z.symm⟩
  · rw [if_neg q, if_neg q]
    constructor
    · intro z; omega
    · intro z; have := h1.1 z.symm; omega

/-- What the document's Span has found behind k scores. -/
def loTo (l : List Int) (g : Int) (k : Nat) : Int := if lowG l g < k ∧ lowG l g ≤ topG l g then lowG l g else 1
def hiTo (l : List Int) (g : Int) (k : Nat) : Int := if lowG l g < k ∧ lowG l g ≤ topG l g then min (topG l g) ((k : Int) - 1) else 0
theorem span_start (l : List Int) (g : Int) {h : Cuts l} (hg : Grade17 g) : loTo l g 0 = 1 ∧ hiTo l g 0 = 0 := by
  have := low_top_in h hg
  unfold loTo hiTo
  rw [if_neg (by omega), if_neg (by omega)]
  exact ⟨rfl, rfl⟩
theorem span_step {l : List Int} {g : Int} (h : Cuts l) (hg : Grade17 g) {k : Nat} (hk : k ≤ 8000) :
    loTo l g (k + 1) = (if (gradeN l k : Int) = g then if hiTo l g k < loTo l g k then (k : Int) else loTo l g k else loTo l g k) ∧ hiTo l g (k + 1) = (if (gradeN l k : Int) = g then (k : Int) else hiTo l g k) := by
  have h1 := grade_iff (s := (k : Int)) h hg ⟨by omega, by omega⟩
  have h2 := low_top_in h hg
  unfold loTo hiTo
  constructor
  · repeat (first | split | omega)
  · repeat (first | split | omega)
theorem span_done {l : List Int} {g : Int} (h : Cuts l) (hg : Grade17 g) : loTo l g 8001 = spanLo l g ∧ hiTo l g 8001 = spanHi l g := by
  have h2 := low_top_in h hg
  rw [(span_yes h hg).2.1, (span_yes h hg).2.2]
  unfold loTo hiTo
  constructor
  · repeat (first | split | omega)
  · repeat (first | split | omega)
theorem to_small {l : List Int} {g : Int} (h : Cuts l) (hg : Grade17 g) {k : Nat} (hk : k ≤ 8001) : 0 ≤ loTo l g k ∧ loTo l g k ≤ 8001 ∧ 0 ≤ hiTo l g k ∧ hiTo l g k ≤ 8000 := by
  have h2 := low_top_in h hg
  unfold loTo hiTo
  repeat (first | split | omega)

/-- How many of the first k answers have a grade. -/
def cntTo (asks l : List Int) (g : Nat) : Nat → Nat
  | 0 => 0
  | k + 1 => cntTo asks l g k + if gradeN l (scoreV asks (k : Int)) = g then 1 else 0
def cntE (asks l : List Int) : Int := if Asks asks ∧ Cuts l then 0 else 36
def cntV (asks l : List Int) (g : Nat) : Int := if Asks asks ∧ Cuts l then (cntTo asks l g (2 ^ asks.length) : Int) else 0
theorem cnt_yes {asks l : List Int} (h : Asks asks) (h2 : Cuts l) : cntE asks l = 0 ∧ ∀ g, cntV asks l g = cntTo asks l g (2 ^ asks.length) := ⟨if_pos ⟨h, h2⟩, fun _ => if_pos ⟨h, h2⟩⟩
theorem cnt_no {asks l : List Int} (h : ¬ (Asks asks ∧ Cuts l)) : cntE asks l = 36 ∧ ∀ g, cntV asks l g = 0 := ⟨if_neg h, fun _ => if_neg h⟩
theorem cnt_zero {asks l : List Int} (h : cntE asks l = 0) : Asks asks ∧ Cuts l := by
  by_cases q : Asks asks ∧ Cuts l
  · exact q
  · rw [(cnt_no q).1] at h; cases h
theorem cnt_sum (asks l : List Int) (k : Nat) : cntTo asks l 0 k + cntTo asks l 1 k + cntTo asks l 2 k + cntTo asks l 3 k = k := by
  induction k with
  | zero => rfl
  | succ k ih =>
    have := grade_lt l (scoreV asks (k : Int))
    simp only [cntTo]
    rcases (by omega : gradeN l (scoreV asks (k : Int)) = 0 ∨ gradeN l (scoreV asks (k : Int)) = 1 ∨ gradeN l (scoreV asks (k : Int)) = 2 ∨ gradeN l (scoreV asks (k : Int)) = 3) with q | q | q | q <;> rw [q] <;> simp <;> omega
theorem cnt_le (asks l : List Int) (g k : Nat) : cntTo asks l g k ≤ k := by
  induction k with
  | zero => exact Nat.le_refl _
  | succ k ih => simp only [cntTo]; split <;> omega
/-- A greater score has no better grade; greater cuts make no worse one. -/
theorem grade_mono (l : List Int) {s t : Int} (h : s ≤ t) : gradeN l s ≤ gradeN l t ∨ ¬ Cuts l := by
  by_cases q : Cuts l
  · left
    obtain ⟨_, h1, h2, h3, h4⟩ := q
    unfold gradeN
    repeat (first | split | omega)
  · exact Or.inr q
theorem grade_cuts {l m : List Int} (s : Int) (h0 : numAt l 0 ≤ numAt m 0) (h1 : numAt l 1 ≤ numAt m 1) (h2 : numAt l 2 ≤ numAt m 2) : gradeN m s ≤ gradeN l s := by
  unfold gradeN
  repeat (first | split | omega)
theorem score_in {asks : List Int} (h : Asks asks) (a : Int) : 0 ≤ scoreV asks a ∧ scoreV asks a ≤ 8000 := by
  unfold scoreV failV
  split
  · have h2 := sum_bounds asks a h.2.2 asks.length (Nat.le_refl _)
    have h3 := h.2.1
    omega
  · exact ⟨Int.le_refl _, show (0 : Int) ≤ 8000 by omega⟩
end Go.Proofs.Ytifihejogbcbgaa
namespace Go.Proofs.Ytifihejogbcbgaa
open Go.RowKit

/-- Three cells of a slice. -/
theorem three_at17 {B : Nat} {w : World} {a : Option Addr} {xs : List Int} (h : Ints B w a xs) (hl : xs.length = 3) : ∃ b off x y z, a = some ⟨b, off, none⟩ ∧ b < B ∧ xs = [x, y, z] ∧ w.cell? ⟨b, off, none⟩ = some (.int .i64 x) ∧ w.cell? ⟨b, off + 1, none⟩ = some (.int .i64 y) ∧ w.cell? ⟨b, off + 2, none⟩ = some (.int .i64 z) := by
  match xs, hl with
  | [x, y, z], _ =>
    rcases h with h | ⟨b, off, rfl, hB, hc⟩
    · cases h
    · exact ⟨b, off, x, y, z, rfl, hB, rfl, hc 0 (by simp), hc 1 (by simp), hc 2 (by simp)⟩
theorem cuts_three {x y z : Int} : Cuts [x, y, z] ↔ 0 ≤ x ∧ x ≤ y ∧ y ≤ z ∧ z ≤ 8000 := ⟨fun h => h.2, fun h => ⟨rfl, h⟩⟩
set_option maxHeartbeats 2000000 in
theorem rcheck17_any (a : Option Addr) (cap : Nat) (xs : List Int) (B : Nat) (w : World) (hx : Ints B w a xs) (hn : xs.length ≤ 1000000) :
    Calls Try.prog 35 #[.slice a xs.length cap] w fun e w' => e = .returned (.int .i64 (cutsE xs)) ∧ ∃ m, w' = w.drewN m := by
  by_cases h3 : xs.length ≠ 3
  · have d0 : ((xs.length : Int) != 3) = true := by rw [bne_iff_ne]; omega
    have HE : Hid (cutsE xs = 36) := Lib.hid (cuts_no fun q => h3 q.1)
    clear h3 hx
    go_enter Try.func35, Try.ntmps35
    go_upto_region 1 with fail
    go_quiet (fail)
    go_wp2
    go_ret
    exact ⟨by rw [HE.out]; rfl, _, rfl⟩
  obtain ⟨b, off, x, y, z, rfl, hB, rfl, c0, c1, c2⟩ := three_at17 hx (Decidable.not_not.1 h3)
  clear hx h3 hn hB
  show Calls Try.prog 35 #[.slice (some ⟨b, off, none⟩) 3 cap] w _
  have i0 : (0 : Int) < 3 := by omega
  have i1 : (1 : Int) < 3 := by omega
  have i2 : (2 : Int) < 3 := by omega
  by_cases q1 : x < 0
  · have d1 : decide (x < 0) = true := decide_eq_true q1
    have HE : Hid (cutsE [x, y, z] = 36) := Lib.hid (cuts_no fun q => by have := cuts_three.1 q; omega)
    clear q1
    go_enter Try.func35, Try.ntmps35
    go_upto_region 1 with fail
    go_quiet (fail)
    go_wp2
    go_ret
    exact ⟨by rw [HE.out]; rfl, _, rfl⟩
  have d1 : decide (x < 0) = false := decide_eq_false q1
  by_cases q2 : y < x
  · have d2 : decide (y < x) = true := decide_eq_true q2
    have HE : Hid (cutsE [x, y, z] = 36) := Lib.hid (cuts_no fun q => by have := cuts_three.1 q; omega)
    clear q1 q2
    go_enter Try.func35, Try.ntmps35
    go_upto_region 1 with fail
    go_quiet (fail)
    go_wp2
    go_ret
    exact ⟨by rw [HE.out]; rfl, _, rfl⟩
  have d2 : decide (y < x) = false := decide_eq_false q2
  by_cases q3 : z < y
  · have d3 : decide (z < y) = true := decide_eq_true q3
    have HE : Hid (cutsE [x, y, z] = 36) := Lib.hid (cuts_no fun q => by have := cuts_three.1 q; omega)
    clear q1 q2 q3
    go_enter Try.func35, Try.ntmps35
    go_upto_region 1 with fail
    go_quiet (fail)
    go_wp2
    go_ret
    exact ⟨by rw [HE.out]; rfl, _, rfl⟩
  have d3 : decide (z < y) = false := decide_eq_false q3
  by_cases q4 : 8000 < z
  · have d4 : decide (8000 < z) = true := decide_eq_true q4
    have HE : Hid (cutsE [x, y, z] = 36) := Lib.hid (cuts_no fun q => by have := cuts_three.1 q; omega)
    clear q1 q2 q3 q4
    go_enter Try.func35, Try.ntmps35
    go_upto_region 1 with fail
    go_quiet (fail)
    go_wp2
    go_ret
    exact ⟨by rw [HE.out]; rfl, _, rfl⟩
  have d4 : decide (8000 < z) = false := decide_eq_false q4
  have HE : Hid (cutsE [x, y, z] = 0) := Lib.hid (cuts_yes (cuts_three.2 (by omega)))
  clear q1 q2 q3 q4
  go_enter Try.func35, Try.ntmps35
  go_upto_region 1 with fail
  go_quiet (fail)
  go_wp2
  go_ret
  exact ⟨by rw [HE.out]; rfl, _, rfl⟩
theorem rcheck17_on (a : Option Addr) (cap : Nat) (xs : List Int) (w : World) (hx : Ints w.heap.size w a xs) (hn : xs.length ≤ 1000000) (m : Nat) :
    Calls Try.prog 35 #[.slice a xs.length cap] (w.drewN m) fun e w' => e = .returned (.int .i64 (cutsE xs)) ∧ ∃ m', w' = w.drewN m' := by
  refine (rcheck17_any a cap xs _ (w.drewN m) (hx.below (drawn_below (Below.refl _ _) m)) hn).mono ?_
  rintro e w' ⟨rfl, m', rfl⟩
  exact ⟨rfl, m + m', drew_more16 _ _ _⟩
theorem grade_at {l : List Int} {s : Int} {k : Nat} (hk : k < 3) (hp : ∀ j, j < k → numAt l j < s) (h : s ≤ numAt l k) : gradeN l s = k := by
  unfold gradeN
  rcases (by omega : k = 0 ∨ k = 1 ∨ k = 2) with rfl | rfl | rfl
  · rw [if_pos h]
  · have h0 := hp 0 (by omega)
    rw [if_neg (by omega), if_pos h]
  · have h0 := hp 0 (by omega)
    have h1 := hp 1 (by omega)
    rw [if_neg (by omega), if_neg (by omega), if_pos h]
theorem grade_top {l : List Int} {s : Int} (hp : ∀ j, j < 3 → numAt l j < s) : gradeN l s = 3 := by
  have h0 := hp 0 (by omega)
  have h1 := hp 1 (by omega)
  have h2 := hp 2 (by omega)
  unfold gradeN
  rw [if_neg (by omega), if_neg (by omega), if_neg (by omega)]
end Go.Proofs.Ytifihejogbcbgaa
